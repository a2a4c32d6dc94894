/-
  A part of the texts that the proof uses.
-/
import Derived.Test.YtedgnlgjmnccgabGreatDoorPartI
import Derived.Test.YtedgnlgjmnccgabGreatDoorPartH
set_option maxRecDepth 100000
set_option maxHeartbeats 40000000
set_option linter.unusedVariables false
namespace Go.Proofs.YtedgnlgjmnccgabGreatDoor
section
open Go.RowKit Go.Maps
attribute [local go_sem] Oper.semAt_some Ja2 JaV
variable {lo b β : Nat}{who u c i : Int}{S : Cl}{VM v vm : Value}{x : List Pt}{w : World}
structure ZT (lo b β:Nat) (who u c i:Int) (S:Cl) (VM v:Value) (x:List Pt) (wx:World):Prop where
 low:lo<=b
 blk:wx.heap[b]?=some (.cells (JaO who u S VM) 203 (0,0))
 mine:Jc9 lo wx VM S.mine
 box:wx.heap[β]?=some (.cells #[.int .i64 c,.int .i64 i,v] 105 (0,0))
 tabs:Lib.Utf8Tabs 2 3 wx
 op:opX lo wx v x
theorem ZT.grow{w':World}(h:ZT lo b β who u c i S VM v x w)(hb:Below w.heap.size w w'):ZT lo b β who u c i S VM v x w' :=
 ⟨h.low,(hb.block b (alt h.blk)).trans h.blk,JbE h.mine hb,(hb.block β (alt h.box)).trans h.box,Go.Proofs.Utf8Tabs_below h.tabs hb,Ja5 h.op hb⟩
theorem ZT.cl(h:ZT lo b β who u c i S VM v x w):isCl lo w b who u S:=⟨h.low,VM,h.blk,h.mine⟩
theorem Jec(hlo:lo<=b)(h3:w.heap[b]?=some (.cells (JaO who u S vm) 203 (0,0)))(h4:Jc9 lo w vm S.mine)(hT:Lib.Utf8Tabs 2 3 w)(hx:opX lo w v x) :
    ZT lo b w.heap.size who u c i S vm v x (w.alloc (.cells #[.int .i64 c,.int .i64 i,v] 105)):=by
 have hb:Below w.heap.size w (w.alloc (.cells #[.int .i64 c,.int .i64 i,v] 105)):=(brf _ _).alloc (nlr _) _;exact⟨hlo,(hb.block b (alt h3)).trans h3,JbE h4 hb,heap_alloc_new _ _,Go.Proofs.Utf8Tabs_below hT hb,Ja5 hx hb⟩
theorem JmZ(h:isCl lo w b who u S)(t:List UInt8)(r:Int) :
    isCl lo ((w.setCell ⟨b,3,none⟩ (.string ⟨t.toArray⟩)).setCell ⟨b,2,none⟩ (.int .i64 r)) b who u { S with seen:=t,rev:=r }/\keptC w ((w.setCell ⟨b,3,none⟩ (.string ⟨t.toArray⟩)).setCell ⟨b,2,none⟩ (.int .i64 r)) b:=by
 obtain⟨hlo,vm,h3,h4⟩:=h;have b1:=heap_setCell_same w b 3 _ _ (.string ⟨t.toArray⟩) h3;have b2:=heap_setCell_same _ b 2 _ _ (.int .i64 r) b1;have hs:sameBut w ((w.setCell ⟨b,3,none⟩ (.string ⟨t.toArray⟩)).setCell ⟨b,2,none⟩ (.int .i64 r)) (fun k=>k=b):=(Jau (S:=fun k=>k=b) rfl).trans (Jau (S:=fun k=>k=b) rfl);refine JdO hlo h3 b2 (JcQ h4 hs (fun k _ hk=>by obtain rfl:=hk;exact⟨hlo,JaA h3 (by decide)⟩) fun k hk e=>?_) (hs.mono fun k _ e=>.inl e) fun k hk=>.inl hk
 obtain⟨_,_,cs,hc⟩:=JbN h4 hk;subst e;have:=JaG h3 hc;revert this;decide
theorem JnR(h:isCl lo w b who u S)(hm:S.mine≠[])(htw:S.mine.length<=2)(hid:0<=S.id/\S.id<=1000000) :
    Calls Tryz.prog 123 #[.pointer (some ⟨b,0,none⟩)] w fun e w'=>e=.returned (.tuple #[])/\isCl lo w' b who u { S with mine:=S.mine.tail,id:=if S.mine.tail≠[] then S.id+1 else S.id }/\keptC w w' b:=by
 rcases hm':S.mine with _|⟨m1,_|⟨m2,_|⟨m3,ms⟩⟩⟩
 . exact absurd hm' hm
 . have:=clLand1 h hm'
   rw[List.tail_cons,if_neg (by simp)];exact this
 . rw[List.tail_cons,if_pos (by simp)]
   exact clLand2 h hm' hid
 . rw[hm']at htw;simp at htw
theorem JnL(h:isCl lo w b who u S)(hu:Ja3 u)(rev c i:Int)(v:Value)(x:List Pt)(hx:opX lo w v x)(hT:Lib.Utf8Tabs 2 3 w)(hr:rev≠S.rev) :
    Calls Tryz.prog 49 #[.pointer (some ⟨b,0,none⟩),.int .i64 rev,.agg #[.int .i64 c,.int .i64 i,v]] w fun e w'=>e=.returned .nilIface/\Below w.heap.size w w':=by
 have hu0:(u==0)=false:=by rcases hu with rfl|rfl|rfl<;>rfl
 obtain⟨hlo,VM,h3,h4⟩:=h;obtain⟨pv,cv,rfl⟩:=JaH hx;generalize hxn:x.length=xn at *;have H0:Hid _:=Jec (c:=c) (i:=i) hlo h3 h4 hT hx;have CU:Hid (∀wx,ZT lo b w.heap.size who u c i S VM (.slice pv xn cv) x wx->Calls Tryz.prog 57 #[.pointer (some ⟨b,0,none⟩)] wx fun e w'=>e=.returned (.int .i64 u)/\Below wx.heap.size wx w'):=fun wx hz=>JbY hz.cl
 have hr1:(rev==S.rev)=false:=beq_eq_false_iff_ne.2 hr;have hr2:¬rev=S.rev:=hr;clear h3 h4 hx hT hu hlo hr hxn
 . skip
   go_enter Tryz.func49,Tryz.ntmps49
   go_wp2_with (first
    | (go_at_call 57;refine(CU.out _ H0.out).mono ?_;rintro e w1 ⟨rfl,hb1⟩;have HZ1:=hdz (ZT.grow H0.out hb1);have HZ1B:Hid (Below w.heap.size w w1):=((brf _ _).alloc (nlr _) _).trans (hb1.mono (by rw[wsa];omega));have q2:w1.cell? ⟨b,2,none⟩=some (.int .i64 S.rev):=(Jat HZ1.out.blk).2.2.1;clear hb1)
    | fail)
   go_ret;exact⟨rfl,HZ1B.out⟩
theorem JnN(h:isCl lo w b who u S)(hu:Ja3 u)(c i:Int)(v:Value)(x:List Pt)(hx:opX lo w v x)(hwf:∀p∈x,wfP p)(hpu:Jan x<=400000)(hl:x.length<=1000000)(hsz:S.seen.length<=100000)(hT:Lib.Utf8Tabs 2 3 w)(ho:ordE x S.seen≠0) :
    Calls Tryz.prog 49 #[.pointer (some ⟨b,0,none⟩),.int .i64 S.rev,.agg #[.int .i64 c,.int .i64 i,v]] w fun e w'=>e=.returned (.iface 26 (.int .i64 15))/\Below w.heap.size w w':=by
 have hu0:(u==0)=false:=by rcases hu with rfl|rfl|rfl<;>rfl
 obtain⟨hlo,VM,h3,h4⟩:=h;obtain⟨pv,cv,rfl⟩:=JaH hx;have H0:Hid _:=Jec (c:=c) (i:=i) hlo h3 h4 hT hx;have CU:Hid (∀wx,ZT lo b w.heap.size who u c i S VM (.slice pv x.length cv) x wx->Calls Tryz.prog 57 #[.pointer (some ⟨b,0,none⟩)] wx fun e w'=>e=.returned (.int .i64 u)/\Below wx.heap.size wx w'):=fun wx hz=>JbY hz.cl
 have CA:Hid (∀wx,ZT lo b w.heap.size who u c i S VM (.slice pv x.length cv) x wx->Calls Tryz.prog 29 #[.slice pv x.length cv,.string ⟨S.seen.toArray⟩] wx fun e w'=>e=.returned (.tuple #[.string ⟨(if ordE x S.seen=0 then Jab x S.seen else []).toArray⟩,errV (ordE x S.seen)])/\Below wx.heap.size wx w'):=fun wx hz=>JhR _ x S.seen wx hz.tabs hz.op.1 hwf (by omega) (by omega) (by omega)
 have hV:errV (ordE x S.seen)=.iface 26 (.int .i64 (ordE x S.seen)):=by unfold errV;rw[if_neg ho]
 rw[if_neg ho,hV]at CA;generalize hxn:x.length=xn at *;generalize ordE x S.seen=E at *;clear h3 h4 hx hT hu hlo hxn hwf hpu hl hsz hV ho
 . skip
   go_enter Tryz.func49,Tryz.ntmps49
   go_wp2_with (first
    | (go_at_call 57;refine(CU.out _ H0.out).mono ?_;rintro e w1 ⟨rfl,hb1⟩;have HZ1:=hdz (ZT.grow H0.out hb1);have HZ1B:Hid (Below w.heap.size w w1):=((brf _ _).alloc (nlr _) _).trans (hb1.mono (by rw[wsa];omega));have q2:w1.cell? ⟨b,2,none⟩=some (.int .i64 S.rev):=(Jat HZ1.out.blk).2.2.1;clear hb1)
    | fail)
   refine Jaq (fun wx:World=>ZT lo b w.heap.size who u c i S VM (.slice pv xn cv) x wx) 12 12 (by kernel_rfl) rfl ?_
   intro w5 hb5;have hz5:ZT lo b w.heap.size who u c i S VM (.slice pv xn cv) x w5:=ZT.grow HZ1.out hb5;obtain⟨G,hG⟩:=Jax (Z:=(fun wx:World=>ZT lo b w.heap.size who u c i S VM (.slice pv xn cv) x wx)) hz5 (fun {w w'} h hb=>ZT.grow h hb);have e2:∀y,(G y).cell? ⟨w.heap.size,2,none⟩=some (.slice pv xn cv):=fun y=>chp (hG.but y).box 2
   have y3:∀y,(G y).cell? ⟨b,3,none⟩=some (.string ⟨S.seen.toArray⟩):=fun y=>(Jat (hG.but y).blk).2.2.2.1
   refine az hG hz5 0 fun _ k=>?_;go_simp;refine k _ ?_;clear k
   refine az hG hz5 1 fun _ k=>?_;go_simp;refine k _ ?_;clear k
   refine az hG hz5 2 fun _ k=>?_;go_simp;refine k _ ?_;clear k
   refine az hG hz5 3 fun _ k=>?_;go_simp;refine k _ ?_;clear k
   refine az hG hz5 4 fun _ k=>?_;go_simp;refine k _ ?_;clear k
   refine az hG hz5 5 fun _ k=>?_;go_simp;refine k _ ?_;clear k
   (refine az hG hz5 6 fun K hK=>?_;go_simp;apply Exists.intro;refine⟨fun _=>?_,hK _ ?_⟩;exact CA.out _ (hG.but _);clear hK K)
   refine az hG hz5 7 fun _ k=>?_;go_simp;refine k _ ?_;clear k
   refine az hG hz5 8 fun _ k=>?_;go_simp;refine k _ ?_;clear k
   refine az hG hz5 9 fun _ k=>?_;go_simp;refine k _ ?_;clear k
   refine az hG hz5 10 fun _ k=>?_;go_simp;refine k _ ?_;clear k
   refine az hG hz5 11 fun _ k=>?_;go_simp;refine k _ ?_;clear k
   clear e2 y3 hG;refine JaM (by kernel_rfl) ?_
   intro v5 hv5;have HB5:Hid (Below w.heap.size w v5):=HZ1B.out.trans ((hb5.trans (hv5.mono hb5.size)).mono HZ1B.out.size);clear hb5 hv5 hz5;go_wp2;go_ret;exact⟨rfl,HB5.out⟩
theorem Jhy{ms:List (List Pt)}(h:Jc9 lo w vm ms)(hm:ms≠[]):∃g c p0 k0 c0,vm=.slice (some ⟨g,0,none⟩) ms.length c/\(ms.length<=c/\c<=maxLen)/\g<w.heap.size/\w.cell? ⟨g,0,none⟩=some (.slice p0 k0 c0)/\opX lo w (.slice p0 k0 c0) (ms.headD []):=by
 obtain⟨g,c,rfl⟩:=Jj3 h hm;obtain⟨_,hg,_⟩:=JbN h (k:=g) rfl;obtain⟨vs,q1,q2,q3⟩:=h;have hcn:ms.length<=c/\c<=maxLen:=by
  rcases q2.2 with ⟨e,_⟩|⟨g',cap,cur,e,_,_,e5,e6,_⟩
  . cases e
  . injection e with _ _ e;subst e;exact⟨e5,e6⟩
 rcases ms with _|⟨m,ms⟩
 . exact absurd rfl hm
 rcases vs with _|⟨y,vs⟩
 . simp at q1
 have hy:=q3 0 m y rfl rfl;obtain⟨p0,c0,rfl⟩:=JaH hy;refine⟨g,c,p0,m.length,c0,rfl,hcn,hg,?_,hy⟩;rw[World.ownsRow.cellAt q2 0 (by simp)];rfl
structure ZO (lo b β:Nat) (who u c i:Int) (S:Cl) (VM v:Value) (x:List Pt) (g:Nat) (p0:Option Addr) (k0 c0:Nat) (m0:List Pt) (wx:World):Prop where
 zt:ZT lo b β who u c i S VM v x wx
 lt:g<wx.heap.size
 cel:wx.cell? ⟨g,0,none⟩=some (.slice p0 k0 c0)
 op0:opX lo wx (.slice p0 k0 c0) m0
theorem ZO.grow{lo b β:Nat}{who u c i:Int}{S:Cl}{VM v:Value}{x:List Pt}{g:Nat}{p0:Option Addr}{k0 c0:Nat}{m0:List Pt}{w w':World}(h:ZO lo b β who u c i S VM v x g p0 k0 c0 m0 w)(hb:Below w.heap.size w w'):ZO lo b β who u c i S VM v x g p0 k0 c0 m0 w' :=
 ⟨h.zt.grow hb,Nat.lt_of_lt_of_le h.lt hb.size,(hb.cell (p:=⟨g,0,none⟩) h.lt).trans h.cel,Ja5 h.op0 hb⟩
theorem Jmj(h:isCl lo w b who u S)(hk:okK 2000 S)(hu:Ja3 u)(v:Value)(x:List Pt)(hx:opX lo w v x)(hsz:S.seen.length+Jan x<=500000)(hid:0<=S.id/\S.id<=1000000)(hrv:0<=S.rev/\S.rev<=1000000)(hG:2<lo/\3<lo)(hT:Lib.Utf8Tabs 2 3 w)(ho:ordE x S.seen=0)(hm:S.mine≠[])(hd:Jab (JbB S) S.seen≠Jab x S.seen) :
    Calls Tryz.prog 49 #[.pointer (some ⟨b,0,none⟩),.int .i64 S.rev,.agg #[.int .i64 who,.int .i64 S.id,v]] w fun e w'=>e=.returned (.iface 26 (.int .i64 15))/\Below w.heap.size w w':=by
 have hu0:(u==0)=false:=by rcases hu with rfl|rfl|rfl<;>rfl
 have hlt:=JbP h;obtain⟨hlo,VM,h3,h4⟩:=h;obtain⟨g,cc,p0,k0,c0,rfl,⟨hcn,hcm⟩,hgl,hce,hop⟩:=Jhy h4 hm;unfold maxLen at hcm;obtain⟨pv,cv,rfl⟩:=JaH hx;have hgx:=Jcl hk.text ho;obtain⟨hg0,hp0⟩:=JfF hk hm;obtain⟨m0,hm0⟩:∃m0,JbB S=m0:=⟨_,rfl⟩;have hop:opX lo w (.slice p0 k0 c0) m0:=by rw[←hm0];exact hop
 have hb0:Below w.heap.size w (w.alloc (.cells #[.int .i64 who,.int .i64 S.id,.slice pv x.length cv] 105)):=(brf _ _).alloc (nlr _) _;have H0:Hid _:=(⟨Jec (c:=who) (i:=S.id) hlo h3 h4 hT hx,Nat.lt_of_lt_of_le hgl hb0.size,(hb0.cell (p:=⟨g,0,none⟩) hgl).trans hce,Ja5 hop hb0⟩:ZO lo b w.heap.size who u who S.id S (.slice (some ⟨g,0,none⟩) S.mine.length cc) (.slice pv x.length cv) x g p0 k0 c0 m0 _);have CU:Hid (∀wx,ZO lo b w.heap.size who u who S.id S (.slice (some ⟨g,0,none⟩) S.mine.length cc) (.slice pv x.length cv) x g p0 k0 c0 m0 wx->Calls Tryz.prog 57 #[.pointer (some ⟨b,0,none⟩)] wx fun e w'=>e=.returned (.int .i64 u)/\Below wx.heap.size wx w'):=fun wx hz=>JbY hz.zt.cl
 have CA:Hid (∀wx,ZO lo b w.heap.size who u who S.id S (.slice (some ⟨g,0,none⟩) S.mine.length cc) (.slice pv x.length cv) x g p0 k0 c0 m0 wx->Calls Tryz.prog 29 #[.slice pv x.length cv,.string ⟨S.seen.toArray⟩] wx fun e w'=>e=.returned (.tuple #[.string ⟨(Jab x S.seen).toArray⟩,.nilIface])/\Below wx.heap.size wx w'):=fun wx hz=>JfD _ x S.seen wx hz.zt.tabs hz.zt.op.1 hgx (by omega)
 have CM:Hid (∀wx,ZO lo b w.heap.size who u who S.id S (.slice (some ⟨g,0,none⟩) S.mine.length cc) (.slice pv x.length cv) x g p0 k0 c0 m0 wx->Calls Tryz.prog 29 #[.slice p0 k0 c0,.string ⟨S.seen.toArray⟩] wx fun e w'=>e=.returned (.tuple #[.string ⟨(Jab m0 S.seen).toArray⟩,.nilIface])/\Below wx.heap.size wx w'):=fun wx hz=>JfD _ m0 S.seen wx hz.zt.tabs hz.op0.1 (by rw[←hm0];exact hg0) (by rw[←hm0];omega)
 have CP:Hid (∀wx,ZO lo b w.heap.size who u who S.id S (.slice (some ⟨g,0,none⟩) S.mine.length cc) (.slice pv x.length cv) x g p0 k0 c0 m0 wx->Calls Tryz.prog 58 #[.pointer (some ⟨b,0,none⟩)] wx fun e w'=>e=.returned (.bool true)/\Below wx.heap.size wx w'):=fun wx hz=>by
  have:=Jbp hz.zt.cl;rwa[decide_eq_true (List.length_pos_iff.2 hm)]at this
 have hmi:(0:Int)<(S.mine.length:Int):=by have:=List.length_pos_iff.2 hm;omega
 have hmn:=List.length_pos_iff.2 hm;have hrv1:wrap64 (S.rev+1)=S.rev+1:=Ja0 (by omega) (by omega);rw[hm0]at hd;generalize Jab m0 S.seen=tm at *;generalize Jab x S.seen=tx at *;have hd1:(tm==tx)=false:=beq_eq_false_iff_ne.2 hd;obtain⟨n,hn⟩:∃n,S.mine.length=n:=⟨_,rfl⟩;rw[hn]at hcn hmi hmn H0 CU CA CM CP;generalize hxn:x.length=xn at *;obtain⟨hr0,hr1⟩:=hrv;clear h3 h4 hx hT hu hlo hxn hsz ho hgx hg0 hp0 hk hm hm0 hop hce hgl hb0 hid hG hn
 . skip
   go_enter Tryz.func49,Tryz.ntmps49
   go_wp2_with (first
    | (go_at_call 57;refine(CU.out _ H0.out).mono ?_;rintro e w1 ⟨rfl,hb1⟩;have HZ1:=hdz (ZO.grow H0.out hb1);have HZ1B:Hid (Below w.heap.size w w1):=((brf _ _).alloc (nlr _) _).trans (hb1.mono (by rw[wsa];omega));have q2:w1.cell? ⟨b,2,none⟩=some (.int .i64 S.rev):=(Jat HZ1.out.zt.blk).2.2.1;clear hb1)
    | fail)
   refine Jaq (fun wx:World=>ZO lo b w.heap.size who u who S.id S (.slice (some ⟨g,0,none⟩) n cc) (.slice pv xn cv) x g p0 k0 c0 m0 wx) 12 12 (by kernel_rfl) rfl ?_
   intro w5 hb5;have hz5:ZO lo b w.heap.size who u who S.id S (.slice (some ⟨g,0,none⟩) n cc) (.slice pv xn cv) x g p0 k0 c0 m0 w5:=ZO.grow HZ1.out hb5;obtain⟨G,hG⟩:=Jax (Z:=(fun wx:World=>ZO lo b w.heap.size who u who S.id S (.slice (some ⟨g,0,none⟩) n cc) (.slice pv xn cv) x g p0 k0 c0 m0 wx)) hz5 (fun {w w'} h hb=>ZO.grow h hb);have e2:∀y,(G y).cell? ⟨w.heap.size,2,none⟩=some (.slice pv xn cv):=fun y=>chp (hG.but y).zt.box 2
   have y3:∀y,(G y).cell? ⟨b,3,none⟩=some (.string ⟨S.seen.toArray⟩):=fun y=>(Jat (hG.but y).zt.blk).2.2.2.1
   refine az hG hz5 0 fun _ k=>?_;go_simp;refine k _ ?_;clear k
   refine az hG hz5 1 fun _ k=>?_;go_simp;refine k _ ?_;clear k
   refine az hG hz5 2 fun _ k=>?_;go_simp;refine k _ ?_;clear k
   refine az hG hz5 3 fun _ k=>?_;go_simp;refine k _ ?_;clear k
   refine az hG hz5 4 fun _ k=>?_;go_simp;refine k _ ?_;clear k
   refine az hG hz5 5 fun _ k=>?_;go_simp;refine k _ ?_;clear k
   (refine az hG hz5 6 fun K hK=>?_;go_simp;apply Exists.intro;refine⟨fun _=>?_,hK _ ?_⟩;exact CA.out _ (hG.but _);clear hK K)
   refine az hG hz5 7 fun _ k=>?_;go_simp;refine k _ ?_;clear k
   refine az hG hz5 8 fun _ k=>?_;go_simp;refine k _ ?_;clear k
   refine az hG hz5 9 fun _ k=>?_;go_simp;refine k _ ?_;clear k
   refine az hG hz5 10 fun _ k=>?_;go_simp;refine k _ ?_;clear k
   refine az hG hz5 11 fun _ k=>?_;go_simp;refine k _ ?_;clear k
   clear e2 y3 hG;refine JaM (by kernel_rfl) ?_
   intro v5 hv5;have HZ5:=hdz (ZO.grow hz5 hv5);have HB5:Hid (Below w.heap.size w v5):=HZ1B.out.trans ((hb5.trans (hv5.mono hb5.size)).mono HZ1B.out.size);have HZ5B:=hdz HB5;clear hb5 hv5 hz5;go_wp2;refine Jaq (fun wx:World=>ZO lo b w.heap.size who u who S.id S (.slice (some ⟨g,0,none⟩) n cc) (.slice pv xn cv) x g p0 k0 c0 m0 wx) 20 20 (by kernel_rfl) rfl ?_
   intro w8 hb8;have hz8:ZO lo b w.heap.size who u who S.id S (.slice (some ⟨g,0,none⟩) n cc) (.slice pv xn cv) x g p0 k0 c0 m0 w8:=ZO.grow HZ5.out hb8;obtain⟨G,hG⟩:=Jax (Z:=(fun wx:World=>ZO lo b w.heap.size who u who S.id S (.slice (some ⟨g,0,none⟩) n cc) (.slice pv xn cv) x g p0 k0 c0 m0 wx)) hz8 (fun {w w'} h hb=>ZO.grow h hb);have e0:∀y,(G y).cell? ⟨w.heap.size,0,none⟩=some (.int .i64 who):=fun y=>chp (hG.but y).zt.box 0
   have e1:∀y,(G y).cell? ⟨w.heap.size,1,none⟩=some (.int .i64 S.id):=fun y=>chp (hG.but y).zt.box 1
   have y0:∀y,(G y).cell? ⟨b,0,none⟩=some (.int .i64 who):=fun y=>(Jat (hG.but y).zt.blk).1
   have y6:∀y,(G y).cell? ⟨b,6,none⟩=some (.int .i64 S.id):=fun y=>(Jat (hG.but y).zt.blk).2.2.2.2.2.2.1
   refine az hG hz8 0 fun _ k=>?_;go_simp;refine k _ ?_;clear k
   (refine az hG hz8 1 fun K hK=>?_;go_simp;apply Exists.intro;refine⟨fun _=>?_,hK _ ?_⟩;exact CP.out _ (hG.but _);clear hK K)
   refine az hG hz8 2 fun _ k=>?_;go_simp;refine k _ ?_;clear k
   refine az hG hz8 3 fun _ k=>?_;go_simp;refine k _ ?_;clear k
   refine az hG hz8 4 fun _ k=>?_;go_simp;refine k _ ?_;clear k
   refine az hG hz8 5 fun _ k=>?_;go_simp;refine k _ ?_;clear k
   refine az hG hz8 6 fun _ k=>?_;go_simp;refine k _ ?_;clear k
   refine az hG hz8 7 fun _ k=>?_;go_simp;refine k _ ?_;clear k
   refine az hG hz8 8 fun _ k=>?_;go_simp;refine k _ ?_;clear k
   refine az hG hz8 9 fun _ k=>?_;go_simp;refine k _ ?_;clear k
   refine az hG hz8 10 fun _ k=>?_;go_simp;refine k _ ?_;clear k
   refine az hG hz8 11 fun _ k=>?_;go_simp;refine k _ ?_;clear k
   refine az hG hz8 12 fun _ k=>?_;go_simp;refine k _ ?_;clear k
   refine az hG hz8 13 fun _ k=>?_;go_simp;refine k _ ?_;clear k
   refine az hG hz8 14 fun _ k=>?_;go_simp;refine k _ ?_;clear k
   refine az hG hz8 15 fun _ k=>?_;go_simp;refine k _ ?_;clear k
   refine az hG hz8 16 fun _ k=>?_;go_simp;refine k _ ?_;clear k
   refine az hG hz8 17 fun _ k=>?_;go_simp;refine k _ ?_;clear k
   refine az hG hz8 18 fun _ k=>?_;go_simp;refine k _ ?_;clear k
   refine az hG hz8 19 fun _ k=>?_;go_simp;refine k _ ?_;clear k
   clear e0 e1 y0 y6 hG;refine JaM (by kernel_rfl) ?_
   intro v8 hv8;have HZ8:=hdz (ZO.grow hz8 hv8);have HB8:Hid (Below w.heap.size w v8):=HZ5B.out.trans ((hb8.trans (hv8.mono hb8.size)).mono HZ5B.out.size);have HZ8B:=hdz HB8;clear hb8 hv8 hz8;go_wp2;refine Jaq (fun wx:World=>ZO lo b w.heap.size who u who S.id S (.slice (some ⟨g,0,none⟩) n cc) (.slice pv xn cv) x g p0 k0 c0 m0 wx) 16 16 (by kernel_rfl) rfl ?_
   intro w9 hb9;have hz9:ZO lo b w.heap.size who u who S.id S (.slice (some ⟨g,0,none⟩) n cc) (.slice pv xn cv) x g p0 k0 c0 m0 w9:=ZO.grow HZ8.out hb9;obtain⟨G,hG⟩:=Jax (Z:=(fun wx:World=>ZO lo b w.heap.size who u who S.id S (.slice (some ⟨g,0,none⟩) n cc) (.slice pv xn cv) x g p0 k0 c0 m0 wx)) hz9 (fun {w w'} h hb=>ZO.grow h hb);have y3:∀y,(G y).cell? ⟨b,3,none⟩=some (.string ⟨S.seen.toArray⟩):=fun y=>(Jat (hG.but y).zt.blk).2.2.2.1
   have y4:∀y,(G y).cell? ⟨b,4,none⟩=some (.slice (some ⟨g,0,none⟩) n cc):=fun y=>(Jat (hG.but y).zt.blk).2.2.2.2.1
   have yg:∀y,(G y).cell? ⟨g,0,none⟩=some (.slice p0 k0 c0):=fun y=>(hG.but y).cel
   refine az hG hz9 0 fun _ k=>?_;go_simp;refine k _ ?_;clear k
   refine az hG hz9 1 fun _ k=>?_;go_simp;refine k _ ?_;clear k
   refine az hG hz9 2 fun _ k=>?_;go_simp;refine k _ ?_;clear k
   refine az hG hz9 3 fun _ k=>?_;go_simp;refine k _ ?_;clear k
   refine az hG hz9 4 fun _ k=>?_;go_simp;refine k _ ?_;clear k
   refine az hG hz9 5 fun _ k=>?_;go_simp;refine k _ ?_;clear k
   refine az hG hz9 6 fun _ k=>?_;go_simp;refine k _ ?_;clear k
   refine az hG hz9 7 fun _ k=>?_;go_simp;refine k _ ?_;clear k
   refine az hG hz9 8 fun _ k=>?_;go_simp;refine k _ ?_;clear k
   refine az hG hz9 9 fun _ k=>?_;go_simp;refine k _ ?_;clear k
   (refine az hG hz9 10 fun K hK=>?_;go_simp;apply Exists.intro;refine⟨fun _=>?_,hK _ ?_⟩;exact CM.out _ (hG.but _);clear hK K)
   refine az hG hz9 11 fun _ k=>?_;go_simp;refine k _ ?_;clear k
   refine az hG hz9 12 fun _ k=>?_;go_simp;refine k _ ?_;clear k
   refine az hG hz9 13 fun _ k=>?_;go_simp;refine k _ ?_;clear k
   refine az hG hz9 14 fun _ k=>?_;go_simp;refine k _ ?_;clear k
   refine az hG hz9 15 fun _ k=>?_;go_simp;refine k _ ?_;clear k
   clear y3 y4 yg hG;refine JaM (by kernel_rfl) ?_
   intro v9 hv9;have HB9:Hid (Below w.heap.size w v9):=HZ8B.out.trans ((hb9.trans (hv9.mono hb9.size)).mono HZ8B.out.size);clear hb9 hv9 hz9;go_wp2;go_ret;exact⟨rfl,HB9.out⟩
theorem JnM(h:isCl lo w b who u S)(hk:okK 2000 S)(hu:Ja3 u)(v:Value)(x:List Pt)(hx:opX lo w v x)(hsz:S.seen.length+Jan x<=500000)(hid:0<=S.id/\S.id<=1000000)(hrv:0<=S.rev/\S.rev<=1000000)(hG:2<lo/\3<lo)(hT:Lib.Utf8Tabs 2 3 w)(ho:ordE x S.seen=0)(hm:S.mine≠[])(hd:Jab (JbB S) S.seen=Jab x S.seen) :
    Calls Tryz.prog 49 #[.pointer (some ⟨b,0,none⟩),.int .i64 S.rev,.agg #[.int .i64 who,.int .i64 S.id,v]] w fun e w'=>e=.returned .nilIface/\isCl lo w' b who u { S with seen:=Jab x S.seen,rev:=S.rev+1,mine:=S.mine.tail,id:=if S.mine.tail≠[] then S.id+1 else S.id }/\keptC w w' b:=by
 have hu0:(u==0)=false:=by rcases hu with rfl|rfl|rfl<;>rfl
 have hlt:=JbP h;obtain⟨hlo,VM,h3,h4⟩:=h;obtain⟨g,cc,p0,k0,c0,rfl,⟨hcn,hcm⟩,hgl,hce,hop⟩:=Jhy h4 hm;unfold maxLen at hcm;obtain⟨pv,cv,rfl⟩:=JaH hx;have hgx:=Jcl hk.text ho;obtain⟨hg0,hp0⟩:=JfF hk hm;obtain⟨m0,hm0⟩:∃m0,JbB S=m0:=⟨_,rfl⟩;have hop:opX lo w (.slice p0 k0 c0) m0:=by rw[←hm0];exact hop
 have hb0:Below w.heap.size w (w.alloc (.cells #[.int .i64 who,.int .i64 S.id,.slice pv x.length cv] 105)):=(brf _ _).alloc (nlr _) _;have H0:Hid _:=(⟨Jec (c:=who) (i:=S.id) hlo h3 h4 hT hx,Nat.lt_of_lt_of_le hgl hb0.size,(hb0.cell (p:=⟨g,0,none⟩) hgl).trans hce,Ja5 hop hb0⟩:ZO lo b w.heap.size who u who S.id S (.slice (some ⟨g,0,none⟩) S.mine.length cc) (.slice pv x.length cv) x g p0 k0 c0 m0 _);have CU:Hid (∀wx,ZO lo b w.heap.size who u who S.id S (.slice (some ⟨g,0,none⟩) S.mine.length cc) (.slice pv x.length cv) x g p0 k0 c0 m0 wx->Calls Tryz.prog 57 #[.pointer (some ⟨b,0,none⟩)] wx fun e w'=>e=.returned (.int .i64 u)/\Below wx.heap.size wx w'):=fun wx hz=>JbY hz.zt.cl
 have CA:Hid (∀wx,ZO lo b w.heap.size who u who S.id S (.slice (some ⟨g,0,none⟩) S.mine.length cc) (.slice pv x.length cv) x g p0 k0 c0 m0 wx->Calls Tryz.prog 29 #[.slice pv x.length cv,.string ⟨S.seen.toArray⟩] wx fun e w'=>e=.returned (.tuple #[.string ⟨(Jab x S.seen).toArray⟩,.nilIface])/\Below wx.heap.size wx w'):=fun wx hz=>JfD _ x S.seen wx hz.zt.tabs hz.zt.op.1 hgx (by omega)
 have CM:Hid (∀wx,ZO lo b w.heap.size who u who S.id S (.slice (some ⟨g,0,none⟩) S.mine.length cc) (.slice pv x.length cv) x g p0 k0 c0 m0 wx->Calls Tryz.prog 29 #[.slice p0 k0 c0,.string ⟨S.seen.toArray⟩] wx fun e w'=>e=.returned (.tuple #[.string ⟨(Jab m0 S.seen).toArray⟩,.nilIface])/\Below wx.heap.size wx w'):=fun wx hz=>JfD _ m0 S.seen wx hz.zt.tabs hz.op0.1 (by rw[←hm0];exact hg0) (by rw[←hm0];omega)
 have CP:Hid (∀wx,ZO lo b w.heap.size who u who S.id S (.slice (some ⟨g,0,none⟩) S.mine.length cc) (.slice pv x.length cv) x g p0 k0 c0 m0 wx->Calls Tryz.prog 58 #[.pointer (some ⟨b,0,none⟩)] wx fun e w'=>e=.returned (.bool true)/\Below wx.heap.size wx w'):=fun wx hz=>by
  have:=Jbp hz.zt.cl;rwa[decide_eq_true (List.length_pos_iff.2 hm)]at this
 have hmi:(0:Int)<(S.mine.length:Int):=by have:=List.length_pos_iff.2 hm;omega
 have hmn:=List.length_pos_iff.2 hm;have HM:Hid (S.mine≠[]):=hm;have HTW:Hid (S.mine.length<=2):=hk.two;have HID:Hid (0<=S.id/\S.id<=1000000):=hid;have hrv1:wrap64 (S.rev+1)=S.rev+1:=Ja0 (by omega) (by omega);rw[hm0]at hd;rw[hd]at CM;clear hd;generalize Jab x S.seen=tx at *;obtain⟨S2,hS2⟩:∃S2,({ S with seen:=tx,rev:=S.rev+1,mine:=S.mine.tail,id:=if S.mine.tail≠[] then S.id+1 else S.id }:Cl)=S2:=⟨_,rfl⟩;rw[hS2];have HS2:=hdz hS2;clear hS2;obtain⟨n,hn⟩:∃n,S.mine.length=n:=⟨_,rfl⟩;rw[hn]at hcn hmi hmn H0 CU CA CM CP;generalize hxn:x.length=xn at *;obtain⟨hr0,hr1⟩:=hrv;clear h3 h4 hx hT hu hlo hxn hsz ho hgx hg0 hp0 hk hm hm0 hop hce hgl hb0 hid hG hn
 . skip
   go_enter Tryz.func49,Tryz.ntmps49
   go_wp2_with (first
    | (go_at_call 57;refine(CU.out _ H0.out).mono ?_;rintro e w1 ⟨rfl,hb1⟩;have HZ1:=hdz (ZO.grow H0.out hb1);have HZ1B:Hid (Below w.heap.size w w1):=((brf _ _).alloc (nlr _) _).trans (hb1.mono (by rw[wsa];omega));have q2:w1.cell? ⟨b,2,none⟩=some (.int .i64 S.rev):=(Jat HZ1.out.zt.blk).2.2.1;clear hb1)
    | fail)
   refine Jaq (fun wx:World=>ZO lo b w.heap.size who u who S.id S (.slice (some ⟨g,0,none⟩) n cc) (.slice pv xn cv) x g p0 k0 c0 m0 wx) 12 12 (by kernel_rfl) rfl ?_
   intro w5 hb5;have hz5:ZO lo b w.heap.size who u who S.id S (.slice (some ⟨g,0,none⟩) n cc) (.slice pv xn cv) x g p0 k0 c0 m0 w5:=ZO.grow HZ1.out hb5;obtain⟨G,hG⟩:=Jax (Z:=(fun wx:World=>ZO lo b w.heap.size who u who S.id S (.slice (some ⟨g,0,none⟩) n cc) (.slice pv xn cv) x g p0 k0 c0 m0 wx)) hz5 (fun {w w'} h hb=>ZO.grow h hb);have e2:∀y,(G y).cell? ⟨w.heap.size,2,none⟩=some (.slice pv xn cv):=fun y=>chp (hG.but y).zt.box 2
   have y3:∀y,(G y).cell? ⟨b,3,none⟩=some (.string ⟨S.seen.toArray⟩):=fun y=>(Jat (hG.but y).zt.blk).2.2.2.1
   refine az hG hz5 0 fun _ k=>?_;go_simp;refine k _ ?_;clear k
   refine az hG hz5 1 fun _ k=>?_;go_simp;refine k _ ?_;clear k
   refine az hG hz5 2 fun _ k=>?_;go_simp;refine k _ ?_;clear k
   refine az hG hz5 3 fun _ k=>?_;go_simp;refine k _ ?_;clear k
   refine az hG hz5 4 fun _ k=>?_;go_simp;refine k _ ?_;clear k
   refine az hG hz5 5 fun _ k=>?_;go_simp;refine k _ ?_;clear k
   (refine az hG hz5 6 fun K hK=>?_;go_simp;apply Exists.intro;refine⟨fun _=>?_,hK _ ?_⟩;exact CA.out _ (hG.but _);clear hK K)
   refine az hG hz5 7 fun _ k=>?_;go_simp;refine k _ ?_;clear k
   refine az hG hz5 8 fun _ k=>?_;go_simp;refine k _ ?_;clear k
   refine az hG hz5 9 fun _ k=>?_;go_simp;refine k _ ?_;clear k
   refine az hG hz5 10 fun _ k=>?_;go_simp;refine k _ ?_;clear k
   refine az hG hz5 11 fun _ k=>?_;go_simp;refine k _ ?_;clear k
   clear e2 y3 hG;refine JaM (by kernel_rfl) ?_
   intro v5 hv5;have HZ5:=hdz (ZO.grow hz5 hv5);have HB5:Hid (Below w.heap.size w v5):=HZ1B.out.trans ((hb5.trans (hv5.mono hb5.size)).mono HZ1B.out.size);have HZ5B:=hdz HB5;clear hb5 hv5 hz5;go_wp2;refine Jaq (fun wx:World=>ZO lo b w.heap.size who u who S.id S (.slice (some ⟨g,0,none⟩) n cc) (.slice pv xn cv) x g p0 k0 c0 m0 wx) 20 20 (by kernel_rfl) rfl ?_
   intro w8 hb8;have hz8:ZO lo b w.heap.size who u who S.id S (.slice (some ⟨g,0,none⟩) n cc) (.slice pv xn cv) x g p0 k0 c0 m0 w8:=ZO.grow HZ5.out hb8;obtain⟨G,hG⟩:=Jax (Z:=(fun wx:World=>ZO lo b w.heap.size who u who S.id S (.slice (some ⟨g,0,none⟩) n cc) (.slice pv xn cv) x g p0 k0 c0 m0 wx)) hz8 (fun {w w'} h hb=>ZO.grow h hb);have e0:∀y,(G y).cell? ⟨w.heap.size,0,none⟩=some (.int .i64 who):=fun y=>chp (hG.but y).zt.box 0
   have e1:∀y,(G y).cell? ⟨w.heap.size,1,none⟩=some (.int .i64 S.id):=fun y=>chp (hG.but y).zt.box 1
   have y0:∀y,(G y).cell? ⟨b,0,none⟩=some (.int .i64 who):=fun y=>(Jat (hG.but y).zt.blk).1
   have y6:∀y,(G y).cell? ⟨b,6,none⟩=some (.int .i64 S.id):=fun y=>(Jat (hG.but y).zt.blk).2.2.2.2.2.2.1
   refine az hG hz8 0 fun _ k=>?_;go_simp;refine k _ ?_;clear k
   (refine az hG hz8 1 fun K hK=>?_;go_simp;apply Exists.intro;refine⟨fun _=>?_,hK _ ?_⟩;exact CP.out _ (hG.but _);clear hK K)
   refine az hG hz8 2 fun _ k=>?_;go_simp;refine k _ ?_;clear k
   refine az hG hz8 3 fun _ k=>?_;go_simp;refine k _ ?_;clear k
   refine az hG hz8 4 fun _ k=>?_;go_simp;refine k _ ?_;clear k
   refine az hG hz8 5 fun _ k=>?_;go_simp;refine k _ ?_;clear k
   refine az hG hz8 6 fun _ k=>?_;go_simp;refine k _ ?_;clear k
   refine az hG hz8 7 fun _ k=>?_;go_simp;refine k _ ?_;clear k
   refine az hG hz8 8 fun _ k=>?_;go_simp;refine k _ ?_;clear k
   refine az hG hz8 9 fun _ k=>?_;go_simp;refine k _ ?_;clear k
   refine az hG hz8 10 fun _ k=>?_;go_simp;refine k _ ?_;clear k
   refine az hG hz8 11 fun _ k=>?_;go_simp;refine k _ ?_;clear k
   refine az hG hz8 12 fun _ k=>?_;go_simp;refine k _ ?_;clear k
   refine az hG hz8 13 fun _ k=>?_;go_simp;refine k _ ?_;clear k
   refine az hG hz8 14 fun _ k=>?_;go_simp;refine k _ ?_;clear k
   refine az hG hz8 15 fun _ k=>?_;go_simp;refine k _ ?_;clear k
   refine az hG hz8 16 fun _ k=>?_;go_simp;refine k _ ?_;clear k
   refine az hG hz8 17 fun _ k=>?_;go_simp;refine k _ ?_;clear k
   refine az hG hz8 18 fun _ k=>?_;go_simp;refine k _ ?_;clear k
   refine az hG hz8 19 fun _ k=>?_;go_simp;refine k _ ?_;clear k
   clear e0 e1 y0 y6 hG;refine JaM (by kernel_rfl) ?_
   intro v8 hv8;have HZ8:=hdz (ZO.grow hz8 hv8);have HB8:Hid (Below w.heap.size w v8):=HZ5B.out.trans ((hb8.trans (hv8.mono hb8.size)).mono HZ5B.out.size);have HZ8B:=hdz HB8;clear hb8 hv8 hz8;go_wp2;refine Jaq (fun wx:World=>ZO lo b w.heap.size who u who S.id S (.slice (some ⟨g,0,none⟩) n cc) (.slice pv xn cv) x g p0 k0 c0 m0 wx) 16 16 (by kernel_rfl) rfl ?_
   intro w9 hb9;have hz9:ZO lo b w.heap.size who u who S.id S (.slice (some ⟨g,0,none⟩) n cc) (.slice pv xn cv) x g p0 k0 c0 m0 w9:=ZO.grow HZ8.out hb9;obtain⟨G,hG⟩:=Jax (Z:=(fun wx:World=>ZO lo b w.heap.size who u who S.id S (.slice (some ⟨g,0,none⟩) n cc) (.slice pv xn cv) x g p0 k0 c0 m0 wx)) hz9 (fun {w w'} h hb=>ZO.grow h hb);have y3:∀y,(G y).cell? ⟨b,3,none⟩=some (.string ⟨S.seen.toArray⟩):=fun y=>(Jat (hG.but y).zt.blk).2.2.2.1
   have y4:∀y,(G y).cell? ⟨b,4,none⟩=some (.slice (some ⟨g,0,none⟩) n cc):=fun y=>(Jat (hG.but y).zt.blk).2.2.2.2.1
   have yg:∀y,(G y).cell? ⟨g,0,none⟩=some (.slice p0 k0 c0):=fun y=>(hG.but y).cel
   refine az hG hz9 0 fun _ k=>?_;go_simp;refine k _ ?_;clear k
   refine az hG hz9 1 fun _ k=>?_;go_simp;refine k _ ?_;clear k
   refine az hG hz9 2 fun _ k=>?_;go_simp;refine k _ ?_;clear k
   refine az hG hz9 3 fun _ k=>?_;go_simp;refine k _ ?_;clear k
   refine az hG hz9 4 fun _ k=>?_;go_simp;refine k _ ?_;clear k
   refine az hG hz9 5 fun _ k=>?_;go_simp;refine k _ ?_;clear k
   refine az hG hz9 6 fun _ k=>?_;go_simp;refine k _ ?_;clear k
   refine az hG hz9 7 fun _ k=>?_;go_simp;refine k _ ?_;clear k
   refine az hG hz9 8 fun _ k=>?_;go_simp;refine k _ ?_;clear k
   refine az hG hz9 9 fun _ k=>?_;go_simp;refine k _ ?_;clear k
   (refine az hG hz9 10 fun K hK=>?_;go_simp;apply Exists.intro;refine⟨fun _=>?_,hK _ ?_⟩;exact CM.out _ (hG.but _);clear hK K)
   refine az hG hz9 11 fun _ k=>?_;go_simp;refine k _ ?_;clear k
   refine az hG hz9 12 fun _ k=>?_;go_simp;refine k _ ?_;clear k
   refine az hG hz9 13 fun _ k=>?_;go_simp;refine k _ ?_;clear k
   refine az hG hz9 14 fun _ k=>?_;go_simp;refine k _ ?_;clear k
   refine az hG hz9 15 fun _ k=>?_;go_simp;refine k _ ?_;clear k
   clear y3 y4 yg hG;refine JaM (by kernel_rfl) ?_
   intro v9 hv9;have HZ9:=hdz (ZO.grow hz9 hv9);have HB9:Hid (Below w.heap.size w v9):=HZ8B.out.trans ((hb9.trans (hv9.mono hb9.size)).mono HZ8B.out.size);have HZ9B:=hdz HB9;clear hb9 hv9 hz9
   go_wp2_with (first
    | (go_at_call 123;refine(JnR HZ9.out.zt.cl HM.out HTW.out HID.out).mono ?_;rintro e w2 ⟨rfl,hc2,hk2⟩;have HC2:=hdz hc2;have HK2:=hdz hk2;obtain⟨_,vm2,hq2,_⟩:=hc2;have z3:w2.frozen? ⟨b,3,none⟩=false:=Jak hq2;have z2:w2.frozen? ⟨b,2,none⟩=false:=Jak hq2;have y3:w2.cell? ⟨b,3,none⟩=some (.string ⟨S.seen.toArray⟩):=chp hq2 3;have y2:w2.cell? ⟨b,2,none⟩=some (.int .i64 S.rev):=chp hq2 2;clear hk2 hq2)
    | fail)
   go_ret;obtain⟨hE1,hE2⟩:=JmZ HC2.out tx (S.rev+1);exact⟨rfl,by rw[←HS2.out];exact hE1,keptC.trans (Jb0 HZ9B.out hlt) (keptC.trans HK2.out hE2)⟩
theorem Jmi(h:isCl lo w b who u S)(hk:okK 2000 S)(hu:Ja3 u)(c i:Int)(v:Value)(x:List Pt)(hx:opX lo w v x)(hsz:S.seen.length+Jan x<=500000)(hid:0<=S.id/\S.id<=1000000)(hrv:0<=S.rev/\S.rev<=1000000)(hG:2<lo/\3<lo)(hT:Lib.Utf8Tabs 2 3 w)(ho:ordE x S.seen=0)(hm:S.mine=[]) :
    Calls Tryz.prog 49 #[.pointer (some ⟨b,0,none⟩),.int .i64 S.rev,.agg #[.int .i64 c,.int .i64 i,v]] w fun e w'=>e=.returned .nilIface/\isCl lo w' b who u { S with seen:=Jab x S.seen,rev:=S.rev+1,mine:=(Jbk S.mine x).1,doc:=Jab (Jbk S.mine x).2 S.doc }/\keptC w w' b:=by
 have hu0:(u==0)=false:=by rcases hu with rfl|rfl|rfl<;>rfl
 have hlt:=JbP h;obtain⟨hlo,VM,h3,h4⟩:=h;obtain⟨pv,cv,rfl⟩:=JaH hx;have hgx:=Jcl hk.text ho;have H0:Hid _:=Jec (c:=c) (i:=i) hlo h3 h4 hT hx;have CU:Hid (∀wx,ZT lo b w.heap.size who u c i S VM (.slice pv x.length cv) x wx->Calls Tryz.prog 57 #[.pointer (some ⟨b,0,none⟩)] wx fun e w'=>e=.returned (.int .i64 u)/\Below wx.heap.size wx w'):=fun wx hz=>JbY hz.cl
 have CA:Hid (∀wx,ZT lo b w.heap.size who u c i S VM (.slice pv x.length cv) x wx->Calls Tryz.prog 29 #[.slice pv x.length cv,.string ⟨S.seen.toArray⟩] wx fun e w'=>e=.returned (.tuple #[.string ⟨(Jab x S.seen).toArray⟩,.nilIface])/\Below wx.heap.size wx w'):=fun wx hz=>JfD _ x S.seen wx hz.tabs hz.op.1 hgx (by omega)
 have CP:Hid (∀wx,ZT lo b w.heap.size who u c i S VM (.slice pv x.length cv) x wx->Calls Tryz.prog 58 #[.pointer (some ⟨b,0,none⟩)] wx fun e w'=>e=.returned (.bool false)/\Below wx.heap.size wx w'):=fun wx hz=>by
  have:=Jbp hz.cl;rwa[show decide (0<S.mine.length)=false by rw[hm];rfl]at this
 clear hm;have CT:Hid (∀wx,ZT lo b w.heap.size who u c i S VM (.slice pv x.length cv) x wx->Calls Tryz.prog 124 #[.pointer (some ⟨b,0,none⟩),.slice pv x.length cv] wx fun e w'=>e=.returned (.tuple #[])/\isCl lo w' b who u { S with mine:=(Jbk S.mine x).1,doc:=Jab (Jbk S.mine x).2 S.doc }/\keptC wx w' b):=fun wx hz=>Jgn hz.cl hk _ x hz.op hgx hsz hG hz.tabs
 have hrv1:wrap64 (S.rev+1)=S.rev+1:=Ja0 (by omega) (by omega);generalize hxn:x.length=xn at *;obtain⟨hr0,hr1⟩:=hrv;generalize Jab x S.seen=tx at *;clear h3 h4 hx hT hu hlo hxn hsz ho hgx hk hid hG
 . skip
   go_enter Tryz.func49,Tryz.ntmps49
   go_wp2_with (first
    | (go_at_call 57;refine(CU.out _ H0.out).mono ?_;rintro e w1 ⟨rfl,hb1⟩;have HZ1:=hdz (ZT.grow H0.out hb1);have HZ1B:Hid (Below w.heap.size w w1):=((brf _ _).alloc (nlr _) _).trans (hb1.mono (by rw[wsa];omega));have q2:w1.cell? ⟨b,2,none⟩=some (.int .i64 S.rev):=(Jat HZ1.out.blk).2.2.1;clear hb1)
    | fail)
   refine Jaq (fun wx:World=>ZT lo b w.heap.size who u c i S VM (.slice pv xn cv) x wx) 12 12 (by kernel_rfl) rfl ?_
   intro w5 hb5;have hz5:ZT lo b w.heap.size who u c i S VM (.slice pv xn cv) x w5:=ZT.grow HZ1.out hb5;obtain⟨G,hG⟩:=Jax (Z:=(fun wx:World=>ZT lo b w.heap.size who u c i S VM (.slice pv xn cv) x wx)) hz5 (fun {w w'} h hb=>ZT.grow h hb);have e2:∀y,(G y).cell? ⟨w.heap.size,2,none⟩=some (.slice pv xn cv):=fun y=>chp (hG.but y).box 2
   have y3:∀y,(G y).cell? ⟨b,3,none⟩=some (.string ⟨S.seen.toArray⟩):=fun y=>(Jat (hG.but y).blk).2.2.2.1
   refine az hG hz5 0 fun _ k=>?_;go_simp;refine k _ ?_;clear k
   refine az hG hz5 1 fun _ k=>?_;go_simp;refine k _ ?_;clear k
   refine az hG hz5 2 fun _ k=>?_;go_simp;refine k _ ?_;clear k
   refine az hG hz5 3 fun _ k=>?_;go_simp;refine k _ ?_;clear k
   refine az hG hz5 4 fun _ k=>?_;go_simp;refine k _ ?_;clear k
   refine az hG hz5 5 fun _ k=>?_;go_simp;refine k _ ?_;clear k
   (refine az hG hz5 6 fun K hK=>?_;go_simp;apply Exists.intro;refine⟨fun _=>?_,hK _ ?_⟩;exact CA.out _ (hG.but _);clear hK K)
   refine az hG hz5 7 fun _ k=>?_;go_simp;refine k _ ?_;clear k
   refine az hG hz5 8 fun _ k=>?_;go_simp;refine k _ ?_;clear k
   refine az hG hz5 9 fun _ k=>?_;go_simp;refine k _ ?_;clear k
   refine az hG hz5 10 fun _ k=>?_;go_simp;refine k _ ?_;clear k
   refine az hG hz5 11 fun _ k=>?_;go_simp;refine k _ ?_;clear k
   clear e2 y3 hG;refine JaM (by kernel_rfl) ?_
   intro v5 hv5;have HZ5:=hdz (ZT.grow hz5 hv5);have HB5:Hid (Below w.heap.size w v5):=HZ1B.out.trans ((hb5.trans (hv5.mono hb5.size)).mono HZ1B.out.size);clear hb5 hv5 hz5;have HZ5B:=hdz HB5;go_wp2;refine Jaq (fun wx:World=>ZT lo b w.heap.size who u c i S VM (.slice pv xn cv) x wx) 20 20 (by kernel_rfl) rfl ?_
   intro w8 hb8;have hz8:ZT lo b w.heap.size who u c i S VM (.slice pv xn cv) x w8:=ZT.grow HZ5.out hb8;obtain⟨G,hG⟩:=Jax (Z:=(fun wx:World=>ZT lo b w.heap.size who u c i S VM (.slice pv xn cv) x wx)) hz8 (fun {w w'} h hb=>ZT.grow h hb);have e0:∀y,(G y).cell? ⟨w.heap.size,0,none⟩=some (.int .i64 c):=fun y=>chp (hG.but y).box 0
   have e1:∀y,(G y).cell? ⟨w.heap.size,1,none⟩=some (.int .i64 i):=fun y=>chp (hG.but y).box 1
   have y0:∀y,(G y).cell? ⟨b,0,none⟩=some (.int .i64 who):=fun y=>(Jat (hG.but y).blk).1
   have y6:∀y,(G y).cell? ⟨b,6,none⟩=some (.int .i64 S.id):=fun y=>(Jat (hG.but y).blk).2.2.2.2.2.2.1
   refine az hG hz8 0 fun _ k=>?_;go_simp;refine k _ ?_;clear k
   (refine az hG hz8 1 fun K hK=>?_;go_simp;apply Exists.intro;refine⟨fun _=>?_,hK _ ?_⟩;exact CP.out _ (hG.but _);clear hK K)
   refine az hG hz8 2 fun _ k=>?_;go_simp;refine k _ ?_;clear k
   refine az hG hz8 3 fun _ k=>?_;go_simp;refine k _ ?_;clear k
   refine az hG hz8 4 fun _ k=>?_;go_simp;refine k _ ?_;clear k
   refine az hG hz8 5 fun _ k=>?_;go_simp;refine k _ ?_;clear k
   refine az hG hz8 6 fun _ k=>?_;go_simp;refine k _ ?_;clear k
   refine az hG hz8 7 fun _ k=>?_;go_simp;refine k _ ?_;clear k
   refine az hG hz8 8 fun _ k=>?_;go_simp;refine k _ ?_;clear k
   refine az hG hz8 9 fun _ k=>?_;go_simp;refine k _ ?_;clear k
   refine az hG hz8 10 fun _ k=>?_;go_simp;refine k _ ?_;clear k
   refine az hG hz8 11 fun _ k=>?_;go_simp;refine k _ ?_;clear k
   refine az hG hz8 12 fun _ k=>?_;go_simp;refine k _ ?_;clear k
   refine az hG hz8 13 fun _ k=>?_;go_simp;refine k _ ?_;clear k
   refine az hG hz8 14 fun _ k=>?_;go_simp;refine k _ ?_;clear k
   refine az hG hz8 15 fun _ k=>?_;go_simp;refine k _ ?_;clear k
   refine az hG hz8 16 fun _ k=>?_;go_simp;refine k _ ?_;clear k
   refine az hG hz8 17 fun _ k=>?_;go_simp;refine k _ ?_;clear k
   refine az hG hz8 18 fun _ k=>?_;go_simp;refine k _ ?_;clear k
   refine az hG hz8 19 fun _ k=>?_;go_simp;refine k _ ?_;clear k
   clear e0 e1 y0 y6 hG;refine JaM (by kernel_rfl) ?_
   intro v8 hv8;have HZ8:=hdz (ZT.grow hz8 hv8);have HB8:Hid (Below w.heap.size w v8):=HZ5B.out.trans ((hb8.trans (hv8.mono hb8.size)).mono HZ5B.out.size);clear hb8 hv8 hz8;have HZ8B:=hdz HB8;have x2:v8.cell? ⟨w.heap.size,2,none⟩=some (.slice pv xn cv):=chp HZ8.out.box 2
   go_wp2_with (first
    | (go_at_call 124;refine(CT.out _ HZ8.out).mono ?_;rintro e w2 ⟨rfl,hc2,hk2⟩;have HC2:=hdz hc2;have HK2:=hdz hk2;obtain⟨_,vm2,hq2,_⟩:=hc2;have z3:w2.frozen? ⟨b,3,none⟩=false:=Jak hq2;have z2:w2.frozen? ⟨b,2,none⟩=false:=Jak hq2;have y3:w2.cell? ⟨b,3,none⟩=some (.string ⟨S.seen.toArray⟩):=chp hq2 3;have y2:w2.cell? ⟨b,2,none⟩=some (.int .i64 S.rev):=chp hq2 2;clear hk2 hq2)
    | fail)
   go_ret;obtain⟨hE1,hE2⟩:=JmZ HC2.out tx (S.rev+1);exact⟨rfl,hE1,keptC.trans (Jb0 HZ8B.out hlt) (keptC.trans HK2.out hE2)⟩
theorem JiO(h:isCl lo w b who u S)(hk:okK 2000 S)(hu:Ja3 u)(c i:Int)(v:Value)(x:List Pt)(hx:opX lo w v x)(hsz:S.seen.length+Jan x<=500000)(hid:0<=S.id/\S.id<=1000000)(hrv:0<=S.rev/\S.rev<=1000000)(hG:2<lo/\3<lo)(hT:Lib.Utf8Tabs 2 3 w)(ho:ordE x S.seen=0)(hm:S.mine≠[])(hc:c≠who) :
    Calls Tryz.prog 49 #[.pointer (some ⟨b,0,none⟩),.int .i64 S.rev,.agg #[.int .i64 c,.int .i64 i,v]] w fun e w'=>e=.returned .nilIface/\isCl lo w' b who u { S with seen:=Jab x S.seen,rev:=S.rev+1,mine:=(Jbk S.mine x).1,doc:=Jab (Jbk S.mine x).2 S.doc }/\keptC w w' b:=by
 have hu0:(u==0)=false:=by rcases hu with rfl|rfl|rfl<;>rfl
 have hlt:=JbP h;obtain⟨hlo,VM,h3,h4⟩:=h;obtain⟨pv,cv,rfl⟩:=JaH hx;have hgx:=Jcl hk.text ho;have H0:Hid _:=Jec (c:=c) (i:=i) hlo h3 h4 hT hx;have CU:Hid (∀wx,ZT lo b w.heap.size who u c i S VM (.slice pv x.length cv) x wx->Calls Tryz.prog 57 #[.pointer (some ⟨b,0,none⟩)] wx fun e w'=>e=.returned (.int .i64 u)/\Below wx.heap.size wx w'):=fun wx hz=>JbY hz.cl
 have CA:Hid (∀wx,ZT lo b w.heap.size who u c i S VM (.slice pv x.length cv) x wx->Calls Tryz.prog 29 #[.slice pv x.length cv,.string ⟨S.seen.toArray⟩] wx fun e w'=>e=.returned (.tuple #[.string ⟨(Jab x S.seen).toArray⟩,.nilIface])/\Below wx.heap.size wx w'):=fun wx hz=>JfD _ x S.seen wx hz.tabs hz.op.1 hgx (by omega)
 have CP:Hid (∀wx,ZT lo b w.heap.size who u c i S VM (.slice pv x.length cv) x wx->Calls Tryz.prog 58 #[.pointer (some ⟨b,0,none⟩)] wx fun e w'=>e=.returned (.bool true)/\Below wx.heap.size wx w'):=fun wx hz=>by
  have:=Jbp hz.cl;rwa[decide_eq_true (List.length_pos_iff.2 hm)]at this
 have hc1:(c==who)=false:=beq_eq_false_iff_ne.2 hc;clear hm;have CT:Hid (∀wx,ZT lo b w.heap.size who u c i S VM (.slice pv x.length cv) x wx->Calls Tryz.prog 124 #[.pointer (some ⟨b,0,none⟩),.slice pv x.length cv] wx fun e w'=>e=.returned (.tuple #[])/\isCl lo w' b who u { S with mine:=(Jbk S.mine x).1,doc:=Jab (Jbk S.mine x).2 S.doc }/\keptC wx w' b):=fun wx hz=>Jgn hz.cl hk _ x hz.op hgx hsz hG hz.tabs
 have hrv1:wrap64 (S.rev+1)=S.rev+1:=Ja0 (by omega) (by omega);generalize hxn:x.length=xn at *;obtain⟨hr0,hr1⟩:=hrv;generalize Jab x S.seen=tx at *;clear h3 h4 hx hT hu hlo hxn hsz ho hgx hk hid hG
 . skip
   go_enter Tryz.func49,Tryz.ntmps49
   go_wp2_with (first
    | (go_at_call 57;refine(CU.out _ H0.out).mono ?_;rintro e w1 ⟨rfl,hb1⟩;have HZ1:=hdz (ZT.grow H0.out hb1);have HZ1B:Hid (Below w.heap.size w w1):=((brf _ _).alloc (nlr _) _).trans (hb1.mono (by rw[wsa];omega));have q2:w1.cell? ⟨b,2,none⟩=some (.int .i64 S.rev):=(Jat HZ1.out.blk).2.2.1;clear hb1)
    | fail)
   refine Jaq (fun wx:World=>ZT lo b w.heap.size who u c i S VM (.slice pv xn cv) x wx) 12 12 (by kernel_rfl) rfl ?_
   intro w5 hb5;have hz5:ZT lo b w.heap.size who u c i S VM (.slice pv xn cv) x w5:=ZT.grow HZ1.out hb5;obtain⟨G,hG⟩:=Jax (Z:=(fun wx:World=>ZT lo b w.heap.size who u c i S VM (.slice pv xn cv) x wx)) hz5 (fun {w w'} h hb=>ZT.grow h hb);have e2:∀y,(G y).cell? ⟨w.heap.size,2,none⟩=some (.slice pv xn cv):=fun y=>chp (hG.but y).box 2
   have y3:∀y,(G y).cell? ⟨b,3,none⟩=some (.string ⟨S.seen.toArray⟩):=fun y=>(Jat (hG.but y).blk).2.2.2.1
   refine az hG hz5 0 fun _ k=>?_;go_simp;refine k _ ?_;clear k
   refine az hG hz5 1 fun _ k=>?_;go_simp;refine k _ ?_;clear k
   refine az hG hz5 2 fun _ k=>?_;go_simp;refine k _ ?_;clear k
   refine az hG hz5 3 fun _ k=>?_;go_simp;refine k _ ?_;clear k
   refine az hG hz5 4 fun _ k=>?_;go_simp;refine k _ ?_;clear k
   refine az hG hz5 5 fun _ k=>?_;go_simp;refine k _ ?_;clear k
   (refine az hG hz5 6 fun K hK=>?_;go_simp;apply Exists.intro;refine⟨fun _=>?_,hK _ ?_⟩;exact CA.out _ (hG.but _);clear hK K)
   refine az hG hz5 7 fun _ k=>?_;go_simp;refine k _ ?_;clear k
   refine az hG hz5 8 fun _ k=>?_;go_simp;refine k _ ?_;clear k
   refine az hG hz5 9 fun _ k=>?_;go_simp;refine k _ ?_;clear k
   refine az hG hz5 10 fun _ k=>?_;go_simp;refine k _ ?_;clear k
   refine az hG hz5 11 fun _ k=>?_;go_simp;refine k _ ?_;clear k
   clear e2 y3 hG;refine JaM (by kernel_rfl) ?_
   intro v5 hv5;have HZ5:=hdz (ZT.grow hz5 hv5);have HB5:Hid (Below w.heap.size w v5):=HZ1B.out.trans ((hb5.trans (hv5.mono hb5.size)).mono HZ1B.out.size);clear hb5 hv5 hz5;have HZ5B:=hdz HB5;go_wp2;refine Jaq (fun wx:World=>ZT lo b w.heap.size who u c i S VM (.slice pv xn cv) x wx) 20 20 (by kernel_rfl) rfl ?_
   intro w8 hb8;have hz8:ZT lo b w.heap.size who u c i S VM (.slice pv xn cv) x w8:=ZT.grow HZ5.out hb8;obtain⟨G,hG⟩:=Jax (Z:=(fun wx:World=>ZT lo b w.heap.size who u c i S VM (.slice pv xn cv) x wx)) hz8 (fun {w w'} h hb=>ZT.grow h hb);have e0:∀y,(G y).cell? ⟨w.heap.size,0,none⟩=some (.int .i64 c):=fun y=>chp (hG.but y).box 0
   have e1:∀y,(G y).cell? ⟨w.heap.size,1,none⟩=some (.int .i64 i):=fun y=>chp (hG.but y).box 1
   have y0:∀y,(G y).cell? ⟨b,0,none⟩=some (.int .i64 who):=fun y=>(Jat (hG.but y).blk).1
   have y6:∀y,(G y).cell? ⟨b,6,none⟩=some (.int .i64 S.id):=fun y=>(Jat (hG.but y).blk).2.2.2.2.2.2.1
   refine az hG hz8 0 fun _ k=>?_;go_simp;refine k _ ?_;clear k
   (refine az hG hz8 1 fun K hK=>?_;go_simp;apply Exists.intro;refine⟨fun _=>?_,hK _ ?_⟩;exact CP.out _ (hG.but _);clear hK K)
   refine az hG hz8 2 fun _ k=>?_;go_simp;refine k _ ?_;clear k
   refine az hG hz8 3 fun _ k=>?_;go_simp;refine k _ ?_;clear k
   refine az hG hz8 4 fun _ k=>?_;go_simp;refine k _ ?_;clear k
   refine az hG hz8 5 fun _ k=>?_;go_simp;refine k _ ?_;clear k
   refine az hG hz8 6 fun _ k=>?_;go_simp;refine k _ ?_;clear k
   refine az hG hz8 7 fun _ k=>?_;go_simp;refine k _ ?_;clear k
   refine az hG hz8 8 fun _ k=>?_;go_simp;refine k _ ?_;clear k
   refine az hG hz8 9 fun _ k=>?_;go_simp;refine k _ ?_;clear k
   refine az hG hz8 10 fun _ k=>?_;go_simp;refine k _ ?_;clear k
   refine az hG hz8 11 fun _ k=>?_;go_simp;refine k _ ?_;clear k
   refine az hG hz8 12 fun _ k=>?_;go_simp;refine k _ ?_;clear k
   refine az hG hz8 13 fun _ k=>?_;go_simp;refine k _ ?_;clear k
   refine az hG hz8 14 fun _ k=>?_;go_simp;refine k _ ?_;clear k
   refine az hG hz8 15 fun _ k=>?_;go_simp;refine k _ ?_;clear k
   refine az hG hz8 16 fun _ k=>?_;go_simp;refine k _ ?_;clear k
   refine az hG hz8 17 fun _ k=>?_;go_simp;refine k _ ?_;clear k
   refine az hG hz8 18 fun _ k=>?_;go_simp;refine k _ ?_;clear k
   refine az hG hz8 19 fun _ k=>?_;go_simp;refine k _ ?_;clear k
   clear e0 e1 y0 y6 hG;refine JaM (by kernel_rfl) ?_
   intro v8 hv8;have HZ8:=hdz (ZT.grow hz8 hv8);have HB8:Hid (Below w.heap.size w v8):=HZ5B.out.trans ((hb8.trans (hv8.mono hb8.size)).mono HZ5B.out.size);clear hb8 hv8 hz8;have HZ8B:=hdz HB8;have x2:v8.cell? ⟨w.heap.size,2,none⟩=some (.slice pv xn cv):=chp HZ8.out.box 2
   go_wp2_with (first
    | (go_at_call 124;refine(CT.out _ HZ8.out).mono ?_;rintro e w2 ⟨rfl,hc2,hk2⟩;have HC2:=hdz hc2;have HK2:=hdz hk2;obtain⟨_,vm2,hq2,_⟩:=hc2;have z3:w2.frozen? ⟨b,3,none⟩=false:=Jak hq2;have z2:w2.frozen? ⟨b,2,none⟩=false:=Jak hq2;have y3:w2.cell? ⟨b,3,none⟩=some (.string ⟨S.seen.toArray⟩):=chp hq2 3;have y2:w2.cell? ⟨b,2,none⟩=some (.int .i64 S.rev):=chp hq2 2;clear hk2 hq2)
    | fail)
   go_ret;obtain⟨hE1,hE2⟩:=JmZ HC2.out tx (S.rev+1);exact⟨rfl,hE1,keptC.trans (Jb0 HZ8B.out hlt) (keptC.trans HK2.out hE2)⟩
theorem JpM(h:isCl lo w b who u S)(hk:okK 2000 S)(hu:Ja3 u)(c i:Int)(v:Value)(x:List Pt)(hx:opX lo w v x)(hsz:S.seen.length+Jan x<=500000)(hid:0<=S.id/\S.id<=1000000)(hrv:0<=S.rev/\S.rev<=1000000)(hG:2<lo/\3<lo)(hT:Lib.Utf8Tabs 2 3 w)(ho:ordE x S.seen=0)(hm:S.mine≠[])(hc:i≠S.id) :
    Calls Tryz.prog 49 #[.pointer (some ⟨b,0,none⟩),.int .i64 S.rev,.agg #[.int .i64 c,.int .i64 i,v]] w fun e w'=>e=.returned .nilIface/\isCl lo w' b who u { S with seen:=Jab x S.seen,rev:=S.rev+1,mine:=(Jbk S.mine x).1,doc:=Jab (Jbk S.mine x).2 S.doc }/\keptC w w' b:=by
 have hu0:(u==0)=false:=by rcases hu with rfl|rfl|rfl<;>rfl
 have hlt:=JbP h;obtain⟨hlo,VM,h3,h4⟩:=h;obtain⟨pv,cv,rfl⟩:=JaH hx;have hgx:=Jcl hk.text ho;have H0:Hid _:=Jec (c:=c) (i:=i) hlo h3 h4 hT hx;have CU:Hid (∀wx,ZT lo b w.heap.size who u c i S VM (.slice pv x.length cv) x wx->Calls Tryz.prog 57 #[.pointer (some ⟨b,0,none⟩)] wx fun e w'=>e=.returned (.int .i64 u)/\Below wx.heap.size wx w'):=fun wx hz=>JbY hz.cl
 have CA:Hid (∀wx,ZT lo b w.heap.size who u c i S VM (.slice pv x.length cv) x wx->Calls Tryz.prog 29 #[.slice pv x.length cv,.string ⟨S.seen.toArray⟩] wx fun e w'=>e=.returned (.tuple #[.string ⟨(Jab x S.seen).toArray⟩,.nilIface])/\Below wx.heap.size wx w'):=fun wx hz=>JfD _ x S.seen wx hz.tabs hz.op.1 hgx (by omega)
 have CP:Hid (∀wx,ZT lo b w.heap.size who u c i S VM (.slice pv x.length cv) x wx->Calls Tryz.prog 58 #[.pointer (some ⟨b,0,none⟩)] wx fun e w'=>e=.returned (.bool true)/\Below wx.heap.size wx w'):=fun wx hz=>by
  have:=Jbp hz.cl;rwa[decide_eq_true (List.length_pos_iff.2 hm)]at this
 have hc1:(i==S.id)=false:=beq_eq_false_iff_ne.2 hc
 by_cases hw:c=who
 case neg=>exact JiO ⟨hlo,VM,h3,h4⟩ hk (by assumption) c i _ x hx hsz hid hrv hG hT ho hm hw
 have hw1:(c==who)=true:=by rw[hw];exact beq_self_eq_true _
 clear hm hw;have CT:Hid (∀wx,ZT lo b w.heap.size who u c i S VM (.slice pv x.length cv) x wx->Calls Tryz.prog 124 #[.pointer (some ⟨b,0,none⟩),.slice pv x.length cv] wx fun e w'=>e=.returned (.tuple #[])/\isCl lo w' b who u { S with mine:=(Jbk S.mine x).1,doc:=Jab (Jbk S.mine x).2 S.doc }/\keptC wx w' b):=fun wx hz=>Jgn hz.cl hk _ x hz.op hgx hsz hG hz.tabs
 have hrv1:wrap64 (S.rev+1)=S.rev+1:=Ja0 (by omega) (by omega);generalize hxn:x.length=xn at *;obtain⟨hr0,hr1⟩:=hrv;generalize Jab x S.seen=tx at *;clear h3 h4 hx hT hu hlo hxn hsz ho hgx hk hid hG
 . skip
   go_enter Tryz.func49,Tryz.ntmps49
   go_wp2_with (first
    | (go_at_call 57;refine(CU.out _ H0.out).mono ?_;rintro e w1 ⟨rfl,hb1⟩;have HZ1:=hdz (ZT.grow H0.out hb1);have HZ1B:Hid (Below w.heap.size w w1):=((brf _ _).alloc (nlr _) _).trans (hb1.mono (by rw[wsa];omega));have q2:w1.cell? ⟨b,2,none⟩=some (.int .i64 S.rev):=(Jat HZ1.out.blk).2.2.1;clear hb1)
    | fail)
   refine Jaq (fun wx:World=>ZT lo b w.heap.size who u c i S VM (.slice pv xn cv) x wx) 12 12 (by kernel_rfl) rfl ?_
   intro w5 hb5;have hz5:ZT lo b w.heap.size who u c i S VM (.slice pv xn cv) x w5:=ZT.grow HZ1.out hb5;obtain⟨G,hG⟩:=Jax (Z:=(fun wx:World=>ZT lo b w.heap.size who u c i S VM (.slice pv xn cv) x wx)) hz5 (fun {w w'} h hb=>ZT.grow h hb);have e2:∀y,(G y).cell? ⟨w.heap.size,2,none⟩=some (.slice pv xn cv):=fun y=>chp (hG.but y).box 2
   have y3:∀y,(G y).cell? ⟨b,3,none⟩=some (.string ⟨S.seen.toArray⟩):=fun y=>(Jat (hG.but y).blk).2.2.2.1
   refine az hG hz5 0 fun _ k=>?_;go_simp;refine k _ ?_;clear k
   refine az hG hz5 1 fun _ k=>?_;go_simp;refine k _ ?_;clear k
   refine az hG hz5 2 fun _ k=>?_;go_simp;refine k _ ?_;clear k
   refine az hG hz5 3 fun _ k=>?_;go_simp;refine k _ ?_;clear k
   refine az hG hz5 4 fun _ k=>?_;go_simp;refine k _ ?_;clear k
   refine az hG hz5 5 fun _ k=>?_;go_simp;refine k _ ?_;clear k
   (refine az hG hz5 6 fun K hK=>?_;go_simp;apply Exists.intro;refine⟨fun _=>?_,hK _ ?_⟩;exact CA.out _ (hG.but _);clear hK K)
   refine az hG hz5 7 fun _ k=>?_;go_simp;refine k _ ?_;clear k
   refine az hG hz5 8 fun _ k=>?_;go_simp;refine k _ ?_;clear k
   refine az hG hz5 9 fun _ k=>?_;go_simp;refine k _ ?_;clear k
   refine az hG hz5 10 fun _ k=>?_;go_simp;refine k _ ?_;clear k
   refine az hG hz5 11 fun _ k=>?_;go_simp;refine k _ ?_;clear k
   clear e2 y3 hG;refine JaM (by kernel_rfl) ?_
   intro v5 hv5;have HZ5:=hdz (ZT.grow hz5 hv5);have HB5:Hid (Below w.heap.size w v5):=HZ1B.out.trans ((hb5.trans (hv5.mono hb5.size)).mono HZ1B.out.size);clear hb5 hv5 hz5;have HZ5B:=hdz HB5;go_wp2;refine Jaq (fun wx:World=>ZT lo b w.heap.size who u c i S VM (.slice pv xn cv) x wx) 20 20 (by kernel_rfl) rfl ?_
   intro w8 hb8;have hz8:ZT lo b w.heap.size who u c i S VM (.slice pv xn cv) x w8:=ZT.grow HZ5.out hb8;obtain⟨G,hG⟩:=Jax (Z:=(fun wx:World=>ZT lo b w.heap.size who u c i S VM (.slice pv xn cv) x wx)) hz8 (fun {w w'} h hb=>ZT.grow h hb);have e0:∀y,(G y).cell? ⟨w.heap.size,0,none⟩=some (.int .i64 c):=fun y=>chp (hG.but y).box 0
   have e1:∀y,(G y).cell? ⟨w.heap.size,1,none⟩=some (.int .i64 i):=fun y=>chp (hG.but y).box 1
   have y0:∀y,(G y).cell? ⟨b,0,none⟩=some (.int .i64 who):=fun y=>(Jat (hG.but y).blk).1
   have y6:∀y,(G y).cell? ⟨b,6,none⟩=some (.int .i64 S.id):=fun y=>(Jat (hG.but y).blk).2.2.2.2.2.2.1
   refine az hG hz8 0 fun _ k=>?_;go_simp;refine k _ ?_;clear k
   (refine az hG hz8 1 fun K hK=>?_;go_simp;apply Exists.intro;refine⟨fun _=>?_,hK _ ?_⟩;exact CP.out _ (hG.but _);clear hK K)
   refine az hG hz8 2 fun _ k=>?_;go_simp;refine k _ ?_;clear k
   refine az hG hz8 3 fun _ k=>?_;go_simp;refine k _ ?_;clear k
   refine az hG hz8 4 fun _ k=>?_;go_simp;refine k _ ?_;clear k
   refine az hG hz8 5 fun _ k=>?_;go_simp;refine k _ ?_;clear k
   refine az hG hz8 6 fun _ k=>?_;go_simp;refine k _ ?_;clear k
   refine az hG hz8 7 fun _ k=>?_;go_simp;refine k _ ?_;clear k
   refine az hG hz8 8 fun _ k=>?_;go_simp;refine k _ ?_;clear k
   refine az hG hz8 9 fun _ k=>?_;go_simp;refine k _ ?_;clear k
   refine az hG hz8 10 fun _ k=>?_;go_simp;refine k _ ?_;clear k
   refine az hG hz8 11 fun _ k=>?_;go_simp;refine k _ ?_;clear k
   refine az hG hz8 12 fun _ k=>?_;go_simp;refine k _ ?_;clear k
   refine az hG hz8 13 fun _ k=>?_;go_simp;refine k _ ?_;clear k
   refine az hG hz8 14 fun _ k=>?_;go_simp;refine k _ ?_;clear k
   refine az hG hz8 15 fun _ k=>?_;go_simp;refine k _ ?_;clear k
   refine az hG hz8 16 fun _ k=>?_;go_simp;refine k _ ?_;clear k
   refine az hG hz8 17 fun _ k=>?_;go_simp;refine k _ ?_;clear k
   refine az hG hz8 18 fun _ k=>?_;go_simp;refine k _ ?_;clear k
   refine az hG hz8 19 fun _ k=>?_;go_simp;refine k _ ?_;clear k
   clear e0 e1 y0 y6 hG;refine JaM (by kernel_rfl) ?_
   intro v8 hv8;have HZ8:=hdz (ZT.grow hz8 hv8);have HB8:Hid (Below w.heap.size w v8):=HZ5B.out.trans ((hb8.trans (hv8.mono hb8.size)).mono HZ5B.out.size);clear hb8 hv8 hz8;have HZ8B:=hdz HB8;have x2:v8.cell? ⟨w.heap.size,2,none⟩=some (.slice pv xn cv):=chp HZ8.out.box 2
   go_wp2_with (first
    | (go_at_call 124;refine(CT.out _ HZ8.out).mono ?_;rintro e w2 ⟨rfl,hc2,hk2⟩;have HC2:=hdz hc2;have HK2:=hdz hk2;obtain⟨_,vm2,hq2,_⟩:=hc2;have z3:w2.frozen? ⟨b,3,none⟩=false:=Jak hq2;have z2:w2.frozen? ⟨b,2,none⟩=false:=Jak hq2;have y3:w2.cell? ⟨b,3,none⟩=some (.string ⟨S.seen.toArray⟩):=chp hq2 3;have y2:w2.cell? ⟨b,2,none⟩=some (.int .i64 S.rev):=chp hq2 2;clear hk2 hq2)
    | fail)
   go_ret;obtain⟨hE1,hE2⟩:=JmZ HC2.out tx (S.rev+1);exact⟨rfl,hE1,keptC.trans (Jb0 HZ8B.out hlt) (keptC.trans HK2.out hE2)⟩
theorem JnO(h:isCl lo w b who u S)(hk:okK 2000 S)(hu:Ja3 u)(rev c i:Int)(v:Value)(x:List Pt)(hx:opX lo w v x)(hwf:∀p∈x,wfP p)(hpu:Jan x<=400000)(hl:x.length<=1000000)(hsz:S.seen.length<=100000)(hid:0<=S.id/\S.id<=1000000)(hrv:0<=S.rev/\S.rev<=1000000)(hG:2<lo/\3<lo)(hT:Lib.Utf8Tabs 2 3 w) :
    Calls Tryz.prog 49 #[.pointer (some ⟨b,0,none⟩),.int .i64 rev,.agg #[.int .i64 c,.int .i64 i,v]] w fun e w'=>e=.returned (errV (tkE who S rev c i x))/\isCl lo w' b who u (tkS who S rev c i x)/\keptC w w' b:=by
 have hlt:=JbP h
 by_cases hr:rev=S.rev
 case neg =>
  have e1:tkE who S rev c i x=0:=if_pos hr;have e2:tkS who S rev c i x=S:=if_pos (.inl hr);rw[e1,e2];refine(JnL h hu rev c i v x hx hT hr).mono ?_
  rintro e w' ⟨rfl,hb⟩;exact⟨rfl,JaZ h hb,Jb0 hb hlt⟩
 subst hr
 by_cases ho:ordE x S.seen=0
 case neg =>
  have e1:tkE who S S.rev c i x=15:=by unfold tkE;rw[if_neg (by simp),if_pos ho]
  have e2:tkS who S S.rev c i x=S:=if_pos (.inr (by rw[e1];decide));rw[e1,e2];refine(JnN h hu c i v x hx hwf hpu hl hsz hT ho).mono ?_
  rintro e w' ⟨rfl,hb⟩;exact⟨rfl,JaZ h hb,Jb0 hb hlt⟩
 have hsp:S.seen.length+Jan x<=500000:=by omega
 by_cases hw:JkA who S c i
 case pos =>
  by_cases hd:Jab (JbB S) S.seen=Jab x S.seen
  . have e1:tkE who S S.rev c i x=0:=by unfold tkE;rw[if_neg (by simp),if_neg (by simpa using ho),if_neg fun e=>e.2 hd]
    have e2:tkS who S S.rev c i x = { S with seen:=Jab x S.seen,rev:=S.rev+1,mine:=S.mine.tail,id:=if S.mine.tail≠[] then S.id+1 else S.id }:=by unfold tkS;rw[if_neg (by rw[e1];simp),if_pos hw]
    rw[e1,e2];obtain⟨hm,rfl,rfl⟩:=hw;exact JnM h hk hu v x hx hsp hid hrv hG hT ho hm hd
  . have e1:tkE who S S.rev c i x=15:=by unfold tkE;rw[if_neg (by simp),if_neg (by simpa using ho),if_pos ⟨hw,hd⟩]
    have e2:tkS who S S.rev c i x=S:=if_pos (.inr (by rw[e1];decide));rw[e1,e2];obtain⟨hm,rfl,rfl⟩:=hw;refine(Jmj h hk hu v x hx hsp hid hrv hG hT ho hm hd).mono ?_
    rintro e w' ⟨rfl,hb⟩;exact⟨rfl,JaZ h hb,Jb0 hb hlt⟩
 case neg =>
  have e1:tkE who S S.rev c i x=0:=by unfold tkE;rw[if_neg (by simp),if_neg (by simpa using ho),if_neg fun e=>hw e.1]
  have e2:tkS who S S.rev c i x = { S with seen:=Jab x S.seen,rev:=S.rev+1,mine:=(Jbk S.mine x).1,doc:=Jab (Jbk S.mine x).2 S.doc }:=by unfold tkS;rw[if_neg (by rw[e1];simp),if_neg hw]
  rw[e1,e2]
  by_cases hm:S.mine=[]
  . exact Jmi h hk hu c i v x hx hsp hid hrv hG hT ho hm
  by_cases hc:c=who
  . by_cases hi:i=S.id
    . exact absurd ⟨hm,hc,hi⟩ hw
    . exact JpM h hk hu c i v x hx hsp hid hrv hG hT ho hm hi
  . exact JiO h hk hu c i v x hx hsp hid hrv hG hT ho hm hc
end
section
open Go.RowKit Go.Maps
attribute [local go_sem] Oper.semAt_some Ja2 JaV
variable {w : World}{lo b : Nat}{who u : Int}{S : Cl}
def JcS (s:List UInt8):Cl:=⟨s,s,0,0,0,[]⟩
theorem Jpk{s:List UInt8}(h:V s):okK 2000 (JcS s):=⟨h,trivial,rfl,by simp[JcS],fun m hm=>by cases hm⟩
theorem JnQ(who:Int)(lo:Nat)(u:Nat)(hu:Joq u)(rs:List Nat)(hR:∀r∈rs,Jaw r)(hz:C1 rs<=8000)(w:World)(hlo:lo<=w.heap.size)(hT:Lib.Utf8Tabs 2 3 w):Calls Tryz.prog 46 #[.int .i64 who,.int .i64 (u:Int),.string ⟨(encs rs).toArray⟩] w fun e w'=>∃b,e=.returned (.tuple #[.pointer (some ⟨b,0,none⟩),.nilIface])/\isCl lo w' b who (u:Int) (JcS (encs rs))/\w.heap.size<=b/\Below w.heap.size w w'/\∀x,ownC w' b x->x=b:=by
 have cN:Hid (Calls Tryz.prog 25 #[.int .i64 (u:Int),.string ⟨(encs rs).toArray⟩] w fun e w'=>∃b,e=.returned (.tuple #[.pointer (some ⟨b,0,none⟩),.nilIface])/\Below w.heap.size w w'):=(Jiw u hu rs hR hz w hT).mono fun e w' ⟨b,h1,_,_,h2⟩=>⟨b,h1,h2⟩
 have hc1:(encs rs).length=C1 rs:=(JbU rs).symm;have CL:Hid (∀wx,Calls Tryz.prog 112 #[.string ⟨(encs rs).toArray⟩] wx fun e w'=>e=.returned (.string ⟨(encs rs).toArray⟩)/\Below wx.heap.size wx w'):=fun wx=>JeV (encs rs) (by omega) wx
 have HLO:Hid (lo<=w.heap.size):=hlo;generalize encs rs=s at *;clear hT hz hlo hu hR hc1
 go_enter Tryz.func46,Tryz.ntmps46
 go_wp2_with (first
  | (go_at_call 25;refine Calls.mono cN.out ?_;rintro e w1 ⟨b1,rfl,hb1⟩;have HB1:=hdz hb1;clear hb1)
  | (go_at_call 112;refine(CL.out _).mono ?_;rintro e w2 ⟨rfl,hb2⟩;have HB2:=hdz (HB1.out.trans (hb2.mono HB1.out.size));clear hb2)
  | fail)
 go_ret2
 have hl:=HLO.out;have hs:=HB2.out.size;refine⟨w2.heap.size,rfl,⟨by omega,.slice none 0 0,heap_alloc_new _ _,JiE _ _⟩,hs,HB2.out.alloc hs _,fun x hx=>?_⟩
 rcases hx with e|⟨vm,e,hk⟩
 . exact e
 . rw[chp (heap_alloc_new w2 _) 4]at e
   have e:some (Value.slice none 0 0)=some vm:=e;rw[←osi e]at hk
   cases hk
theorem Ji9{p:Option Addr}{n c:Nat}{ps:List Pt}(h:opAt w (.slice p n c) ps):n=ps.length/\(ps≠[]->∃a,p=some a/\∀j u,(Jag ps)[j]?=some u->w.cell? (a.add j)=some u):=by
 obtain⟨p',c',e,_,_,h3⟩:=h;injection e with e1 e2 e3
 subst e1;refine⟨e2,fun hne=>?_⟩;obtain⟨b,o,rfl,_,h4⟩:=h3 hne;refine⟨⟨b,o,none⟩,rfl,fun j u hj=>?_⟩;have hjl:=(llt hj);rw[Jdr]at hjl;have hk:j / 3<ps.length:=by omega
 have hm:=Nat.div_add_mod j 3;have hm3:=Nat.mod_lt j (show 0<3 by decide);have hg:=JeX ps (j / 3) ps[j / 3] (lgg hk) (j % 3) hm3;rw[show j / 3*3+j % 3=j by omega,hj]at hg;obtain⟨f1,f2,f3⟩:=h4 (j / 3) _ (lgg hk);have e3:o+j / 3*3+j % 3=o+j:=by omega
 have ea:(⟨b,o,none⟩:Addr).add j=⟨b,o+j / 3*3+j % 3,none⟩:=by rw[e3];simp[Addr.add]
 rw[ea];generalize j % 3=r at *
 rcases r with _|_|_|r
 . rw[Nat.add_zero,f1];exact hg.symm ▸ rfl
 . rw[f2];exact hg.symm ▸ rfl
 . rw[f3];exact hg.symm ▸ rfl
 . omega
theorem JnS(ps:List Pt):∀u∈Jag ps,u.oneCell'=true:=fun u hu=>by
 obtain⟨p,_,hp⟩:=List.mem_flatMap.1 hu;exact JaD p u hp
theorem slNil(c:Nat)(w:World):(binOp .eql 23 (.slice none 0 c) (.slice none 0 0)).run Tryz.prog w=.ok (.bool true) w:=by kernel_rfl
theorem slSome(a:Addr)(n c:Nat)(w:World):(binOp .eql 23 (.slice (some a) n c) (.slice none 0 0)).run Tryz.prog w=.ok (.bool false) w:=by kernel_rfl
attribute [local go_sem] slNil slSome
theorem Jmh(v:Value)(ps:List Pt)(w:World)(h:opAt w v ps)(hl:ps.length<=1000000):Calls Tryz.prog 126 #[v] w fun e w'=>∃v',e=.returned v'/\opN w.heap.size w' v' ps/\Below w.heap.size w w':=by
 obtain⟨p,c,rfl⟩:∃p c,v=.slice p ps.length c:=by obtain⟨p,c,e,_⟩:=h;exact⟨p,c,e⟩
 rcases p with _|a
 . have hps:ps=[]:=by
     by_cases e:ps=[]
     . exact e
     . obtain⟨a,e2,_⟩:=(Ji9 h).2 e;cases e2
   subst hps;clear h
   go_enter Tryz.func126,Tryz.ntmps126
   go_wp2;go_ret;exact⟨_,rfl,Jen _ _,brf _ _⟩
 . have HA:Hid (∀j u,(Jag ps)[j]?=some u->w.cell? (a.add j)=some u):=by
     intro j u hj;have hne:ps≠[]:=fun e=>by subst e;simp[Jag]at hj
     obtain⟨a',e,h2⟩:=(Ji9 h).2 hne;injection e with e;subst e
     exact h2 j u hj
   have HLT:Hid (ps≠[]->a.block<w.heap.size):=fun hne=>by
    obtain⟨p',c',e,_,_,h3⟩:=h;injection e with e1 _ _
    obtain⟨b,o,e2,h5,_⟩:=h3 hne;rw[←e1]at e2;injection e2 with e2;subst e2;exact h5
   obtain⟨i0,hi,hz0,hz1,hz2⟩:=info_parts JbT;have HI:=hdz hi;have HZ0:=hdz hz0;have HZ1:=hdz hz1;have HZ2:=hdz hz2;obtain⟨n,hn⟩:∃n,ps.length=n:=⟨_,rfl⟩;have HN:Hid (ps.length=n):=hn;rw[hn]at hl ⊢;clear h hi hz0 hz1 hz2 hn
   go_enter Tryz.func126,Tryz.ntmps126
   go_wp2_with (first
    | (at_builtin;have hrow:(w.alloc (.cells #[] 50)).ownsRow w.heap.size 50 3 (.slice (some ⟨w.heap.size,0,none⟩) 0 0) 0 []:=World.ownsRow_lit (e:=50) (base:=w.heap.size) (size:=3) w #[] 0 (nlr _) (by unfold maxLen;omega) rfl;refine wpList_append_own _ rfl _ _ 23 rfl w.heap.size 50 i0 (.agg #[.int .i64 0,.int .i64 0,.string ⟨#[]⟩]) 3 32 Tryz.underlying23 HI.out HZ0.out HZ1.out HZ2.out rfl (by decide) _ _ _ rfl hrow a n c (Jag ps) rfl (by rw[Jdr,HN.out]) (fun j u hj=>?_) (JnS _) (by unfold maxLen;omega) (by omega) (by simp) ?_)
    | fail)
   . skip
     have hne:ps≠[]:=fun e=>by subst e;simp[Jag]at hj
     exact(World.cell?_alloc_lt _ _ (a.add j) (by have:=HLT.out hne;simp only[Addr.add];split<;>exact this)).trans (HA.out j u hj)
   intro v' w' hown' hg' _;obtain⟨p',c',rfl⟩:=Jad hown';have HB9:Hid (Below w.heap.size w w'):=((brf _ _).alloc (nlr _) _).grown hg' (by simp) fun j hj=>by obtain rfl:=osi hj;exact nlr _
   have HO9:Hid (opN w.heap.size w' (.slice p' n c') ps):=Jfl (nlr _) (by rw[HN.out];simpa using hown');clear hown' hg';go_wp2;go_ret;exact⟨_,rfl,HO9.out,HB9.out⟩
structure ZA (lo b:Nat) (who u:Int) (S:Cl) (VM:Value) (g:Nat) (p0:Option Addr) (k0 c0:Nat) (m0:List Pt) (wx:World):Prop where
 blk:wx.heap[b]?=some (.cells (JaO who u S VM) 203 (0,0))
 lt:g<wx.heap.size
 cel:wx.cell? ⟨g,0,none⟩=some (.slice p0 k0 c0)
 op0:opX lo wx (.slice p0 k0 c0) m0
theorem ZA.grow{VM:Value}{g:Nat}{p0:Option Addr}{k0 c0:Nat}{m0:List Pt}{w':World}(h:ZA lo b who u S VM g p0 k0 c0 m0 w)(hb:Below w.heap.size w w'):ZA lo b who u S VM g p0 k0 c0 m0 w' :=
 ⟨(hb.block b (alt h.blk)).trans h.blk,Nat.lt_of_lt_of_le h.lt hb.size,(hb.cell (p:=⟨g,0,none⟩) h.lt).trans h.cel,Ja5 h.op0 hb⟩
theorem Jmn(h:isCl lo w b who u S)(hm:S.mine=[]) :
    Calls Tryz.prog 53 #[.pointer (some ⟨b,0,none⟩)] w fun e w'=>e=.returned (.tuple #[.int .i64 0,.int .i64 S.rev,.slice none 0 0,.bool false])/\Below w.heap.size w w':=by
 have CP:Hid _:=Jbp h;rw[show decide (0<S.mine.length)=false by rw[hm];rfl]at CP;have HC:=hdz h;clear h hm
 go_enter Tryz.func53,Tryz.ntmps53
 go_wp2_with (first
  | (go_at_call 58;refine Calls.mono CP.out ?_;rintro e w1 ⟨rfl,hb1⟩;have HB1:=hdz hb1;clear hb1)
  | (go_at_call 56;refine(JkT (JaZ HC.out HB1.out)).mono ?_;rintro e w2 ⟨rfl,hb2⟩;have HB2:=hdz (HB1.out.trans (hb2.mono HB1.out.size));clear hb2)
  | fail)
 refine bodyPost_ret (v:=.tuple #[.int .i64 0,.int .i64 S.rev,.slice none 0 0,.bool false]) (by simp[results,Tryz.results53,go_sem]) rfl ⟨rfl,HB2.out⟩
theorem Jmm(h:isCl lo w b who u S)(hm:S.mine≠[])(hl:(JbB S).length<=1000000) :
    Calls Tryz.prog 53 #[.pointer (some ⟨b,0,none⟩)] w fun e w'=>∃v',e=.returned (.tuple #[.int .i64 S.id,.int .i64 S.rev,v',.bool true])/\(∀lo',opX lo' w' v' (JbB S))/\Below w.heap.size w w':=by
 have CP:Hid _:=Jbp h;rw[decide_eq_true (List.length_pos_iff.2 hm)]at CP;obtain⟨hlo,VM,h3,h4⟩:=h;obtain⟨g,cc,p0,k0,c0,rfl,⟨hcn,hcm⟩,hgl,hce,hop⟩:=Jhy h4 hm;unfold maxLen at hcm;have hop:opX lo w (.slice p0 k0 c0) (JbB S):=hop;have H0:Hid _:=(⟨h3,hgl,hce,hop⟩:ZA lo b who u S (.slice (some ⟨g,0,none⟩) S.mine.length cc) g p0 k0 c0 (JbB S) w);have CK:Hid (∀wx,opAt wx (.slice p0 k0 c0) (JbB S)->Calls Tryz.prog 126 #[.slice p0 k0 c0] wx fun e w'=>∃v',e=.returned v'/\opN wx.heap.size w' v' (JbB S)/\Below wx.heap.size wx w'):=fun wx ho=>Jmh _ _ wx ho hl
 have hmn:=List.length_pos_iff.2 hm;have hmi:(0:Int)<(S.mine.length:Int):=by omega
 generalize JbB S=m0 at *;obtain⟨n,hn⟩:∃n,S.mine.length=n:=⟨_,rfl⟩;rw[hn]at hcn hmi hmn H0;clear h3 h4 hm hl hgl hce hop hlo hn
 go_enter Tryz.func53,Tryz.ntmps53
 go_wp2_with (first
  | (go_at_call 58;refine Calls.mono CP.out ?_;rintro e w1 ⟨rfl,hb1⟩;have HB1:=hdz hb1;have HZ1:Hid (ZA lo b who u S (.slice (some ⟨g,0,none⟩) n cc) g p0 k0 c0 m0 w1):=ZA.grow H0.out hb1;clear hb1)
  | fail)
 refine Jaq (fun wx:World=>ZA lo b who u S (.slice (some ⟨g,0,none⟩) n cc) g p0 k0 c0 m0 wx) 19 19 (by kernel_rfl) rfl ?_
 intro w30 hb30;have hb2A:=HB1.out.trans (hb30.mono HB1.out.size);have hz1:ZA lo b who u S (.slice (some ⟨g,0,none⟩) n cc) g p0 k0 c0 m0 w30:=ZA.grow HZ1.out hb30;obtain⟨G,hG⟩:=Jax (Z:=fun wx:World=>ZA lo b who u S (.slice (some ⟨g,0,none⟩) n cc) g p0 k0 c0 m0 wx) hz1 (fun {w w'} h hb=>ZA.grow h hb);have y6:∀y,(G y).cell? ⟨b,6,none⟩=some (.int .i64 S.id):=fun y=>(Jat (hG.but y).blk).2.2.2.2.2.2.1
 have y2:∀y,(G y).cell? ⟨b,2,none⟩=some (.int .i64 S.rev):=fun y=>(Jat (hG.but y).blk).2.2.1
 have y4:∀y,(G y).cell? ⟨b,4,none⟩=some (.slice (some ⟨g,0,none⟩) n cc):=fun y=>(Jat (hG.but y).blk).2.2.2.2.1
 have yg:∀y,(G y).cell? ⟨g,0,none⟩=some (.slice p0 k0 c0):=fun y=>(hG.but y).cel
 refine az hG hz1 0 fun _ k=>?_;go_simp;refine k _ ?_;clear k
 refine az hG hz1 1 fun _ k=>?_;go_simp;refine k _ ?_;clear k
 refine az hG hz1 2 fun _ k=>?_;go_simp;refine k _ ?_;clear k
 refine az hG hz1 3 fun _ k=>?_;go_simp;refine k _ ?_;clear k
 refine az hG hz1 4 fun _ k=>?_;go_simp;refine k _ ?_;clear k
 refine az hG hz1 5 fun _ k=>?_;go_simp;refine k _ ?_;clear k
 refine az hG hz1 6 fun _ k=>?_;go_simp;refine k _ ?_;clear k
 refine az hG hz1 7 fun _ k=>?_;go_simp;refine k _ ?_;clear k
 refine az hG hz1 8 fun _ k=>?_;go_simp;refine k _ ?_;clear k
 refine az hG hz1 9 fun _ k=>?_;go_simp;refine k _ ?_;clear k
 refine az hG hz1 10 fun _ k=>?_;go_simp;refine k _ ?_;clear k
 refine az hG hz1 11 fun _ k=>?_;go_simp;refine k _ ?_;clear k
 refine az hG hz1 12 fun _ k=>?_;go_simp;refine k _ ?_;clear k
 refine az hG hz1 13 fun _ k=>?_;go_simp;refine k _ ?_;clear k
 clear y6 y2 y4 yg;refine JaF (i:=14) (by kernel_rfl) ⟨_,rfl,?_⟩;intro w31 hb31 K hK
 go_simp
 have hb2B:=hb2A.trans (hb31.mono hb2A.size);have hzB:=ZA.grow hz1 hb31;refine(CK.out w31 hzB.op0.1).mono ?_
 rintro e w3 ⟨v',rfl,hn3,hb3⟩;obtain⟨p3,c3,rfl⟩:=Jd4 hn3;refine⟨_,rfl,hK _ _ (fun _=>ZA.grow hzB hb3) ?_⟩;have hz2:=ZA.grow hzB hb3;clear hK K hz1;refine az hG hz2 15 fun _ k=>?_;go_simp;refine k _ ?_;clear k
 refine az hG hz2 16 fun _ k=>?_;go_simp;refine k _ ?_;clear k
 refine az hG hz2 17 fun _ k=>?_;go_simp;refine k _ ?_;clear k
 refine az hG hz2 18 fun _ k=>?_;go_simp;refine k _ ?_;clear k
 clear hG hz2;refine JaM (by kernel_rfl) ?_
 intro w4 hb4;have hb44:=hb2B.trans (hb3.mono hb2B.size);have HB4:Hid (Below w.heap.size w w4):=hb44.trans (hb4.mono hb44.size);have HN4:Hid (∀lo',opX lo' w4 (.slice p3 m0.length c3) m0):=fun lo'=>Ja5 (JbF hn3) hb4
 clear hb30 hb31 hb3 hb4 hb44 hb2A hb2B hn3 hzB;go_wp2;refine bodyPost_ret (v:=.tuple #[.int .i64 S.id,.int .i64 S.rev,.slice p3 m0.length c3,.bool true]) (by simp[results,Tryz.results53,go_sem]) rfl ⟨_,rfl,HN4.out,HB4.out⟩
end
section
open Go.RowKit Go.Maps
attribute [local go_sem] Oper.semAt_some Ja2 JaV
variable {lo bmx r bx : Nat}{w w' : World}{bs : List Nat}{R : Rm}{l0 n : Int}{D : List (List UInt8)}
structure Env (lo:Nat) (w:World):Prop where
 lay:JcM w
 tabs:Lib.Utf8Tabs 2 3 w
 g1:0<lo
 g2:2<lo/\3<lo
theorem Env.below(h:Env lo w)(hb:Below w.heap.size w w'):Env lo w':=⟨JeH h.lay hb,Go.Proofs.Utf8Tabs_below h.tabs hb,h.g1,h.g2⟩
theorem Env.same{lo:Nat}{w w':World}{X:Nat->Prop}(h:Env lo w)(hs:sameBut w w' X)(hX:∀k,X k->lo<=k):Env lo w' :=
 ⟨JhL h.lay hs fun e=>absurd (hX _ e) (Nat.not_le.2 h.g1),Jfy h.tabs hs (fun e=>absurd (hX _ e) (Nat.not_le.2 h.g2.1)) fun e=>absurd (hX _ e) (Nat.not_le.2 h.g2.2),h.g1,h.g2⟩
theorem Env.room(h:Env lo w)(hs:sameBut w w' (Jbg lo w bmx)):Env lo w':=h.same hs fun k e=>e.1
theorem Jgh{x:List Pt}{t:List UInt8}(h:good x t)(h1:t.length<=10000)(h2:Jan x<=10000):(∀p∈x,wfP p)/\x.length<=20000:=by
 refine⟨h.wf (by omega),?_⟩;have h3:=Jj6 x h.one;rw[h.wt]at h3;omega
structure ZB (r β g:Nat) (Br Bβ Bg:Obj) (wx:World):Prop where
 b1:wx.heap[r]?=some Br
 b2:wx.heap[β]?=some Bβ
 b3:wx.heap[g]?=some Bg
theorem ZB.grow{β g:Nat}{Br Bβ Bg:Obj}(h:ZB r β g Br Bβ Bg w)(hb:Below w.heap.size w w'):ZB r β g Br Bβ Bg w' :=
 ⟨(hb.block r (alt h.b1)).trans h.b1,(hb.block β (alt h.b2)).trans h.b2,(hb.block g (alt h.b3)).trans h.b3⟩
theorem ZB.same{r β g:Nat}{Br Bβ Bg:Obj}{w w':World}{X:Nat->Prop}(h:ZB r β g Br Bβ Bg w)(hs:sameBut w w' X)(n1:¬X r)(n2:¬X β)(n3:¬X g):ZB r β g Br Bβ Bg w' :=
 ⟨(hs.2 r (alt h.b1) n1).trans h.b1,(hs.2 β (alt h.b2) n2).trans h.b2,(hs.2 g (alt h.b3) n3).trans h.b3⟩
theorem Jm7(h:isRoom lo w r bx bmx bs R)(p:Pk){pv:Option Addr}{cv:Nat}(hx:opX lo w (.slice pv p.x.op.length cv) p.x.op) :
    isRoom lo (w.alloc (.cells #[.int .i64 p.kind,.int .i64 (p.c:Int),.int .i64 p.rev,.int .i64 p.id,.int .i64 p.x.c,.int .i64 p.x.i,.slice pv p.x.op.length cv] 219)) r bx bmx bs R/\opX lo (w.alloc (.cells #[.int .i64 p.kind,.int .i64 (p.c:Int),.int .i64 p.rev,.int .i64 p.id,.int .i64 p.x.c,.int .i64 p.x.i,.slice pv p.x.op.length cv] 219)) (.slice pv p.x.op.length cv) p.x.op /\
     Below w.heap.size w (w.alloc (.cells #[.int .i64 p.kind,.int .i64 (p.c:Int),.int .i64 p.rev,.int .i64 p.id,.int .i64 p.x.c,.int .i64 p.x.i,.slice pv p.x.op.length cv] 219))/\(w.alloc (.cells #[.int .i64 p.kind,.int .i64 (p.c:Int),.int .i64 p.rev,.int .i64 p.id,.int .i64 p.x.c,.int .i64 p.x.i,.slice pv p.x.op.length cv] 219)).heap[w.heap.size]?=some (.cells #[.int .i64 p.kind,.int .i64 (p.c:Int),.int .i64 p.rev,.int .i64 p.id,.int .i64 p.x.c,.int .i64 p.x.i,.slice pv p.x.op.length cv] 219 (0,0)):=by
 have hb:Below w.heap.size w (w.alloc (.cells #[.int .i64 p.kind,.int .i64 (p.c:Int),.int .i64 p.rev,.int .i64 p.id,.int .i64 p.x.c,.int .i64 p.x.i,.slice pv p.x.op.length cv] 219)):=(brf _ _).alloc (nlr _) _;exact⟨Jap h hb,Ja5 hx hb,hb,heap_alloc_new _ _⟩
theorem Jcy(h:isRoom lo w r bx bmx bs R){k:Nat}(hk:k<R.cl.length):∃b,bs[k]?=some b/\isCl lo w b (k:Int) (clK R k).1 (clK R k).2:=by
 have hkb:k<bs.length:=by rw[h.cls.len];exact hk
 refine⟨bs[k],lgg hkb,h.cls.each k _ _ (lgg hkb) ?_⟩;unfold clK;rw[lgg hk];rfl
theorem JrG{pc:Option Addr}{cc k b:Nat}(h:w.ownsRow lo 93 1 (.slice pc bs.length cc) bs.length (ptrs bs))(hb:bs[k]?=some b):∃g cur,pc=some ⟨g,0,none⟩/\w.heap[g]?=some (.cells cur 93 (0,0))/\cur[k]?=some (.pointer (some ⟨b,0,none⟩)):=by
 have hk:k<bs.length:=(llt hb)
 rcases h.2 with ⟨_,hz⟩|⟨g,cap,cur,e,h3,h4,h5,h6,h7,h8⟩
 . rw[hz]at hk;exact absurd hk (Nat.not_lt_zero _)
 . injection e with e1 _ _
   refine⟨g,cur,e1,h4,?_⟩;have e2:=congrArg (·[k]?) h8;simp only[List.getElem?_take,show k<bs.length*1 by omega,if_true,JmA hb]at e2;rw[←Array.getElem?_toList];exact e2
theorem Inv.counts(h:Inv l0 n D R)(hp:potR R<=10000000000):R.lost<=10000000000/\R.n<=10000000000/\R.fl.length<=400:=by
 unfold potR at hp;exact⟨by omega,by omega,h.room⟩
theorem Jk0(h:isRoom lo w r bx bmx bs R)(hi:Inv l0 n D R)(p:Pk)(hp:okPk R.E D R.cl.length p)(hk:p.kind=2)(v:Value)(hx:opX lo w v p.x.op)(hpot:potR R<=10000000000) :
    Calls Tryz.prog 133 #[.pointer (some ⟨r,0,none⟩),pkV p v] w fun e w'=>e=.returned (.tuple #[])/\isRoom lo w' r bx bmx bs (Jci R p.c p.rev)/\sameBut w w' (Jbg lo w bmx):=by
 obtain⟨pv,cv,rfl⟩:=JaH hx;obtain⟨g1,g2,g3,g4⟩:=Jm7 h p hx;obtain⟨k1,k2,k3⟩:=hi.counts hpot;obtain⟨m,hm⟩:∃m:Nat,p.rev=(m:Int):=⟨p.rev.toNat,by have:=hp.rev.1;omega⟩;have hml:m<=R.E.length:=by have:=hp.rev.2;omega
 have CT:Hid (∀wx,Below w.heap.size w wx->Calls Tryz.prog 192 #[.pointer (some ⟨r,0,none⟩),.int .i64 (p.c:Int),.int .i64 (m:Int)] wx fun e w'=>e=.returned (.tuple #[])/\isRoom lo w' r bx bmx bs (Jci R p.c p.rev)/\sameBut w w' (Jbg lo w bmx)):=fun wx hb=>by
  have hr:=Jap h hb;refine(Jky hr hi.srv hi.few p.c m hml (by omega) k3).mono ?_
  rintro e w' ⟨rfl,a,b⟩;exact⟨rfl,by rw[hm];exact a,JaI hb (JcT (b.touch hr))⟩
 have HB:=hdz g3;rw[hm]at g3 g4 HB;unfold pkV;rw[hm,hk]at *;generalize p.c=a1 at *;generalize p.id=a3 at *;generalize p.x.c=a4 at *;generalize p.x.i=a5 at *;generalize p.x.op.length=a6 at *;clear h hi hp hx g1 g2 g3 g4 hpot k1 k2 k3 hml
 go_enter Tryz.func133,Tryz.ntmps133
 go_wp2_with (first
  | (go_at_call 192;refine(CT.out _ HB.out).mono ?_;rintro e w2 ⟨rfl,h2,hs2⟩;have H2:=hdz h2;have HS2:=hdz hs2;clear h2 hs2)
  | fail)
 go_end0;exact⟨rfl,H2.out,HS2.out⟩
theorem Jkz(he:Env lo w)(h:isRoom lo w r bx bmx bs R)(hi:Inv l0 n D R)(hn:n<=100000)(p:Pk)(hp:okPk R.E D R.cl.length p)(hk:p.kind=3)(v:Value)(hx:opX lo w v p.x.op)(hbl:bs.length<=1000) :
    Calls Tryz.prog 133 #[.pointer (some ⟨r,0,none⟩),pkV p v] w fun e w'=>e=.returned (.tuple #[])/\isRoom lo w' r bx bmx bs (setC R p.c (tkS (p.c:Int) (clK R p.c).2 p.rev p.x.c p.x.i p.x.op))/\sameBut w w' (Jbg lo w bmx):=by
 obtain⟨pv,cv,rfl⟩:=JaH hx;obtain⟨g1,g2,g3,g4⟩:=Jm7 h p hx;obtain⟨b,hb,_⟩:=Jcy h hp.c;obtain⟨pc,cc,pf,cf,h2,h3,_⟩:=Jbv h;obtain⟨g,cur,rfl,hg,hcur⟩:=JrG h3 hb;obtain⟨_,hck⟩:=hi.clk hp.c;have hsm:=hck.small hi.lk;have hrl:=hck.revle hi.lk;have hE:=hi.few;have hpx:=hi.lk.puts (hp.told hk);obtain⟨d,hd,_,hdl⟩:=hi.lk.at_ (i:=p.rev.toNat) (by have:=hp.rev;omega);obtain⟨hgd,_⟩:=hi.lk.link _ _ _ (hp.told hk) hd;obtain⟨hwf,hxl⟩:=Jgh hgd (by omega) (by omega)
 have CC:Hid (∀wx,Below w.heap.size w wx->Calls Tryz.prog 49 #[.pointer (some ⟨b,0,none⟩),.int .i64 p.rev,.agg #[.int .i64 p.x.c,.int .i64 p.x.i,.slice pv p.x.op.length cv]] wx fun e w'=>∃u,e=.returned u/\isRoom lo w' r bx bmx bs (setC R p.c (tkS (p.c:Int) (clK R p.c).2 p.rev p.x.c p.x.i p.x.op))/\sameBut w w' (Jbg lo w bmx)/\∀β,w.heap.size<=β->ZB r β g (.cells #[.pointer (some ⟨bx,0,none⟩),.slice (some ⟨g,0,none⟩) bs.length cc,.slice pf R.fl.length cf,.int .i64 (R.lost:Int)] 215 (0,0)) (.cells #[.int .i64 p.kind,.int .i64 (p.c:Int),.int .i64 p.rev,.int .i64 p.id,.int .i64 p.x.c,.int .i64 p.x.i,.slice pv p.x.op.length cv] 219 (0,0)) (.cells cur 93 (0,0)) wx->ZB r β g (.cells #[.pointer (some ⟨bx,0,none⟩),.slice (some ⟨g,0,none⟩) bs.length cc,.slice pf R.fl.length cf,.int .i64 (R.lost:Int)] 215 (0,0)) (.cells #[.int .i64 p.kind,.int .i64 (p.c:Int),.int .i64 p.rev,.int .i64 p.id,.int .i64 p.x.c,.int .i64 p.x.i,.slice pv p.x.op.length cv] 219 (0,0)) (.cells cur 93 (0,0)) w'):=fun wx hbw=>by
  have hr:=Jap h hbw;have he:=he.below hbw;have hx:=Ja5 hx hbw;obtain⟨b',hb',hc⟩:=Jcy hr hp.c;rw[hb]at hb';obtain rfl:=osi hb';refine Calls.mono (JnO hc hck.ok hck.unit p.rev p.x.c p.x.i (.slice pv p.x.op.length cv) p.x.op (Ja5 hx (brf _ _)) hwf (by omega) (by omega) (by omega) ⟨hck.id.1,by have:=hck.id.2;split at this<;>omega⟩ ⟨hck.rev,by omega⟩ he.g2 he.tabs) ?_
  rintro e w' ⟨rfl,a,c⟩;obtain⟨i1,i2⟩:=Jdi hr hb a c;have no:∀x cs T fz,wx.heap[x]?=some (.cells cs T fz)->T≠203->T≠23->¬ownC wx b x:=fun x cs T fz hx t1 t2 ho=>by
   obtain⟨_,_,cs',T',hc',hT⟩:=Jem hc ho;have:=JaG hx hc';subst this
   rcases hT with e|e
   . exact t1 e
   . exact t2 e
  exact⟨_,rfl,i1,JaI hbw i2,fun β _ hz=>hz.same c.1 (no _ _ _ _ hz.b1 (by decide) (by decide)) (no _ _ _ _ hz.b2 (by decide) (by decide)) (no _ _ _ _ hz.b3 (by decide) (by decide))⟩
 have HB:=hdz g3
 have HZ:Hid (ZB r w.heap.size g (.cells #[.pointer (some ⟨bx,0,none⟩),.slice (some ⟨g,0,none⟩) bs.length cc,.slice pf R.fl.length cf,.int .i64 (R.lost:Int)] 215 (0,0)) (.cells #[.int .i64 p.kind,.int .i64 (p.c:Int),.int .i64 p.rev,.int .i64 p.id,.int .i64 p.x.c,.int .i64 p.x.i,.slice pv p.x.op.length cv] 219 (0,0)) (.cells cur 93 (0,0)) (w.alloc (.cells #[.int .i64 p.kind,.int .i64 (p.c:Int),.int .i64 p.rev,.int .i64 p.id,.int .i64 p.x.c,.int .i64 p.x.i,.slice pv p.x.op.length cv] 219))) :=
  ⟨(g3.block r (Jbo h)).trans h2,g4,(g3.block g (alt hg)).trans hg⟩
 have hkb:p.c<bs.length:=(llt hb);have hki:(p.c:Int)<(bs.length:Int):=by omega
 have hbi:(bs.length:Int)<=1000:=by omega
 unfold pkV;rw[hk]at *;obtain⟨β,hβ⟩:∃β,w.heap.size=β:=⟨_,rfl⟩;have HBT:Hid (w.heap.size=β):=hβ;rw[hβ]at HZ;generalize hR':setC R p.c (tkS (p.c:Int) (clK R p.c).2 p.rev p.x.c p.x.i p.x.op)=R' at *;generalize p.c=a1 at *;generalize p.rev=a2 at *;generalize p.id=a3 at *;generalize p.x.c=a4 at *;generalize p.x.i=a5 at *;generalize p.x.op.length=a6 at *;generalize R.fl.length=a7 at *;generalize (R.lost:Int)=a8 at *;have HCUR:Hid (cur[a1]?=some (.pointer (some ⟨b,0,none⟩))):=hcur;clear h hi hp hx g1 g2 g3 g4 h2 h3 hg hcur hck hsm hrl hE he hb hR' hβ hpx hd hdl hgd hwf hxl
 go_enter Tryz.func133,Tryz.ntmps133
 go_wp2;refine Jaq (fun wx:World=>ZB r β g (.cells #[.pointer (some ⟨bx,0,none⟩),.slice (some ⟨g,0,none⟩) bs.length cc,.slice pf a7 cf,.int .i64 a8] 215 (0,0)) (.cells #[.int .i64 3,.int .i64 (a1:Int),.int .i64 a2,.int .i64 a3,.int .i64 a4,.int .i64 a5,.slice pv a6 cv] 219 (0,0)) (.cells cur 93 (0,0)) wx) 13 13 (by kernel_rfl) rfl ?_
 intro w30 hb30;have hz1:=HZ.out.grow hb30;have hbA:=HB.out.trans (hb30.mono HB.out.size);obtain⟨G,hG⟩:=Jax (Z:=fun wx:World=>ZB r β g (.cells #[.pointer (some ⟨bx,0,none⟩),.slice (some ⟨g,0,none⟩) bs.length cc,.slice pf a7 cf,.int .i64 a8] 215 (0,0)) (.cells #[.int .i64 3,.int .i64 (a1:Int),.int .i64 a2,.int .i64 a3,.int .i64 a4,.int .i64 a5,.slice pv a6 cv] 219 (0,0)) (.cells cur 93 (0,0)) wx) hz1 (fun {w w'} h hb=>ZB.grow h hb);have y1:∀y,(G y).cell? ⟨r,1,none⟩=some (.slice (some ⟨g,0,none⟩) bs.length cc):=fun y=>chp (hG.but y).b1 1
 have yg:∀y,(G y).cell? ⟨g,a1,none⟩=some (.pointer (some ⟨b,0,none⟩)):=fun y=>(chp (hG.but y).b3 a1).trans HCUR.out
 have c1:∀y,(G y).cell? ⟨β,1,none⟩=some (.int .i64 (a1:Int)):=fun y=>chp (hG.but y).b2 1
 have c2:∀y,(G y).cell? ⟨β,2,none⟩=some (.int .i64 a2):=fun y=>chp (hG.but y).b2 2
 have c3:∀y,(G y).cell? ⟨β,3,none⟩=some (.int .i64 a3):=fun y=>chp (hG.but y).b2 3
 have c4:∀y,(G y).cell? ⟨β,4,none⟩=some (.int .i64 a4):=fun y=>chp (hG.but y).b2 4
 have c5:∀y,(G y).cell? ⟨β,5,none⟩=some (.int .i64 a5):=fun y=>chp (hG.but y).b2 5
 have c6:∀y,(G y).cell? ⟨β,6,none⟩=some (.slice pv a6 cv):=fun y=>chp (hG.but y).b2 6
 rw[HBT.out];refine az hG hz1 0 fun _ k=>?_;go_simp;refine k _ ?_;clear k
 refine az hG hz1 1 fun _ k=>?_;go_simp;refine k _ ?_;clear k
 refine az hG hz1 2 fun _ k=>?_;go_simp;refine k _ ?_;clear k
 refine az hG hz1 3 fun _ k=>?_;go_simp;refine k _ ?_;clear k
 refine az hG hz1 4 fun _ k=>?_;go_simp;refine k _ ?_;clear k
 refine az hG hz1 5 fun _ k=>?_;go_simp;refine k _ ?_;clear k
 refine az hG hz1 6 fun _ k=>?_;go_simp;refine k _ ?_;clear k
 refine az hG hz1 7 fun _ k=>?_;go_simp;refine k _ ?_;clear k
 refine az hG hz1 8 fun _ k=>?_;go_simp;refine k _ ?_;clear k
 refine az hG hz1 9 fun _ k=>?_;go_simp;refine k _ ?_;clear k
 refine az hG hz1 10 fun _ k=>?_;go_simp;refine k _ ?_;clear k
 refine az hG hz1 11 fun _ k=>?_;go_simp;refine k _ ?_;clear k
 clear y1 yg c1 c2 c3 c4 c5 c6 hG;refine JaF (i:=12) (by kernel_rfl) ⟨_,rfl,?_⟩;intro w31 hb31 K hK;have hz2:=hz1.grow hb31;have hbB:=hbA.trans (hb31.mono hbA.size)
 go_simp
 refine(CC.out w31 hbB).mono ?_
 rintro e w2 ⟨u,rfl,h2,hs2,hzz⟩;refine⟨_,rfl,hK _ _ (fun hz=>hzz β (Nat.le_of_eq HBT.out) hz) ?_⟩;have H2:=hdz h2;have HS2:=hdz hs2;clear hK K hz1 hz2 hbA hbB hb30 hb31 h2 hs2 hzz;refine JaM (by kernel_rfl) ?_
 intro w3 hb3;have HB3:=hdz hb3;clear hb3;go_wp2;go_end0;exact⟨rfl,Jap H2.out HB3.out,JbK HS2.out HB3.out⟩
theorem JhX(he:Env lo w)(h:isRoom lo w r bx bmx bs R)(hi:Inv l0 n D R)(hn:n<=100000)(p:Pk)(hp:okPk R.E D R.cl.length p)(hk:p.kind=4)(v:Value)(hx:opX lo w v p.x.op)(hbl:bs.length<=1000) :
    Calls Tryz.prog 133 #[.pointer (some ⟨r,0,none⟩),pkV p v] w fun e w'=>e=.returned (.tuple #[])/\isRoom lo w' r bx bmx bs (setC R p.c (rfS (clK R p.c).2 p.id))/\sameBut w w' (Jbg lo w bmx):=by
 obtain⟨pv,cv,rfl⟩:=JaH hx;obtain⟨g1,g2,g3,g4⟩:=Jm7 h p hx;obtain⟨b,hb,_⟩:=Jcy h hp.c;obtain⟨pc,cc,pf,cf,h2,h3,_⟩:=Jbv h;obtain⟨g,cur,rfl,hg,hcur⟩:=JrG h3 hb;obtain⟨_,hck⟩:=hi.clk hp.c;have hsm:=hck.small hi.lk;have hrl:=hck.revle hi.lk;have hE:=hi.few
 have CC:Hid (∀wx,Below w.heap.size w wx->Calls Tryz.prog 51 #[.pointer (some ⟨b,0,none⟩),.int .i64 p.id] wx fun e w'=>e=.returned (.tuple #[])/\isRoom lo w' r bx bmx bs (setC R p.c (rfS (clK R p.c).2 p.id))/\sameBut w w' (Jbg lo w bmx)/\∀β,w.heap.size<=β->ZB r β g (.cells #[.pointer (some ⟨bx,0,none⟩),.slice (some ⟨g,0,none⟩) bs.length cc,.slice pf R.fl.length cf,.int .i64 (R.lost:Int)] 215 (0,0)) (.cells #[.int .i64 p.kind,.int .i64 (p.c:Int),.int .i64 p.rev,.int .i64 p.id,.int .i64 p.x.c,.int .i64 p.x.i,.slice pv p.x.op.length cv] 219 (0,0)) (.cells cur 93 (0,0)) wx->ZB r β g (.cells #[.pointer (some ⟨bx,0,none⟩),.slice (some ⟨g,0,none⟩) bs.length cc,.slice pf R.fl.length cf,.int .i64 (R.lost:Int)] 215 (0,0)) (.cells #[.int .i64 p.kind,.int .i64 (p.c:Int),.int .i64 p.rev,.int .i64 p.id,.int .i64 p.x.c,.int .i64 p.x.i,.slice pv p.x.op.length cv] 219 (0,0)) (.cells cur 93 (0,0)) w'):=fun wx hbw=>by
  have hr:=Jap h hbw;have he:=he.below hbw;have hx:=Ja5 hx hbw;obtain⟨b',hb',hc⟩:=Jcy hr hp.c;rw[hb]at hb';obtain rfl:=osi hb';refine Calls.mono (JkU hc p.id ⟨hck.dr.1,by have:=hck.dr.2;have:=hck.id.2;split at this<;>split at *<;>omega⟩) ?_
  rintro e w' ⟨rfl,a,c⟩;obtain⟨i1,i2⟩:=Jdi hr hb a c;have no:∀x cs T fz,wx.heap[x]?=some (.cells cs T fz)->T≠203->T≠23->¬ownC wx b x:=fun x cs T fz hx t1 t2 ho=>by
   obtain⟨_,_,cs',T',hc',hT⟩:=Jem hc ho;have:=JaG hx hc';subst this
   rcases hT with e|e
   . exact t1 e
   . exact t2 e
  exact⟨rfl,i1,JaI hbw i2,fun β _ hz=>hz.same c.1 (no _ _ _ _ hz.b1 (by decide) (by decide)) (no _ _ _ _ hz.b2 (by decide) (by decide)) (no _ _ _ _ hz.b3 (by decide) (by decide))⟩
 have HB:=hdz g3
 have HZ:Hid (ZB r w.heap.size g (.cells #[.pointer (some ⟨bx,0,none⟩),.slice (some ⟨g,0,none⟩) bs.length cc,.slice pf R.fl.length cf,.int .i64 (R.lost:Int)] 215 (0,0)) (.cells #[.int .i64 p.kind,.int .i64 (p.c:Int),.int .i64 p.rev,.int .i64 p.id,.int .i64 p.x.c,.int .i64 p.x.i,.slice pv p.x.op.length cv] 219 (0,0)) (.cells cur 93 (0,0)) (w.alloc (.cells #[.int .i64 p.kind,.int .i64 (p.c:Int),.int .i64 p.rev,.int .i64 p.id,.int .i64 p.x.c,.int .i64 p.x.i,.slice pv p.x.op.length cv] 219))) :=
  ⟨(g3.block r (Jbo h)).trans h2,g4,(g3.block g (alt hg)).trans hg⟩
 have hkb:p.c<bs.length:=(llt hb);have hki:(p.c:Int)<(bs.length:Int):=by omega
 have hbi:(bs.length:Int)<=1000:=by omega
 unfold pkV;rw[hk]at *;obtain⟨β,hβ⟩:∃β,w.heap.size=β:=⟨_,rfl⟩;have HBT:Hid (w.heap.size=β):=hβ;rw[hβ]at HZ;generalize hR':setC R p.c (rfS (clK R p.c).2 p.id)=R' at *;generalize p.c=a1 at *;generalize p.rev=a2 at *;generalize p.id=a3 at *;generalize p.x.c=a4 at *;generalize p.x.i=a5 at *;generalize p.x.op.length=a6 at *;generalize R.fl.length=a7 at *;generalize (R.lost:Int)=a8 at *;have HCUR:Hid (cur[a1]?=some (.pointer (some ⟨b,0,none⟩))):=hcur;clear h hi hp hx g1 g2 g3 g4 h2 h3 hg hcur hck hsm hrl hE he hb hR' hβ
 go_enter Tryz.func133,Tryz.ntmps133
 go_wp2;refine Jaq (fun wx:World=>ZB r β g (.cells #[.pointer (some ⟨bx,0,none⟩),.slice (some ⟨g,0,none⟩) bs.length cc,.slice pf a7 cf,.int .i64 a8] 215 (0,0)) (.cells #[.int .i64 4,.int .i64 (a1:Int),.int .i64 a2,.int .i64 a3,.int .i64 a4,.int .i64 a5,.slice pv a6 cv] 219 (0,0)) (.cells cur 93 (0,0)) wx) 11 11 (by kernel_rfl) rfl ?_
 intro w30 hb30;have hz1:=HZ.out.grow hb30;have hbA:=HB.out.trans (hb30.mono HB.out.size);obtain⟨G,hG⟩:=Jax (Z:=fun wx:World=>ZB r β g (.cells #[.pointer (some ⟨bx,0,none⟩),.slice (some ⟨g,0,none⟩) bs.length cc,.slice pf a7 cf,.int .i64 a8] 215 (0,0)) (.cells #[.int .i64 4,.int .i64 (a1:Int),.int .i64 a2,.int .i64 a3,.int .i64 a4,.int .i64 a5,.slice pv a6 cv] 219 (0,0)) (.cells cur 93 (0,0)) wx) hz1 (fun {w w'} h hb=>ZB.grow h hb);have y1:∀y,(G y).cell? ⟨r,1,none⟩=some (.slice (some ⟨g,0,none⟩) bs.length cc):=fun y=>chp (hG.but y).b1 1
 have yg:∀y,(G y).cell? ⟨g,a1,none⟩=some (.pointer (some ⟨b,0,none⟩)):=fun y=>(chp (hG.but y).b3 a1).trans HCUR.out
 have c1:∀y,(G y).cell? ⟨β,1,none⟩=some (.int .i64 (a1:Int)):=fun y=>chp (hG.but y).b2 1
 have c2:∀y,(G y).cell? ⟨β,2,none⟩=some (.int .i64 a2):=fun y=>chp (hG.but y).b2 2
 have c3:∀y,(G y).cell? ⟨β,3,none⟩=some (.int .i64 a3):=fun y=>chp (hG.but y).b2 3
 have c4:∀y,(G y).cell? ⟨β,4,none⟩=some (.int .i64 a4):=fun y=>chp (hG.but y).b2 4
 have c5:∀y,(G y).cell? ⟨β,5,none⟩=some (.int .i64 a5):=fun y=>chp (hG.but y).b2 5
 have c6:∀y,(G y).cell? ⟨β,6,none⟩=some (.slice pv a6 cv):=fun y=>chp (hG.but y).b2 6
 rw[HBT.out];refine az hG hz1 0 fun _ k=>?_;go_simp;refine k _ ?_;clear k
 refine az hG hz1 1 fun _ k=>?_;go_simp;refine k _ ?_;clear k
 refine az hG hz1 2 fun _ k=>?_;go_simp;refine k _ ?_;clear k
 refine az hG hz1 3 fun _ k=>?_;go_simp;refine k _ ?_;clear k
 refine az hG hz1 4 fun _ k=>?_;go_simp;refine k _ ?_;clear k
 refine az hG hz1 5 fun _ k=>?_;go_simp;refine k _ ?_;clear k
 refine az hG hz1 6 fun _ k=>?_;go_simp;refine k _ ?_;clear k
 refine az hG hz1 7 fun _ k=>?_;go_simp;refine k _ ?_;clear k
 refine az hG hz1 8 fun _ k=>?_;go_simp;refine k _ ?_;clear k
 refine az hG hz1 9 fun _ k=>?_;go_simp;refine k _ ?_;clear k
 clear y1 yg c1 c2 c3 c4 c5 c6 hG;refine JaF (i:=10) (by kernel_rfl) ⟨_,rfl,?_⟩;intro w31 hb31 K hK;have hz2:=hz1.grow hb31;have hbB:=hbA.trans (hb31.mono hbA.size)
 go_simp
 refine(CC.out w31 hbB).mono ?_
 rintro e w2 ⟨rfl,h2,hs2,hzz⟩;refine⟨_,rfl,hK _ _ (fun hz=>hzz β (Nat.le_of_eq HBT.out) hz) ?_⟩;have H2:=hdz h2;have HS2:=hdz hs2;clear hK K hz1 hz2 hbA hbB hb30 hb31 h2 hs2 hzz;refine JaM (by kernel_rfl) ?_
 intro w3 hb3;have HB3:=hdz hb3;clear hb3;go_wp2;go_end0;exact⟨rfl,Jap H2.out HB3.out,JbK HS2.out HB3.out⟩
end
section
open Go.RowKit Go.Maps
attribute [local go_sem] Oper.semAt_some Ja2 JaV
variable {lo r bx bmx : Nat}{w : World}{bs : List Nat}{R : Rm}{l0 n : Int}{D : List (List UInt8)}
theorem Jl8(he:Env lo w)(h:isRoom lo w r bx bmx bs R)(hi:Inv l0 n D R)(p:Pk)(hp:okPk R.E D R.cl.length p)(hk:p.kind=1)(v:Value)(hx:opX lo w v p.x.op)(hbl:bs.length<=1000)(hpot:potR R<=100000000) :
    Calls Tryz.prog 133 #[.pointer (some ⟨r,0,none⟩),pkV p v] w fun e w'=>e=.returned (.tuple #[])/\isRoom lo w' r bx bmx bs (askR l0 R p)/\sameBut w w' (Jbg lo w bmx):=by
 obtain⟨pv,cv,rfl⟩:=JaH hx;obtain⟨g1,g2,g3,g4⟩:=Jm7 h p hx;obtain⟨k1,k2,k3⟩:=hi.counts (by omega);have hkn:R.n<1000000000:=by unfold potR at hpot;omega
 obtain⟨pc,cc,pf,cf,h2,h3,h4⟩:=Jbv h;obtain⟨vc,hvc⟩:∃vc,vc=Value.slice pc bs.length cc:=⟨_,rfl⟩;rw[←hvc]at h2;obtain⟨xc,xi,d,hd,hgd,hpu⟩:=hp.ask hk;have hdl:=(hi.lk.fair d (List.mem_of_getElem? hd)).2;obtain⟨hwf,hxl⟩:=Jgh hgd (by omega) (by omega);obtain⟨D',hi',_,hEx,_⟩:=hi.srvK hp hk;obtain⟨m,hm⟩:∃m:Nat,p.rev=(m:Int):=⟨p.rev.toNat,by have:=hp.rev.1;omega⟩
 have hml:m<=(srvR l0 R p).E.length:=by
  have h1:=hp.rev.2
  rcases Nat.eq_zero_or_pos R.E.length with h0|h0
  . omega
  . have:=(List.getElem?_eq_some_iff.1 (hEx (R.E.length - 1) R.E[R.E.length - 1] (lgg (by omega)))).1
    omega
 have hcr:rng (p.c:Int):=by
  have:=hp.c;have:=h.cls.len;constructor<;>omega
 have hown:=fun k=>JdU (k:=k) h4
 have HOWN:Hid (∀k,(Value.slice pf R.fl.length cf).ownBlock=some k->k<w.heap.size):=fun k hk=>(hown k hk).2.1
 have CT:Hid (∀wx,Below w.heap.size w wx->Calls Tryz.prog 38 #[.pointer (some ⟨bx,0,none⟩),.int .i64 (p.c:Int),.int .i64 p.id,.int .i64 p.rev,.slice pv p.x.op.length cv] wx fun e w'=>e=.returned (errV (srvE l0 R p))/\isRoom lo w' r bx bmx bs (srvR l0 R p)/\Env lo w'/\sameBut w w' (Jbg lo w bmx)/\∀β,ZB r β r (.cells #[.pointer (some ⟨bx,0,none⟩),vc,.slice pf R.fl.length cf,.int .i64 (R.lost:Int)] 215 (0,0)) (.cells #[.int .i64 p.kind,.int .i64 (p.c:Int),.int .i64 p.rev,.int .i64 p.id,.int .i64 p.x.c,.int .i64 p.x.i,.slice pv p.x.op.length cv] 219 (0,0)) (.cells #[.pointer (some ⟨bx,0,none⟩),vc,.slice pf R.fl.length cf,.int .i64 (R.lost:Int)] 215 (0,0)) wx->ZB r β r (.cells #[.pointer (some ⟨bx,0,none⟩),vc,.slice pf R.fl.length cf,.int .i64 (R.lost:Int)] 215 (0,0)) (.cells #[.int .i64 p.kind,.int .i64 (p.c:Int),.int .i64 p.rev,.int .i64 p.id,.int .i64 p.x.c,.int .i64 p.x.i,.slice pv p.x.op.length cv] 219 (0,0)) (.cells #[.pointer (some ⟨bx,0,none⟩),vc,.slice pf R.fl.length cf,.int .i64 (R.lost:Int)] 215 (0,0)) w'):=fun wx hbw=>by
  have hr:=Jap h hbw;have he:=he.below hbw;refine(Jlv hr.srv hi.srv (p.c:Int) p.id p.rev hcr (.slice pv p.x.op.length cv) p.x.op he.lay he.g1 he.tabs (Ja5 hx hbw).1 hwf (by omega) (by omega) hi.few hkn).mono ?_
  rintro e w' ⟨rfl,a,c⟩;obtain⟨i1,i2⟩:=JnC (R':=srvR l0 R p) hr a c rfl rfl rfl
  have no:∀x cs T fz,wx.heap[x]?=some (.cells cs T fz)->T≠196->T≠105->¬Jdf lo wx bmx x:=fun x cs T fz hx t1 t2 e=>by
   rcases e.2 with rfl|⟨cs',T',hc',hT⟩
   . exact Jby hr.srv.2.2.2 _ _ _ hx
   . have:=JaG hx hc'
     subst this
     rcases hT with e|e
     . exact t1 e
     . exact t2 e
  exact⟨rfl,i1,he.room i2,JaI hbw i2,fun β hz=>hz.same c (no _ _ _ _ hz.b1 (by decide) (by decide)) (no _ _ _ _ hz.b2 (by decide) (by decide)) (no _ _ _ _ hz.b3 (by decide) (by decide))⟩
 have CTL:Hid (∀wx,isRoom lo wx r bx bmx bs (srvR l0 R p)->Calls Tryz.prog 192 #[.pointer (some ⟨r,0,none⟩),.int .i64 (p.c:Int),.int .i64 p.rev] wx fun e w'=>e=.returned (.tuple #[])/\isRoom lo w' r bx bmx bs (Jci (srvR l0 R p) p.c p.rev)/\keptF wx w' r):=fun wx hr=>by
  rw[hm];exact Jky hr hi'.srv hi'.few p.c m hml (by show R.lost<=_;omega) k3
 have hls:(Jci (srvR l0 R p) p.c p.rev).lost<=R.lost+300/\(Jci (srvR l0 R p) p.c p.rev).fl.length<=400:=by
  have hf:=hi'.few;unfold Jci
  split
  . exact⟨Nat.le_add_right _ _,k3⟩
  . obtain⟨a,b⟩:=Jio p.c ((srvR l0 R p).E.drop p.rev.toNat) p.rev (srvR l0 R p) k3
    rw[List.length_drop]at a;exact⟨Nat.le_trans a (by show R.lost+_<=R.lost+300;omega),b⟩
 have CS:Hid (∀wx,isRoom lo wx r bx bmx bs (Jci (srvR l0 R p) p.c p.rev)->Calls Tryz.prog 130 #[.pointer (some ⟨r,0,none⟩),pkV (Jd1 p) (.slice none 0 0)] wx fun e w'=>e=.returned (.tuple #[])/\isRoom lo w' r bx bmx bs (Jb5 (Jci (srvR l0 R p) p.c p.rev) (Jd1 p))/\keptF wx w' r):=fun wx hr =>
  JdS hr (Jd1 p) (.slice none 0 0) (JbF (Jen 0 wx)) (by omega) hls.2
 have CTE:Hid (∀wx,Env lo wx->Calls Tryz.prog 27 #[errV (srvE l0 R p)] wx fun e w'=>e=.returned (.int .i64 (srvE l0 R p))/\Below wx.heap.size wx w'):=fun wx he=>Jhk _ wx he.lay
 have HB:=hdz g3
 have HZ:Hid (ZB r w.heap.size r (.cells #[.pointer (some ⟨bx,0,none⟩),vc,.slice pf R.fl.length cf,.int .i64 (R.lost:Int)] 215 (0,0)) (.cells #[.int .i64 p.kind,.int .i64 (p.c:Int),.int .i64 p.rev,.int .i64 p.id,.int .i64 p.x.c,.int .i64 p.x.i,.slice pv p.x.op.length cv] 219 (0,0)) (.cells #[.pointer (some ⟨bx,0,none⟩),vc,.slice pf R.fl.length cf,.int .i64 (R.lost:Int)] 215 (0,0)) (w.alloc (.cells #[.int .i64 p.kind,.int .i64 (p.c:Int),.int .i64 p.rev,.int .i64 p.id,.int .i64 p.x.c,.int .i64 p.x.i,.slice pv p.x.op.length cv] 219))) :=
  ⟨(g3.block r (Jbo h)).trans h2,g4,(g3.block r (Jbo h)).trans h2⟩
 have hask:askR l0 R p=if srvE l0 R p≠0/\srvE l0 R p≠8 then Jb5 (Jci (srvR l0 R p) p.c p.rev) (Jd1 p) else Jci (srvR l0 R p) p.c p.rev:=rfl
 rw[hask];unfold pkV at CS ⊢;unfold Jd1 noSE at *;rw[hk]at *;obtain⟨β,hβ⟩:∃β,w.heap.size=β:=⟨_,rfl⟩;have HBT:Hid (w.heap.size=β):=hβ;rw[hβ]at HZ;have HRL:Hid (r<w.heap.size):=Jbo h;generalize Jci (srvR l0 R p) p.c p.rev=R2 at *;generalize Jb5 R2 _=R3 at *;generalize srvR l0 R p=R1 at *;generalize srvE l0 R p=EE at *;generalize p.c=a1 at *;generalize p.rev=a2 at *;generalize p.id=a3 at *;generalize p.x.c=a4 at *;generalize p.x.i=a5 at *;generalize p.x.op.length=a6 at *;generalize R.fl.length=a7 at *;generalize (R.lost:Int)=a8 at *;clear h hi hp hx g1 g2 g3 g4 h2 h3 h4 hvc hd hgd hpu hdl hwf hxl hi' hEx hm hml hcr hown hls he hβ hask k1 k2 k3 hkn hpot xc xi hk hbl;obtain⟨RX,hRX⟩:∃RX,(if EE≠0/\EE≠8 then R3 else R2)=RX:=⟨_,rfl⟩;rw[hRX];have HRX:Hid ((if EE≠0/\EE≠8 then R3 else R2)=RX):=hRX;clear hRX;have hEV:∃u,errV EE=u:=⟨_,rfl⟩;obtain⟨u,hu⟩:=hEV;rw[hu]at CT CTE;clear hu
 go_enter Tryz.func133,Tryz.ntmps133
 go_wp2;refine Jaq (fun wx:World=>ZB r β r (.cells #[.pointer (some ⟨bx,0,none⟩),vc,.slice pf a7 cf,.int .i64 a8] 215 (0,0)) (.cells #[.int .i64 1,.int .i64 (a1:Int),.int .i64 a2,.int .i64 a3,.int .i64 a4,.int .i64 a5,.slice pv a6 cv] 219 (0,0)) (.cells #[.pointer (some ⟨bx,0,none⟩),vc,.slice pf a7 cf,.int .i64 a8] 215 (0,0)) wx) 16 16 (by kernel_rfl) rfl ?_
 intro w30 hb30;have hz1:=HZ.out.grow hb30;have hbA:=HB.out.trans (hb30.mono HB.out.size);obtain⟨G,hG⟩:=Jax (Z:=fun wx:World=>ZB r β r (.cells #[.pointer (some ⟨bx,0,none⟩),vc,.slice pf a7 cf,.int .i64 a8] 215 (0,0)) (.cells #[.int .i64 1,.int .i64 (a1:Int),.int .i64 a2,.int .i64 a3,.int .i64 a4,.int .i64 a5,.slice pv a6 cv] 219 (0,0)) (.cells #[.pointer (some ⟨bx,0,none⟩),vc,.slice pf a7 cf,.int .i64 a8] 215 (0,0)) wx) hz1 (fun {w w'} h hb=>ZB.grow h hb);have y0:∀y,(G y).cell? ⟨r,0,none⟩=some (.pointer (some ⟨bx,0,none⟩)):=fun y=>chp (hG.but y).b1 0
 have c1:∀y,(G y).cell? ⟨β,1,none⟩=some (.int .i64 (a1:Int)):=fun y=>chp (hG.but y).b2 1
 have c2:∀y,(G y).cell? ⟨β,2,none⟩=some (.int .i64 a2):=fun y=>chp (hG.but y).b2 2
 have c3:∀y,(G y).cell? ⟨β,3,none⟩=some (.int .i64 a3):=fun y=>chp (hG.but y).b2 3
 have c6:∀y,(G y).cell? ⟨β,6,none⟩=some (.slice pv a6 cv):=fun y=>chp (hG.but y).b2 6
 rw[HBT.out];refine az hG hz1 0 fun _ k=>?_;go_simp;refine k _ ?_;clear k
 refine az hG hz1 1 fun _ k=>?_;go_simp;refine k _ ?_;clear k
 refine az hG hz1 2 fun _ k=>?_;go_simp;refine k _ ?_;clear k
 refine az hG hz1 3 fun _ k=>?_;go_simp;refine k _ ?_;clear k
 refine az hG hz1 4 fun _ k=>?_;go_simp;refine k _ ?_;clear k
 refine az hG hz1 5 fun _ k=>?_;go_simp;refine k _ ?_;clear k
 refine az hG hz1 6 fun _ k=>?_;go_simp;refine k _ ?_;clear k
 refine az hG hz1 7 fun _ k=>?_;go_simp;refine k _ ?_;clear k
 refine az hG hz1 8 fun _ k=>?_;go_simp;refine k _ ?_;clear k
 refine az hG hz1 9 fun _ k=>?_;go_simp;refine k _ ?_;clear k
 refine az hG hz1 10 fun _ k=>?_;go_simp;refine k _ ?_;clear k
 refine az hG hz1 11 fun _ k=>?_;go_simp;refine k _ ?_;clear k
 refine az hG hz1 12 fun _ k=>?_;go_simp;refine k _ ?_;clear k
 clear y0 c1 c2 c3 c6 hG;refine JaF (i:=13) (by kernel_rfl) ⟨_,rfl,?_⟩;intro w31 hb31 K hK;have hz2:=hz1.grow hb31;have hbB:=hbA.trans (hb31.mono hbA.size)
 go_simp
 refine(CT.out w31 hbB).mono ?_
 rintro e w2 ⟨rfl,h2,he2,hs2,hzz⟩;refine⟨_,rfl,hK _ _ (fun hz=>hzz β hz) ?_⟩;have HZ2:Hid (ZB r β r (.cells #[.pointer (some ⟨bx,0,none⟩),vc,.slice pf a7 cf,.int .i64 a8] 215 (0,0)) (.cells #[.int .i64 1,.int .i64 (a1:Int),.int .i64 a2,.int .i64 a3,.int .i64 a4,.int .i64 a5,.slice pv a6 cv] 219 (0,0)) (.cells #[.pointer (some ⟨bx,0,none⟩),vc,.slice pf a7 cf,.int .i64 a8] 215 (0,0)) w2):=hzz β hz2;have H2:=hdz h2;have HE2:=hdz he2;have HS2:=hdz hs2;clear hK K hz1 hz2 hbA hbB hb30 hb31 h2 hs2 hzz he2;refine JaF (i:=14) (by kernel_rfl) ⟨_,rfl,?_⟩;intro w32 hb32 K hK
 go_simp
 refine(CTE.out w32 (HE2.out.below hb32)).mono ?_
 rintro e w3 ⟨rfl,hb3⟩;refine⟨_,rfl,hK _ _ (fun hz=>ZB.grow hz hb3) ?_⟩;have hb23:=hb32.trans (hb3.mono hb32.size);clear hK K;refine JaF (i:=15) (by kernel_rfl) ⟨_,rfl,?_⟩;intro w33 hb33 K hK
 go_simp
 refine hK _ _ (fun hz=>hz) ?_
 clear hK K;refine JaM (by kernel_rfl) ?_
 intro w4 hb4;have hb34:=hb33.trans (hb4.mono hb33.size);have hb24:=hb23.trans (hb34.mono hb23.size);have hz4:=HZ2.out.grow hb24;have HZ4:=hdz hz4;have d1:w4.cell? ⟨β,1,none⟩=some (.int .i64 (a1:Int)):=chp hz4.b2 1;have d2:w4.cell? ⟨β,2,none⟩=some (.int .i64 a2):=chp hz4.b2 2;have H4:Hid _:=Jap H2.out hb24;have HS4:Hid _:=JbK HS2.out hb24;clear hb32 hb3 hb23 hb33 hb4 hb34 hb24 hz4
 have KB:Hid (∀w5,keptF w4 w5 r->w5.heap[β]?=some (.cells #[.int .i64 1,.int .i64 (a1:Int),.int .i64 a2,.int .i64 a3,.int .i64 a4,.int .i64 a5,.slice pv a6 cv] 219 (0,0))):=fun w5 hf=>by
  refine(hf.1.2 β (alt HZ4.out.b2) fun e=>?_).trans HZ4.out.b2
  rcases e with e|⟨v,e,hk⟩
  . have h1:=HRL.out;have h2:=HBT.out;omega
  . have x2:w4.cell? ⟨r,2,none⟩=some (.slice pf a7 cf):=chp HZ4.out.b1 2
    rw[x2]at e;obtain rfl:=osi e;have h1:=HOWN.out β hk;have h2:=HBT.out;omega
 by_cases hz0:EE=0
 . subst hz0
   have HRY:Hid (R2=RX):=(if_neg (fun e=>e.1 rfl)).symm.trans HRX.out
   go_wp2_with (first
    | (go_at_call 192;refine(CTL.out _ H4.out).mono ?_;rintro e w5 ⟨rfl,h5,hs5⟩;have H5:=hdz h5;have HS5:Hid _:=JbJ HS4.out (JcT (hs5.touch H4.out));clear h5 hs5)
    | fail)
   go_end0;rw[←HRY.out];exact⟨rfl,H5.out,HS5.out⟩
 . by_cases hz8:EE=8
   . subst hz8
     have HRY:Hid (R2=RX):=(if_neg (fun e=>e.2 rfl)).symm.trans HRX.out
     go_wp2_with (first
      | (go_at_call 192;refine(CTL.out _ H4.out).mono ?_;rintro e w5 ⟨rfl,h5,hs5⟩;have H5:=hdz h5;have HS5:Hid _:=JbJ HS4.out (JcT (hs5.touch H4.out));clear h5 hs5)
      | fail)
     go_end0;rw[←HRY.out];exact⟨rfl,H5.out,HS5.out⟩
   . have HRY:Hid (R3=RX):=(if_pos ⟨hz0,hz8⟩).symm.trans HRX.out
     have e0:(EE != 0)=true:=by simpa using hz0
     have e8:(EE != 8)=true:=by simpa using hz8
     go_wp2_with (first
      | (go_at_call 192;refine(CTL.out _ H4.out).mono ?_;rintro e w5 ⟨rfl,h5,hs5⟩;have H5:=hdz h5;have hbx:=KB.out w5 hs5;have q1:w5.cell? ⟨β,1,none⟩=some (.int .i64 (a1:Int)):=chp hbx 1;have q3:w5.cell? ⟨β,3,none⟩=some (.int .i64 a3):=chp hbx 3;have HS5:Hid _:=JbJ HS4.out (JcT (hs5.touch H4.out));clear h5 hs5 hbx)
      | (go_at_call 130;refine(CS.out _ H5.out).mono ?_;rintro e w6 ⟨rfl,h6,hs6⟩;have H6:=hdz h6;have HS6:Hid _:=JbJ HS5.out (JcT (hs6.touch H5.out));clear h6 hs6)
      | fail)
     go_end0;rw[←HRY.out];exact⟨rfl,H6.out,HS6.out⟩
theorem Jl9(he:Env lo w)(h:isRoom lo w r bx bmx bs R)(hi:Inv l0 n D R)(hn:n<=100000)(p:Pk)(hp:okPk R.E D R.cl.length p)(v:Value)(hx:opX lo w v p.x.op)(hbl:bs.length<=1000)(hpot:potR R<=100000000) :
    Calls Tryz.prog 133 #[.pointer (some ⟨r,0,none⟩),pkV p v] w fun e w'=>e=.returned (.tuple #[])/\isRoom lo w' r bx bmx bs (Jce l0 R p)/\sameBut w w' (Jbg lo w bmx):=by
 unfold Jce
 rcases hp.kind with k|k|k|k
 . rw[if_pos k]
   exact Jl8 he h hi p hp k v hx hbl hpot
 . rw[if_neg (by rw[k];decide),if_pos k]
   exact Jk0 h hi p hp k v hx (by omega)
 . rw[if_neg (by rw[k];decide),if_neg (by rw[k];decide),if_pos k]
   exact Jkz he h hi hn p hp k v hx hbl
 . rw[if_neg (by rw[k];decide),if_neg (by rw[k];decide),if_neg (by rw[k];decide),if_pos k]
   exact JhX he h hi hn p hp k v hx hbl
end
section
open Go.RowKit Go.Maps
attribute [local go_sem] Oper.semAt_some Ja2 JaV
variable {lo r bx bmx : Nat}{w : World}{bs : List Nat}{R : Rm}
theorem JlC(R:Rm)(i:Nat):potR (outR R i)<=potR R:=by
 unfold potR outR
 have h:∀(fl:List Pk) (i:Nat),Ja1 (fl.eraseIdx i)<=Ja1 fl:=fun fl=>by
  induction fl with
  | nil=>intro i;simp
  | cons p fl ih =>
   intro i
   cases i with
   | zero=>simp[Ja1]
   | succ i=>have:=ih i;simp[Ja1]at this ⊢;omega
 have:=h R.fl i;simp only;omega
theorem opX_F{w':World}{v:Value}{q:List Pt}(h:opX lo w v q)(hr:isRoom lo w r bx bmx bs R)(hk:keptF w w' r):opX lo w' v q :=
 Jb8 h hk.1 fun k _ hk=>by
  obtain⟨a,_,cs,T,hc,hT⟩:=JlM hr hk;exact⟨a,JaA hc (by rcases hT with rfl|rfl<;>decide)⟩
theorem Jg0{l0 n:Int}{D:List (List UInt8)}(he:Env lo w)(h:isRoom lo w r bx bmx bs R)(hi:Inv l0 n D R)(hn:n<=100000){i:Nat}{p:Pk}(hp:R.fl[i]?=some p)(hbl:bs.length<=1000)(hpot:potR R<=100000000) :
    Calls Tryz.prog 67 #[.pointer (some ⟨r,0,none⟩),.int .i64 (i:Int)] w fun e w'=>e=.returned .nilIface/\isRoom lo w' r bx bmx bs (Jcd l0 R i)/\sameBut w w' (Jbg lo w bmx):=by
 have hil:i<R.fl.length:=(llt hp);have hfl:=hi.room;have CP:Hid _:=Jfj h i hp hfl;have HD:Hid (Jcd l0 R i=Jce l0 (outR R i) p):=by show Jcd l0 R i=_;unfold Jcd;rw[hp]
 have CD:Hid (∀wx,Below w.heap.size w wx->Calls Tryz.prog 132 #[.pointer (some ⟨r,0,none⟩),.int .i64 (i:Int)] wx fun e w'=>e=.returned (.tuple #[])/\isRoom lo w' r bx bmx bs (outR R i)/\Env lo w'/\sameBut w w' (Jbg lo w bmx)/\(∀v,opX lo wx v p.x.op->opX lo w' v p.x.op)/\∀β,w.heap.size<=β->β<wx.heap.size->w'.heap[β]?=wx.heap[β]?):=fun wx hb=>by
  have hr:=Jap h hb;refine(Ji5 hr hil hfl).mono ?_
  rintro e w' ⟨rfl,a,c⟩;have hs:=JaI (bmx:=bmx) hb (JcT (c.touch hr));refine⟨rfl,a,he.room hs,hs,fun v hv=>opX_F hv hr c,fun β h1 h2=>c.1.2 β h2 fun e=>?_⟩;have:=(JlM h (Ji8 (Jbo h) hb e)).2.1;omega
 have CC:Hid (∀wx v,isRoom lo wx r bx bmx bs (outR R i)->Env lo wx->opX lo wx v p.x.op->Calls Tryz.prog 133 #[.pointer (some ⟨r,0,none⟩),pkV p v] wx fun e w'=>e=.returned (.tuple #[])/\isRoom lo w' r bx bmx bs (Jcd l0 R i)/\sameBut wx w' (Jbg lo wx bmx)):=fun wx v hr he hx=>by
  rw[HD.out];exact Jl9 he hr (hi.out i) hn p (hi.pks p (List.mem_of_getElem? hp)) v hx hbl (Nat.le_trans (JlC R i) hpot)
 unfold pkV at CP CC;generalize Jcd l0 R i=RD at *;generalize outR R i=RO at *;obtain⟨a,c,rv,id,x⟩:=p;simp only at CP CD CC;generalize x.op.length=xl at *;clear he h hi hp hil hfl hbl hpot
 go_enter Tryz.func67,Tryz.ntmps67
 go_wp2_with (first
  | (go_at_call 131;refine Calls.mono CP.out ?_;rintro e w1 ⟨v,rfl,ho,hb1⟩;obtain⟨pv,cv,rfl⟩:=JaH ho;have HB1:=hdz hb1;have HBX:Hid (∀o,Below w.heap.size w (w1.alloc o)):=fun o=>hb1.alloc hb1.size o
     have HO:=hdz ho;obtain⟨β,hβ⟩:∃β,w1.heap.size=β:=⟨_,rfl⟩;have HBT:Hid (w1.heap.size=β):=hβ
     clear ho hb1)
  | (go_at_call 132;refine(CD.out _ (HBX.out _)).mono ?_
     rintro e w2 ⟨rfl,h2,he2,hs2,ho2,hk2⟩;have H2:=hdz h2;have HE2:=hdz he2;have HS2:=hdz hs2;have hbox:=(hk2 β (by rw[←HBT.out];exact HB1.out.size) (by rw[wsa,HBT.out];omega)).trans (HBT.out ▸ heap_alloc_new w1 _);have HO2:Hid _:=ho2 _ (Ja5 HO.out ((brf _ _).alloc (nlr _) _));have y0:=chp hbox 0;have y1:=chp hbox 1;have y2:=chp hbox 2;have y3:=chp hbox 3;have y4:=chp hbox 4;have y5:=chp hbox 5;have y6:=chp hbox 6;simp only[List.getElem?_toArray,List.getElem?_cons_zero,List.getElem?_cons_succ]at y0 y1 y2 y3 y4 y5 y6
     clear h2 he2 hs2 ho2 hk2 hbox)
  | (go_at_call 133;refine(CC.out w2 _ H2.out HE2.out HO2.out).mono ?_;rintro e w3 ⟨rfl,h3,hs3⟩;have H3:=hdz h3;have HS3:Hid _:=JbJ HS2.out hs3;clear h3 hs3)
  | fail)
 go_ret;exact⟨rfl,H3.out,HS3.out⟩
theorem Jjv(h:isRoom lo w r bx bmx bs R)(k:Int)(hk:k<0\/(R.fl.length:Int)<=k) :
    Calls Tryz.prog 67 #[.pointer (some ⟨r,0,none⟩),.int .i64 k] w fun e w'=>e=.returned (.iface 26 (.int .i64 2))/\Below w.heap.size w w':=by
 have CP:Hid _:=Je4 h k hk;clear h hk
 go_enter Tryz.func67,Tryz.ntmps67
 go_wp2_with (first
  | (go_at_call 131;refine Calls.mono CP.out ?_;rintro e w1 ⟨rfl,hb1⟩;have HB1:=hdz hb1;have HB1A:Hid (∀o,Below w.heap.size w (w1.alloc o)):=fun o=>hb1.alloc hb1.size o;clear hb1)
  | fail)
 go_ret;exact⟨rfl,HB1A.out _⟩
end
section
variable {E : List SE}{x : SE}{j : Nat}{R : Rm}{S : Cl}{M M' : Told}{p : Pk}{l0 n k u : Int}{D : List (List UInt8)}
theorem JjZ(op:List Pt)(a b:List SE):JaK op (a++b)=JaK (JaK op a) b:=by unfold JaK;rw[List.foldl_append]
theorem Jhg{i:Nat}(hj:j<=E.length):((E++[x]).drop i).take (j - i)=(E.drop i).take (j - i):=by
 rcases Nat.lt_or_ge i E.length with hi|hi
 . rw[List.drop_append_of_le_length (by omega),List.take_append_of_le_length (by rw[List.length_drop];omega)]
 . have:j - i=0:=by omega
   rw[this];simp
structure Pr (E:List SE) (M:Told) (k:Int) (S:Cl):Prop where
 le:(got M k).1<=S.id
 none_:S.mine=[]->(got M k).1=S.id
 ent:∀(j:Nat) (x:SE),S.rev.toNat<=j->E[j]?=some x->x.c=k->S.mine≠[]/\x.i=S.id/\got M k=(S.id,0)/\x.op=JaK (JbB S) ((E.drop S.rev.toNat).take (j - S.rev.toNat))/\∀(j':Nat) (x':SE),S.rev.toNat<=j'->E[j']?=some x'->x'.c=k->j'=j
 has:S.mine≠[]->got M k=(S.id,0)->∃(j:Nat) (x:SE),S.rev.toNat<=j/\E[j]?=some x/\x.c=k
 no8:(got M k).2≠8
structure Pq (E:List SE) (M:Told) (p:Pk) (S:Cl):Prop where
 ask:p.kind=1->p.id<=S.id/\p.rev<=S.rev/\((got M p.c).1<p.id->p.id=S.id/\S.mine≠[]/\JaK p.x.op ((E.drop p.rev.toNat).take (S.rev.toNat - p.rev.toNat))=JbB S)
 refuse:p.kind=4->p.id<=S.id/\(p.id=S.id->S.mine≠[]->(got M p.c).1=S.id/\(got M p.c).2≠0)
structure Inv2 (R:Rm):Prop where
 pr:∀(k:Nat) (q:Int×Cl),R.cl[k]?=some q->Pr R.E R.M k q.2
 pq:∀p∈R.fl,Pq R.E R.M p (clK R p.c).2
theorem clK_set{k:Nat}(hk:k<R.cl.length):clK (setC R k S) j=if k=j then ((clK R k).1,S) else clK R j:=by
 unfold clK setC;simp only;rw[List.getElem?_set]
 split
 . rename_i h;subst h;first | rfl | (rw[if_pos hk];rfl)
 . rfl
theorem Inv2.setK(h:Inv2 R){k:Nat}(hk:k<R.cl.length){S:Cl}(hS:Pr R.E R.M k S)(hp:∀p∈R.fl,p.c=k->Pq R.E R.M p S):Inv2 (setC R k S):=by
 refine⟨fun j q hq=>?_,fun p hpm=>?_⟩
 . have hq:(R.cl.set k ((clK R k).1,S))[j]?=some q:=hq
   rw[List.getElem?_set]at hq
   split at hq
   . rename_i e
     try rw[if_pos hk]at hq
     obtain rfl:=osi hq;subst e;exact hS
   . exact h.pr j q hq
 . show Pq R.E R.M p (clK (setC R k S) p.c).2
   rw[clK_set hk]
   split
   . rename_i e;exact hp p hpm e.symm
   . exact h.pq p hpm
theorem Inv2.send(h:Inv2 R){p:Pk}(hp:Pq R.E R.M p (clK R p.c).2):Inv2 (Jb5 R p):=by
 obtain⟨a,b,c,d,e⟩:=Jct R p;refine⟨fun k q hq=>?_,fun x hx=>?_⟩
 . rw[e]at hq
   rw[b,c];exact h.pr k q hq
 . have hc:clK (Jb5 R p) x.c=clK R x.c:=by unfold clK;rw[e]
   rw[b,c,hc];unfold Jb5 at hx
   split at hx
   . exact h.pq x hx
   . rcases List.mem_append.1 hx with hx|hx
     . exact h.pq x hx
     . rw[List.mem_singleton.1 hx];exact hp
theorem JoT(h1:p.kind≠1)(h4:p.kind≠4):Pq E M p S:=⟨fun e=>absurd e h1,fun e=>absurd e h4⟩
theorem Inv2.tellM{k:Nat}:∀(xs:List SE)(f:Int)(R:Rm),Inv2 R->Inv2 (Jdy k f xs R)
 | [],_,_,h=>h
 | x :: xs,f,R,h=>Inv2.tellM xs (f+1) _ (h.send (JoT (show(3:Int)≠1 by decide) (show(3:Int)≠4 by decide)))
theorem Inv2.tellK(h:Inv2 R)(k:Nat)(f:Int):Inv2 (Jci R k f):=by
 unfold Jci
 split
 . exact h
 . exact Inv2.tellM _ _ _ h
theorem Inv2.out(h:Inv2 R)(i:Nat):Inv2 (outR R i):=⟨h.pr,fun p hp=>h.pq p (List.mem_of_mem_eraseIdx hp)⟩
/-! a client's own -/
theorem Inv2.edit(hi:Inv l0 n D R)(h:Inv2 R){k:Nat}(hk:k<R.cl.length)(q:List Pt):Inv2 (JkF R k q):=by
 obtain⟨e,hc⟩:=hi.clk hk;have hp:=h.pr k _ e;have hpq:∀p∈R.fl,p.c=k->Pq R.E R.M p (clK R k).2:=fun p hp e=>by have:=h.pq p hp;rw[e]at this;exact this
 unfold JkF;generalize (clK R k).1=u at *;generalize (clK R k).2=S at *;refine h.setK hk ?_ ?_
 . unfold edS
   split
   . rcases hm:S.mine with _ | ⟨m,_ | ⟨m2,ms⟩⟩
     . have hn:=hp.none_ hm
       refine⟨?_,?_,?_,?_,hp.no8⟩
       . simp;omega
       . intro e;simp[addM]at e
       . intro j x hj hx hxc
         exact absurd hm (hp.ent j x hj hx hxc).1
       . intro _ hg
         have hg:got R.M k=(S.id+1,0):=by simpa using hg
         rw[hg]at hn;have hn:S.id+1=S.id:=hn;omega
     . have hne:S.mine≠[]:=by rw[hm];simp
       have hh:JbB { S with doc:=Jab (edO u S q) S.doc,mine:=addM (edO u S q) [m],id:=if [m]=[] then S.id+1 else S.id }=JbB S:=by unfold JbB;rw[hm];rfl
       refine⟨by simpa using hp.le,fun e=>(by simp[addM]at e),fun j x hj hx hxc=>?_,fun _ hg=>hp.has hne (by simpa using hg),hp.no8⟩;obtain⟨_,a,b,c,d⟩:=hp.ent j x hj hx hxc;rw[hh];exact⟨by simp[addM],by simpa using a,by simpa using b,c,d⟩
     . have hne:S.mine≠[]:=by rw[hm];simp
       have hh:JbB { S with doc:=Jab (edO u S q) S.doc,mine:=addM (edO u S q) (m :: m2 :: ms),id:=if (m :: m2 :: ms)=[] then S.id+1 else S.id }=JbB S:=by unfold JbB;rw[hm];rfl
       refine⟨by simpa using hp.le,fun e=>(by simp[addM]at e),fun j x hj hx hxc=>?_,fun _ hg=>hp.has hne (by simpa using hg),hp.no8⟩;obtain⟨_,a,b,c,d⟩:=hp.ent j x hj hx hxc;rw[hh];exact⟨by simp[addM],by simpa using a,by simpa using b,c,d⟩
   . exact hp
 . intro p hpm hpc
   have hq:=hpq p hpm hpc;unfold edS
   split
   . rcases hm:S.mine with _ | ⟨m,_ | ⟨m2,ms⟩⟩
     . refine ⟨fun e1=>?_,fun e4=>?_⟩
       . obtain⟨a,b,c⟩:=hq.ask e1
         refine⟨by simp;omega,b,fun hl=>?_⟩;exact absurd hm (c hl).2.1
       . obtain⟨a,b⟩:=hq.refuse e4
         refine⟨by simp;omega,fun e=>?_⟩;simp at e;omega
     . have hne:S.mine≠[]:=by rw[hm];simp
       have hh:JbB { S with doc:=Jab (edO u S q) S.doc,mine:=addM (edO u S q) [m],id:=if [m]=[] then S.id+1 else S.id }=JbB S:=by unfold JbB;rw[hm];rfl
       refine⟨fun e1=>?_,fun e4=>?_⟩
       . obtain⟨a,b,c⟩:=hq.ask e1
         refine⟨by simpa using a,b,fun hl=>?_⟩;obtain⟨c1,c2,c3⟩:=c hl;rw[hh];exact⟨by simpa using c1,by simp[addM],c3⟩
       . obtain⟨a,b⟩:=hq.refuse e4
         exact⟨by simpa using a,fun e _=>by simpa using b (by simpa using e) hne⟩
     . have hne:S.mine≠[]:=by rw[hm];simp
       have hh:JbB { S with doc:=Jab (edO u S q) S.doc,mine:=addM (edO u S q) (m :: m2 :: ms),id:=if (m :: m2 :: ms)=[] then S.id+1 else S.id }=JbB S:=by unfold JbB;rw[hm];rfl
       refine⟨fun e1=>?_,fun e4=>?_⟩
       . obtain⟨a,b,c⟩:=hq.ask e1
         refine⟨by simpa using a,b,fun hl=>?_⟩;obtain⟨c1,c2,c3⟩:=c hl;rw[hh];exact⟨by simpa using c1,by simp[addM],c3⟩
       . obtain⟨a,b⟩:=hq.refuse e4
         exact⟨by simpa using a,fun e _=>by simpa using b (by simpa using e) hne⟩
   . exact hq
theorem Inv2.askK(hi:Inv l0 n D R)(h:Inv2 R){k:Nat}(hk:k<R.cl.length):Pq R.E R.M (askP R k) (clK R (askP R k).c).2:=by
 have hc:(askP R k).c=k:=by unfold askP;split<;>rfl
 rw[hc];unfold askP
 split
 . exact JoT (show(2:Int)≠1 by decide) (show(2:Int)≠4 by decide)
 . rename_i hm
   refine⟨fun _=>⟨Int.le_refl _,Int.le_refl _,fun _=>⟨rfl,hm,?_⟩⟩,fun e=>(by cases e)⟩;show JaK (JbB (clK R k).2) _=_;rw[Nat.sub_self,List.take_zero];rfl
theorem Inv2.sendK(hi:Inv l0 n D R)(h:Inv2 R){k:Nat}(hk:k<R.cl.length):Inv2 (Jde R k):=h.send (h.askK hi hk)
/-! the server's answer -/
theorem Jrj(h:Inv l0 n D R){rev:Int}{op:List Pt}{d:List UInt8}(hr:0<=rev/\rev<=(R.E.length:Int))(hd:D[rev.toNat]?=some d)(hg:good op d):doE l0 R.t R.E rev op=0\/doE l0 R.t R.E rev op=4\/doE l0 R.t R.E rev op=12:=by
 obtain⟨d',e1,g'⟩:=h.lk.turn (op:=op) (R.E.length - rev.toNat) rev.toNat d op hd hg (by omega);rw[show rev.toNat+(R.E.length - rev.toNat)=R.E.length by omega,h.docs.last]at e1;obtain rfl:=osi e1;rw[List.take_of_length_le (by rw[List.length_drop];omega)]at g';obtain⟨d2,e2,e3⟩:=h.docs.at_ rev.toNat (by omega);rw[hd]at e2;obtain rfl:=osi e2;have hc:chkE op (endE l0 (R.E.take rev.toNat))=0:=by rw[←e3];exact hg.chk
 unfold doE
 split
 . omega
 split
 . exact .inr (.inl rfl)
 split
 . rename_i h1;exact absurd hc h1
 split
 . rename_i h1;exact absurd g'.ord h1
 split
 . exact .inr (.inr rfl)
 . exact .inl rfl
theorem Jp4(M:Told)(c:Int)(x:Int×Int)(k:Int):got (upd M c x) k=if k=c then x else got M k:=by
 unfold got upd
 split<;>rfl
theorem Pr.other(h:Pr E M k S)(hM:got M' k=got M k)(hr:S.rev.toNat<=E.length){x:SE}(hx:x.c≠k):Pr (E++[x]) M' k S:=by
 have key:∀(j:Nat) (y:SE),(E++[x])[j]?=some y->y.c=k->E[j]?=some y:=fun j y hy hc=>by
  rcases Nat.lt_or_ge j E.length with hj|hj
  . rwa[List.getElem?_append_left hj]at hy
  . have:j<(E++[x]).length:=(llt hy)
    have hje:j=E.length:=by simp at this;omega
    subst hje;rw[List.getElem?_append_right (nlr _),Nat.sub_self]at hy;obtain rfl:x=y:=by simpa using hy
    exact absurd hc hx
 refine⟨by rw[hM];exact h.le,fun e=>by rw[hM];exact h.none_ e,fun j y hj hy hc=>?_,fun hm hg=>?_,by rw[hM];exact h.no8⟩
 . have hy':=key j y hy hc
   have hjl:j<E.length:=(List.getElem?_eq_some_iff.1 hy').1;obtain⟨a,b,c,d,e⟩:=h.ent j y hj hy' hc;refine⟨a,b,by rw[hM];exact c,by rw[Jhg (Nat.le_of_lt hjl)];exact d,fun j' x' hj' hx' hc'=>e j' x' hj' (key j' x' hx' hc') hc'⟩
 . rw[hM]at hg
   obtain⟨j,y,a,b,c⟩:=h.has hm hg;refine⟨j,y,a,?_,c⟩;rw[List.getElem?_append_left (llt b)];exact b
theorem Pr.same(h:Pr E M k S)(hM:got M' k=got M k):Pr E M' k S :=
 ⟨by rw[hM];exact h.le,fun e=>by rw[hM];exact h.none_ e,fun j y hj hy hc=>by rw[hM];exact h.ent j y hj hy hc,fun hm hg=>h.has hm (by rw[←hM];exact hg),by rw[hM];exact h.no8⟩
theorem Inv2.srv(hi:Inv l0 n D R)(h:Inv2 R){p:Pk}(hp:okPk R.E D R.cl.length p)(hk:p.kind=1)(hq:Pq R.E R.M p (clK R p.c).2) :
    Inv2 (srvR l0 R p)/\(got (srvR l0 R p).M p.c).1=max (got R.M p.c).1 p.id/\(srvE l0 R p≠0->srvE l0 R p≠8->got (srvR l0 R p).M p.c=(p.id,srvE l0 R p))/\(p.id=(got (srvR l0 R p).M p.c).1->srvE l0 R p=(got (srvR l0 R p).M p.c).2):=by
 obtain⟨e,hc⟩:=hi.clk hp.c;have hpr:=h.pr p.c _ e;have hrl:=hc.revle hi.lk;have hr0:=hc.rev;obtain⟨q1,q2,q3⟩:=hq.ask hk;have hE:(srvR l0 R p).E=stL l0 R.t R.E R.M p.c p.id p.rev p.x.op:=rfl;have hM:(srvR l0 R p).M=stM l0 R.t R.E R.M p.c p.id p.rev p.x.op:=rfl;have hcl:∀j,clK (srvR l0 R p) j=clK R j:=fun j=>rfl
 by_cases ho:Jge R.M p.c p.id
 . have e1:(srvR l0 R p).E=R.E:=by rw[hE];unfold stL;rw[if_pos ho]
   have e2:(srvR l0 R p).M=R.M:=by rw[hM];unfold stM;rw[if_pos ho]
   have e3:srvE l0 R p=if p.id<(got R.M p.c).1 then 8 else (got R.M p.c).2:=by unfold srvE stE;rw[if_pos ho]
   have ho:p.id<=(got R.M p.c).1:=ho;refine⟨⟨fun k q hq=>?_,fun x hx=>?_⟩,?_,fun h0 h8=>?_,fun hid=>?_⟩
   . rw[e1,e2];exact h.pr k q hq
   . rw[e1,e2];exact h.pq x hx
   . rw[e2];omega
   . rw [e2,e3]
     rw[e3]at h8
     split at h8
     . exact absurd rfl h8
     . rename_i hl
       rw[if_neg hl];have:p.id=(got R.M p.c).1:=by omega
       rw[this]
   . rw[e2]at hid ⊢
     rw[e3,if_neg (by omega)]
 . have hlt : (got R.M p.c).1<p.id:=by have:¬p.id<=(got R.M p.c).1:=ho;omega
   obtain⟨c1,c2,c3⟩:=q3 hlt;obtain⟨x1,x2,d,hd,hg,hpu⟩:=hp.ask hk;have hkinds:=Jrj hi hp.rev hd hg;have e2:(srvR l0 R p).M=upd R.M p.c (p.id,doE l0 R.t R.E p.rev p.x.op):=by rw[hM];unfold stM;rw[if_neg ho]
   have e3:srvE l0 R p=doE l0 R.t R.E p.rev p.x.op:=by unfold srvE stE;rw[if_neg ho]
   have hgot:got (srvR l0 R p).M p.c=(p.id,doE l0 R.t R.E p.rev p.x.op):=by rw[e2,Jp4,if_pos rfl]
   have hoth:∀k:Int,k≠p.c->got (srvR l0 R p).M k=got R.M k:=fun k hk=>by rw[e2,Jp4,if_neg hk]
   have hnoent:∀(j:Nat) (x:SE),(clK R p.c).2.rev.toNat<=j->R.E[j]?=some x->x.c=(p.c:Int)->False:=fun j x hj hx hxc=>by
    have:=(hpr.ent j x hj hx hxc).2.2.1;rw[this]at hlt;simp at hlt;omega
   have hpqk:∀(x:Pk),x∈R.fl->x.c=p.c->∀E',Pq E' (srvR l0 R p).M x (clK R p.c).2:=fun x hx hxc E'=>by
    have hqx:=h.pq x hx;rw[hxc]at hqx;refine⟨fun k1=>?_,fun k4=>?_⟩
    . obtain⟨a,b,c⟩:=hqx.ask k1
      refine⟨a,b,fun hl=>?_⟩;rw[hxc,hgot]at hl;simp at hl;omega
    . obtain⟨a,b⟩:=hqx.refuse k4
      refine⟨a,fun hid hm=>?_⟩;have:=(b hid hm).1;rw[hxc]at this;omega
   have hhas:∀E',(doE l0 R.t R.E p.rev p.x.op=0->∃(j:Nat) (x:SE),(clK R p.c).2.rev.toNat<=j/\E'[j]?=some x/\x.c=(p.c:Int))->(∀(j:Nat) (x:SE),(clK R p.c).2.rev.toNat<=j->E'[j]?=some x->x.c=(p.c:Int)->doE l0 R.t R.E p.rev p.x.op=0/\x.i=p.id/\x.op=JaK (JbB (clK R p.c).2) ((E'.drop (clK R p.c).2.rev.toNat).take (j - (clK R p.c).2.rev.toNat))/\j=R.E.length)->Pr E' (srvR l0 R p).M p.c (clK R p.c).2:=fun E' h1 h2=>by
    refine⟨by rw[hgot];exact q1,fun em=>absurd em c2,fun j x hj hx hxc=>?_,fun hm hg0=>?_,?_⟩
    . obtain⟨a,b,c,d⟩:=h2 j x hj hx hxc
      refine⟨c2,by rw[b,c1],by rw[hgot,a,c1],c,fun j' x' hj' hx' hxc'=>?_⟩;rw[d];exact(h2 j' x' hj' hx' hxc').2.2.2
    . rw[hgot]at hg0
      have:doE l0 R.t R.E p.rev p.x.op=0:=by injection hg0
      exact h1 this
    . rw[hgot]
      show doE l0 R.t R.E p.rev p.x.op≠8
      rcases hkinds with e|e|e<;>rw[e]<;>decide
   by_cases hz:doE l0 R.t R.E p.rev p.x.op=0
   . have e1:(srvR l0 R p).E=R.E++[⟨p.c,p.id,JaK p.x.op (R.E.drop p.rev.toNat)⟩]:=by rw[hE];unfold stL;rw[if_neg ho];unfold doL;rw[if_pos hz]
     refine⟨⟨fun k q hq=>?_,fun x hx=>?_⟩,by rw[hgot];show p.id=_;omega,fun h0 _=>by rw[hgot,e3],fun _=>by rw[hgot,e3]⟩
     . have hq:R.cl[k]?=some q:=hq
       rw[e1]
       by_cases hkc:k=p.c
       . subst hkc
         have:q=clK R p.c:=by rw[e]at hq;exact(osi hq).symm
         subst this;refine hhas _ (fun _=>⟨R.E.length,_,by omega,by rw[List.getElem?_append_right (nlr _),Nat.sub_self];rfl,rfl⟩) fun j x hj hx hxc=>?_
         rcases Nat.lt_or_ge j R.E.length with hjl|hjl
         . rw[List.getElem?_append_left hjl]at hx
           exact absurd (hnoent j x hj hx hxc) id
         . have:j<(R.E++[(⟨p.c,p.id,JaK p.x.op (R.E.drop p.rev.toNat)⟩:SE)]).length:=(llt hx)
           have hje:j=R.E.length:=by simp at this;omega
           subst hje;rw[List.getElem?_append_right (nlr _),Nat.sub_self]at hx;obtain rfl:(⟨p.c,p.id,JaK p.x.op (R.E.drop p.rev.toNat)⟩:SE)=x:=by simpa using hx
           refine⟨hz,rfl,?_,rfl⟩;show JaK p.x.op (R.E.drop p.rev.toNat)=_;rw[Jhg (nlr _),List.take_of_length_le (by rw[List.length_drop];omega),←c3,←JjZ]
           congr 1
           have hle:p.rev.toNat<=(clK R p.c).2.rev.toNat:=by omega
           obtain⟨m,hm⟩:∃m,(clK R p.c).2.rev.toNat=p.rev.toNat+m:=⟨_,(Nat.add_sub_of_le hle).symm⟩;rw[hm,Nat.add_sub_cancel_left,←List.drop_drop,List.take_append_drop]
       . have hkc':(k:Int)≠(p.c:Int):=by omega
         have hqr:=(hi.cls k q hq).revle hi.lk;exact(h.pr k q hq).other (hoth _ hkc') (by omega) (fun e=>hkc' e.symm)
     . have hx:x∈R.fl:=hx
       rw[hcl]
       by_cases hxc:x.c=p.c
       . have:=hpqk x hx hxc (srvR l0 R p).E
         rw[hxc];exact this
       . have hqx:=h.pq x hx
         have hxc':(x.c:Int)≠(p.c:Int):=by omega
         have hxm:=hi.pks x hx;obtain⟨ex,hcx⟩:=hi.clk hxm.c;have hxr:=hcx.revle hi.lk;refine⟨fun k1=>?_,fun k4=>?_⟩
         . obtain⟨a,b,c⟩:=hqx.ask k1
           refine⟨a,b,fun hl=>?_⟩;rw[hoth _ hxc']at hl;rw[e1,Jhg (by omega)];exact c hl
         . rw[hoth _ hxc'];exact hqx.refuse k4
   . have e1:(srvR l0 R p).E=R.E:=by rw[hE];unfold stL;rw[if_neg ho];unfold doL;rw[if_neg hz]
     refine⟨⟨fun k q hq=>?_,fun x hx=>?_⟩,by rw[hgot];show p.id=_;omega,fun h0 _=>by rw[hgot,e3],fun _=>by rw[hgot,e3]⟩
     . have hq:R.cl[k]?=some q:=hq
       rw[e1]
       by_cases hkc:k=p.c
       . subst hkc
         have:q=clK R p.c:=by rw[e]at hq;exact(osi hq).symm
         subst this;exact hhas _ (fun h0=>absurd h0 hz) fun j x hj hx hxc=>absurd (hnoent j x hj hx hxc) id
       . have hkc':(k:Int)≠(p.c:Int):=by omega
         exact(h.pr k q hq).same (hoth _ hkc')
     . have hx:x∈R.fl:=hx
       rw[hcl]
       by_cases hxc:x.c=p.c
       . have:=hpqk x hx hxc (srvR l0 R p).E
         rw[hxc];exact this
       . have hqx:=h.pq x hx
         have hxc':(x.c:Int)≠(p.c:Int):=by omega
         refine⟨fun k1=>?_,fun k4=>?_⟩
         . obtain⟨a,b,c⟩:=hqx.ask k1
           rw[e1];refine⟨a,b,fun hl=>?_⟩;rw[hoth _ hxc']at hl;exact c hl
         . rw[hoth _ hxc'];exact hqx.refuse k4
theorem Inv2.ask{l0 n:Int}{D:List (List UInt8)}{R:Rm}(hi:Inv l0 n D R)(h:Inv2 R){p:Pk}(hp:okPk R.E D R.cl.length p)(hk:p.kind=1)(hq:Pq R.E R.M p (clK R p.c).2):Inv2 (askR l0 R p):=by
 obtain⟨i1,i2,i3,i4⟩:=h.srv hi hp hk hq;have it:=i1.tellK p.c p.rev;obtain⟨ta,tb,tc,td,te⟩:=Jdx (srvR l0 R p) p.c p.rev;unfold askR
 split
 . rename_i hne
   refine it.send ⟨fun e=>(by cases e),fun _=>?_⟩;rw[tc];have hcl:clK (Jci (srvR l0 R p) p.c p.rev) (Jd1 p).c=clK R p.c:=by unfold clK;rw[te];rfl
   rw[hcl];have hg:=i3 hne.1 hne.2;obtain⟨q1,_,_⟩:=hq.ask hk;refine⟨q1,fun hid _=>?_⟩;have hid:p.id=(clK R p.c).2.id:=hid;show(got (srvR l0 R p).M p.c).1=_/\(got (srvR l0 R p).M p.c).2≠0;rw[hg];exact⟨hid,hne.1⟩
 . exact it
/-! a client is told -/
theorem Joz(hc:okCl n D (u,S))(hl:Lk E D)(hp:Pr E M k S){x:SE}(hx:E[S.rev.toNat]?=some x) :
    (x.c≠k/\tkS k S S.rev x.c x.i x.op = { S with seen:=Jab x.op S.seen,rev:=S.rev+1,mine:=(Jbk S.mine x.op).1,doc:=Jab (Jbk S.mine x.op).2 S.doc }) \/
    (x.c=k/\S.mine≠[]/\got M k=(S.id,0)/\tkS k S S.rev x.c x.i x.op = { S with seen:=Jab x.op S.seen,rev:=S.rev+1,mine:=S.mine.tail,id:=if S.mine.tail≠[] then S.id+1 else S.id }):=by
 obtain⟨g,hd⟩:=hl.link _ _ _ hx hc.seen;have ho:ordE x.op S.seen=0:=g.ord
 by_cases hxc:x.c=k
 . obtain ⟨a,b,c,d,e⟩:=hp.ent _ x (nlr _) hx hxc
   rw[Nat.sub_self,List.take_zero]at d;have hd':x.op=JbB S:=d;have hown:JkA k S x.c x.i:=⟨a,hxc,b⟩;have ht:tkE k S S.rev x.c x.i x.op=0:=by
    unfold tkE;rw[if_neg (by simp),if_neg (by simpa using ho),if_neg fun e=>e.2 (by rw[hd'])]
   refine .inr ⟨hxc,a,c,?_⟩;unfold tkS;rw[if_neg (by rw[ht];simp),if_pos hown]
 . have hown:¬JkA k S x.c x.i:=fun e=>hxc e.2.1
   have ht:tkE k S S.rev x.c x.i x.op=0:=by
    unfold tkE;rw[if_neg (by simp),if_neg (by simpa using ho),if_neg fun e=>hown e.1]
   refine .inl ⟨hxc,?_⟩;unfold tkS;rw[if_neg (by rw[ht];simp),if_neg hown]
theorem JkB(S:Cl)(x:List Pt)(hm:S.mine≠[]):(Jbk S.mine x).1.headD []=JaC (Jba false (JbB S) x):=by
 unfold JbB
 rcases hm':S.mine with _|⟨m,ms⟩
 . exact absurd hm' hm
 . rfl
theorem Jor{r:Nat}(hx:E[r]?=some x)(hj:r<j)(op:List Pt):JaK op ((E.drop r).take (j - r))=JaK (JaC (Jba false op x.op)) ((E.drop (r+1)).take (j - (r+1))):=by
 have hr:r<E.length:=(llt hx);have e:E.drop r=x :: E.drop (r+1):=by
  rw[List.drop_eq_getElem_cons hr]
  congr 1
  rw[lgg hr]at hx;exact osi hx
 obtain⟨m,hm⟩:∃m,j - r=m+1:=⟨j - r - 1,by omega⟩;rw[hm,e,List.take_succ_cons,show j - (r+1)=m by omega];rfl
theorem Pr.told(hc:okCl n D (u,S))(hl:Lk E D)(hp:Pr E M k S){rev:Int}(hr0:0<=rev){x:SE}(hx:E[rev.toNat]?=some x):Pr E M k (tkS k S rev x.c x.i x.op):=by
 by_cases hr:rev=S.rev
 case neg=>rw[show tkS k S rev x.c x.i x.op=S from if_pos (.inl hr)];exact hp
 subst hr;have hr1:(S.rev+1).toNat=S.rev.toNat+1:=by omega
 rcases Joz hc hl hp hx with ⟨hxc,e⟩|⟨hxc,hm,hg,e⟩
 . rw [e]
   have hml:=JdQ S.mine x.op;have hiff:((Jbk S.mine x.op).1=[])↔(S.mine=[]):=by rw[←List.length_eq_zero_iff,←List.length_eq_zero_iff,hml]
   have hgt:∀(j:Nat) (y:SE),S.rev.toNat<=j->E[j]?=some y->y.c=k->S.rev.toNat+1<=j:=fun j y hj hy hyc=>by
    rcases Nat.lt_or_ge S.rev.toNat j with h|h
    . exact h
    . have:j=S.rev.toNat:=by omega
      subst this;rw[hx]at hy;obtain rfl:=osi hy;exact absurd hyc hxc
   refine⟨hp.le,fun em=>hp.none_ (hiff.1 em),fun j y hj hy hyc=>?_,fun hm hg=>?_,hp.no8⟩
   . have hj:(S.rev+1).toNat<=j:=hj
     rw[hr1]at hj;obtain⟨a,b,c,d,f⟩:=hp.ent j y (by omega) hy hyc;refine⟨fun em=>a (hiff.1 em),b,c,?_,fun j' x' hj' hx' hc'=>f j' x' (by have hj':(S.rev+1).toNat<=j':=hj';omega) hx' hc'⟩;show y.op=JaK ((Jbk S.mine x.op).1.headD []) ((E.drop (S.rev+1).toNat).take (j - (S.rev+1).toNat));rw[hr1,JkB S x.op a,d];exact Jor hx hj (JbB S)
   . obtain⟨j,y,a,b,c⟩:=hp.has (fun em=>hm (hiff.2 em)) hg
     exact⟨j,y,by show(S.rev+1).toNat<=j;rw[hr1];exact hgt j y a b c,b,c⟩
 . rw [e]
   have hno:∀(j:Nat) (y:SE),S.rev.toNat+1<=j->E[j]?=some y->y.c=k->False:=fun j y hj hy hyc=>by
    have:=(hp.ent _ x (nlr _) hx hxc).2.2.2.2 j y (by omega) hy hyc;omega
   refine⟨?_,fun em=>?_,fun j y hj hy hyc=>?_,fun hm' hg'=>?_,hp.no8⟩
   . show(got M k).1<=if S.mine.tail≠[] then S.id+1 else S.id
     rw[hg];simp only;split<;>omega
   . have em:S.mine.tail=[]:=em
     show(got M k).1=if S.mine.tail≠[] then S.id+1 else S.id
     rw[hg,if_neg (by simpa using em)]
   . have hj:(S.rev+1).toNat<=j:=hj
     rw[hr1]at hj;exact absurd (hno j y hj hy hyc) id
   . have hm':S.mine.tail≠[]:=hm'
     have hg':got M k=((if S.mine.tail≠[] then S.id+1 else S.id),0):=hg';rw[hg,if_pos hm']at hg';injection hg' with h1 _
     omega
theorem Pq.told(hc:okCl n D (u,S))(hl:Lk E D)(hp:Pr E M p.c S)(hq:Pq E M p S){rev:Int}(hr0:0<=rev)(hpr:0<=p.rev){x:SE}(hx:E[rev.toNat]?=some x):Pq E M p (tkS p.c S rev x.c x.i x.op):=by
 by_cases hr:rev=S.rev
 case neg=>rw[show tkS p.c S rev x.c x.i x.op=S from if_pos (.inl hr)];exact hq
 subst hr;have hr1:(S.rev+1).toNat=S.rev.toNat+1:=by omega
 rcases Joz hc hl hp hx with ⟨hxc,e⟩|⟨hxc,hm,hg,e⟩
 . rw [e]
   have hml:=JdQ S.mine x.op;have hiff:((Jbk S.mine x.op).1=[])↔(S.mine=[]):=by rw[←List.length_eq_zero_iff,←List.length_eq_zero_iff,hml]
   refine⟨fun k1=>?_,fun k4=>?_⟩
   . obtain⟨a,b,c⟩:=hq.ask k1
     refine⟨a,by show p.rev<=S.rev+1;omega,fun hlt=>?_⟩;obtain⟨c1,c2,c3⟩:=c hlt;refine⟨c1,fun em=>c2 (hiff.1 em),?_⟩;show JaK p.x.op ((E.drop p.rev.toNat).take ((S.rev+1).toNat - p.rev.toNat))=(Jbk S.mine x.op).1.headD [];rw[JkB S x.op c2,←c3,hr1];have hle:p.rev.toNat<=S.rev.toNat:=by omega
     have hsub:S.rev.toNat+1 - p.rev.toNat=(S.rev.toNat - p.rev.toNat)+1:=by omega
     have hxe:(E.drop p.rev.toNat)[S.rev.toNat - p.rev.toNat]?=some x:=by rw[List.getElem?_drop,show p.rev.toNat+(S.rev.toNat - p.rev.toNat)=S.rev.toNat by omega];exact hx
     rw[hsub,List.take_add_one,hxe,JjZ];rfl
   . obtain⟨a,b⟩:=hq.refuse k4
     exact⟨a,fun hid hm=>b hid fun em=>hm (hiff.2 em)⟩
 . rw [e]
   have hid':S.id<=(if S.mine.tail≠[] then S.id+1 else S.id):=by split<;>omega
   refine⟨fun k1=>?_,fun k4=>?_⟩
   . obtain⟨a,b,c⟩:=hq.ask k1
     refine⟨Int.le_trans a hid',by show p.rev<=S.rev+1;omega,fun hlt=>?_⟩;rw[hg]at hlt;simp only at hlt;omega
   . obtain⟨a,b⟩:=hq.refuse k4
     refine⟨Int.le_trans a hid',fun hid hm'=>?_⟩;have hm':S.mine.tail≠[]:=hm';have hid:p.id=(if S.mine.tail≠[] then S.id+1 else S.id):=hid;rw[if_pos hm']at hid;omega
theorem Inv2.told{l0 n:Int}{D:List (List UInt8)}{R:Rm}(hi:Inv l0 n D R)(h:Inv2 R){k:Nat}(hk:k<R.cl.length){rev:Int}(hr:0<=rev){x:SE}(hx:R.E[rev.toNat]?=some x):Inv2 (setC R k (tkS k (clK R k).2 rev x.c x.i x.op)):=by
 obtain⟨e,hc⟩:=hi.clk hk;have hp:=h.pr k _ e;refine h.setK hk (Pr.told (u:=(clK R k).1) (S:=(clK R k).2) hc hi.lk hp hr hx) fun p hpm hpc=>?_
 have hq:=h.pq p hpm;subst hpc;exact Pq.told (u:=(clK R p.c).1) (S:=(clK R p.c).2) hc hi.lk hp hq hr (hi.pks p hpm).rev.1 hx
theorem Inv2.refused(hi:Inv l0 n D R)(h:Inv2 R){k:Nat}(hk:k<R.cl.length){id:Int}(hid:id=(clK R k).2.id->(clK R k).2.mine≠[]->(got R.M k).1=(clK R k).2.id/\(got R.M k).2≠0):Inv2 (setC R k (rfS (clK R k).2 id)):=by
 obtain⟨e,hc⟩:=hi.clk hk;have hp:=h.pr k _ e;have hpq:∀p∈R.fl,p.c=k->Pq R.E R.M p (clK R k).2:=fun p hp e=>by have:=h.pq p hp;rw[e]at this;exact this
 generalize (clK R k).2=S at *
 by_cases hm:S.mine≠[]/\id=S.id
 . rw [show rfS S id = { S with mine:=[],doc:=S.seen,drops:=S.drops+1 } from if_pos hm]
   obtain⟨g1,g2⟩:=hid hm.2 hm.1;have hno:∀(j:Nat) (y:SE),S.rev.toNat<=j->R.E[j]?=some y->y.c=(k:Int)->False:=fun j y hj hy hyc=>by
    have:=(hp.ent j y hj hy hyc).2.2.1;rw[this]at g2;exact g2 rfl
   refine h.setK hk ⟨hp.le,fun _=>g1,fun j y hj hy hyc=>(hno j y hj hy hyc).elim,fun em=>absurd rfl em,hp.no8⟩ fun p hpm hpc=>?_
   have hq:=hpq p hpm hpc;refine⟨fun k1=>?_,fun k4=>?_⟩
   . obtain⟨a,b,c⟩:=hq.ask k1
     refine⟨a,b,fun hl=>?_⟩;rw[hpc,g1]at hl;omega
   . obtain⟨a,b⟩:=hq.refuse k4
     exact⟨a,fun _ hm=>absurd rfl hm⟩
 . rw[show rfS S id=S from if_neg hm]
   exact h.setK hk hp hpq
theorem Inv2.comes(hi:Inv l0 n D R)(h:Inv2 R){p:Pk}(hp:okPk R.E D R.cl.length p)(hq:Pq R.E R.M p (clK R p.c).2):Inv2 (Jce l0 R p):=by
 unfold Jce
 by_cases k1:p.kind=1
 . rw[if_pos k1];exact h.ask hi hp k1 hq
 rw[if_neg k1]
 by_cases k2:p.kind=2
 . rw[if_pos k2];exact h.tellK _ _
 rw[if_neg k2]
 by_cases k3:p.kind=3
 . rw[if_pos k3];exact h.told hi hp.c hp.rev.1 (hp.told k3)
 rw[if_neg k3]
 by_cases k4:p.kind=4
 . rw[if_pos k4];exact h.refused hi hp.c (hq.refuse k4).2
 . rw[if_neg k4];exact h
end
section
variable {l0 n : Int}{D : List (List UInt8)}{R : Rm}
theorem Inv2.settleM{l0 n:Int}:∀(m:Nat)(D:List (List UInt8))(R:Rm),Inv l0 n D R->Inv2 R->Inv2 (JcC l0 m R)
 | 0,D,R,_,h=>h
 | m + 1,D,R,hi,h=>by
  cases hf:R.fl with
  | nil=>rw[JdR l0 (m+1) R hf];exact h
  | cons p fl =>
   have hp:=hi.pks p (by rw[hf];simp);have hq:=h.pq p (by rw[hf];simp);have ho:=hi.out 0;have ho2:=h.out 0;rw[JgS hf]at ho ho2;obtain⟨D1,i1,_⟩:=ho.comes (p:=p) hp;rw[Jef l0 m R p fl hf];exact Inv2.settleM m D1 _ i1 (ho2.comes ho hp hq)
theorem Inv2.settle(hi:Inv l0 n D R)(h:Inv2 R):Inv2 (Jbj l0 R):=Inv2.settleM _ D R hi h
theorem Inv2.deliv(hi:Inv l0 n D R)(h:Inv2 R)(i:Nat):Inv2 (Jcd l0 R i):=by
 unfold Jcd
 cases hp:R.fl[i]? with
 | none=>exact h
 | some p=>exact(h.out i).comes (hi.out i) (p:=p) (hi.pks p (List.mem_of_getElem? hp)) (h.pq p (List.mem_of_getElem? hp))
theorem Inv2.twice(h:Inv2 R){i:Nat}{p:Pk}(hp:R.fl[i]?=some p):Inv2 (Jb5 R p):=h.send (h.pq p (List.mem_of_getElem? hp))
theorem Inv2.quietM{l0 n:Int}:∀(m k:Nat)(D:List (List UInt8))(R:Rm),Inv l0 n D R->Inv2 R->k+m=R.cl.length->Inv2 (JcL l0 m k R)
 | 0,k,D,R,_,h,_=>h
 | m+1,k,D,R,hi,h,hk=>by
  have h1:=hi.sendK (k:=k) (by omega);have h2:=h.sendK hi (k:=k) (by omega);have hc:(Jde R k).cl.length=R.cl.length:=by unfold Jde;rw[(Jct _ _).2.2.2.2]
  obtain⟨D1,i1,i2,i3,i4,i5⟩:=h1.settle;exact Inv2.quietM m (k+1) D1 _ i1 (h2.settle h1) (by rw[i3,hc];omega)
theorem Inv2.quiet(hi:Inv l0 n D R)(h:Inv2 R):Inv2 (Jc7 l0 R):=by
 obtain⟨D1,i1,i2,i3,i4,i5⟩:=hi.settle;exact Inv2.quietM R.cl.length 0 D1 _ i1 (h.settle hi) (by rw[i3];omega)
/-! one client sends, and all comes -/
theorem Jl5(h:R.fl=[]):Jbj l0 R=R:=JdR l0 _ R h
end
section
open Go.RowKit Go.Maps
attribute [local go_sem] Oper.semAt_some Ja2 JaV
variable {lo r bx bmx : Nat}{w : World}{bs : List Nat}{R : Rm}
def JqP (w:World) (g i:Nat):Nat:=match w.cell? ⟨g,i*7,none⟩ with
 | some (.int _ k)=>if k=1\/k=2 then 400 else 1
 | _=>1
def Jjh (w:World) (r:Nat):Nat:=match w.cell? ⟨r,2,none⟩ with
 | some (.slice (some a) n _)=>((List.range n).map (JqP w a.block)).sum
 | _=>0
theorem Jie(h:isRoom lo w r bx bmx bs R):Jjh w r=Ja1 R.fl:=by
 obtain⟨pc,cc,pf,cf,h2,h3,h4⟩:=Jbv h;have x2:w.cell? ⟨r,2,none⟩=some (.slice pf R.fl.length cf):=chp h2 2;unfold Jjh;rw[x2]
 by_cases hne:R.fl=[]
 . rw[hne]
   cases pf<;>simp[Ja1]
 . obtain ⟨g,rfl,_,_,_,_,hat⟩:=JmO h4 hne
   show((List.range R.fl.length).map (JqP w g)).sum=_
   have e:(List.range R.fl.length).map (JqP w g)=R.fl.map wP:=by
    apply List.ext_getElem
    . simp
    . intro i h1 h2
      rw[List.getElem_map,List.getElem_map,List.getElem_range];have hi:i<R.fl.length:=by simpa using h2
      obtain⟨v,a0,_⟩:=hat i _ (lgg hi);unfold JqP wP;rw[a0]
   rw[e];rfl
theorem Jgz{l0 n:Int}{D:List (List UInt8)}(he:Env lo w)(h:isRoom lo w r bx bmx bs R)(hi:Inv l0 n D R)(hn:n<=100000)(hbl:bs.length<=1000)(hpot:potR R<=100000000) :
    Calls Tryz.prog 134 #[.pointer (some ⟨r,0,none⟩)] w fun e w'=>e=.returned (.tuple #[])/\isRoom lo w' r bx bmx bs (Jbj l0 R)/\sameBut w w' (Jbg lo w bmx):=by
 have HE:=hdz he;have HPOT:Hid (potR R<=100000000):=hpot;have H0:Hid (∃R' D',isRoom lo w r bx bmx bs R'/\Inv l0 n D' R'/\Jbj l0 R'=Jbj l0 R/\potR R'<=potR R/\sameBut w w (Jbg lo w bmx)):=⟨R,D,h,hi,rfl,nlr _,Je3 _ _⟩;clear he h hi hpot
 go_enter Tryz.func134,Tryz.ntmps134
 go_wp2
 go_loopw [] (fun wr=>∃R' D',isRoom lo wr r bx bmx bs R'/\Inv l0 n D' R'/\Jbj l0 R'=Jbj l0 R/\potR R'<=potR R/\sameBut w wr (Jbg lo w bmx)) (fun wr=>Jjh wr r)
 case atStart=>exact H0.out
 case round =>
  obtain⟨R',D',h1,h2,h3,h4,h5⟩:=hrel;have CM:Hid _:=JbV h1;have H1:=hdz h1;have H5:=hdz h5;have H34:Hid (Jbj l0 R'=Jbj l0 R/\potR R'<=potR R):=⟨h3,h4⟩;have HW:Hid (Jjh wr r=Ja1 R'.fl):=Jie h1
  by_cases hne:R'.fl=[]
  . have hz:¬(0:Int)<(R'.fl.length:Int):=by rw[hne];decide
    have HN:Hid (R'.fl=[]):=hne;clear h1 h2 h3 h4 h5 hne H0
    go_wp2_with (first
     | (go_at_call 73;refine Calls.mono CM.out ?_;rintro e w1 ⟨rfl,hb1⟩;have HB1:=hdz hb1;clear hb1)
     | fail)
    go_end0;rw[←H34.out.1,Jl5 HN.out];exact⟨rfl,Jap H1.out HB1.out,JbK H5.out HB1.out⟩
  . have hlen:0<R'.fl.length:=List.length_pos_iff.2 hne
    have hz:(0:Int)<(R'.fl.length:Int):=by omega
    obtain⟨p,hp⟩:∃p,R'.fl[0]?=some p:=⟨_,lgg hlen⟩;have HST:Hid _:=h2.stepM hne;have HDV:Hid _:=h2.deliv 0
    have HQ:Hid (∀D2,Inv l0 n D2 (Jcd l0 R' 0)->potR (Jcd l0 R' 0)<=potR R'):=fun D2 hi2=>by
     cases hfl:R'.fl with
     | nil=>exact absurd hfl hne
     | cons p fl =>
      have e:=JiL (l0:=l0) hfl;have hf:=hi2.few;rw[e]at hf ⊢;obtain⟨q1,q2⟩:=Jf8 l0 { R' with fl:=fl } p hf;have e1:potR ({ R' with fl:=fl }:Rm)+wP p=potR R':=by
       unfold potR;show R'.n+R'.lost+Ja1 fl+wP p=R'.n+R'.lost+Ja1 R'.fl;rw[hfl];simp[Ja1];omega
      split at q1<;>omega
    have CD:Hid (∀wx,Below wr.heap.size wr wx->Calls Tryz.prog 67 #[.pointer (some ⟨r,0,none⟩),.int .i64 0] wx fun e w'=>e=.returned .nilIface/\isRoom lo w' r bx bmx bs (Jcd l0 R' 0)/\sameBut wx w' (Jbg lo wx bmx)):=fun wx hb=>by
     have hh:=h5;have:=Jg0 (i:=0) ((HE.out.room hh).below hb) (Jap h1 hb) h2 hn hp hbl (Nat.le_trans h4 HPOT.out);exact this
    clear h1 h2 h3 h4 h5 hne H0 hlen hp
    go_wp2_with (first
     | (go_at_call 73;refine Calls.mono CM.out ?_;rintro e w1 ⟨rfl,hb1⟩;have HB1:=hdz hb1;clear hb1)
     | (go_at_call 67;refine(CD.out _ HB1.out).mono ?_;rintro e w2 ⟨rfl,h2,hs2⟩;have HH2:=hdz h2;have HS2:Hid _:=JbJ (JbK H5.out HB1.out) hs2;clear h2 hs2)
     | fail)
    go_roundw
    case rel =>
     obtain⟨D2,i1,_,_,_⟩:=HDV.out;exact⟨_,D2,HH2.out,i1,HST.out.1.trans H34.out.1,Nat.le_trans (HQ.out D2 i1) H34.out.2,HS2.out⟩
    case measure =>
     rw[Jie HH2.out,HW.out];exact HST.out.2
end
section
open Go.RowKit Go.Maps
attribute [local go_sem] Oper.semAt_some Ja2 JaV rmF0 rmF1 rmF2 rmF3
variable {lo r bx bmx : Nat}{w : World}{bs : List Nat}{R : Rm}{l0 n : Int}{D : List (List UInt8)}
theorem Jgc(h:isRoom lo w r bx bmx bs R)(hi:Inv l0 n D R){k:Nat}(hk:k<R.cl.length)(hbl:bs.length<=1000)(hpot:potR R<=100000000) :
    Calls Tryz.prog 64 #[.pointer (some ⟨r,0,none⟩),.int .i64 (k:Int)] w fun e w'=>e=.returned .nilIface/\isRoom lo w' r bx bmx bs (Jde R k)/\sameBut w w' (Jbg lo w bmx):=by
 obtain⟨b,hb,hcl⟩:=Jcy h hk;obtain⟨_,hck⟩:=hi.clk hk;obtain⟨k1,k2,k3⟩:=hi.counts (by omega);have CC:Hid _:=Jd0 h hb hbl
 by_cases hm:(clK R k).2.mine=[]
 . have ha:askP R k=⟨2,k,(clK R k).2.rev,0,noSE⟩:=by unfold askP;rw[if_pos hm]
   have CA:Hid (∀wx,Below w.heap.size w wx->_):=fun wx hb'=>Jmn (JaZ hcl hb') hm
   have CS:Hid (∀wx,Below w.heap.size w wx->Calls Tryz.prog 130 #[.pointer (some ⟨r,0,none⟩),pkV ⟨2,k,(clK R k).2.rev,0,noSE⟩ (.slice none 0 0)] wx fun e w'=>e=.returned (.tuple #[])/\isRoom lo w' r bx bmx bs (Jde R k)/\sameBut w w' (Jbg lo w bmx)):=fun wx hbw=>by
    have hr:=Jap h hbw;refine(JdS hr ⟨2,k,(clK R k).2.rev,0,noSE⟩ (.slice none 0 0) (JbF (Jen 0 wx)) (by omega) k3).mono ?_
    rintro e w' ⟨rfl,a,c⟩;refine⟨rfl,?_,JaI hbw (JcT (c.touch hr))⟩;unfold Jde;rw[ha];exact a
   unfold pkV noSE at CS;generalize (clK R k).2.rev=rv at *;clear h hi hk hb hcl hck hbl hpot k1 k2 k3 ha hm
   go_enter Tryz.func64,Tryz.ntmps64
   go_wp2_with (first
    | (go_at_call 62;refine Calls.mono CC.out ?_;rintro e w1 ⟨rfl,hb1⟩;have HB1:=hdz hb1;clear hb1)
    | (go_at_call 53;refine(CA.out _ HB1.out).mono ?_;rintro e w2 ⟨rfl,hb2⟩;have HB2:=hdz (HB1.out.trans (hb2.mono HB1.out.size));clear hb2)
    | (go_at_call 130;refine(CS.out _ HB2.out).mono ?_;rintro e w3 ⟨rfl,h3,hs3⟩;have H3:=hdz h3;have HS3:=hdz hs3;clear h3 hs3)
    | fail)
   go_ret;exact⟨rfl,H3.out,HS3.out⟩
 . have ha:askP R k=⟨1,k,(clK R k).2.rev,(clK R k).2.id,⟨k,(clK R k).2.id,JbB (clK R k).2⟩⟩:=by unfold askP;rw[if_neg hm]
   obtain⟨hgd,hpu⟩:=JfF hck.ok hm;have hsm:=hck.small hi.lk;obtain⟨_,hhl⟩:=Jgh hgd (by omega) (by omega);have CA:Hid (∀wx,Below w.heap.size w wx->_):=fun wx hb'=>Jmm (JaZ hcl hb') hm (by omega)
   have CS:Hid (∀wx v,Below w.heap.size w wx->opX lo wx v (JbB (clK R k).2)->Calls Tryz.prog 130 #[.pointer (some ⟨r,0,none⟩),pkV ⟨1,k,(clK R k).2.rev,(clK R k).2.id,⟨k,(clK R k).2.id,JbB (clK R k).2⟩⟩ v] wx fun e w'=>e=.returned (.tuple #[])/\isRoom lo w' r bx bmx bs (Jde R k)/\sameBut w w' (Jbg lo w bmx)):=fun wx v hbw hv=>by
    have hr:=Jap h hbw;refine(JdS hr ⟨1,k,(clK R k).2.rev,(clK R k).2.id,⟨k,(clK R k).2.id,JbB (clK R k).2⟩⟩ v hv (by omega) k3).mono ?_
    rintro e w' ⟨rfl,a,c⟩;refine⟨rfl,?_,JaI hbw (JcT (c.touch hr))⟩;unfold Jde;rw[ha];exact a
   unfold pkV at CS;simp only at CS;generalize (clK R k).2.rev=rv at *;generalize (clK R k).2.id=ii at *;generalize JbB (clK R k).2=hd at *;clear h hi hk hb hcl hck hbl hpot k1 k2 k3 ha hm hgd hpu hsm hhl
   go_enter Tryz.func64,Tryz.ntmps64
   go_wp2_with (first
    | (go_at_call 62;refine Calls.mono CC.out ?_;rintro e w1 ⟨rfl,hb1⟩;have HB1:=hdz hb1;clear hb1)
    | (go_at_call 53;refine(CA.out _ HB1.out).mono ?_;rintro e w2 ⟨v2,rfl,ho,hb2⟩;have HO:Hid _:=ho lo;obtain⟨pv,cv,rfl⟩:=JaH (ho lo);have HB2:=hdz (HB1.out.trans (hb2.mono HB1.out.size));clear hb2 ho)
    | (go_at_call 130;refine(CS.out _ _ HB2.out HO.out).mono ?_;rintro e w3 ⟨rfl,h3,hs3⟩;have H3:=hdz h3;have HS3:=hdz hs3;clear h3 hs3)
    | fail)
   go_ret;exact⟨rfl,H3.out,HS3.out⟩
theorem Jei(he:Env lo w)(h:isRoom lo w r bx bmx bs R)(hi:Inv l0 n D R)(hn:n<=100000)(hbl:bs.length<=1000)(hpot:potR R<=90000000) :
    Calls Tryz.prog 71 #[.pointer (some ⟨r,0,none⟩)] w fun e w'=>e=.returned (.tuple #[])/\isRoom lo w' r bx bmx bs (Jc7 l0 R)/\sameBut w w' (Jbg lo w bmx):=by
 have HE:=hdz he;have hlen:=h.cls.len;have CS0:Hid _:=Jgz he h hi hn hbl (by omega);obtain⟨D1,i1,_,i3,i4,i5⟩:=hi.settle;have I1:Hid (Inv l0 n D1 (Jbj l0 R)/\(Jbj l0 R).cl.length=bs.length/\potR (Jbj l0 R)<=90000000):=⟨i1,i3.trans hlen.symm,by omega⟩;have HQ:Hid (Jc7 l0 R=JcL l0 bs.length 0 (Jbj l0 R)):=by show Jc7 l0 R=_;unfold Jc7;rw[hlen]
 have hbi:(bs.length:Int)<=1000:=by omega
 clear he h hi hpot i1 i3 i4 i5 hlen;rw[HQ.out];generalize Jbj l0 R=R1 at *;obtain⟨N,hN⟩:∃N,bs.length=N:=⟨_,rfl⟩;have HN:Hid (bs.length=N):=hN;rw[hN]at hbi hbl
 go_enter Tryz.func71,Tryz.ntmps71
 go_wp2_with (first
  | (go_at_call 134;refine Calls.mono CS0.out ?_;rintro e w1 ⟨rfl,h1,hs1⟩;have H1:=hdz h1;have HS1:=hdz hs1;clear h1 hs1)
  | (go_at_call 128;refine(Je5 H1.out).mono ?_;rintro e w2 ⟨pc,cc,pf,cf,rfl,_,_,hb2⟩;have HB2:=hdz hb2;clear hb2)
  | fail)
 try rw[hN]
 go_loopw [9] (fun i wr=>∃k:Nat,i=.int .i64 k/\k<=N/\∃R' D',isRoom lo wr r bx bmx bs R'/\Inv l0 n D' R'/\R'.cl.length=N/\JcL l0 (N - k) k R'=JcL l0 N 0 R1/\potR R'<=90000000+400*k/\sameBut w wr (Jbg lo w bmx)) (fun i _=>N - (intOf i).toNat)
 case atStart=>exact⟨0,rfl,Nat.zero_le _,R1,D1,Jap H1.out HB2.out,I1.out.1,I1.out.2.1.trans HN.out,rfl,I1.out.2.2,JbK HS1.out HB2.out⟩
 case round =>
  obtain⟨k,rfl,hk,R',D',h1,h2,h3,h4,h5,h6⟩:=hrel;have HH1:=hdz h1;have HH4:Hid (R'.cl.length=N/\JcL l0 (N - k) k R'=JcL l0 N 0 R1/\potR R'<=90000000+400*k):=⟨h3,h4,h5⟩;have HH6:=hdz h6;have hki:(k:Int)<=1000:=by omega
  by_cases hlt:k<N
  . have hki2:(k:Int)<(N:Int):=by omega
    have hkc:k<R'.cl.length:=by omega
    have CSD:Hid _:=Jgc h1 h2 hkc (by omega) (by omega);have h2s:=h2.sendK hkc;have hps:=Jek R' (askP R' k);have hps:potR (Jde R' k)<=potR R'+400:=hps;have hcs:(Jde R' k).cl.length=R'.cl.length:=by unfold Jde;rw[(Jct _ _).2.2.2.2]
    obtain⟨D2,j1,j2,j3,j4,j5⟩:=h2s.settle;have J:Hid (Inv l0 n D2 (Jbj l0 (Jde R' k))/\(Jbj l0 (Jde R' k)).cl.length=N/\potR (Jbj l0 (Jde R' k))<=90000000+400*(k+1)):=⟨j1,by omega,by omega⟩;have HQS:Hid (JcL l0 (N - (k+1)) (k+1) (Jbj l0 (Jde R' k))=JcL l0 N 0 R1):=by
     show _=_;rw[←h4,show N - k=(N - (k+1))+1 by omega];rfl
    have CST:Hid (∀wx,isRoom lo wx r bx bmx bs (Jde R' k)->Env lo wx->Calls Tryz.prog 134 #[.pointer (some ⟨r,0,none⟩)] wx fun e w'=>e=.returned (.tuple #[])/\isRoom lo w' r bx bmx bs (Jbj l0 (Jde R' k))/\sameBut wx w' (Jbg lo wx bmx)):=fun wx hr he=>Jgz he hr h2s hn (by omega) (by omega)
    have HEW:=hdz (HE.out.room h6);clear h1 h2 h3 h4 h5 h6 hkc h2s hps hcs j1 j2 j3 j4 j5
    go_wp2_with (first
     | (go_at_call 64;refine Calls.mono CSD.out ?_;rintro e w3 ⟨rfl,h3,hs3⟩;have H3:=hdz h3;have HS3:Hid _:=JbJ HH6.out hs3;have HE3:=hdz (HEW.out.room hs3);clear h3 hs3)
     | (go_at_call 134;refine(CST.out _ H3.out HE3.out).mono ?_;rintro e w4 ⟨rfl,h4,hs4⟩;have H4:=hdz h4;have HS4:Hid _:=JbJ HS3.out hs4;clear h4 hs4)
     | fail)
    go_roundw
    case rel=>exact⟨k+1,by go_num,by omega,_,D2,H4.out,J.out.1,J.out.2.1,HQS.out,J.out.2.2,HS4.out⟩
    case measure=>simp[intOf];omega
  . obtain rfl:k=N:=by omega
    have hki2:¬((k:Int)<(k:Int)):=by omega
    clear h1 h2 h3 h4 h5 h6;go_wp2;go_end0;have e:=HH4.out.2.1;rw[Nat.sub_self]at e;rw[←e];exact⟨rfl,HH1.out,HH6.out⟩
end
end Go.Proofs.YtedgnlgjmnccgabGreatDoor
