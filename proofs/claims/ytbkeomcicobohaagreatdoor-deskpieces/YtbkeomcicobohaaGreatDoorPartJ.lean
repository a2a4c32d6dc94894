/-
  A part of the texts that the proof uses.
-/
import Derived.Test.YtbkeomcicobohaaGreatDoorPartI
set_option maxRecDepth 100000
set_option maxHeartbeats 40000000
set_option linter.unusedVariables false
namespace Go.Proofs.YtbkeomcicobohaaGreatDoor
open Go.Proofs.Tryz Go.RowKit Go.Maps
section
attribute [local go_sem] Oper.semAt_some Jaj JaD
variable {lo b β : Nat}{who u c i : Int}{S : Cl}{VM v vm : Value}{x : List Pt}{w : World}
structure ZT (lo b β:Nat) (who u c i:Int) (S:Cl) (VM v:Value) (x:List Pt) (wx:World):Prop where
 low:lo<=b
 blk:wx.heap[b]?=some (Oc (Jb7 who u S VM) 90)
 mine:Jdc lo wx VM S.mine
 box:wx.heap[β]?=some (Oc #[I6 c,I6 i,v] 154)
 tabs:Lib.Utf8Tabs 3 4 wx
 op:opX lo wx v x
theorem ZT.grow{w':World}(h:ZT lo b β who u c i S VM v x w)(hb:Bw w w'):ZT lo b β who u c i S VM v x w' :=
 ⟨h.low,(hb.block b (alt h.blk)).trans h.blk,JbR h.mine hb,(hb.block β (alt h.box)).trans h.box,Go.Proofs.Utf8Tabs_below h.tabs hb,Ja1 h.op hb⟩
theorem ZT.cl(h:ZT lo b β who u c i S VM v x w):isCl lo w b who u S:=⟨h.low,VM,h.blk,h.mine⟩
theorem JgG(hlo:lo<=b)(h3:w.heap[b]?=some (Oc (Jb7 who u S vm) 90))(h4:Jdc lo w vm S.mine)(hT:Lib.Utf8Tabs 3 4 w)(hx:opX lo w v x) :
    ZT lo b w.heap.size who u c i S vm v x (w.alloc (Oc #[I6 c,I6 i,v] 154)):=by
 have hb:Bw w (w.alloc (Oc #[I6 c,I6 i,v] 154)):=zA _ _;exact⟨hlo,(hb.block b (alt h3)).trans h3,JbR h4 hb,heap_alloc_new _ _,Go.Proofs.Utf8Tabs_below hT hb,Ja1 hx hb⟩
theorem Jwi(h:isCl lo w b who u S)(t:List UInt8)(r:Int) :
    isCl lo ((w.setCell (Ad b 3) (Sx t)).setCell (Ad b 2) (I6 r)) b who u { S with seen:=t,rev:=r }/\keptC w ((w.setCell (Ad b 3) (Sx t)).setCell (Ad b 2) (I6 r)) b:=by
 obtain⟨hlo,vm,h3,h4⟩:=h;have b1:=heap_setCell_same w b 3 _ _ (Sx t) h3;have b2:=heap_setCell_same _ b 2 _ _ (I6 r) b1;have hs:sameBut w ((w.setCell (Ad b 3) (Sx t)).setCell (Ad b 2) (I6 r)) (λk=>k=b):=(Jat (S:=λk=>k=b) rfl).trans (Jat (S:=λk=>k=b) rfl);refine JeA hlo h3 b2 (Jds h4 hs (λk _ hk=>by obtain rfl:=hk;exact⟨hlo,Ja8 h3 (by decide)⟩) λk hk e=>?_) (hs.mono λk _ e=>.inl e) λk hk=>.inl hk;obtain⟨_,_,cs,hc⟩:=Jci h4 hk;subst e;have:=JaB h3 hc;revert this;decide
theorem Jr7(h:isCl lo w b who u S)(hm:S.mine≠[])(htw:S.mine.length<=2)(hid:0<=S.id/\S.id<=1000000) :
    Cg 218 #[Pd b 0] w λe w'=>e=.returned (.tuple #[])/\isCl lo w' b who u { S with mine:=S.mine.tail,id:=if S.mine.tail≠[] then S.id+1 else S.id }/\keptC w w' b:=by
 rcases hm':S.mine with _|⟨m1,_|⟨m2,_|⟨m3,ms⟩⟩⟩
 . exact absurd hm' hm
 . have:=clLand1 h hm'
   rw[List.tail_cons,if_neg (by simp)];exact this
 . rw[List.tail_cons,if_pos (by simp)]
   exact clLand2 h hm' hid
 . rw[hm']at htw;simp at htw
theorem Jr0(h:isCl lo w b who u S)(hu:JaH u)(rev c i:Int)(v:Value)(x:List Pt)(hx:opX lo w v x)(hT:Lib.Utf8Tabs 3 4 w)(hr:rev≠S.rev) :
    Cg 167 #[Pd b 0,I6 rev,.agg #[I6 c,I6 i,v]] w (Rt w .nilIface):=by
 have hu0:(u==0)=false:=by rcases hu with rfl|rfl|rfl<;>rfl
 obtain⟨hlo,VM,h3,h4⟩:=h;obtain⟨pv,cv,rfl⟩:=JaO hx;generalize hxn:x.length=xn at *;have H0:Hid _:=JgG (c:=c) (i:=i) hlo h3 h4 hT hx;have CU:=hdz λwx (hz:ZT lo b w.heap.size who u c i S VM (.slice pv xn cv) x wx)=>Jdv hz.cl;have hr1:(rev==S.rev)=false:=beq_eq_false_iff_ne.2 hr;have hr2:¬rev=S.rev:=hr;clear h3 h4 hx hT hu hlo hr hxn
 . skip
   go_enter func167,ntmps167
   go_wp2_with (go_at_call 96;refine(CU.out _ H0.out).mono ?_;rintro e w1 ⟨rfl,hb1⟩;have HZ1:=hdz (ZT.grow H0.out hb1);have HZ1B:Hid (Bw w w1):=(zA _ _).trans (hb1.mono (by rw[wsa];omega));have q2:w1.cell? (Ad b 2)=some (I6 S.rev):=(Jay HZ1.out.blk).2.2.1;clear hb1)
   go_ret;exact⟨rfl,HZ1B.out⟩
theorem Jr2(h:isCl lo w b who u S)(hu:JaH u)(c i:Int)(v:Value)(x:List Pt)(hx:opX lo w v x)(hwf:∀p∈x,wfP p)(hpu:Jaq x<=400000)(hl:x.length<=1000000)(hsz:S.seen.length<=100000)(hT:Lib.Utf8Tabs 3 4 w)(ho:ordE x S.seen≠0) :
    Cg 167 #[Pd b 0,I6 S.rev,.agg #[I6 c,I6 i,v]] w (Rt w (.iface 25 (I6 15))):=by
 have hu0:(u==0)=false:=by rcases hu with rfl|rfl|rfl<;>rfl
 obtain⟨hlo,VM,h3,h4⟩:=h;obtain⟨pv,cv,rfl⟩:=JaO hx;have H0:Hid _:=JgG (c:=c) (i:=i) hlo h3 h4 hT hx;have CU:=hdz λwx (hz:ZT lo b w.heap.size who u c i S VM (.slice pv x.length cv) x wx)=>Jdv hz.cl;have CA:=hdz λwx (hz:ZT lo b w.heap.size who u c i S VM (.slice pv x.length cv) x wx)=>JjT _ x S.seen wx hz.tabs hz.op.1 hwf (by omega) (by omega) (by omega);have hV:errV (ordE x S.seen)=.iface 25 (I6 (ordE x S.seen)):=by unfold errV;rw[if_neg ho]
 rw[if_neg ho,hV]at CA;generalize hxn:x.length=xn at *;generalize ordE x S.seen=E at *;clear h3 h4 hx hT hu hlo hxn hwf hpu hl hsz hV ho
 . skip
   go_enter func167,ntmps167
   go_wp2_with (go_at_call 96;refine(CU.out _ H0.out).mono ?_;rintro e w1 ⟨rfl,hb1⟩;have HZ1:=hdz (ZT.grow H0.out hb1);have HZ1B:Hid (Bw w w1):=(zA _ _).trans (hb1.mono (by rw[wsa];omega));have q2:w1.cell? (Ad b 2)=some (I6 S.rev):=(Jay HZ1.out.blk).2.2.1;clear hb1)
   refine wz (λwx:World=>ZT lo b w.heap.size who u c i S VM (.slice pv xn cv) x wx) 12 HZ1.out ZT.grow λw5 hb5 hz5 G hG=>?_;have e2:∀y,(G y).cell? (Ad w.heap.size 2)=some (.slice pv xn cv):=λy=>chp (hG.but y).box 2;have y3:∀y,(G y).cell? (Ad b 3)=some (Sx S.seen):=λy=>(Jay (hG.but y).blk).2.2.2.1;(iterate 6 (refine ay hG hz5 λ_ k=>?_;go_simp;apply k;clear k))
   (refine ay hG hz5 λK hK=>?_;go_simp;apply Exists.intro;refine⟨λ_=>?_,hK _ ?_⟩;exact CA.out _ (hG.but _);clear hK K)
   (iterate 5 (refine ay hG hz5 λ_ k=>?_;go_simp;apply k;clear k));clear e2 y3 hG;refine ae ?_;intro v5 hv5;have HB5:Hid (Bw w v5):=HZ1B.out.trans ((hb5.trans (hv5.mono hb5.size)).mono HZ1B.out.size);clear hb5 hv5 hz5;go_wp2;go_ret;exact⟨rfl,HB5.out⟩
theorem Jjq{ms:List (List Pt)}(h:Jdc lo w vm ms)(hm:ms≠[]):∃g c p0 k0 c0,vm=Sl g ms.length c/\(ms.length<=c/\c<=maxLen)/\g<w.heap.size/\w.cell? (Ad g 0)=some (.slice p0 k0 c0)/\opX lo w (.slice p0 k0 c0) (ms.headD []):=by
 obtain⟨g,c,rfl⟩:=JlX h hm;obtain⟨_,hg,_⟩:=Jci h (k:=g) rfl;obtain⟨vs,q1,q2,q3⟩:=h;have hcn:ms.length<=c/\c<=maxLen:=by
  rcases q2.2 with ⟨e,_⟩|⟨g',cap,cur,e,_,_,e5,e6,_⟩
  . cases e
  . injection e with _ _ e;subst e;exact⟨e5,e6⟩
 rcases ms with _|⟨m,ms⟩
 . exact absurd rfl hm
 rcases vs with _|⟨y,vs⟩
 . simp at q1
 have hy:=q3 0 m y rfl rfl;obtain⟨p0,c0,rfl⟩:=JaO hy;refine⟨g,c,p0,m.length,c0,rfl,hcn,hg,?_,hy⟩;rw[World.ownsRow.cellAt q2 0 (by simp)];rfl
structure ZO (lo b β:Nat) (who u c i:Int) (S:Cl) (VM v:Value) (x:List Pt) (g:Nat) (p0:Option Addr) (k0 c0:Nat) (m0:List Pt) (wx:World):Prop where
 zt:ZT lo b β who u c i S VM v x wx
 lt:g<wx.heap.size
 cel:wx.cell? (Ad g 0)=some (.slice p0 k0 c0)
 op0:opX lo wx (.slice p0 k0 c0) m0
theorem ZO.grow{lo b β:Nat}{who u c i:Int}{S:Cl}{VM v:Value}{x:List Pt}{g:Nat}{p0:Option Addr}{k0 c0:Nat}{m0:List Pt}{w w':World}(h:ZO lo b β who u c i S VM v x g p0 k0 c0 m0 w)(hb:Bw w w'):ZO lo b β who u c i S VM v x g p0 k0 c0 m0 w' :=
 ⟨h.zt.grow hb,Nat.lt_of_lt_of_le h.lt hb.size,(zC hb g 0 h.lt).trans h.cel,Ja1 h.op0 hb⟩
theorem Jpk(h:isCl lo w b who u S)(hk:okK 2000 S)(hu:JaH u)(v:Value)(x:List Pt)(hx:opX lo w v x)(hsz:S.seen.length+Jaq x<=500000)(hid:0<=S.id/\S.id<=1000000)(hrv:0<=S.rev/\S.rev<=1000000)(hG:3<lo/\4<lo)(hT:Lib.Utf8Tabs 3 4 w)(ho:ordE x S.seen=0)(hm:S.mine≠[])(hd:Jae (JdC S) S.seen≠Jae x S.seen) :
    Cg 167 #[Pd b 0,I6 S.rev,.agg #[I6 who,I6 S.id,v]] w (Rt w (.iface 25 (I6 15))):=by
 have hu0:(u==0)=false:=by rcases hu with rfl|rfl|rfl<;>rfl
 have hlt:=Jcq h;obtain⟨hlo,VM,h3,h4⟩:=h;obtain⟨g,cc,p0,k0,c0,rfl,⟨hcn,hcm⟩,hgl,hce,hop⟩:=Jjq h4 hm;unfold maxLen at hcm;obtain⟨pv,cv,rfl⟩:=JaO hx;have hgx:=Jdu hk.text ho;obtain⟨hg0,hp0⟩:=Jhe hk hm;obtain⟨m0,hm0⟩:∃m0,JdC S=m0:=⟨_,rfl⟩;have hop:opX lo w (.slice p0 k0 c0) m0:=by rw[←hm0];exact hop
 have hb0:Bw w (w.alloc (Oc #[I6 who,I6 S.id,.slice pv x.length cv] 154)):=zA _ _;have H0:Hid _:=(⟨JgG (c:=who) (i:=S.id) hlo h3 h4 hT hx,Nat.lt_of_lt_of_le hgl hb0.size,(zC hb0 g 0 hgl).trans hce,Ja1 hop hb0⟩:ZO lo b w.heap.size who u who S.id S (Sl g S.mine.length cc) (.slice pv x.length cv) x g p0 k0 c0 m0 _);have CU:=hdz λwx (hz:ZO lo b w.heap.size who u who S.id S (Sl g S.mine.length cc) (.slice pv x.length cv) x g p0 k0 c0 m0 wx)=>Jdv hz.zt.cl;have CA:=hdz λwx (hz:ZO lo b w.heap.size who u who S.id S (Sl g S.mine.length cc) (.slice pv x.length cv) x g p0 k0 c0 m0 wx)=>Jju _ x S.seen wx hz.zt.tabs hz.zt.op.1 hgx (by omega);have CM:=hdz λwx (hz:ZO lo b w.heap.size who u who S.id S (Sl g S.mine.length cc) (.slice pv x.length cv) x g p0 k0 c0 m0 wx)=>Jju _ m0 S.seen wx hz.zt.tabs hz.op0.1 (by rw[←hm0];exact hg0) (by rw[←hm0];omega);have CP:Hid (∀wx,ZO lo b w.heap.size who u who S.id S (Sl g S.mine.length cc) (.slice pv x.length cv) x g p0 k0 c0 m0 wx->Cg 67 #[Pd b 0] wx (Rt wx (.bool true))):=λwx hz=>by
  have:=JbB hz.zt.cl;rwa[decide_eq_true (List.length_pos_iff.2 hm)]at this
 have hmi:(0:Int)<(S.mine.length:Int):=by have:=List.length_pos_iff.2 hm;omega
 have hmn:=List.length_pos_iff.2 hm;have hrv1:wrap64 (S.rev+1)=S.rev+1:=Jar (by omega) (by omega);rw[hm0]at hd;generalize Jae m0 S.seen=tm at *;generalize Jae x S.seen=tx at *;have hd1:(tm==tx)=false:=beq_eq_false_iff_ne.2 hd;obtain⟨n,hn⟩:∃n,S.mine.length=n:=⟨_,rfl⟩;rw[hn]at hcn hmi hmn H0 CU CA CM CP;generalize hxn:x.length=xn at *;obtain⟨hr0,hr1⟩:=hrv;clear h3 h4 hx hT hu hlo hxn hsz ho hgx hg0 hp0 hk hm hm0 hop hce hgl hb0 hid hG hn
 . skip
   go_enter func167,ntmps167
   go_wp2_with (go_at_call 96;refine(CU.out _ H0.out).mono ?_;rintro e w1 ⟨rfl,hb1⟩;have HZ1:=hdz (ZO.grow H0.out hb1);have HZ1B:Hid (Bw w w1):=(zA _ _).trans (hb1.mono (by rw[wsa];omega));have q2:w1.cell? (Ad b 2)=some (I6 S.rev):=(Jay HZ1.out.zt.blk).2.2.1;clear hb1)
   refine wz (λwx:World=>ZO lo b w.heap.size who u who S.id S (Sl g n cc) (.slice pv xn cv) x g p0 k0 c0 m0 wx) 12 HZ1.out ZO.grow λw5 hb5 hz5 G hG=>?_;have e2:∀y,(G y).cell? (Ad w.heap.size 2)=some (.slice pv xn cv):=λy=>chp (hG.but y).zt.box 2;have y3:∀y,(G y).cell? (Ad b 3)=some (Sx S.seen):=λy=>(Jay (hG.but y).zt.blk).2.2.2.1;(iterate 6 (refine ay hG hz5 λ_ k=>?_;go_simp;apply k;clear k))
   (refine ay hG hz5 λK hK=>?_;go_simp;apply Exists.intro;refine⟨λ_=>?_,hK _ ?_⟩;exact CA.out _ (hG.but _);clear hK K)
   (iterate 5 (refine ay hG hz5 λ_ k=>?_;go_simp;apply k;clear k));clear e2 y3 hG;refine ae ?_;intro v5 hv5;have HZ5:=hdz (ZO.grow hz5 hv5);have HB5:Hid (Bw w v5):=HZ1B.out.trans ((hb5.trans (hv5.mono hb5.size)).mono HZ1B.out.size);have HZ5B:=hdz HB5;clear hb5 hv5 hz5;go_wp2;refine wz (λwx:World=>ZO lo b w.heap.size who u who S.id S (Sl g n cc) (.slice pv xn cv) x g p0 k0 c0 m0 wx) 20 HZ5.out ZO.grow λw8 hb8 hz8 G hG=>?_;have e0:∀y,(G y).cell? (Ad w.heap.size 0)=some (I6 who):=λy=>chp (hG.but y).zt.box 0;have e1:∀y,(G y).cell? (Ad w.heap.size 1)=some (I6 S.id):=λy=>chp (hG.but y).zt.box 1;have y0:∀y,(G y).cell? (Ad b 0)=some (I6 who):=λy=>(Jay (hG.but y).zt.blk).1;have y6:∀y,(G y).cell? (Ad b 6)=some (I6 S.id):=λy=>(Jay (hG.but y).zt.blk).2.2.2.2.2.2.1;refine ay hG hz8 λ_ k=>?_;go_simp;apply k;clear k
   (refine ay hG hz8 λK hK=>?_;go_simp;apply Exists.intro;refine⟨λ_=>?_,hK _ ?_⟩;exact CP.out _ (hG.but _);clear hK K)
   (iterate 18 (refine ay hG hz8 λ_ k=>?_;go_simp;apply k;clear k));clear e0 e1 y0 y6 hG;refine ae ?_;intro v8 hv8;have HZ8:=hdz (ZO.grow hz8 hv8);have HB8:Hid (Bw w v8):=HZ5B.out.trans ((hb8.trans (hv8.mono hb8.size)).mono HZ5B.out.size);have HZ8B:=hdz HB8;clear hb8 hv8 hz8;go_wp2;refine wz (λwx:World=>ZO lo b w.heap.size who u who S.id S (Sl g n cc) (.slice pv xn cv) x g p0 k0 c0 m0 wx) 16 HZ8.out ZO.grow λw9 hb9 hz9 G hG=>?_;have y3:∀y,(G y).cell? (Ad b 3)=some (Sx S.seen):=λy=>(Jay (hG.but y).zt.blk).2.2.2.1;have y4:∀y,(G y).cell? (Ad b 4)=some (Sl g n cc):=λy=>(Jay (hG.but y).zt.blk).2.2.2.2.1;have yg:∀y,(G y).cell? (Ad g 0)=some (.slice p0 k0 c0):=λy=>(hG.but y).cel;(iterate 10 (refine ay hG hz9 λ_ k=>?_;go_simp;apply k;clear k))
   (refine ay hG hz9 λK hK=>?_;go_simp;apply Exists.intro;refine⟨λ_=>?_,hK _ ?_⟩;exact CM.out _ (hG.but _);clear hK K)
   (iterate 5 (refine ay hG hz9 λ_ k=>?_;go_simp;apply k;clear k));clear y3 y4 yg hG;refine ae ?_;intro v9 hv9;have HB9:Hid (Bw w v9):=HZ8B.out.trans ((hb9.trans (hv9.mono hb9.size)).mono HZ8B.out.size);clear hb9 hv9 hz9;go_wp2;go_ret;exact⟨rfl,HB9.out⟩
theorem Jr1(h:isCl lo w b who u S)(hk:okK 2000 S)(hu:JaH u)(v:Value)(x:List Pt)(hx:opX lo w v x)(hsz:S.seen.length+Jaq x<=500000)(hid:0<=S.id/\S.id<=1000000)(hrv:0<=S.rev/\S.rev<=1000000)(hG:3<lo/\4<lo)(hT:Lib.Utf8Tabs 3 4 w)(ho:ordE x S.seen=0)(hm:S.mine≠[])(hd:Jae (JdC S) S.seen=Jae x S.seen) :
    Cg 167 #[Pd b 0,I6 S.rev,.agg #[I6 who,I6 S.id,v]] w λe w'=>e=.returned .nilIface/\isCl lo w' b who u { S with seen:=Jae x S.seen,rev:=S.rev+1,mine:=S.mine.tail,id:=if S.mine.tail≠[] then S.id+1 else S.id }/\keptC w w' b:=by
 have hu0:(u==0)=false:=by rcases hu with rfl|rfl|rfl<;>rfl
 have hlt:=Jcq h;obtain⟨hlo,VM,h3,h4⟩:=h;obtain⟨g,cc,p0,k0,c0,rfl,⟨hcn,hcm⟩,hgl,hce,hop⟩:=Jjq h4 hm;unfold maxLen at hcm;obtain⟨pv,cv,rfl⟩:=JaO hx;have hgx:=Jdu hk.text ho;obtain⟨hg0,hp0⟩:=Jhe hk hm;obtain⟨m0,hm0⟩:∃m0,JdC S=m0:=⟨_,rfl⟩;have hop:opX lo w (.slice p0 k0 c0) m0:=by rw[←hm0];exact hop
 have hb0:Bw w (w.alloc (Oc #[I6 who,I6 S.id,.slice pv x.length cv] 154)):=zA _ _;have H0:Hid _:=(⟨JgG (c:=who) (i:=S.id) hlo h3 h4 hT hx,Nat.lt_of_lt_of_le hgl hb0.size,(zC hb0 g 0 hgl).trans hce,Ja1 hop hb0⟩:ZO lo b w.heap.size who u who S.id S (Sl g S.mine.length cc) (.slice pv x.length cv) x g p0 k0 c0 m0 _);have CU:=hdz λwx (hz:ZO lo b w.heap.size who u who S.id S (Sl g S.mine.length cc) (.slice pv x.length cv) x g p0 k0 c0 m0 wx)=>Jdv hz.zt.cl;have CA:=hdz λwx (hz:ZO lo b w.heap.size who u who S.id S (Sl g S.mine.length cc) (.slice pv x.length cv) x g p0 k0 c0 m0 wx)=>Jju _ x S.seen wx hz.zt.tabs hz.zt.op.1 hgx (by omega);have CM:=hdz λwx (hz:ZO lo b w.heap.size who u who S.id S (Sl g S.mine.length cc) (.slice pv x.length cv) x g p0 k0 c0 m0 wx)=>Jju _ m0 S.seen wx hz.zt.tabs hz.op0.1 (by rw[←hm0];exact hg0) (by rw[←hm0];omega);have CP:Hid (∀wx,ZO lo b w.heap.size who u who S.id S (Sl g S.mine.length cc) (.slice pv x.length cv) x g p0 k0 c0 m0 wx->Cg 67 #[Pd b 0] wx (Rt wx (.bool true))):=λwx hz=>by
  have:=JbB hz.zt.cl;rwa[decide_eq_true (List.length_pos_iff.2 hm)]at this
 have hmi:(0:Int)<(S.mine.length:Int):=by have:=List.length_pos_iff.2 hm;omega
 have hmn:=List.length_pos_iff.2 hm;have HM:=hdz hm;have HTW:=hdz hk.two;have HID:=hdz hid;have hrv1:wrap64 (S.rev+1)=S.rev+1:=Jar (by omega) (by omega);rw[hm0]at hd;rw[hd]at CM;clear hd;generalize Jae x S.seen=tx at *;obtain⟨S2,hS2⟩:∃S2,({ S with seen:=tx,rev:=S.rev+1,mine:=S.mine.tail,id:=if S.mine.tail≠[] then S.id+1 else S.id }:Cl)=S2:=⟨_,rfl⟩;rw[hS2];have HS2:=hdz hS2;clear hS2;obtain⟨n,hn⟩:∃n,S.mine.length=n:=⟨_,rfl⟩;rw[hn]at hcn hmi hmn H0 CU CA CM CP;generalize hxn:x.length=xn at *;obtain⟨hr0,hr1⟩:=hrv;clear h3 h4 hx hT hu hlo hxn hsz ho hgx hg0 hp0 hk hm hm0 hop hce hgl hb0 hid hG hn
 . skip
   go_enter func167,ntmps167
   go_wp2_with (go_at_call 96;refine(CU.out _ H0.out).mono ?_;rintro e w1 ⟨rfl,hb1⟩;have HZ1:=hdz (ZO.grow H0.out hb1);have HZ1B:Hid (Bw w w1):=(zA _ _).trans (hb1.mono (by rw[wsa];omega));have q2:w1.cell? (Ad b 2)=some (I6 S.rev):=(Jay HZ1.out.zt.blk).2.2.1;clear hb1)
   refine wz (λwx:World=>ZO lo b w.heap.size who u who S.id S (Sl g n cc) (.slice pv xn cv) x g p0 k0 c0 m0 wx) 12 HZ1.out ZO.grow λw5 hb5 hz5 G hG=>?_;have e2:∀y,(G y).cell? (Ad w.heap.size 2)=some (.slice pv xn cv):=λy=>chp (hG.but y).zt.box 2;have y3:∀y,(G y).cell? (Ad b 3)=some (Sx S.seen):=λy=>(Jay (hG.but y).zt.blk).2.2.2.1;(iterate 6 (refine ay hG hz5 λ_ k=>?_;go_simp;apply k;clear k))
   (refine ay hG hz5 λK hK=>?_;go_simp;apply Exists.intro;refine⟨λ_=>?_,hK _ ?_⟩;exact CA.out _ (hG.but _);clear hK K)
   (iterate 5 (refine ay hG hz5 λ_ k=>?_;go_simp;apply k;clear k));clear e2 y3 hG;refine ae ?_;intro v5 hv5;have HZ5:=hdz (ZO.grow hz5 hv5);have HB5:Hid (Bw w v5):=HZ1B.out.trans ((hb5.trans (hv5.mono hb5.size)).mono HZ1B.out.size);have HZ5B:=hdz HB5;clear hb5 hv5 hz5;go_wp2;refine wz (λwx:World=>ZO lo b w.heap.size who u who S.id S (Sl g n cc) (.slice pv xn cv) x g p0 k0 c0 m0 wx) 20 HZ5.out ZO.grow λw8 hb8 hz8 G hG=>?_;have e0:∀y,(G y).cell? (Ad w.heap.size 0)=some (I6 who):=λy=>chp (hG.but y).zt.box 0;have e1:∀y,(G y).cell? (Ad w.heap.size 1)=some (I6 S.id):=λy=>chp (hG.but y).zt.box 1;have y0:∀y,(G y).cell? (Ad b 0)=some (I6 who):=λy=>(Jay (hG.but y).zt.blk).1;have y6:∀y,(G y).cell? (Ad b 6)=some (I6 S.id):=λy=>(Jay (hG.but y).zt.blk).2.2.2.2.2.2.1;refine ay hG hz8 λ_ k=>?_;go_simp;apply k;clear k
   (refine ay hG hz8 λK hK=>?_;go_simp;apply Exists.intro;refine⟨λ_=>?_,hK _ ?_⟩;exact CP.out _ (hG.but _);clear hK K)
   (iterate 18 (refine ay hG hz8 λ_ k=>?_;go_simp;apply k;clear k));clear e0 e1 y0 y6 hG;refine ae ?_;intro v8 hv8;have HZ8:=hdz (ZO.grow hz8 hv8);have HB8:Hid (Bw w v8):=HZ5B.out.trans ((hb8.trans (hv8.mono hb8.size)).mono HZ5B.out.size);have HZ8B:=hdz HB8;clear hb8 hv8 hz8;go_wp2;refine wz (λwx:World=>ZO lo b w.heap.size who u who S.id S (Sl g n cc) (.slice pv xn cv) x g p0 k0 c0 m0 wx) 16 HZ8.out ZO.grow λw9 hb9 hz9 G hG=>?_;have y3:∀y,(G y).cell? (Ad b 3)=some (Sx S.seen):=λy=>(Jay (hG.but y).zt.blk).2.2.2.1;have y4:∀y,(G y).cell? (Ad b 4)=some (Sl g n cc):=λy=>(Jay (hG.but y).zt.blk).2.2.2.2.1;have yg:∀y,(G y).cell? (Ad g 0)=some (.slice p0 k0 c0):=λy=>(hG.but y).cel;(iterate 10 (refine ay hG hz9 λ_ k=>?_;go_simp;apply k;clear k))
   (refine ay hG hz9 λK hK=>?_;go_simp;apply Exists.intro;refine⟨λ_=>?_,hK _ ?_⟩;exact CM.out _ (hG.but _);clear hK K)
   (iterate 5 (refine ay hG hz9 λ_ k=>?_;go_simp;apply k;clear k));clear y3 y4 yg hG;refine ae ?_;intro v9 hv9;have HZ9:=hdz (ZO.grow hz9 hv9);have HB9:Hid (Bw w v9):=HZ8B.out.trans ((hb9.trans (hv9.mono hb9.size)).mono HZ8B.out.size);have HZ9B:=hdz HB9;clear hb9 hv9 hz9
   go_wp2_with (go_at_call 218;refine(Jr7 HZ9.out.zt.cl HM.out HTW.out HID.out).mono ?_;rintro e w2 ⟨rfl,hc2,hk2⟩;have HC2:=hdz hc2;have HK2:=hdz hk2;obtain⟨_,vm2,hq2,_⟩:=hc2;have z3:w2.frozen? (Ad b 3)=false:=JaP hq2;have z2:w2.frozen? (Ad b 2)=false:=JaP hq2;have y3:w2.cell? (Ad b 3)=some (Sx S.seen):=chp hq2 3;have y2:w2.cell? (Ad b 2)=some (I6 S.rev):=chp hq2 2;clear hk2 hq2)
   go_ret;obtain⟨hE1,hE2⟩:=Jwi HC2.out tx (S.rev+1);exact⟨rfl,by rw[←HS2.out];exact hE1,keptC.trans (JbG HZ9B.out hlt) (keptC.trans HK2.out hE2)⟩
theorem JvA(h:isCl lo w b who u S)(hk:okK 2000 S)(hu:JaH u)(c i:Int)(v:Value)(x:List Pt)(hx:opX lo w v x)(hsz:S.seen.length+Jaq x<=500000)(hid:0<=S.id/\S.id<=1000000)(hrv:0<=S.rev/\S.rev<=1000000)(hG:3<lo/\4<lo)(hT:Lib.Utf8Tabs 3 4 w)(ho:ordE x S.seen=0)(hw:¬JoV who S c i) :
    Cg 167 #[Pd b 0,I6 S.rev,.agg #[I6 c,I6 i,v]] w λe w'=>e=.returned .nilIface/\isCl lo w' b who u { S with seen:=Jae x S.seen,rev:=S.rev+1,mine:=(JbV S.mine x).1,doc:=Jae (JbV S.mine x).2 S.doc }/\keptC w w' b:=by
 have hu0:(u==0)=false:=by rcases hu with rfl|rfl|rfl<;>rfl
 have hlt:=Jcq h;obtain⟨hlo,VM,h3,h4⟩:=h;obtain⟨pv,cv,rfl⟩:=JaO hx;have hgx:=Jdu hk.text ho;have H0:Hid _:=JgG (c:=c) (i:=i) hlo h3 h4 hT hx;have CU:=hdz λwx (hz:ZT lo b w.heap.size who u c i S VM (.slice pv x.length cv) x wx)=>Jdv hz.cl;have CA:=hdz λwx (hz:ZT lo b w.heap.size who u c i S VM (.slice pv x.length cv) x wx)=>Jju _ x S.seen wx hz.tabs hz.op.1 hgx (by omega);obtain⟨P,hP⟩:∃P,decide (0<S.mine.length)=P:=⟨_,rfl⟩;have CP:Hid (∀wx,ZT lo b w.heap.size who u c i S VM (.slice pv x.length cv) x wx->Cg 67 #[Pd b 0] wx (Rt wx (.bool P))):=λwx hz=>by
  have:=JbB hz.cl;rwa[hP]at this
 have HCC:P=false\/(P=true/\(c==who)=false)\/(P=true/\(c==who)=true/\(i==S.id)=false):=by
  by_cases hm:S.mine=[]
  . left;rw[←hP,hm];rfl
  . right
    have hp:P=true:=by rw[←hP];exact decide_eq_true (List.length_pos_iff.2 hm)
    cases hb:c==who
    . exact .inl ⟨hp,rfl⟩
    . exact .inr ⟨hp,rfl,beq_eq_false_iff_ne.2 λhi=>hw ⟨hm,eq_of_beq hb,hi⟩⟩
 clear hw hP;have CT:=hdz λwx (hz:ZT lo b w.heap.size who u c i S VM (.slice pv x.length cv) x wx)=>Jry hz.cl hk _ x hz.op hgx hsz hG hz.tabs;have hrv1:wrap64 (S.rev+1)=S.rev+1:=Jar (by omega) (by omega);generalize hxn:x.length=xn at *;obtain⟨hr0,hr1⟩:=hrv;generalize Jae x S.seen=tx at *;clear h3 h4 hx hT hu hlo hxn hsz ho hgx hk hid hG
 rcases HCC with rfl|⟨rfl,hc1⟩|⟨rfl,hc1,hi1⟩
 all_goals as_aux_lemma =>
  skip
  go_enter func167,ntmps167
  go_wp2_with (go_at_call 96;refine(CU.out _ H0.out).mono ?_;rintro e w1 ⟨rfl,hb1⟩;have HZ1:=hdz (ZT.grow H0.out hb1);have HZ1B:Hid (Bw w w1):=(zA _ _).trans (hb1.mono (by rw[wsa];omega));have q2:w1.cell? (Ad b 2)=some (I6 S.rev):=(Jay HZ1.out.blk).2.2.1;clear hb1)
  refine wz (λwx:World=>ZT lo b w.heap.size who u c i S VM (.slice pv xn cv) x wx) 12 HZ1.out ZT.grow λw5 hb5 hz5 G hG=>?_;have e2:∀y,(G y).cell? (Ad w.heap.size 2)=some (.slice pv xn cv):=λy=>chp (hG.but y).box 2;have y3:∀y,(G y).cell? (Ad b 3)=some (Sx S.seen):=λy=>(Jay (hG.but y).blk).2.2.2.1;(iterate 6 (refine ay hG hz5 λ_ k=>?_;go_simp;apply k;clear k))
  (refine ay hG hz5 λK hK=>?_;go_simp;apply Exists.intro;refine⟨λ_=>?_,hK _ ?_⟩;exact CA.out _ (hG.but _);clear hK K)
  (iterate 5 (refine ay hG hz5 λ_ k=>?_;go_simp;apply k;clear k));clear e2 y3 hG;refine ae ?_;intro v5 hv5;have HZ5:=hdz (ZT.grow hz5 hv5);have HB5:Hid (Bw w v5):=HZ1B.out.trans ((hb5.trans (hv5.mono hb5.size)).mono HZ1B.out.size);clear hb5 hv5 hz5;have HZ5B:=hdz HB5;go_wp2;refine wz (λwx:World=>ZT lo b w.heap.size who u c i S VM (.slice pv xn cv) x wx) 20 HZ5.out ZT.grow λw8 hb8 hz8 G hG=>?_;have e0:∀y,(G y).cell? (Ad w.heap.size 0)=some (I6 c):=λy=>chp (hG.but y).box 0;have e1:∀y,(G y).cell? (Ad w.heap.size 1)=some (I6 i):=λy=>chp (hG.but y).box 1;have y0:∀y,(G y).cell? (Ad b 0)=some (I6 who):=λy=>(Jay (hG.but y).blk).1;have y6:∀y,(G y).cell? (Ad b 6)=some (I6 S.id):=λy=>(Jay (hG.but y).blk).2.2.2.2.2.2.1;refine ay hG hz8 λ_ k=>?_;go_simp;apply k;clear k
  (refine ay hG hz8 λK hK=>?_;go_simp;apply Exists.intro;refine⟨λ_=>?_,hK _ ?_⟩;exact CP.out _ (hG.but _);clear hK K)
  (iterate 18 (refine ay hG hz8 λ_ k=>?_;go_simp;apply k;clear k));clear e0 e1 y0 y6 hG;refine ae ?_;intro v8 hv8;have HZ8:=hdz (ZT.grow hz8 hv8);have HB8:Hid (Bw w v8):=HZ5B.out.trans ((hb8.trans (hv8.mono hb8.size)).mono HZ5B.out.size);clear hb8 hv8 hz8;have HZ8B:=hdz HB8;have x2:v8.cell? (Ad w.heap.size 2)=some (.slice pv xn cv):=chp HZ8.out.box 2
  go_wp2_with (go_at_call 219;refine(CT.out _ HZ8.out).mono ?_;rintro e w2 ⟨rfl,hc2,hk2⟩;have HC2:=hdz hc2;have HK2:=hdz hk2;obtain⟨_,vm2,hq2,_⟩:=hc2;have z3:w2.frozen? (Ad b 3)=false:=JaP hq2;have z2:w2.frozen? (Ad b 2)=false:=JaP hq2;have y3:w2.cell? (Ad b 3)=some (Sx S.seen):=chp hq2 3;have y2:w2.cell? (Ad b 2)=some (I6 S.rev):=chp hq2 2;clear hk2 hq2)
  go_ret;obtain⟨hE1,hE2⟩:=Jwi HC2.out tx (S.rev+1);exact⟨rfl,hE1,keptC.trans (JbG HZ8B.out hlt) (keptC.trans HK2.out hE2)⟩
theorem Jr3(h:isCl lo w b who u S)(hk:okK 2000 S)(hu:JaH u)(rev c i:Int)(v:Value)(x:List Pt)(hx:opX lo w v x)(hwf:∀p∈x,wfP p)(hpu:Jaq x<=400000)(hl:x.length<=1000000)(hsz:S.seen.length<=100000)(hid:0<=S.id/\S.id<=1000000)(hrv:0<=S.rev/\S.rev<=1000000)(hG:3<lo/\4<lo)(hT:Lib.Utf8Tabs 3 4 w) :
    Cg 167 #[Pd b 0,I6 rev,.agg #[I6 c,I6 i,v]] w λe w'=>e=.returned (errV (tkE who S rev c i x))/\isCl lo w' b who u (tkS who S rev c i x)/\keptC w w' b:=by
 have hlt:=Jcq h
 by_cases hr:rev=S.rev
 case neg =>
  have e1:tkE who S rev c i x=0:=if_pos hr;have e2:tkS who S rev c i x=S:=if_pos (.inl hr);rw[e1,e2];refine(Jr0 h hu rev c i v x hx hT hr).mono ?_;rintro e w' ⟨rfl,hb⟩;exact⟨rfl,Jbm h hb,JbG hb hlt⟩
 subst hr
 by_cases ho:ordE x S.seen=0
 case neg =>
  have e1:tkE who S S.rev c i x=15:=by unfold tkE;rw[if_neg (by simp),if_pos ho]
  have e2:tkS who S S.rev c i x=S:=if_pos (.inr (by rw[e1];decide));rw[e1,e2];refine(Jr2 h hu c i v x hx hwf hpu hl hsz hT ho).mono ?_;rintro e w' ⟨rfl,hb⟩;exact⟨rfl,Jbm h hb,JbG hb hlt⟩
 have hsp:S.seen.length+Jaq x<=500000:=by omega
 by_cases hw:JoV who S c i
 case pos =>
  by_cases hd:Jae (JdC S) S.seen=Jae x S.seen
  . have e1:tkE who S S.rev c i x=0:=by unfold tkE;rw[if_neg (by simp),if_neg (by simpa using ho),if_neg λe=>e.2 hd]
    have e2:tkS who S S.rev c i x = { S with seen:=Jae x S.seen,rev:=S.rev+1,mine:=S.mine.tail,id:=if S.mine.tail≠[] then S.id+1 else S.id }:=by unfold tkS;rw[if_neg (by rw[e1];simp),if_pos hw]
    rw[e1,e2];obtain⟨hm,rfl,rfl⟩:=hw;exact Jr1 h hk hu v x hx hsp hid hrv hG hT ho hm hd
  . have e1:tkE who S S.rev c i x=15:=by unfold tkE;rw[if_neg (by simp),if_neg (by simpa using ho),if_pos ⟨hw,hd⟩]
    have e2:tkS who S S.rev c i x=S:=if_pos (.inr (by rw[e1];decide));rw[e1,e2];obtain⟨hm,rfl,rfl⟩:=hw;refine(Jpk h hk hu v x hx hsp hid hrv hG hT ho hm hd).mono ?_;rintro e w' ⟨rfl,hb⟩;exact⟨rfl,Jbm h hb,JbG hb hlt⟩
 case neg =>
  have e1:tkE who S S.rev c i x=0:=by unfold tkE;rw[if_neg (by simp),if_neg (by simpa using ho),if_neg λe=>hw e.1]
  have e2:tkS who S S.rev c i x = { S with seen:=Jae x S.seen,rev:=S.rev+1,mine:=(JbV S.mine x).1,doc:=Jae (JbV S.mine x).2 S.doc }:=by unfold tkS;rw[if_neg (by rw[e1];simp),if_neg hw]
  rw[e1,e2];exact JvA h hk hu c i v x hx hsp hid hrv hG hT ho hw
end
section
attribute [local go_sem] Oper.semAt_some
def fQ (u:Int) (k:IntKind) (o:Nat) (e l:TypeId) (z:Nat) (fs fx fp fy:FuncId):Prop:=(u=1/\k=.u8/\o=1/\e=5/\l=29/\z=1/\fs=188/\fx=141/\fp=140/\fy=142)\/(u=2/\k=.u16/\o=2/\e=186/\l=131/\z=2/\fs=189/\fx=144/\fp=143/\fy=145)\/(u=3/\k=.i32/\o=3/\e=21/\l=132/\z=4/\fs=195/\fx=148/\fp=147/\fy=149)
section
variable {u : Int} {k : IntKind} {o : Nat} {e l : TypeId} {z : Nat} {fs fx fp fy : FuncId} {w : World} {U : List UInt8} {v : Value}
theorem infoQ(hf:fQ u k o e l z fs fx fp fy):(prog.info? e).map (λi=>(i.zero,i.size,i.bytes))=some (some (.int k 0),1,z):=by
 rcases hf with ⟨rfl,rfl,rfl,rfl,rfl,rfl,_⟩|⟨rfl,rfl,rfl,rfl,rfl,rfl,_⟩|⟨rfl,rfl,rfl,rfl,rfl,rfl,_⟩<;>kernel_rfl
theorem putQ(hf:fQ u k o e l z fs fx fp fy)(hU:(scan U).2=true)(hl:U.length<=1000000)(wx:World)(hT:Lib.Utf8Tabs 3 4 wx) :
    Cg fy #[Sx U] wx λe w'=>∃p n c zs,e=.returned (.slice p n c)/\n<=2000000/\sl w' k p n c zs/\Bw wx w':=by
 have hz:C1 (Ja0 U)<=1000000:=by
  have:=congrArg List.length (JbD hU);have:=Jcb (Ja0 U);omega
 obtain⟨e1,e2,e3⟩:=Jrt hz
 rcases hf with ⟨rfl,rfl,rfl,rfl,rfl,rfl,_,_,_,rfl⟩|⟨rfl,rfl,rfl,rfl,rfl,rfl,_,_,_,rfl⟩|⟨rfl,rfl,rfl,rfl,rfl,rfl,_,_,_,rfl⟩
 . exact(Ju4 U hU hl wx).mono λe w' ⟨p,n,c,a,b,d⟩=>⟨p,n,c,_,a,by rw[b.1,row1,List.length_map];omega,b,d⟩
 . exact(Ju3 U hU hl wx hT).mono λe w' ⟨p,n,c,a,b,d⟩=>⟨p,n,c,_,a,by rw[b.1,row2,toI,List.length_map];omega,b,d⟩
 . exact(Ju2 U hU hl wx hT).mono λe w' ⟨p,n,c,a,b,d⟩=>⟨p,n,c,_,a,by rw[b.1,row3,toI,List.length_map];omega,b,d⟩
theorem textQ(hf:fQ u k o e l z fs fx fp fy)(hT:Lib.Utf8Tabs 3 4 w):Cg fx #[.slice none 0 0] w (Rt w (.tuple #[.string ⟨#[]⟩,.nilIface])):=by
 have CC:Hid _:=Jf6 [] (by decide) rfl w hT;have hcv:(convert 29 9 (.slice none 0 0)).run prog w=.ok (.string ⟨#[]⟩) w:=Jsv (l:=[]) ⟨rfl,.inl ⟨rfl,rfl,rfl⟩⟩;clear hT
 rcases hf with ⟨rfl,rfl,rfl,rfl,rfl,rfl,_,rfl,_⟩|⟨rfl,rfl,rfl,rfl,rfl,rfl,_,rfl,_⟩|⟨rfl,rfl,rfl,rfl,rfl,rfl,_,rfl,_⟩
 . go_enter func141,ntmps141
   go_wp2_with (go_at_call 47;refine Calls.mono CC.out ?_;rintro e w1 ⟨n1,n2,n3,n4,rfl,hb1⟩)
   go_ret2
   exact⟨rfl,hb1.alloc hb1.size _⟩
 . go_enter func144,ntmps144
   go_wp2
   go_loopw [4,5] (λb i wr=>b=.slice none 0 0/\i=.int .i64 0/\wr=w) (λ_ _ _=>0)
   case atStart=>exact⟨rfl,rfl,rfl⟩
   case round =>
    obtain⟨rfl,rfl,rfl⟩:=hrel;go_wp2
    go_ret2
    exact⟨rfl,.refl _ _⟩
 . go_enter func148,ntmps148
   go_wp2
   go_loopw [4,9] (λb i wr=>b=.slice none 0 0/\i=.int .i64 0/\wr=w) (λ_ _ _=>0)
   case atStart=>exact⟨rfl,rfl,rfl⟩
   case round =>
    obtain⟨rfl,rfl,rfl⟩:=hrel;go_wp2
    go_ret2
    exact⟨rfl,.refl _ _⟩
theorem sizeQ(hf:fQ u k o e l z fs fx fp fy)(hT:Lib.Utf8Tabs 3 4 w)(hr:opAt w v [⟨0,0,U⟩])(hl:U.length<=1000000) :
    Cg fs #[.slice none 0 0,v,.func (.func fx) #[] #[]] w (Rt w (.tuple #[I6 (U.length:Int),.nilIface])):=by
 have CX:=hdz λwx (hb:Bw w wx)=>textQ hf (Go.Proofs.Utf8Tabs_below hT hb);obtain⟨p,c,rfl,h1,h2,h3⟩:=hr;obtain⟨b0,o',rfl,hb0,hc⟩:=h3 (by simp);obtain⟨f0,f1,f2⟩:=hc 0 _ rfl;have HF:=hdz f0;have HF1:=hdz f1;have HF2:=hdz f2;have hUz:(ByteArray.mk U.toArray).size=U.length:=by simp[ByteArray.size]
 have hu1:(U.length:Int)<=1000000:=by omega
 unfold maxLen at h2;have h1:1<=c:=h1;clear hT h3 hc f0 f1 f2;show Cg fs #[.slice none 0 0,.slice (some (Ad b0 o')) 1 c,.func (.func fx) #[] #[]] w _
 rcases hf with ⟨rfl,rfl,rfl,rfl,rfl,rfl,rfl,rfl,_⟩|⟨rfl,rfl,rfl,rfl,rfl,rfl,rfl,rfl,_⟩|⟨rfl,rfl,rfl,rfl,rfl,rfl,rfl,rfl,_⟩
 all_goals as_aux_lemma =>
  first
   | go_enter func188,ntmps188
   | go_enter func189,ntmps189
   | go_enter func195,ntmps195
  go_wp2
  go_loopw [8,9,18] (λv8 v9 i wr=>∃x:Nat,i=.int .i64 x/\x<=1/\v8=.int .i64 (x*(U.length:Int))/\v9=.slice none 0 0/\Bw w wr) (λ_ _ i _=>1 - (intOf i).toNat)
  case atStart=>exact⟨0,rfl,by decide,by simp,rfl,.refl _ _⟩
  case round =>
   obtain⟨x,rfl,hx,rfl,rfl,hb⟩:=hrel;have HB:=hdz hb
   rcases x with _|x
   . have g0:=(zC hb b0 (o'+0*3) hb0).trans HF.out
     have g1:=(zC hb b0 (o'+0*3+1) hb0).trans HF1.out;have g2:=(zC hb b0 (o'+0*3+2) hb0).trans HF2.out;simp only[Nat.zero_mul,Nat.add_zero]at g0 g1 g2;clear hx hb
     go_wp2_with (first
      | ((first|go_at_call 141|go_at_call 144|go_at_call 148);refine(CX.out _ (HB.out.alloc HB.out.size _)).mono ?_;rintro e w2 ⟨rfl,hb2⟩
         have hx:=(hb2.block wr.heap.size (by rw[wsa];omega)).trans (heap_alloc_new wr _);have x0:=cQ hx 0 rfl;have x2:=cQ hx 2 rfl;have HB2:Hid (Bw w w2):=(HB.out.alloc HB.out.size _).trans (hb2.mono (HB.out.alloc HB.out.size _).size)
         clear hb2 hx))
     exact⟨⟨1,by go_num,by decide,by simp,rfl,HB2.out⟩,by simp[intOf]⟩
   . obtain rfl:x=0:=by omega
     clear hx hb;go_wp2
     go_ret2
     exact⟨by simp,HB.out⟩
theorem playQ(hf:fQ u k o e l z fs fx fp fy)(hT:Lib.Utf8Tabs 3 4 w)(hr:opAt w v [⟨0,0,U⟩])(hU:(scan U).2=true)(hl:U.length<=8000){b:Nat}(hc:w.cell? (Ad b o)=some (.slice none 0 0))(hz:w.frozen? (Ad b o)=false) :
    Cg fp #[Pd b o,v,.func (.func fx) #[] #[],.func (.func fy) #[] #[]] w λe w'=>e=.returned .nilIface/\Below b w w':=by
 have CS:Hid _:=sizeQ hf hT hr (Nat.le_trans hl (by decide));have CP:=hdz λwx (hb:Bw w wx)=>putQ hf hU (Nat.le_trans hl (by decide)) wx (Go.Proofs.Utf8Tabs_below hT hb);obtain⟨i0,hi,hq0,hq1,hq2⟩:=info_parts (infoQ hf);obtain⟨p,c,rfl,h1,h2,h3⟩:=hr;obtain⟨b0,o',rfl,hb0,hcc⟩:=h3 (by simp);obtain⟨f0,f1,f2⟩:=hcc 0 _ rfl;have HF:=hdz f0;have HF1:=hdz f1;have HF2:=hdz f2;have hbl:b<w.heap.size:=blt w _ hc;have HC:=hdz hc;have HZ:=hdz hz;have HBL:=hdz hbl;have hu1:(U.length:Int)<=8000:=by omega
 unfold maxLen at h2;have h1:1<=c:=h1;clear hT h3 hcc f0 f1 f2 hU;show Cg fp #[Pd b o,.slice (some (Ad b0 o')) 1 c,.func (.func fx) #[] #[],.func (.func fy) #[] #[]] w _
 rcases hf with ⟨rfl,rfl,rfl,rfl,rfl,rfl,rfl,rfl,rfl,rfl⟩|⟨rfl,rfl,rfl,rfl,rfl,rfl,rfl,rfl,rfl,rfl⟩|⟨rfl,rfl,rfl,rfl,rfl,rfl,rfl,rfl,rfl,rfl⟩
 all_goals as_aux_lemma =>
  first
   | go_enter func140,ntmps140
   | go_enter func143,ntmps143
   | go_enter func147,ntmps147
  go_wp2_with ((first|go_at_call 188|go_at_call 189|go_at_call 195);refine Calls.mono CS.out ?_;rintro e w1 ⟨rfl,hb1⟩;have x1:=(zC hb1 b _ hbl).trans HC.out;have HB1:=hdz hb1;clear hb1 hc)
  clear x1 hz
  go_loopw [11,12,35] (λv11 v12 i wr=>∃x:Nat,i=.int .i64 x/\x<=1/\(x=0->v11=.slice none 0 0)/\(∃p n c,v11=.slice p n c)/\v12=.slice none 0 0/\Bw w wr) (λ_ _ i _=>1 - (intOf i).toNat)
  case atStart=>exact⟨0,rfl,by decide,λ_=>rfl,⟨_,_,_,rfl⟩,rfl,HB1.out⟩
  case round =>
   obtain⟨x,rfl,hx,hv,⟨p,n,cp,rfl⟩,rfl,hb⟩:=hrel;have HB:=hdz hb
   rcases x with _|x
   . have hv:=hv rfl
     injection hv with v1 v2 v3;subst v1 v2 v3;have g0:=(zC hb b0 (o'+0*3) hb0).trans HF.out;have g1:=(zC hb b0 (o'+0*3+1) hb0).trans HF1.out;have g2:=(zC hb b0 (o'+0*3+2) hb0).trans HF2.out;simp only[Nat.zero_mul,Nat.add_zero]at g0 g1 g2;clear hx hb
     go_wp2_with (first
      | (have _:=HB2;at_builtin;refine Jim _ rfl _ _ _ rfl w.heap.size _ i0 (.int _ 0) _ (by first | exact underlying29 | exact underlying131 | exact underlying132) hi hq0 hq1 hq2 rfl _ _ _ rfl (World.ownsRow_nil _ _ _ _) _ pz nz cz zs rfl HS2.out (by unfold maxLen;omega) (by omega) HB2.out.size ?_)
      | (at_builtin;refine wpList_append_own_none rfl _ _ _ rfl w.heap.size _ i0 1 (by first | exact underlying29 | exact underlying131 | exact underlying132) hi _ 0 [] rfl (World.ownsRow_nil _ _ _ _) rfl ?_)
      | ((first|go_at_call 142|go_at_call 145|go_at_call 149);refine(CP.out _ (HB.out.alloc HB.out.size _)).mono ?_;rintro e w2 ⟨pz,nz,cz,zs,rfl,hnz,hs,hb2⟩
         have hx:=(hb2.block wr.heap.size (by rw[wsa];omega)).trans (heap_alloc_new wr _);have HX:=hdz hx;have HB2:Hid (Bw w w2):=(HB.out.alloc HB.out.size _).trans (hb2.mono (HB.out.alloc HB.out.size _).size);have HS2:=hdz hs
         clear hb2 hx hs))
     intro v' w4 hown' hg';obtain⟨p14,c14,rfl⟩:=Jak hown';have hx:=(hg'.block wr.heap.size (alt HX.out) λe=>by cases e).trans HX.out;have x0:=cQ hx 0 rfl;have x1:=cQ hx 1 rfl;have HB4:Hid (Bw w w4):=HB2.out.grown hg' HB2.out.size λk hk=>by cases hk
     clear hx hown' hg';go_wp2;exact⟨⟨1,by go_num,by decide,λh=>(by cases h),⟨_,_,_,rfl⟩,rfl,HB4.out⟩,by simp[intOf]⟩
   . obtain rfl:x=0:=by omega
     have x1:=(zC hb b _ hbl).trans HC.out;have x2:=(hb.frozen (p:=(Ad b _)) hbl).trans HZ.out;clear hx hb hv;go_wp2;go_ret;exact⟨rfl,(HB.out.mono (Nat.le_of_lt HBL.out)).setCell (nlr _) _⟩
theorem unitQ{b:Nat}(h:w.cell? (Ad b 0)=some (I6 u)):Cg 139 #[Pd b 0] w λe w'=>e=.returned (I6 u)/\w'=w:=by
 go_enter func139,ntmps139
 go_wp2;go_ret;exact⟨rfl,rfl⟩
theorem lenQ(hu:JaH u){b:Nat}(hb:w.heap[b]?=some (Oc #[I6 u,.slice none 0 0,.slice none 0 0,.slice none 0 0] 134)):Cg 138 #[Pd b 0] w λe w'=>e=.returned (I6 0)/\w'=w:=by
 have x0:=cQ hb 0 rfl;have x1:=cQ hb 1 rfl;have x2:=cQ hb 2 rfl;have x3:=cQ hb 3 rfl;have CU:Hid _:=unitQ x0;clear hb
 rcases hu with rfl|rfl|rfl
 all_goals
  go_enter func138,ntmps138
  go_wp2_with (go_at_call 139;refine Calls.mono CU.out ?_;rintro e w1 ⟨rfl,hw⟩;obtain rfl:=hw.symm)
  go_ret;exact⟨rfl,rfl⟩
theorem applyQ(hu:JaH u)(hT:Lib.Utf8Tabs 3 4 w)(hr:opAt w v [⟨0,0,U⟩])(hU:(scan U).2=true)(hne:U≠[])(hl:U.length<=8000){b:Nat}(hb:w.heap[b]?=some (Oc #[I6 u,.slice none 0 0,.slice none 0 0,.slice none 0 0] 134)) :
    Cg 90 #[Pd b 0,v] w λe w'=>e=.returned .nilIface/\Below b w w':=by
 have hk:chkE [⟨0,0,U⟩] 0=0:=by simp[chkE,chk1,chk2,oneB,hne,hU]
 have CK:Hid (Cg 137 #[v,I6 0] w (Rt w .nilIface)):=by
  have:=Jdl v _ 0 w hT hr (λq hq=>by
   obtain rfl:=List.mem_singleton.1 hq
   refine⟨?_,?_,?_,?_,?_⟩<;>simp only<;>omega) (by decide) (by simp)
  rw[hk]at this;exact this
 have hlt:b<w.heap.size:=(alt hb);have CP:Hid (∀{u k o e l z fs fx fp fy},fQ u k o e l z fs fx fp fy->o<4->0<o->∀wx,Bw w wx->Cg fp #[Pd b o,v,.func (.func fx) #[] #[],.func (.func fy) #[] #[]] wx λe w'=>e=.returned .nilIface/\Below b wx w'):=λhf ho h0 wx hw=>by
  have h:=(hw.block b hlt).trans hb;refine playQ hf (Go.Proofs.Utf8Tabs_below hT hw) (JaJ hr hw (nlr _)) hU hl ?_ (JaP h);rw[chp h]
  rcases hf with ⟨_,_,rfl,_⟩|⟨_,_,rfl,_⟩|⟨_,_,rfl,_⟩<;>rfl
 have CL:Hid _:=lenQ hu hb;have CU:Hid (∀wx,Bw w wx->_):=λwx hw=>unitQ (chp ((hw.block b hlt).trans hb) 0);have HLT:=hdz hlt;obtain⟨p,c,rfl,h1,h2,h3⟩:=hr;clear hT hU hne hl hb hk h3 hlt
 rcases hu with rfl|rfl|rfl
 all_goals as_aux_lemma =>
  go_enter func90,ntmps90
  go_wp2_with (first
   | (go_at_call 137;refine Calls.mono CK.out ?_;rintro e w1 ⟨rfl,hb1⟩;have HB1:=hdz hb1;clear hb1)
   | (go_at_call 138;refine Calls.mono CL.out ?_;rintro e w0 ⟨rfl,hw⟩;obtain rfl:=hw.symm)
   | (go_at_call 139;refine(CU.out _ HB1.out).mono ?_;rintro e w3 ⟨rfl,hw⟩;obtain rfl:=hw.symm)
   | ((first | (go_at_call 140;refine(CP.out (.inl ⟨rfl,rfl,rfl,rfl,rfl,rfl,rfl,rfl,rfl,rfl⟩) (by decide) (by decide) _ HB1.out).mono ?_) | (go_at_call 143;refine(CP.out (.inr (.inl ⟨rfl,rfl,rfl,rfl,rfl,rfl,rfl,rfl,rfl,rfl⟩)) (by decide) (by decide) _ HB1.out).mono ?_) | (go_at_call 147;refine(CP.out (.inr (.inr ⟨rfl,rfl,rfl,rfl,rfl,rfl,rfl,rfl,rfl,rfl⟩)) (by decide) (by decide) _ HB1.out).mono ?_));rintro e w2 ⟨rfl,hb2⟩))
  go_ret;exact⟨rfl,(HB1.out.mono (Nat.le_of_lt HLT.out)).trans hb2⟩
theorem freshQ(hu:JaH u)(hT:Lib.Utf8Tabs 3 4 w)(hU:(scan U).2=true)(hne:U≠[])(hl:U.length<=8000){wx:World}(hw:Bw w wx){b:Nat}(hb:b=wx.heap.size):Cg 90 #[Pd b 0,Sl (b+1) 1 1] ((wx.alloc (Oc #[I6 u,.slice none 0 0,.slice none 0 0,.slice none 0 0] 134)).alloc (Oc #[I6 0,I6 0,Sx U] 96)) (Rt w .nilIface):=by
 have h1:Bw wx (wx.alloc (Oc #[I6 u,.slice none 0 0,.slice none 0 0,.slice none 0 0] 134)):=zA _ _;have h2:=h1.alloc (by rw[wsa];omega) (Oc #[I6 0,I6 0,Sx U] 96);have h3:=hw.trans (h2.mono hw.size);have e1:=(heap_alloc_old (wx.alloc (Oc #[I6 u,.slice none 0 0,.slice none 0 0,.slice none 0 0] 134)) (Oc #[I6 0,I6 0,Sx U] 96) (r:=wx.heap.size) (by rw[wsa];omega)).trans (heap_alloc_new wx _);have e2:=heap_alloc_new (wx.alloc (Oc #[I6 u,.slice none 0 0,.slice none 0 0,.slice none 0 0] 134)) (Oc #[I6 0,I6 0,Sx U] 96);rw[wsa]at e2;rw[←hb]at e1 e2;generalize (wx.alloc (Oc #[I6 u,.slice none 0 0,.slice none 0 0,.slice none 0 0] 134)).alloc (Oc #[I6 0,I6 0,Sx U] 96)=W3 at *;have ho:opAt W3 (Sl (b+1) 1 1) [⟨0,0,U⟩]:=JuE (ps:=[⟨0,0,U⟩]) e2 (by simp[maxLen]);refine(applyQ hu (Go.Proofs.Utf8Tabs_below hT h3) ho hU hne hl e1).mono ?_;rintro e w' ⟨a,b⟩;exact⟨a,h3.trans (b.mono (by rw[hb];exact hw.size))⟩
theorem Ju0(hu:JaH u)(hT:Lib.Utf8Tabs 3 4 w)(hU:(scan U).2=true)(hl:U.length<=8000):Cg 49 #[I6 u,Sx U] w λe w'=>∃b,e=.returned (.tuple #[Pd b 0,.nilIface])/\Bw w w':=by
 have CC:Hid _:=Jf6 U (Nat.le_trans hl (by decide)) hU w hT;have CA:=hdz λ(hne:U≠[]) wx b (hw:Bw w wx) (hb:b=wx.heap.size)=>freshQ hu hT hU hne hl hw hb;clear hT hU hl
 rcases hu with rfl|rfl|rfl
 all_goals as_aux_lemma =>
  by_cases hne:U=[]
  . subst hne
    go_enter func49,ntmps49
    go_wp2_with (go_at_call 47;refine Calls.mono CC.out ?_;rintro e w1 ⟨n1,n2,n3,n4,rfl,hb1⟩;have HB1:=hdz hb1;clear hb1)
    go_ret2
    exact⟨_,rfl,(HB1.out.alloc HB1.out.size _).alloc (Nat.le_trans HB1.out.size (by simp)) _⟩
  . have h1:U.isEmpty=false:=by cases U with | nil=>exact absurd rfl hne | cons a t=>rfl
    have HNE:=hdz hne;clear hne
    go_enter func49,ntmps49
    go_wp2_with (first
     | (go_at_call 47;refine Calls.mono CC.out ?_;rintro e w1 ⟨n1,n2,n3,n4,rfl,hb1⟩;have HB1:=hdz hb1;clear hb1)
     | (go_at_call 90;refine(CA.out HNE.out _ _ (HB1.out.alloc HB1.out.size _) (World.size_alloc _ _).symm).mono ?_;rintro e w2 ⟨rfl,hb2⟩;have HB2:=hdz hb2;clear hb2))
    go_ret2
    exact⟨_,rfl,HB2.out⟩
theorem JqJ(hu:¬JaH u)(s:ByteArray):Cg 49 #[I6 u,.string s] w (Rt w (.tuple #[.pointer none,.iface 25 (I6 1)])):=by
 unfold JaH at hu;have h1:(u != 1)=true:=by simpa using λe=>hu (.inl e)
 have h2:(u != 2)=true:=by simpa using λe=>hu (.inr (.inl e))
 have h3:(u != 3)=true:=by simpa using λe=>hu (.inr (.inr e))
 clear hu
 go_enter func49,ntmps49
 go_wp2
 go_ret2
 exact⟨rfl,brf _ _⟩
end
end
section
attribute [local go_sem] Oper.semAt_some Jaj JaD
variable {w : World}{lo b : Nat}{who u : Int}{S : Cl}
def Jdw (s:List UInt8):Cl:=⟨s,s,0,0,0,[]⟩
theorem JsO{s:List UInt8}(h:V s):okK 2000 (Jdw s):=⟨h,trivial,rfl,by simp[Jdw],λm hm=>by cases hm⟩
theorem Jr6(who:Int)(lo:Nat)(u:Nat)(hu:Juq u)(rs:List Nat)(hR:∀r∈rs,Jbp r)(hz:C1 rs<=8000)(w:World)(hlo:lo<=w.heap.size)(hT:Lib.Utf8Tabs 3 4 w):Cg 24 #[I6 who,I6 (u:Int),Sx (encs rs)] w λe w'=>∃b,e=.returned (.tuple #[Pd b 0,.nilIface])/\isCl lo w' b who (u:Int) (Jdw (encs rs))/\w.heap.size<=b/\Bw w w'/\∀x,ownC w' b x->x=b:=by
 have cN:Hid _:=Ju0 (Jup hu) hT (show(scan (encs rs)).2=true by rw[JeF rs hR]) (by have:=Jcb rs;omega);have hc1:(encs rs).length=C1 rs:=(Jcb rs).symm;have CL:=hdz λwx=>Jgi (encs rs) (by omega) wx;have HLO:=hdz hlo;generalize encs rs=s at *;clear hT hz hlo hu hR hc1
 go_enter func24,ntmps24
 go_wp2_with (first
  | (go_at_call 49;refine Calls.mono cN.out ?_;rintro e w1 ⟨b1,rfl,hb1⟩;have HB1:=hdz hb1;clear hb1)
  | (go_at_call 48;refine(CL.out _).mono ?_;rintro e w2 ⟨rfl,hb2⟩;have HB2:=hdz (HB1.out.trans (hb2.mono HB1.out.size));clear hb2))
 go_ret2
 have hl:=HLO.out;have hs:=HB2.out.size;refine⟨w2.heap.size,rfl,⟨by omega,.slice none 0 0,heap_alloc_new _ _,JkH _ _⟩,hs,HB2.out.alloc hs _,λx hx=>?_⟩
 rcases hx with e|⟨vm,e,hk⟩
 . exact e
 . rw[chp (heap_alloc_new w2 _) 4]at e
   have e:some (Value.slice none 0 0)=some vm:=e;rw[←osi e]at hk
   cases hk
theorem Jr5(who u:Int)(hu:¬JaH u)(s:ByteArray)(w:World):Cg 24 #[I6 who,I6 u,.string s] w (Rt w (.tuple #[.pointer none,.iface 25 (I6 1)])):=by
 have cN:Hid _:=JqJ (w:=w) hu s;clear hu
 go_enter func24,ntmps24
 go_wp2_with (go_at_call 49;refine Calls.mono cN.out ?_;rintro e w1 ⟨rfl,hb1⟩)
 go_ret2
 exact⟨rfl,hb1⟩
theorem Jk7{p:Option Addr}{n c:Nat}{ps:List Pt}(h:opAt w (.slice p n c) ps):n=ps.length/\(ps≠[]->∃a,p=some a/\∀j u,(JaM ps)[j]?=some u->w.cell? (a.add j)=some u):=by
 obtain⟨p',c',e,_,_,h3⟩:=h;injection e with e1 e2 e3;subst e1;refine⟨e2,λhne=>?_⟩;obtain⟨b,o,rfl,_,h4⟩:=h3 hne;refine⟨(Ad b o),rfl,λj u hj=>?_⟩;have hjl:=(llt hj);rw[JdX]at hjl;have hk:j / 3<ps.length:=by omega
 have hm:=Nat.div_add_mod j 3;have hm3:=Nat.mod_lt j (show 0<3 by decide);have hg:=Jgl ps (j / 3) ps[j / 3] (lgg hk) (j % 3) hm3;rw[show j / 3*3+j % 3=j by omega,hj]at hg;obtain⟨f1,f2,f3⟩:=h4 (j / 3) _ (lgg hk);have e3:o+j / 3*3+j % 3=o+j:=by omega
 have ea:((Ad b o):Addr).add j=(Ad b (o+j / 3*3+j % 3)):=by rw[e3];simp[Addr.add]
 rw[ea];generalize j % 3=r at *
 rcases r with _|_|_|r
 . rw[Nat.add_zero,f1];exact hg.symm ▸ rfl
 . rw[f2];exact hg.symm ▸ rfl
 . rw[f3];exact hg.symm ▸ rfl
 . omega
theorem Jr9(ps:List Pt):∀u∈JaM ps,u.oneCell'=true:=λu hu=>by
 obtain⟨p,_,hp⟩:=List.mem_flatMap.1 hu;exact Jb2 p u hp
theorem slNil(c:Nat)(w:World):(binOp .eql 94 (.slice none 0 c) (.slice none 0 0)).run prog w=.ok (.bool true) w:=by kernel_rfl
theorem slSome(a:Addr)(n c:Nat)(w:World):(binOp .eql 94 (.slice (some a) n c) (.slice none 0 0)).run prog w=.ok (.bool false) w:=by kernel_rfl
attribute [local go_sem] slNil slSome
theorem Jpi(v:Value)(ps:List Pt)(w:World)(h:opAt w v ps)(hl:ps.length<=1000000):Cg 161 #[v] w λe w'=>∃v',e=.returned v'/\opN w.heap.size w' v' ps/\Bw w w':=by
 obtain⟨p,c,rfl⟩:∃p c,v=.slice p ps.length c:=by obtain⟨p,c,e,_⟩:=h;exact⟨p,c,e⟩
 rcases p with _|a
 . have hps:ps=[]:=by
     by_cases e:ps=[]
     . exact e
     . obtain⟨a,e2,_⟩:=(Jk7 h).2 e;cases e2
   subst hps;clear h
   go_enter func161,ntmps161
   go_wp2;go_ret;exact⟨_,rfl,Jfl _ _,brf _ _⟩
 . have HA:Hid (∀j u,(JaM ps)[j]?=some u->w.cell? (a.add j)=some u):=by
     intro j u hj;have hne:ps≠[]:=λe=>by subst e;simp[JaM]at hj
     obtain⟨a',e,h2⟩:=(Jk7 h).2 hne;injection e with e;subst e;exact h2 j u hj
   have HLT:Hid (ps≠[]->a.block<w.heap.size):=λhne=>by
    obtain⟨p',c',e,_,_,h3⟩:=h;injection e with e1 _ _;obtain⟨b,o,e2,h5,_⟩:=h3 hne;rw[←e1]at e2;injection e2 with e2;subst e2;exact h5
   obtain⟨i0,hi,hz0,hz1,hz2⟩:=info_parts Jcm;have HI:=hdz hi;have HZ0:=hdz hz0;have HZ1:=hdz hz1;have HZ2:=hdz hz2;obtain⟨n,hn⟩:∃n,ps.length=n:=⟨_,rfl⟩;have HN:=hdz hn;rw[hn]at hl ⊢;clear h hi hz0 hz1 hz2 hn
   go_enter func161,ntmps161
   go_wp2_with (at_builtin;have hrow:(w.alloc (Oc #[] 96)).ownsRow w.heap.size 96 3 (Sl w.heap.size 0 0) 0 []:=World.ownsRow_lit (e:=96) (base:=w.heap.size) (size:=3) w #[] 0 (nlr _) (by unfold maxLen;omega) rfl;refine wpList_append_own _ rfl _ _ 94 rfl w.heap.size 96 i0 (.agg #[I6 0,I6 0,.string ⟨#[]⟩]) 3 32 underlying94 HI.out HZ0.out HZ1.out HZ2.out rfl (by decide) _ _ _ rfl hrow a n c (JaM ps) rfl (by rw[JdX,HN.out]) (λj u hj=>?_) (Jr9 _) (by unfold maxLen;omega) (by omega) (by simp) ?_)
   . skip
     have hne:ps≠[]:=λe=>by subst e;simp[JaM]at hj
     exact(World.cell?_alloc_lt _ _ (a.add j) (by have:=HLT.out hne;simp only[Addr.add];split<;>exact this)).trans (HA.out j u hj)
   intro v' w' hown' hg' _;obtain⟨p',c',rfl⟩:=Jak hown';have HB9:Hid (Bw w w'):=(zA _ _).grown hg' (by simp) λj hj=>by obtain rfl:=osi hj;exact nlr _
   have HO9:Hid (opN w.heap.size w' (.slice p' n c') ps):=Jg6 (nlr _) (by rw[HN.out];simpa using hown');clear hown' hg';go_wp2;go_ret;exact⟨_,rfl,HO9.out,HB9.out⟩
structure ZA (lo b:Nat) (who u:Int) (S:Cl) (VM:Value) (g:Nat) (p0:Option Addr) (k0 c0:Nat) (m0:List Pt) (wx:World):Prop where
 blk:wx.heap[b]?=some (Oc (Jb7 who u S VM) 90)
 lt:g<wx.heap.size
 cel:wx.cell? (Ad g 0)=some (.slice p0 k0 c0)
 op0:opX lo wx (.slice p0 k0 c0) m0
theorem ZA.grow{VM:Value}{g:Nat}{p0:Option Addr}{k0 c0:Nat}{m0:List Pt}{w':World}(h:ZA lo b who u S VM g p0 k0 c0 m0 w)(hb:Bw w w'):ZA lo b who u S VM g p0 k0 c0 m0 w' :=
 ⟨(hb.block b (alt h.blk)).trans h.blk,Nat.lt_of_lt_of_le h.lt hb.size,(zC hb g 0 h.lt).trans h.cel,Ja1 h.op0 hb⟩
theorem Jpo(h:isCl lo w b who u S)(hm:S.mine=[]) :
    Cg 103 #[Pd b 0] w (Rt w (.tuple #[I6 0,I6 S.rev,.slice none 0 0,.bool false])):=by
 have CP:Hid _:=JbB h;rw[show decide (0<S.mine.length)=false by rw[hm];rfl]at CP;have HC:=hdz h;clear h hm
 go_enter func103,ntmps103
 go_wp2_with (first
  | (go_at_call 67;refine Calls.mono CP.out ?_;rintro e w1 ⟨rfl,hb1⟩;have HB1:=hdz hb1;clear hb1)
  | (go_at_call 64;refine(JnK (Jbm HC.out HB1.out)).mono ?_;rintro e w2 ⟨rfl,hb2⟩;have HB2:=hdz (HB1.out.trans (hb2.mono HB1.out.size));clear hb2))
 refine bodyPost_ret (v:=.tuple #[I6 0,I6 S.rev,.slice none 0 0,.bool false]) (by simp[results,results103,go_sem]) rfl ⟨rfl,HB2.out⟩
theorem Jpn(h:isCl lo w b who u S)(hm:S.mine≠[])(hl:(JdC S).length<=1000000) :
    Cg 103 #[Pd b 0] w λe w'=>∃v',e=.returned (.tuple #[I6 S.id,I6 S.rev,v',.bool true])/\(∀lo',opX lo' w' v' (JdC S))/\Bw w w':=by
 have CP:Hid _:=JbB h;rw[decide_eq_true (List.length_pos_iff.2 hm)]at CP;obtain⟨hlo,VM,h3,h4⟩:=h;obtain⟨g,cc,p0,k0,c0,rfl,⟨hcn,hcm⟩,hgl,hce,hop⟩:=Jjq h4 hm;unfold maxLen at hcm;have hop:opX lo w (.slice p0 k0 c0) (JdC S):=hop;have H0:Hid _:=(⟨h3,hgl,hce,hop⟩:ZA lo b who u S (Sl g S.mine.length cc) g p0 k0 c0 (JdC S) w);have CK:=hdz λwx (ho:opAt wx (.slice p0 k0 c0) (JdC S))=>Jpi _ _ wx ho hl;have hmn:=List.length_pos_iff.2 hm;have hmi:(0:Int)<(S.mine.length:Int):=by omega
 generalize JdC S=m0 at *;obtain⟨n,hn⟩:∃n,S.mine.length=n:=⟨_,rfl⟩;rw[hn]at hcn hmi hmn H0;clear h3 h4 hm hl hgl hce hop hlo hn
 go_enter func103,ntmps103
 go_wp2_with (go_at_call 67;refine Calls.mono CP.out ?_;rintro e w1 ⟨rfl,hb1⟩;have HB1:=hdz hb1;have HZ1:=hdz (ZA.grow H0.out hb1);clear hb1)
 refine wz (λwx:World=>ZA lo b who u S (Sl g n cc) g p0 k0 c0 m0 wx) 19 HZ1.out ZA.grow λw30 hb30 hz1 G hG=>?_;have hb2A:=HB1.out.trans (hb30.mono HB1.out.size);have y6:∀y,(G y).cell? (Ad b 6)=some (I6 S.id):=λy=>(Jay (hG.but y).blk).2.2.2.2.2.2.1;have y2:∀y,(G y).cell? (Ad b 2)=some (I6 S.rev):=λy=>(Jay (hG.but y).blk).2.2.1;have y4:∀y,(G y).cell? (Ad b 4)=some (Sl g n cc):=λy=>(Jay (hG.but y).blk).2.2.2.2.1;have yg:∀y,(G y).cell? (Ad g 0)=some (.slice p0 k0 c0):=λy=>(hG.but y).cel;(iterate 14 (refine ay hG hz1 λ_ k=>?_;go_simp;apply k;clear k));clear y6 y2 y4 yg;refine aO 14 ⟨_,rfl,?_⟩;intro w31 hb31 K hK
 go_simp
 have hb2B:=hb2A.trans (hb31.mono hb2A.size);have hzB:=ZA.grow hz1 hb31;refine(CK.out w31 hzB.op0.1).mono ?_;rintro e w3 ⟨v',rfl,hn3,hb3⟩;obtain⟨p3,c3,rfl⟩:=Jei hn3;refine⟨_,rfl,hK _ _ (λ_=>ZA.grow hzB hb3) ?_⟩;have hz2:=ZA.grow hzB hb3;clear hK K hz1;refine az hG hz2 15 λ_ k=>?_;go_simp;apply k;clear k;refine az hG hz2 16 λ_ k=>?_;go_simp;apply k;clear k;refine az hG hz2 17 λ_ k=>?_;go_simp;apply k;clear k;refine az hG hz2 18 λ_ k=>?_;go_simp;apply k;clear k;clear hG hz2;refine ae ?_;intro w4 hb4;have hb44:=hb2B.trans (hb3.mono hb2B.size);have HB4:Hid (Bw w w4):=hb44.trans (hb4.mono hb44.size);have HN4:Hid (∀lo',opX lo' w4 (.slice p3 m0.length c3) m0):=λlo'=>Ja1 (JbY hn3) hb4;clear hb30 hb31 hb3 hb4 hb44 hb2A hb2B hn3 hzB;go_wp2;refine bodyPost_ret (v:=.tuple #[I6 S.id,I6 S.rev,.slice p3 m0.length c3,.bool true]) (by simp[results,results103,go_sem]) rfl ⟨_,rfl,HN4.out,HB4.out⟩
end
section
attribute [local go_sem] Oper.semAt_some Jaj JaD
variable {lo bmx r bx : Nat}{w w' : World}{bs : List Nat}{R : Rm}{l0 n : Int}{D : List (List UInt8)}
structure Env (lo:Nat) (w:World):Prop where
 lay:JbM w
 tabs:Lib.Utf8Tabs 3 4 w
 g1:2<lo
 g2:3<lo/\4<lo
theorem Env.below(h:Env lo w)(hb:Bw w w'):Env lo w':=⟨JaQ h.lay hb,Go.Proofs.Utf8Tabs_below h.tabs hb,h.g1,h.g2⟩
theorem Env.same{lo:Nat}{w w':World}{X:Nat->Prop}(h:Env lo w)(hs:sameBut w w' X)(hX:∀k,X k->lo<=k):Env lo w' :=
 ⟨JjG h.lay hs λe=>absurd (hX _ e) (Nat.not_le.2 h.g1),JgL h.tabs hs (λe=>absurd (hX _ e) (Nat.not_le.2 h.g2.1)) λe=>absurd (hX _ e) (Nat.not_le.2 h.g2.2),h.g1,h.g2⟩
theorem Env.room(h:Env lo w)(hs:sameBut w w' (JaE lo w bmx)):Env lo w':=h.same hs λk e=>e.1
theorem JhD{x:List Pt}{t:List UInt8}(h:good x t)(h1:t.length<=10000)(h2:Jaq x<=10000):(∀p∈x,wfP p)/\x.length<=20000:=by
 refine⟨h.wf (by omega),?_⟩;have h3:=JlZ x h.one;rw[h.wt]at h3;omega
structure ZB (r β g:Nat) (Br Bβ Bg:Obj) (wx:World):Prop where
 b1:wx.heap[r]?=some Br
 b2:wx.heap[β]?=some Bβ
 b3:wx.heap[g]?=some Bg
theorem ZB.grow{β g:Nat}{Br Bβ Bg:Obj}(h:ZB r β g Br Bβ Bg w)(hb:Bw w w'):ZB r β g Br Bβ Bg w' :=
 ⟨(hb.block r (alt h.b1)).trans h.b1,(hb.block β (alt h.b2)).trans h.b2,(hb.block g (alt h.b3)).trans h.b3⟩
theorem ZB.same{r β g:Nat}{Br Bβ Bg:Obj}{w w':World}{X:Nat->Prop}(h:ZB r β g Br Bβ Bg w)(hs:sameBut w w' X)(n1:¬X r)(n2:¬X β)(n3:¬X g):ZB r β g Br Bβ Bg w' :=
 ⟨(hs.2 r (alt h.b1) n1).trans h.b1,(hs.2 β (alt h.b2) n2).trans h.b2,(hs.2 g (alt h.b3) n3).trans h.b3⟩
theorem JpC(h:isRoom lo w r bx bmx bs R)(p:Pk){pv:Option Addr}{cv:Nat}(hx:opX lo w (.slice pv p.x.op.length cv) p.x.op) :
    isRoom lo (w.alloc (Oc #[I6 p.kind,I6 (p.c:Int),I6 p.rev,I6 p.id,I6 p.x.c,I6 p.x.i,.slice pv p.x.op.length cv] 156)) r bx bmx bs R/\opX lo (w.alloc (Oc #[I6 p.kind,I6 (p.c:Int),I6 p.rev,I6 p.id,I6 p.x.c,I6 p.x.i,.slice pv p.x.op.length cv] 156)) (.slice pv p.x.op.length cv) p.x.op /\
     Bw w (w.alloc (Oc #[I6 p.kind,I6 (p.c:Int),I6 p.rev,I6 p.id,I6 p.x.c,I6 p.x.i,.slice pv p.x.op.length cv] 156))/\(w.alloc (Oc #[I6 p.kind,I6 (p.c:Int),I6 p.rev,I6 p.id,I6 p.x.c,I6 p.x.i,.slice pv p.x.op.length cv] 156)).heap[w.heap.size]?=some (Oc #[I6 p.kind,I6 (p.c:Int),I6 p.rev,I6 p.id,I6 p.x.c,I6 p.x.i,.slice pv p.x.op.length cv] 156):=by
 have hb:Bw w (w.alloc (Oc #[I6 p.kind,I6 (p.c:Int),I6 p.rev,I6 p.id,I6 p.x.c,I6 p.x.i,.slice pv p.x.op.length cv] 156)):=zA _ _;exact⟨Jal h hb,Ja1 hx hb,hb,heap_alloc_new _ _⟩
theorem JfB(h:isRoom lo w r bx bmx bs R){k:Nat}(hk:k<R.cl.length):∃b,bs[k]?=some b/\isCl lo w b (k:Int) (clK R k).1 (clK R k).2:=by
 have hkb:k<bs.length:=by rw[h.cls.len];exact hk
 refine⟨bs[k],lgg hkb,h.cls.each k _ _ (lgg hkb) ?_⟩;unfold clK;rw[lgg hk];rfl
theorem Jwa{pc:Option Addr}{cc k b:Nat}(h:w.ownsRow lo 69 1 (.slice pc bs.length cc) bs.length (ptrs bs))(hb:bs[k]?=some b):∃g cur,pc=some (Ad g 0)/\w.heap[g]?=some (Oc cur 69)/\cur[k]?=some (Pd b 0):=by
 have hk:k<bs.length:=(llt hb)
 rcases h.2 with ⟨_,hz⟩|⟨g,cap,cur,e,h3,h4,h5,h6,h7,h8⟩
 . rw[hz]at hk;exact absurd hk (Nat.not_lt_zero _)
 . injection e with e1 _ _
   refine⟨g,cur,e1,h4,?_⟩;have e2:=congrArg (·[k]?) h8;simp only[List.getElem?_take,show k<bs.length*1 by omega,if_true,JpE hb]at e2;rw[←Array.getElem?_toList];exact e2
theorem Inv.counts(h:Inv l0 n D R)(hp:potR R<=10000000000):R.lost<=10000000000/\R.n<=10000000000/\R.fl.length<=400:=by
 unfold potR at hp;exact⟨by omega,by omega,h.room⟩
theorem Jnb(h:isRoom lo w r bx bmx bs R)(hi:Inv l0 n D R)(p:Pk)(hp:okPk R.E D R.cl.length p)(hk:p.kind=2)(v:Value)(hx:opX lo w v p.x.op)(hpot:potR R<=10000000000) :
    Cg 109 #[Pd r 0,pkV p v] w λe w'=>e=.returned (.tuple #[])/\isRoom lo w' r bx bmx bs (JcJ R p.c p.rev)/\sameBut w w' (JaE lo w bmx):=by
 obtain⟨pv,cv,rfl⟩:=JaO hx;obtain⟨g1,g2,g3,g4⟩:=JpC h p hx;obtain⟨k1,k2,k3⟩:=hi.counts hpot;obtain⟨m,hm⟩:∃m:Nat,p.rev=(m:Int):=⟨p.rev.toNat,by have:=hp.rev.1;omega⟩;have hml:m<=R.E.length:=by have:=hp.rev.2;omega
 have CT:Hid (∀wx,Bw w wx->Cg 166 #[Pd r 0,I6 (p.c:Int),I6 (m:Int)] wx λe w'=>e=.returned (.tuple #[])/\isRoom lo w' r bx bmx bs (JcJ R p.c p.rev)/\sameBut w w' (JaE lo w bmx)):=λwx hb=>by
  have hr:=Jal h hb;refine(JmY hr hi.srv hi.few p.c m hml (by omega) k3).mono ?_;rintro e w' ⟨rfl,a,b⟩;exact⟨rfl,by rw[hm];exact a,JbC hb (Jdz (b.touch hr))⟩
 have HB:=hdz g3;rw[hm]at g3 g4 HB;unfold pkV;rw[hm,hk]at *;generalize p.c=a1 at *;generalize p.id=a3 at *;generalize p.x.c=a4 at *;generalize p.x.i=a5 at *;generalize p.x.op.length=a6 at *;clear h hi hp hx g1 g2 g3 g4 hpot k1 k2 k3 hml
 go_enter func109,ntmps109
 go_wp2_with (go_at_call 166;refine(CT.out _ HB.out).mono ?_;rintro e w2 ⟨rfl,h2,hs2⟩;have H2:=hdz h2;have HS2:=hdz hs2;clear h2 hs2)
 go_end0;exact⟨rfl,H2.out,HS2.out⟩
theorem Jna(he:Env lo w)(h:isRoom lo w r bx bmx bs R)(hi:Inv l0 n D R)(hn:n<=100000)(p:Pk)(hp:okPk R.E D R.cl.length p)(hk:p.kind=3)(v:Value)(hx:opX lo w v p.x.op)(hbl:bs.length<=1000) :
    Cg 109 #[Pd r 0,pkV p v] w λe w'=>e=.returned (.tuple #[])/\isRoom lo w' r bx bmx bs (setC R p.c (tkS (p.c:Int) (clK R p.c).2 p.rev p.x.c p.x.i p.x.op))/\sameBut w w' (JaE lo w bmx):=by
 obtain⟨pv,cv,rfl⟩:=JaO hx;obtain⟨g1,g2,g3,g4⟩:=JpC h p hx;obtain⟨b,hb,_⟩:=JfB h hp.c;obtain⟨pc,cc,pf,cf,h2,h3,_⟩:=Jb5 h;obtain⟨g,cur,rfl,hg,hcur⟩:=Jwa h3 hb;obtain⟨_,hck⟩:=hi.clk hp.c;have hsm:=hck.small hi.lk;have hrl:=hck.revle hi.lk;have hE:=hi.few;have hpx:=hi.lk.puts (hp.told hk);obtain⟨d,hd,_,hdl⟩:=hi.lk.at_ (i:=p.rev.toNat) (by have:=hp.rev;omega);obtain⟨hgd,_⟩:=hi.lk.link _ _ _ (hp.told hk) hd;obtain⟨hwf,hxl⟩:=JhD hgd (by omega) (by omega)
 have CC:Hid (∀wx,Bw w wx->Cg 167 #[Pd b 0,I6 p.rev,.agg #[I6 p.x.c,I6 p.x.i,.slice pv p.x.op.length cv]] wx λe w'=>∃u,e=.returned u/\isRoom lo w' r bx bmx bs (setC R p.c (tkS (p.c:Int) (clK R p.c).2 p.rev p.x.c p.x.i p.x.op))/\sameBut w w' (JaE lo w bmx)/\∀β,w.heap.size<=β->ZB r β g (Oc #[Pd bx 0,Sl g bs.length cc,.slice pf R.fl.length cf,I6 (R.lost:Int)] 68) (Oc #[I6 p.kind,I6 (p.c:Int),I6 p.rev,I6 p.id,I6 p.x.c,I6 p.x.i,.slice pv p.x.op.length cv] 156) (Oc cur 69) wx->ZB r β g (Oc #[Pd bx 0,Sl g bs.length cc,.slice pf R.fl.length cf,I6 (R.lost:Int)] 68) (Oc #[I6 p.kind,I6 (p.c:Int),I6 p.rev,I6 p.id,I6 p.x.c,I6 p.x.i,.slice pv p.x.op.length cv] 156) (Oc cur 69) w'):=λwx hbw=>by
  have hr:=Jal h hbw;have he:=he.below hbw;have hx:=Ja1 hx hbw;obtain⟨b',hb',hc⟩:=JfB hr hp.c;rw[hb]at hb';obtain rfl:=osi hb';refine Calls.mono (Jr3 hc hck.ok hck.unit p.rev p.x.c p.x.i (.slice pv p.x.op.length cv) p.x.op (Ja1 hx (brf _ _)) hwf (by omega) (by omega) (by omega) ⟨hck.id.1,by have:=hck.id.2;split at this<;>omega⟩ ⟨hck.rev,by omega⟩ he.g2 he.tabs) ?_;rintro e w' ⟨rfl,a,c⟩;obtain⟨i1,i2⟩:=Jft hr hb a c;have no:∀x cs T fz,wx.heap[x]?=some (.cells cs T fz)->T≠90->T≠94->¬ownC wx b x:=λx cs T fz hx t1 t2 ho=>by
   obtain⟨_,_,cs',T',hc',hT⟩:=JfE hc ho;have:=JaB hx hc';subst this
   rcases hT with e|e
   . exact t1 e
   . exact t2 e
  exact⟨_,rfl,i1,JbC hbw i2,λβ _ hz=>hz.same c.1 (no _ _ _ _ hz.b1 (by decide) (by decide)) (no _ _ _ _ hz.b2 (by decide) (by decide)) (no _ _ _ _ hz.b3 (by decide) (by decide))⟩
 have HB:=hdz g3
 have HZ:Hid (ZB r w.heap.size g (Oc #[Pd bx 0,Sl g bs.length cc,.slice pf R.fl.length cf,I6 (R.lost:Int)] 68) (Oc #[I6 p.kind,I6 (p.c:Int),I6 p.rev,I6 p.id,I6 p.x.c,I6 p.x.i,.slice pv p.x.op.length cv] 156) (Oc cur 69) (w.alloc (Oc #[I6 p.kind,I6 (p.c:Int),I6 p.rev,I6 p.id,I6 p.x.c,I6 p.x.i,.slice pv p.x.op.length cv] 156))) :=
  ⟨(g3.block r (Jbs h)).trans h2,g4,(g3.block g (alt hg)).trans hg⟩
 have hkb:p.c<bs.length:=(llt hb);have hki:(p.c:Int)<(bs.length:Int):=by omega
 have hbi:(bs.length:Int)<=1000:=by omega
 unfold pkV;rw[hk]at *;obtain⟨β,hβ⟩:∃β,w.heap.size=β:=⟨_,rfl⟩;have HBT:Hid (w.heap.size=β):=hβ;rw[hβ]at HZ;generalize hR':setC R p.c (tkS (p.c:Int) (clK R p.c).2 p.rev p.x.c p.x.i p.x.op)=R' at *;generalize p.c=a1 at *;generalize p.rev=a2 at *;generalize p.id=a3 at *;generalize p.x.c=a4 at *;generalize p.x.i=a5 at *;generalize p.x.op.length=a6 at *;generalize R.fl.length=a7 at *;generalize (R.lost:Int)=a8 at *;have HCUR:Hid (cur[a1]?=some (Pd b 0)):=hcur;clear h hi hp hx g1 g2 g3 g4 h2 h3 hg hcur hck hsm hrl hE he hb hR' hβ hpx hd hdl hgd hwf hxl
 go_enter func109,ntmps109
 go_wp2;refine Jch (λwx:World=>ZB r β g (Oc #[Pd bx 0,Sl g bs.length cc,.slice pf a7 cf,I6 a8] 68) (Oc #[I6 3,I6 (a1:Int),I6 a2,I6 a3,I6 a4,I6 a5,.slice pv a6 cv] 156) (Oc cur 69) wx) 13 13 (by kernel_rfl) rfl ?_;intro w30 hb30;have hz1:=HZ.out.grow hb30;have hbA:=HB.out.trans (hb30.mono HB.out.size);obtain⟨G,hG⟩:=Jb6 (Z:=λwx:World=>ZB r β g (Oc #[Pd bx 0,Sl g bs.length cc,.slice pf a7 cf,I6 a8] 68) (Oc #[I6 3,I6 (a1:Int),I6 a2,I6 a3,I6 a4,I6 a5,.slice pv a6 cv] 156) (Oc cur 69) wx) hz1 (λ{w w'} h hb=>ZB.grow h hb);have y1:=λy=>cQ (hG.but y).b1 1 rfl;have yg:∀y,(G y).cell? (Ad g a1)=some (Pd b 0):=λy=>(chp (hG.but y).b3 a1).trans HCUR.out;have c1:=λy=>cQ (hG.but y).b2 1 rfl;have c2:=λy=>cQ (hG.but y).b2 2 rfl;have c3:=λy=>cQ (hG.but y).b2 3 rfl;have c4:=λy=>cQ (hG.but y).b2 4 rfl;have c5:=λy=>cQ (hG.but y).b2 5 rfl;have c6:=λy=>cQ (hG.but y).b2 6 rfl;rw[HBT.out];(iterate 12 (refine ay hG hz1 λ_ k=>?_;go_simp;apply k;clear k));clear y1 yg c1 c2 c3 c4 c5 c6 hG;refine aO 12 ⟨_,rfl,?_⟩;intro w31 hb31 K hK;have hz2:=hz1.grow hb31;have hbB:=hbA.trans (hb31.mono hbA.size)
 go_simp
 refine(CC.out w31 hbB).mono ?_;rintro e w2 ⟨u,rfl,h2,hs2,hzz⟩;refine⟨_,rfl,hK _ _ (λhz=>hzz β (Nat.le_of_eq HBT.out) hz) ?_⟩;have H2:=hdz h2;have HS2:=hdz hs2;clear hK K hz1 hz2 hbA hbB hb30 hb31 h2 hs2 hzz;refine ae ?_;intro w3 hb3;have HB3:=hdz hb3;clear hb3;go_wp2;go_end0;exact⟨rfl,Jal H2.out HB3.out,Jc0 HS2.out HB3.out⟩
theorem JjY(he:Env lo w)(h:isRoom lo w r bx bmx bs R)(hi:Inv l0 n D R)(hn:n<=100000)(p:Pk)(hp:okPk R.E D R.cl.length p)(hk:p.kind=4)(v:Value)(hx:opX lo w v p.x.op)(hbl:bs.length<=1000) :
    Cg 109 #[Pd r 0,pkV p v] w λe w'=>e=.returned (.tuple #[])/\isRoom lo w' r bx bmx bs (setC R p.c (rfS (clK R p.c).2 p.id))/\sameBut w w' (JaE lo w bmx):=by
 obtain⟨pv,cv,rfl⟩:=JaO hx;obtain⟨g1,g2,g3,g4⟩:=JpC h p hx;obtain⟨b,hb,_⟩:=JfB h hp.c;obtain⟨pc,cc,pf,cf,h2,h3,_⟩:=Jb5 h;obtain⟨g,cur,rfl,hg,hcur⟩:=Jwa h3 hb;obtain⟨_,hck⟩:=hi.clk hp.c;have hsm:=hck.small hi.lk;have hrl:=hck.revle hi.lk;have hE:=hi.few
 have CC:Hid (∀wx,Bw w wx->Cg 168 #[Pd b 0,I6 p.id] wx λe w'=>e=.returned (.tuple #[])/\isRoom lo w' r bx bmx bs (setC R p.c (rfS (clK R p.c).2 p.id))/\sameBut w w' (JaE lo w bmx)/\∀β,w.heap.size<=β->ZB r β g (Oc #[Pd bx 0,Sl g bs.length cc,.slice pf R.fl.length cf,I6 (R.lost:Int)] 68) (Oc #[I6 p.kind,I6 (p.c:Int),I6 p.rev,I6 p.id,I6 p.x.c,I6 p.x.i,.slice pv p.x.op.length cv] 156) (Oc cur 69) wx->ZB r β g (Oc #[Pd bx 0,Sl g bs.length cc,.slice pf R.fl.length cf,I6 (R.lost:Int)] 68) (Oc #[I6 p.kind,I6 (p.c:Int),I6 p.rev,I6 p.id,I6 p.x.c,I6 p.x.i,.slice pv p.x.op.length cv] 156) (Oc cur 69) w'):=λwx hbw=>by
  have hr:=Jal h hbw;have he:=he.below hbw;have hx:=Ja1 hx hbw;obtain⟨b',hb',hc⟩:=JfB hr hp.c;rw[hb]at hb';obtain rfl:=osi hb';refine Calls.mono (JnL hc p.id ⟨hck.dr.1,by have:=hck.dr.2;have:=hck.id.2;split at this<;>split at *<;>omega⟩) ?_;rintro e w' ⟨rfl,a,c⟩;obtain⟨i1,i2⟩:=Jft hr hb a c;have no:∀x cs T fz,wx.heap[x]?=some (.cells cs T fz)->T≠90->T≠94->¬ownC wx b x:=λx cs T fz hx t1 t2 ho=>by
   obtain⟨_,_,cs',T',hc',hT⟩:=JfE hc ho;have:=JaB hx hc';subst this
   rcases hT with e|e
   . exact t1 e
   . exact t2 e
  exact⟨rfl,i1,JbC hbw i2,λβ _ hz=>hz.same c.1 (no _ _ _ _ hz.b1 (by decide) (by decide)) (no _ _ _ _ hz.b2 (by decide) (by decide)) (no _ _ _ _ hz.b3 (by decide) (by decide))⟩
 have HB:=hdz g3
 have HZ:Hid (ZB r w.heap.size g (Oc #[Pd bx 0,Sl g bs.length cc,.slice pf R.fl.length cf,I6 (R.lost:Int)] 68) (Oc #[I6 p.kind,I6 (p.c:Int),I6 p.rev,I6 p.id,I6 p.x.c,I6 p.x.i,.slice pv p.x.op.length cv] 156) (Oc cur 69) (w.alloc (Oc #[I6 p.kind,I6 (p.c:Int),I6 p.rev,I6 p.id,I6 p.x.c,I6 p.x.i,.slice pv p.x.op.length cv] 156))) :=
  ⟨(g3.block r (Jbs h)).trans h2,g4,(g3.block g (alt hg)).trans hg⟩
 have hkb:p.c<bs.length:=(llt hb);have hki:(p.c:Int)<(bs.length:Int):=by omega
 have hbi:(bs.length:Int)<=1000:=by omega
 unfold pkV;rw[hk]at *;obtain⟨β,hβ⟩:∃β,w.heap.size=β:=⟨_,rfl⟩;have HBT:Hid (w.heap.size=β):=hβ;rw[hβ]at HZ;generalize hR':setC R p.c (rfS (clK R p.c).2 p.id)=R' at *;generalize p.c=a1 at *;generalize p.rev=a2 at *;generalize p.id=a3 at *;generalize p.x.c=a4 at *;generalize p.x.i=a5 at *;generalize p.x.op.length=a6 at *;generalize R.fl.length=a7 at *;generalize (R.lost:Int)=a8 at *;have HCUR:Hid (cur[a1]?=some (Pd b 0)):=hcur;clear h hi hp hx g1 g2 g3 g4 h2 h3 hg hcur hck hsm hrl hE he hb hR' hβ
 go_enter func109,ntmps109
 go_wp2;refine Jch (λwx:World=>ZB r β g (Oc #[Pd bx 0,Sl g bs.length cc,.slice pf a7 cf,I6 a8] 68) (Oc #[I6 4,I6 (a1:Int),I6 a2,I6 a3,I6 a4,I6 a5,.slice pv a6 cv] 156) (Oc cur 69) wx) 11 11 (by kernel_rfl) rfl ?_;intro w30 hb30;have hz1:=HZ.out.grow hb30;have hbA:=HB.out.trans (hb30.mono HB.out.size);obtain⟨G,hG⟩:=Jb6 (Z:=λwx:World=>ZB r β g (Oc #[Pd bx 0,Sl g bs.length cc,.slice pf a7 cf,I6 a8] 68) (Oc #[I6 4,I6 (a1:Int),I6 a2,I6 a3,I6 a4,I6 a5,.slice pv a6 cv] 156) (Oc cur 69) wx) hz1 (λ{w w'} h hb=>ZB.grow h hb);have y1:=λy=>cQ (hG.but y).b1 1 rfl;have yg:∀y,(G y).cell? (Ad g a1)=some (Pd b 0):=λy=>(chp (hG.but y).b3 a1).trans HCUR.out;have c1:=λy=>cQ (hG.but y).b2 1 rfl;have c2:=λy=>cQ (hG.but y).b2 2 rfl;have c3:=λy=>cQ (hG.but y).b2 3 rfl;have c4:=λy=>cQ (hG.but y).b2 4 rfl;have c5:=λy=>cQ (hG.but y).b2 5 rfl;have c6:=λy=>cQ (hG.but y).b2 6 rfl;rw[HBT.out];(iterate 10 (refine ay hG hz1 λ_ k=>?_;go_simp;apply k;clear k));clear y1 yg c1 c2 c3 c4 c5 c6 hG;refine aO 10 ⟨_,rfl,?_⟩;intro w31 hb31 K hK;have hz2:=hz1.grow hb31;have hbB:=hbA.trans (hb31.mono hbA.size)
 go_simp
 refine(CC.out w31 hbB).mono ?_;rintro e w2 ⟨rfl,h2,hs2,hzz⟩;refine⟨_,rfl,hK _ _ (λhz=>hzz β (Nat.le_of_eq HBT.out) hz) ?_⟩;have H2:=hdz h2;have HS2:=hdz hs2;clear hK K hz1 hz2 hbA hbB hb30 hb31 h2 hs2 hzz;refine ae ?_;intro w3 hb3;have HB3:=hdz hb3;clear hb3;go_wp2;go_end0;exact⟨rfl,Jal H2.out HB3.out,Jc0 HS2.out HB3.out⟩
end
section
attribute [local go_sem] Oper.semAt_some Jaj JaD
variable {lo r bx bmx : Nat}{w : World}{bs : List Nat}{R : Rm}{l0 n : Int}{D : List (List UInt8)}
theorem JoA(he:Env lo w)(h:isRoom lo w r bx bmx bs R)(hi:Inv l0 n D R)(p:Pk)(hp:okPk R.E D R.cl.length p)(hk:p.kind=1)(v:Value)(hx:opX lo w v p.x.op)(hbl:bs.length<=1000)(hpot:potR R<=100000000) :
    Cg 109 #[Pd r 0,pkV p v] w λe w'=>e=.returned (.tuple #[])/\isRoom lo w' r bx bmx bs (askR l0 R p)/\sameBut w w' (JaE lo w bmx):=by
 obtain⟨pv,cv,rfl⟩:=JaO hx;obtain⟨g1,g2,g3,g4⟩:=JpC h p hx;obtain⟨k1,k2,k3⟩:=hi.counts (by omega);have hkn:R.n<1000000000:=by unfold potR at hpot;omega
 obtain⟨pc,cc,pf,cf,h2,h3,h4⟩:=Jb5 h;obtain⟨vc,hvc⟩:∃vc,vc=Value.slice pc bs.length cc:=⟨_,rfl⟩;rw[←hvc]at h2;obtain⟨xc,xi,d,hd,hgd,hpu⟩:=hp.ask hk;have hdl:=(hi.lk.fair d (List.mem_of_getElem? hd)).2;obtain⟨hwf,hxl⟩:=JhD hgd (by omega) (by omega);obtain⟨D',hi',_,hEx,_⟩:=hi.srvK hp hk;obtain⟨m,hm⟩:∃m:Nat,p.rev=(m:Int):=⟨p.rev.toNat,by have:=hp.rev.1;omega⟩
 have hml:m<=(srvR l0 R p).E.length:=by
  have h1:=hp.rev.2
  rcases Nat.eq_zero_or_pos R.E.length with h0|h0
  . omega
  . have:=(List.getElem?_eq_some_iff.1 (hEx (R.E.length - 1) R.E[R.E.length - 1] (lgg (by omega)))).1
    omega
 have hcr:rng (p.c:Int):=by
  have:=hp.c;have:=h.cls.len;constructor<;>omega
 have hown:=λk=>JeL (k:=k) h4;have HOWN:Hid (∀k,(Value.slice pf R.fl.length cf).ownBlock=some k->k<w.heap.size):=λk hk=>(hown k hk).2.1
 have CT:Hid (∀wx,Bw w wx->Cg 165 #[Pd bx 0,I6 (p.c:Int),I6 p.id,I6 p.rev,.slice pv p.x.op.length cv] wx λe w'=>e=.returned (errV (srvE l0 R p))/\isRoom lo w' r bx bmx bs (srvR l0 R p)/\Env lo w'/\sameBut w w' (JaE lo w bmx)/\∀β,ZB r β r (Oc #[Pd bx 0,vc,.slice pf R.fl.length cf,I6 (R.lost:Int)] 68) (Oc #[I6 p.kind,I6 (p.c:Int),I6 p.rev,I6 p.id,I6 p.x.c,I6 p.x.i,.slice pv p.x.op.length cv] 156) (Oc #[Pd bx 0,vc,.slice pf R.fl.length cf,I6 (R.lost:Int)] 68) wx->ZB r β r (Oc #[Pd bx 0,vc,.slice pf R.fl.length cf,I6 (R.lost:Int)] 68) (Oc #[I6 p.kind,I6 (p.c:Int),I6 p.rev,I6 p.id,I6 p.x.c,I6 p.x.i,.slice pv p.x.op.length cv] 156) (Oc #[Pd bx 0,vc,.slice pf R.fl.length cf,I6 (R.lost:Int)] 68) w'):=λwx hbw=>by
  have hr:=Jal h hbw;have he:=he.below hbw;refine(Jor hr.srv hi.srv (p.c:Int) p.id p.rev hcr (.slice pv p.x.op.length cv) p.x.op he.lay he.g1 he.tabs (Ja1 hx hbw).1 hwf (by omega) (by omega) hi.few hkn).mono ?_;rintro e w' ⟨rfl,a,c⟩;obtain⟨i1,i2⟩:=Jrj (R':=srvR l0 R p) hr a c rfl rfl rfl
  have no:∀x cs T fz,wx.heap[x]?=some (.cells cs T fz)->T≠84->T≠154->¬JdK lo wx bmx x:=λx cs T fz hx t1 t2 e=>by
   rcases e.2 with rfl|⟨cs',T',hc',hT⟩
   . exact Jb0 hr.srv.2.2.2 _ _ _ hx
   . have:=JaB hx hc'
     subst this
     rcases hT with e|e
     . exact t1 e
     . exact t2 e
  exact⟨rfl,i1,he.room i2,JbC hbw i2,λβ hz=>hz.same c (no _ _ _ _ hz.b1 (by decide) (by decide)) (no _ _ _ _ hz.b2 (by decide) (by decide)) (no _ _ _ _ hz.b3 (by decide) (by decide))⟩
 have CTL:Hid (∀wx,isRoom lo wx r bx bmx bs (srvR l0 R p)->Cg 166 #[Pd r 0,I6 (p.c:Int),I6 p.rev] wx λe w'=>e=.returned (.tuple #[])/\isRoom lo w' r bx bmx bs (JcJ (srvR l0 R p) p.c p.rev)/\keptF wx w' r):=λwx hr=>by
  rw[hm];exact JmY hr hi'.srv hi'.few p.c m hml (by show R.lost<=_;omega) k3
 have hls:(JcJ (srvR l0 R p) p.c p.rev).lost<=R.lost+300/\(JcJ (srvR l0 R p) p.c p.rev).fl.length<=400:=by
  have hf:=hi'.few;unfold JcJ
  split
  . exact⟨Nat.le_add_right _ _,k3⟩
  . obtain⟨a,b⟩:=Jkq p.c ((srvR l0 R p).E.drop p.rev.toNat) p.rev (srvR l0 R p) k3
    rw[List.length_drop]at a;exact⟨Nat.le_trans a (by show R.lost+_<=R.lost+300;omega),b⟩
 have CS:Hid (∀wx,isRoom lo wx r bx bmx bs (JcJ (srvR l0 R p) p.c p.rev)->Cg 104 #[Pd r 0,pkV (Je9 p) (.slice none 0 0)] wx λe w'=>e=.returned (.tuple #[])/\isRoom lo w' r bx bmx bs (JbK (JcJ (srvR l0 R p) p.c p.rev) (Je9 p))/\keptF wx w' r):=λwx hr =>
  JeG hr (Je9 p) (.slice none 0 0) (JbY (Jfl 0 wx)) (by omega) hls.2
 have CTE:Hid (∀wx,Env lo wx->Cg 93 #[errV (srvE l0 R p)] wx (Rt wx (I6 (srvE l0 R p)))):=λwx he=>JiP _ wx he.lay;have HB:=hdz g3
 have HZ:Hid (ZB r w.heap.size r (Oc #[Pd bx 0,vc,.slice pf R.fl.length cf,I6 (R.lost:Int)] 68) (Oc #[I6 p.kind,I6 (p.c:Int),I6 p.rev,I6 p.id,I6 p.x.c,I6 p.x.i,.slice pv p.x.op.length cv] 156) (Oc #[Pd bx 0,vc,.slice pf R.fl.length cf,I6 (R.lost:Int)] 68) (w.alloc (Oc #[I6 p.kind,I6 (p.c:Int),I6 p.rev,I6 p.id,I6 p.x.c,I6 p.x.i,.slice pv p.x.op.length cv] 156))) :=
  ⟨(g3.block r (Jbs h)).trans h2,g4,(g3.block r (Jbs h)).trans h2⟩
 have hask:askR l0 R p=if srvE l0 R p≠0/\srvE l0 R p≠8 then JbK (JcJ (srvR l0 R p) p.c p.rev) (Je9 p) else JcJ (srvR l0 R p) p.c p.rev:=rfl
 rw[hask];unfold pkV at CS ⊢;unfold Je9 noSE at *;rw[hk]at *;obtain⟨β,hβ⟩:∃β,w.heap.size=β:=⟨_,rfl⟩;have HBT:=hdz hβ;rw[hβ]at HZ;have HRL:=hdz (Jbs h);generalize JcJ (srvR l0 R p) p.c p.rev=R2 at *;generalize JbK R2 _=R3 at *;generalize srvR l0 R p=R1 at *;generalize srvE l0 R p=EE at *;generalize p.c=a1 at *;generalize p.rev=a2 at *;generalize p.id=a3 at *;generalize p.x.c=a4 at *;generalize p.x.i=a5 at *;generalize p.x.op.length=a6 at *;generalize R.fl.length=a7 at *;generalize (R.lost:Int)=a8 at *;clear h hi hp hx g1 g2 g3 g4 h2 h3 h4 hvc hd hgd hpu hdl hwf hxl hi' hEx hm hml hcr hown hls he hβ hask k1 k2 k3 hkn hpot xc xi hk hbl;obtain⟨RX,hRX⟩:∃RX,(if EE≠0/\EE≠8 then R3 else R2)=RX:=⟨_,rfl⟩;rw[hRX];have HRX:=hdz hRX;clear hRX;have hEV:∃u,errV EE=u:=⟨_,rfl⟩;obtain⟨u,hu⟩:=hEV;rw[hu]at CT CTE;clear hu
 go_enter func109,ntmps109
 go_wp2;refine Jch (λwx:World=>ZB r β r (Oc #[Pd bx 0,vc,.slice pf a7 cf,I6 a8] 68) (Oc #[I6 1,I6 (a1:Int),I6 a2,I6 a3,I6 a4,I6 a5,.slice pv a6 cv] 156) (Oc #[Pd bx 0,vc,.slice pf a7 cf,I6 a8] 68) wx) 16 16 (by kernel_rfl) rfl ?_;intro w30 hb30;have hz1:=HZ.out.grow hb30;have hbA:=HB.out.trans (hb30.mono HB.out.size);obtain⟨G,hG⟩:=Jb6 (Z:=λwx:World=>ZB r β r (Oc #[Pd bx 0,vc,.slice pf a7 cf,I6 a8] 68) (Oc #[I6 1,I6 (a1:Int),I6 a2,I6 a3,I6 a4,I6 a5,.slice pv a6 cv] 156) (Oc #[Pd bx 0,vc,.slice pf a7 cf,I6 a8] 68) wx) hz1 (λ{w w'} h hb=>ZB.grow h hb);have y0:=λy=>cQ (hG.but y).b1 0 rfl;have c1:=λy=>cQ (hG.but y).b2 1 rfl;have c2:=λy=>cQ (hG.but y).b2 2 rfl;have c3:=λy=>cQ (hG.but y).b2 3 rfl;have c6:=λy=>cQ (hG.but y).b2 6 rfl;rw[HBT.out];(iterate 13 (refine ay hG hz1 λ_ k=>?_;go_simp;apply k;clear k));clear y0 c1 c2 c3 c6 hG;refine aO 13 ⟨_,rfl,?_⟩;intro w31 hb31 K hK;have hz2:=hz1.grow hb31;have hbB:=hbA.trans (hb31.mono hbA.size)
 go_simp
 refine(CT.out w31 hbB).mono ?_;rintro e w2 ⟨rfl,h2,he2,hs2,hzz⟩;refine⟨_,rfl,hK _ _ (λhz=>hzz β hz) ?_⟩;have HZ2:=hdz (hzz β hz2);have H2:=hdz h2;have HE2:=hdz he2;have HS2:=hdz hs2;clear hK K hz1 hz2 hbA hbB hb30 hb31 h2 hs2 hzz he2;refine aO 14 ⟨_,rfl,?_⟩;intro w32 hb32 K hK
 go_simp
 refine(CTE.out w32 (HE2.out.below hb32)).mono ?_;rintro e w3 ⟨rfl,hb3⟩;refine⟨_,rfl,hK _ _ (λhz=>ZB.grow hz hb3) ?_⟩;have hb23:=hb32.trans (hb3.mono hb32.size);clear hK K;refine aO 15 ⟨_,rfl,?_⟩;intro w33 hb33 K hK
 go_simp
 refine hK _ _ (λhz=>hz) ?_;clear hK K;refine ae ?_;intro w4 hb4;have hb34:=hb33.trans (hb4.mono hb33.size);have hb24:=hb23.trans (hb34.mono hb23.size);have hz4:=HZ2.out.grow hb24;have HZ4:=hdz hz4;have d1:=cQ hz4.b2 1 rfl;have d2:=cQ hz4.b2 2 rfl;have H4:Hid _:=Jal H2.out hb24;have HS4:Hid _:=Jc0 HS2.out hb24;clear hb32 hb3 hb23 hb33 hb4 hb34 hb24 hz4
 have KB:Hid (∀w5,keptF w4 w5 r->w5.heap[β]?=some (Oc #[I6 1,I6 (a1:Int),I6 a2,I6 a3,I6 a4,I6 a5,.slice pv a6 cv] 156)):=λw5 hf=>by
  refine(hf.1.2 β (alt HZ4.out.b2) λe=>?_).trans HZ4.out.b2
  rcases e with e|⟨v,e,hk⟩
  . have h1:=HRL.out;have h2:=HBT.out;omega
  . have x2:=cQ HZ4.out.b1 2 rfl
    rw[x2]at e;obtain rfl:=osi e;have h1:=HOWN.out β hk;have h2:=HBT.out;omega
 by_cases hz0:EE=0
 . subst hz0
   have HRY:Hid (R2=RX):=(if_neg (λe=>e.1 rfl)).symm.trans HRX.out
   go_wp2_with (go_at_call 166;refine(CTL.out _ H4.out).mono ?_;rintro e w5 ⟨rfl,h5,hs5⟩;have H5:=hdz h5;have HS5:Hid _:=Jcd HS4.out (Jdz (hs5.touch H4.out));clear h5 hs5)
   go_end0;rw[←HRY.out];exact⟨rfl,H5.out,HS5.out⟩
 . by_cases hz8:EE=8
   . subst hz8
     have HRY:Hid (R2=RX):=(if_neg (λe=>e.2 rfl)).symm.trans HRX.out
     go_wp2_with (go_at_call 166;refine(CTL.out _ H4.out).mono ?_;rintro e w5 ⟨rfl,h5,hs5⟩;have H5:=hdz h5;have HS5:Hid _:=Jcd HS4.out (Jdz (hs5.touch H4.out));clear h5 hs5)
     go_end0;rw[←HRY.out];exact⟨rfl,H5.out,HS5.out⟩
   . have HRY:Hid (R3=RX):=(if_pos ⟨hz0,hz8⟩).symm.trans HRX.out
     have e0:(EE != 0)=true:=by simpa using hz0
     have e8:(EE != 8)=true:=by simpa using hz8
     go_wp2_with (first
      | (go_at_call 166;refine(CTL.out _ H4.out).mono ?_;rintro e w5 ⟨rfl,h5,hs5⟩;have H5:=hdz h5;have hbx:=KB.out w5 hs5;have q1:=cQ hbx 1 rfl;have q3:=cQ hbx 3 rfl;have HS5:Hid _:=Jcd HS4.out (Jdz (hs5.touch H4.out));clear h5 hs5 hbx)
      | (go_at_call 104;refine(CS.out _ H5.out).mono ?_;rintro e w6 ⟨rfl,h6,hs6⟩;have H6:=hdz h6;have HS6:Hid _:=Jcd HS5.out (Jdz (hs6.touch H5.out));clear h6 hs6))
     go_end0;rw[←HRY.out];exact⟨rfl,H6.out,HS6.out⟩
theorem JoB(he:Env lo w)(h:isRoom lo w r bx bmx bs R)(hi:Inv l0 n D R)(hn:n<=100000)(p:Pk)(hp:okPk R.E D R.cl.length p)(v:Value)(hx:opX lo w v p.x.op)(hbl:bs.length<=1000)(hpot:potR R<=100000000) :
    Cg 109 #[Pd r 0,pkV p v] w λe w'=>e=.returned (.tuple #[])/\isRoom lo w' r bx bmx bs (JcF l0 R p)/\sameBut w w' (JaE lo w bmx):=by
 unfold JcF
 rcases hp.kind with k|k|k|k
 . rw[if_pos k]
   exact JoA he h hi p hp k v hx hbl hpot
 . rw[if_neg (by rw[k];decide),if_pos k]
   exact Jnb h hi p hp k v hx (by omega)
 . rw[if_neg (by rw[k];decide),if_neg (by rw[k];decide),if_pos k]
   exact Jna he h hi hn p hp k v hx hbl
 . rw[if_neg (by rw[k];decide),if_neg (by rw[k];decide),if_neg (by rw[k];decide),if_pos k]
   exact JjY he h hi hn p hp k v hx hbl
end
section
attribute [local go_sem] Oper.semAt_some Jaj JaD
variable {lo r bx bmx : Nat}{w : World}{bs : List Nat}{R : Rm}
theorem JoF(R:Rm)(i:Nat):potR (outR R i)<=potR R:=by
 unfold potR outR
 have h:∀(fl:List Pk) (i:Nat),Jaz (fl.eraseIdx i)<=Jaz fl:=λfl=>by
  induction fl with
  | nil=>intro i;simp
  | cons p fl ih =>
   intro i
   cases i with
   | zero=>simp[Jaz]
   | succ i=>have:=ih i;simp[Jaz]at this ⊢;omega
 have:=h R.fl i;simp only;omega
theorem opX_F{w':World}{v:Value}{q:List Pt}(h:opX lo w v q)(hr:isRoom lo w r bx bmx bs R)(hk:keptF w w' r):opX lo w' v q :=
 JbI h hk.1 λk _ hk=>by
  obtain⟨a,_,cs,T,hc,hT⟩:=JoJ hr hk;exact⟨a,Ja8 hc (by rcases hT with rfl|rfl<;>decide)⟩
theorem Jia{l0 n:Int}{D:List (List UInt8)}(he:Env lo w)(h:isRoom lo w r bx bmx bs R)(hi:Inv l0 n D R)(hn:n<=100000){i:Nat}{p:Pk}(hp:R.fl[i]?=some p)(hbl:bs.length<=1000)(hpot:potR R<=100000000) :
    Cg 58 #[Pd r 0,I6 (i:Int)] w λe w'=>e=.returned .nilIface/\isRoom lo w' r bx bmx bs (Jcn l0 R i)/\sameBut w w' (JaE lo w bmx):=by
 have hil:i<R.fl.length:=(llt hp);have hfl:=hi.room;have CP:Hid _:=Jg4 h i hp hfl;have HD:Hid (Jcn l0 R i=JcF l0 (outR R i) p):=by show Jcn l0 R i=_;unfold Jcn;rw[hp]
 have CD:Hid (∀wx,Bw w wx->Cg 108 #[Pd r 0,I6 (i:Int)] wx λe w'=>e=.returned (.tuple #[])/\isRoom lo w' r bx bmx bs (outR R i)/\Env lo w'/\sameBut w w' (JaE lo w bmx)/\(∀v,opX lo wx v p.x.op->opX lo w' v p.x.op)/\∀β,w.heap.size<=β->β<wx.heap.size->w'.heap[β]?=wx.heap[β]?):=λwx hb=>by
  have hr:=Jal h hb;refine(Jk1 hr hil hfl).mono ?_;rintro e w' ⟨rfl,a,c⟩;have hs:=JbC (bmx:=bmx) hb (Jdz (c.touch hr));refine⟨rfl,a,he.room hs,hs,λv hv=>opX_F hv hr c,λβ h1 h2=>c.1.2 β h2 λe=>?_⟩;have:=(JoJ h (Jk6 (Jbs h) hb e)).2.1;omega
 have CC:Hid (∀wx v,isRoom lo wx r bx bmx bs (outR R i)->Env lo wx->opX lo wx v p.x.op->Cg 109 #[Pd r 0,pkV p v] wx λe w'=>e=.returned (.tuple #[])/\isRoom lo w' r bx bmx bs (Jcn l0 R i)/\sameBut wx w' (JaE lo wx bmx)):=λwx v hr he hx=>by
  rw[HD.out];exact JoB he hr (hi.out i) hn p (hi.pks p (List.mem_of_getElem? hp)) v hx hbl (Nat.le_trans (JoF R i) hpot)
 unfold pkV at CP CC;generalize Jcn l0 R i=RD at *;generalize outR R i=RO at *;obtain⟨a,c,rv,id,x⟩:=p;simp only at CP CD CC;generalize x.op.length=xl at *;clear he h hi hp hil hfl hbl hpot
 go_enter func58,ntmps58
 go_wp2_with (first
  | (go_at_call 107;refine Calls.mono CP.out ?_;rintro e w1 ⟨v,rfl,ho,hb1⟩;obtain⟨pv,cv,rfl⟩:=JaO ho;have HB1:=hdz hb1;have HBX:Hid (∀o,Bw w (w1.alloc o)):=λo=>hb1.alloc hb1.size o;have HO:=hdz ho;obtain⟨β,hβ⟩:∃β,w1.heap.size=β:=⟨_,rfl⟩;have HBT:=hdz hβ;clear ho hb1)
  | (go_at_call 108;refine(CD.out _ (HBX.out _)).mono ?_;rintro e w2 ⟨rfl,h2,he2,hs2,ho2,hk2⟩;have H2:=hdz h2;have HE2:=hdz he2;have HS2:=hdz hs2;have hbox:=(hk2 β (by rw[←HBT.out];exact HB1.out.size) (by rw[wsa,HBT.out];omega)).trans (HBT.out ▸ heap_alloc_new w1 _);have HO2:Hid _:=ho2 _ (Ja1 HO.out (zA _ _));have y0:=chp hbox 0;have y1:=chp hbox 1;have y2:=chp hbox 2;have y3:=chp hbox 3;have y4:=chp hbox 4;have y5:=chp hbox 5;have y6:=chp hbox 6;simp only[List.getElem?_toArray,List.getElem?_cons_zero,List.getElem?_cons_succ]at y0 y1 y2 y3 y4 y5 y6;clear h2 he2 hs2 ho2 hk2 hbox)
  | (go_at_call 109;refine(CC.out w2 _ H2.out HE2.out HO2.out).mono ?_;rintro e w3 ⟨rfl,h3,hs3⟩;have H3:=hdz h3;have HS3:Hid _:=Jcd HS2.out hs3;clear h3 hs3))
 go_ret;exact⟨rfl,H3.out,HS3.out⟩
theorem JlN(h:isRoom lo w r bx bmx bs R)(k:Int)(hk:k<0\/(R.fl.length:Int)<=k) :
    Cg 58 #[Pd r 0,I6 k] w (Rt w (.iface 25 (I6 2))):=by
 have CP:Hid _:=JfC h k hk;clear h hk
 go_enter func58,ntmps58
 go_wp2_with (go_at_call 107;refine Calls.mono CP.out ?_;rintro e w1 ⟨rfl,hb1⟩;have HB1:=hdz hb1;have HB1A:Hid (∀o,Bw w (w1.alloc o)):=λo=>hb1.alloc hb1.size o;clear hb1)
 go_ret;exact⟨rfl,HB1A.out _⟩
end
structure Pr (E:List SE) (M:Told) (k:Int) (S:Cl):Prop where
 le:(got M k).1<=S.id
 none_:S.mine=[]->(got M k).1=S.id
 ent:∀(j:Nat) (x:SE),S.rev.toNat<=j->E[j]?=some x->x.c=k->S.mine≠[]/\x.i=S.id/\got M k=(S.id,0)/\x.op=Jbq (JdC S) ((E.drop S.rev.toNat).take (j - S.rev.toNat))/\∀(j':Nat) (x':SE),S.rev.toNat<=j'->E[j']?=some x'->x'.c=k->j'=j
 has:S.mine≠[]->got M k=(S.id,0)->∃(j:Nat) (x:SE),S.rev.toNat<=j/\E[j]?=some x/\x.c=k
 no8:(got M k).2≠8
structure Pq (E:List SE) (M:Told) (p:Pk) (S:Cl):Prop where
 ask:p.kind=1->p.id<=S.id/\p.rev<=S.rev/\((got M p.c).1<p.id->p.id=S.id/\S.mine≠[]/\Jbq p.x.op ((E.drop p.rev.toNat).take (S.rev.toNat - p.rev.toNat))=JdC S)
 refuse:p.kind=4->p.id<=S.id/\(p.id=S.id->S.mine≠[]->(got M p.c).1=S.id/\(got M p.c).2≠0)
structure Inv2 (R:Rm):Prop where
 pr:∀(k:Nat) (q:Int×Cl),R.cl[k]?=some q->Pr R.E R.M k q.2
 pq:∀p∈R.fl,Pq R.E R.M p (clK R p.c).2
theorem Jo1{l0:Int}{R:Rm}(h:R.fl=[]):Jbw l0 R=R:=JfZ l0 _ R h
section
attribute [local go_sem] Oper.semAt_some Jaj JaD
variable {lo r bx bmx : Nat}{w : World}{bs : List Nat}{R : Rm}
def Jvb (w:World) (g i:Nat):Nat:=match w.cell? (Ad g (i*7)) with
 | some (.int _ k)=>if k=1\/k=2 then 400 else 1
 | _=>1
def Jod (w:World) (r:Nat):Nat:=match w.cell? (Ad r 2) with
 | some (.slice (some a) n _)=>((List.range n).map (Jvb w a.block)).sum
 | _=>0
theorem Jkg(h:isRoom lo w r bx bmx bs R):Jod w r=Jaz R.fl:=by
 obtain⟨pc,cc,pf,cf,h2,h3,h4⟩:=Jb5 h;have x2:=cQ h2 2 rfl;unfold Jod;rw[x2]
 by_cases hne:R.fl=[]
 . rw[hne]
   cases pf<;>simp[Jaz]
 . obtain ⟨g,rfl,_,_,_,_,hat⟩:=JpU h4 hne
   show((List.range R.fl.length).map (Jvb w g)).sum=_
   have e:(List.range R.fl.length).map (Jvb w g)=R.fl.map wP:=by
    apply List.ext_getElem
    . simp
    . intro i h1 h2
      rw[List.getElem_map,List.getElem_map,List.getElem_range];have hi:i<R.fl.length:=by simpa using h2
      obtain⟨v,a0,_⟩:=hat i _ (lgg hi);unfold Jvb wP;rw[a0]
   rw[e];rfl
theorem JhZ{l0 n:Int}{D:List (List UInt8)}(he:Env lo w)(h:isRoom lo w r bx bmx bs R)(hi:Inv l0 n D R)(hn:n<=100000)(hbl:bs.length<=1000)(hpot:potR R<=100000000) :
    Cg 110 #[Pd r 0] w λe w'=>e=.returned (.tuple #[])/\isRoom lo w' r bx bmx bs (Jbw l0 R)/\sameBut w w' (JaE lo w bmx):=by
 have HE:=hdz he;have HPOT:=hdz hpot;have H0:Hid (∃R' D',isRoom lo w r bx bmx bs R'/\Inv l0 n D' R'/\Jbw l0 R'=Jbw l0 R/\potR R'<=potR R/\sameBut w w (JaE lo w bmx)):=⟨R,D,h,hi,rfl,nlr _,JfA _ _⟩;clear he h hi hpot
 go_enter func110,ntmps110
 go_wp2
 go_loopw [] (λwr=>∃R' D',isRoom lo wr r bx bmx bs R'/\Inv l0 n D' R'/\Jbw l0 R'=Jbw l0 R/\potR R'<=potR R/\sameBut w wr (JaE lo w bmx)) (λwr=>Jod wr r)
 case atStart=>exact H0.out
 case round =>
  obtain⟨R',D',h1,h2,h3,h4,h5⟩:=hrel;have CM:Hid _:=Jga h1;have H1:=hdz h1;have H5:=hdz h5;have H34:Hid (Jbw l0 R'=Jbw l0 R/\potR R'<=potR R):=⟨h3,h4⟩;have HW:=hdz (Jkg h1)
  by_cases hne:R'.fl=[]
  . have hz:¬(0:Int)<(R'.fl.length:Int):=by rw[hne];decide
    have HN:=hdz hne;clear h1 h2 h3 h4 h5 hne H0
    go_wp2_with (go_at_call 63;refine Calls.mono CM.out ?_;rintro e w1 ⟨rfl,hb1⟩;have HB1:=hdz hb1;clear hb1)
    go_end0;rw[←H34.out.1,Jo1 HN.out];exact⟨rfl,Jal H1.out HB1.out,Jc0 H5.out HB1.out⟩
  . have hlen:0<R'.fl.length:=List.length_pos_iff.2 hne
    have hz:(0:Int)<(R'.fl.length:Int):=by omega
    obtain⟨p,hp⟩:∃p,R'.fl[0]?=some p:=⟨_,lgg hlen⟩;have HST:Hid _:=h2.stepM hne;have HDV:Hid _:=h2.deliv 0
    have HQ:Hid (∀D2,Inv l0 n D2 (Jcn l0 R' 0)->potR (Jcn l0 R' 0)<=potR R'):=λD2 hi2=>by
     cases hfl:R'.fl with
     | nil=>exact absurd hfl hne
     | cons p fl =>
      have e:=JkP (l0:=l0) hfl;have hf:=hi2.few;rw[e]at hf ⊢;obtain⟨q1,q2⟩:=JgT l0 { R' with fl:=fl } p hf;have e1:potR ({ R' with fl:=fl }:Rm)+wP p=potR R':=by
       unfold potR;show R'.n+R'.lost+Jaz fl+wP p=R'.n+R'.lost+Jaz R'.fl;rw[hfl];simp[Jaz];omega
      split at q1<;>omega
    have CD:Hid (∀wx,Bw wr wx->Cg 58 #[Pd r 0,I6 0] wx λe w'=>e=.returned .nilIface/\isRoom lo w' r bx bmx bs (Jcn l0 R' 0)/\sameBut wx w' (JaE lo wx bmx)):=λwx hb=>by
     have hh:=h5;have:=Jia (i:=0) ((HE.out.room hh).below hb) (Jal h1 hb) h2 hn hp hbl (Nat.le_trans h4 HPOT.out);exact this
    clear h1 h2 h3 h4 h5 hne H0 hlen hp
    go_wp2_with (first
     | (go_at_call 63;refine Calls.mono CM.out ?_;rintro e w1 ⟨rfl,hb1⟩;have HB1:=hdz hb1;clear hb1)
     | (go_at_call 58;refine(CD.out _ HB1.out).mono ?_;rintro e w2 ⟨rfl,h2,hs2⟩;have HH2:=hdz h2;have HS2:Hid _:=Jcd (Jc0 H5.out HB1.out) hs2;clear h2 hs2))
    go_roundw
    case rel =>
     obtain⟨D2,i1,_,_,_⟩:=HDV.out;exact⟨_,D2,HH2.out,i1,HST.out.1.trans H34.out.1,Nat.le_trans (HQ.out D2 i1) H34.out.2,HS2.out⟩
    case measure =>
     rw[Jkg HH2.out,HW.out];exact HST.out.2
end
section
attribute [local go_sem] Oper.semAt_some Jaj JaD rmF0 rmF1 rmF2 rmF3
variable {lo r bx bmx : Nat}{w : World}{bs : List Nat}{R : Rm}{l0 n : Int}{D : List (List UInt8)}
theorem Jk0(h:isRoom lo w r bx bmx bs R)(hi:Inv l0 n D R){k:Nat}(hk:k<R.cl.length)(hbl:bs.length<=1000)(hpot:potR R<=100000000) :
    Cg 56 #[Pd r 0,I6 (k:Int)] w λe w'=>e=.returned .nilIface/\isRoom lo w' r bx bmx bs (JdO R k)/\sameBut w w' (JaE lo w bmx):=by
 obtain⟨b,hb,hcl⟩:=JfB h hk;obtain⟨_,hck⟩:=hi.clk hk;obtain⟨k1,k2,k3⟩:=hi.counts (by omega);have CC:Hid _:=Jjc h hb hbl
 by_cases hm:(clK R k).2.mine=[]
 . have ha:askP R k=⟨2,k,(clK R k).2.rev,0,noSE⟩:=by unfold askP;rw[if_pos hm]
   have CA:Hid (∀wx,Bw w wx->_):=λwx hb'=>Jpo (Jbm hcl hb') hm;have CS:Hid (∀wx,Bw w wx->Cg 104 #[Pd r 0,pkV ⟨2,k,(clK R k).2.rev,0,noSE⟩ (.slice none 0 0)] wx λe w'=>e=.returned (.tuple #[])/\isRoom lo w' r bx bmx bs (JdO R k)/\sameBut w w' (JaE lo w bmx)):=λwx hbw=>by
    have hr:=Jal h hbw;refine(JeG hr ⟨2,k,(clK R k).2.rev,0,noSE⟩ (.slice none 0 0) (JbY (Jfl 0 wx)) (by omega) k3).mono ?_;rintro e w' ⟨rfl,a,c⟩;refine⟨rfl,?_,JbC hbw (Jdz (c.touch hr))⟩;unfold JdO;rw[ha];exact a
   unfold pkV noSE at CS;generalize (clK R k).2.rev=rv at *;clear h hi hk hb hcl hck hbl hpot k1 k2 k3 ha hm
   go_enter func56,ntmps56
   go_wp2_with (first
    | (go_at_call 95;refine Calls.mono CC.out ?_;rintro e w1 ⟨rfl,hb1⟩;have HB1:=hdz hb1;clear hb1)
    | (go_at_call 103;refine(CA.out _ HB1.out).mono ?_;rintro e w2 ⟨rfl,hb2⟩;have HB2:=hdz (HB1.out.trans (hb2.mono HB1.out.size));clear hb2)
    | (go_at_call 104;refine(CS.out _ HB2.out).mono ?_;rintro e w3 ⟨rfl,h3,hs3⟩;have H3:=hdz h3;have HS3:=hdz hs3;clear h3 hs3))
   go_ret;exact⟨rfl,H3.out,HS3.out⟩
 . have ha:askP R k=⟨1,k,(clK R k).2.rev,(clK R k).2.id,⟨k,(clK R k).2.id,JdC (clK R k).2⟩⟩:=by unfold askP;rw[if_neg hm]
   obtain⟨hgd,hpu⟩:=Jhe hck.ok hm;have hsm:=hck.small hi.lk;obtain⟨_,hhl⟩:=JhD hgd (by omega) (by omega);have CA:Hid (∀wx,Bw w wx->_):=λwx hb'=>Jpn (Jbm hcl hb') hm (by omega);have CS:Hid (∀wx v,Bw w wx->opX lo wx v (JdC (clK R k).2)->Cg 104 #[Pd r 0,pkV ⟨1,k,(clK R k).2.rev,(clK R k).2.id,⟨k,(clK R k).2.id,JdC (clK R k).2⟩⟩ v] wx λe w'=>e=.returned (.tuple #[])/\isRoom lo w' r bx bmx bs (JdO R k)/\sameBut w w' (JaE lo w bmx)):=λwx v hbw hv=>by
    have hr:=Jal h hbw;refine(JeG hr ⟨1,k,(clK R k).2.rev,(clK R k).2.id,⟨k,(clK R k).2.id,JdC (clK R k).2⟩⟩ v hv (by omega) k3).mono ?_;rintro e w' ⟨rfl,a,c⟩;refine⟨rfl,?_,JbC hbw (Jdz (c.touch hr))⟩;unfold JdO;rw[ha];exact a
   unfold pkV at CS;simp only at CS;generalize (clK R k).2.rev=rv at *;generalize (clK R k).2.id=ii at *;generalize JdC (clK R k).2=hd at *;clear h hi hk hb hcl hck hbl hpot k1 k2 k3 ha hm hgd hpu hsm hhl
   go_enter func56,ntmps56
   go_wp2_with (first
    | (go_at_call 95;refine Calls.mono CC.out ?_;rintro e w1 ⟨rfl,hb1⟩;have HB1:=hdz hb1;clear hb1)
    | (go_at_call 103;refine(CA.out _ HB1.out).mono ?_;rintro e w2 ⟨v2,rfl,ho,hb2⟩;have HO:Hid _:=ho lo;obtain⟨pv,cv,rfl⟩:=JaO (ho lo);have HB2:=hdz (HB1.out.trans (hb2.mono HB1.out.size));clear hb2 ho)
    | (go_at_call 104;refine(CS.out _ _ HB2.out HO.out).mono ?_;rintro e w3 ⟨rfl,h3,hs3⟩;have H3:=hdz h3;have HS3:=hdz hs3;clear h3 hs3))
   go_ret;exact⟨rfl,H3.out,HS3.out⟩
theorem Jo8(h:isRoom lo w r bx bmx bs R)(k:Int)(hk:k<0\/(bs.length:Int)<=k) :
    Cg 56 #[Pd r 0,I6 k] w (Rt w (.iface 25 (I6 2))):=by
 have CC:Hid _:=Jib h k hk;clear h hk
 go_enter func56,ntmps56
 go_wp2_with (go_at_call 95;refine Calls.mono CC.out ?_;rintro e w1 ⟨rfl,hb1⟩;have HB1:=hdz hb1;clear hb1)
 go_ret;exact⟨rfl,HB1.out⟩
theorem Jo9(he:Env lo w)(h:isRoom lo w r bx bmx bs R)(hi:Inv l0 n D R)(hn:n<=100000)(hbl:bs.length<=1000)(hpot:potR R<=90000000) :
    Cg 61 #[Pd r 0] w λe w'=>e=.returned (.tuple #[])/\isRoom lo w' r bx bmx bs (JeI l0 R)/\sameBut w w' (JaE lo w bmx):=by
 have HE:=hdz he;have hlen:=h.cls.len;have CS0:Hid _:=JhZ he h hi hn hbl (by omega);obtain⟨D1,i1,_,i3,i4,i5⟩:=hi.settle;have I1:Hid (Inv l0 n D1 (Jbw l0 R)/\(Jbw l0 R).cl.length=bs.length/\potR (Jbw l0 R)<=90000000):=⟨i1,i3.trans hlen.symm,by omega⟩;have HQ:Hid (JeI l0 R=Jd5 l0 bs.length 0 (Jbw l0 R)):=by show JeI l0 R=_;unfold JeI;rw[hlen]
 have hbi:(bs.length:Int)<=1000:=by omega
 clear he h hi hpot i1 i3 i4 i5 hlen;rw[HQ.out];generalize Jbw l0 R=R1 at *;obtain⟨N,hN⟩:∃N,bs.length=N:=⟨_,rfl⟩;have HN:=hdz hN;rw[hN]at hbi hbl
 go_enter func61,ntmps61
 go_wp2_with (first
  | (go_at_call 110;refine Calls.mono CS0.out ?_;rintro e w1 ⟨rfl,h1,hs1⟩;have H1:=hdz h1;have HS1:=hdz hs1;clear h1 hs1)
  | (go_at_call 111;refine(JeH H1.out).mono ?_;rintro e w2 ⟨pc,cc,pf,cf,rfl,_,_,hb2⟩;have HB2:=hdz hb2;clear hb2))
 try rw[hN]
 go_loopw [9] (λi wr=>∃k:Nat,i=.int .i64 k/\k<=N/\∃R' D',isRoom lo wr r bx bmx bs R'/\Inv l0 n D' R'/\R'.cl.length=N/\Jd5 l0 (N - k) k R'=Jd5 l0 N 0 R1/\potR R'<=90000000+400*k/\sameBut w wr (JaE lo w bmx)) (λi _=>N - (intOf i).toNat)
 case atStart=>exact⟨0,rfl,Nat.zero_le _,R1,D1,Jal H1.out HB2.out,I1.out.1,I1.out.2.1.trans HN.out,rfl,I1.out.2.2,Jc0 HS1.out HB2.out⟩
 case round =>
  obtain⟨k,rfl,hk,R',D',h1,h2,h3,h4,h5,h6⟩:=hrel;have HH1:=hdz h1;have HH4:Hid (R'.cl.length=N/\Jd5 l0 (N - k) k R'=Jd5 l0 N 0 R1/\potR R'<=90000000+400*k):=⟨h3,h4,h5⟩;have HH6:=hdz h6;have hki:(k:Int)<=1000:=by omega
  by_cases hlt:k<N
  . have hki2:(k:Int)<(N:Int):=by omega
    have hkc:k<R'.cl.length:=by omega
    have CSD:Hid _:=Jk0 h1 h2 hkc (by omega) (by omega);have h2s:=h2.sendK hkc;have hps:=Jfj R' (askP R' k);have hps:potR (JdO R' k)<=potR R'+400:=hps;have hcs:(JdO R' k).cl.length=R'.cl.length:=by unfold JdO;rw[(Jdp _ _).2.2.2.2]
    obtain⟨D2,j1,j2,j3,j4,j5⟩:=h2s.settle;have J:Hid (Inv l0 n D2 (Jbw l0 (JdO R' k))/\(Jbw l0 (JdO R' k)).cl.length=N/\potR (Jbw l0 (JdO R' k))<=90000000+400*(k+1)):=⟨j1,by omega,by omega⟩;have HQS:Hid (Jd5 l0 (N - (k+1)) (k+1) (Jbw l0 (JdO R' k))=Jd5 l0 N 0 R1):=by
     show _=_;rw[←h4,show N - k=(N - (k+1))+1 by omega];rfl
    have CST:=hdz λwx (hr:isRoom lo wx r bx bmx bs (JdO R' k)) (he:Env lo wx)=>JhZ he hr h2s hn (by omega) (by omega);have HEW:=hdz (HE.out.room h6);clear h1 h2 h3 h4 h5 h6 hkc h2s hps hcs j1 j2 j3 j4 j5
    go_wp2_with (first
     | (go_at_call 56;refine Calls.mono CSD.out ?_;rintro e w3 ⟨rfl,h3,hs3⟩;have H3:=hdz h3;have HS3:Hid _:=Jcd HH6.out hs3;have HE3:=hdz (HEW.out.room hs3);clear h3 hs3)
     | (go_at_call 110;refine(CST.out _ H3.out HE3.out).mono ?_;rintro e w4 ⟨rfl,h4,hs4⟩;have H4:=hdz h4;have HS4:Hid _:=Jcd HS3.out hs4;clear h4 hs4))
    go_roundw
    case rel=>exact⟨k+1,by go_num,by omega,_,D2,H4.out,J.out.1,J.out.2.1,HQS.out,J.out.2.2,HS4.out⟩
    case measure=>simp[intOf];omega
  . obtain rfl:k=N:=by omega
    have hki2:¬((k:Int)<(k:Int)):=by omega
    clear h1 h2 h3 h4 h5 h6;go_wp2;go_end0;have e:=HH4.out.2.1;rw[Nat.sub_self]at e;rw[←e];exact⟨rfl,HH1.out,HH6.out⟩
end
theorem Jqw{lo:Nat}{r bx bmx:Nat}{bs:List Nat}{R:Rm}{l0 n:Int}{D:List (List UInt8)}(ws:List (List UInt8))(s:List UInt8)(h0:ws[0]?=some s)(hwl:ws.length<=1000000)(v:Value)(q:Nat)(w:World)(he:Env lo w)
    (hq:w.cell? (Ad q 0)=some (Pd r 0)) (h:isRoom lo w r bx bmx bs R) (hi:Inv l0 n D R) (hn:n<=100000) (hbl:bs.length<=1000) (hpot:potR R<=90000000) (hv:JcE w v ws) (hnt:∀b,v.ownBlock=some b->¬JaE lo w bmx b) :
    Cg 31 #[Pd q 0,v] w λe w'=>e=.returned (Sx s)/\isRoom lo w' r bx bmx bs (JeI l0 R)/\sameBut w w' (JaE lo w bmx):=by
 obtain⟨b,o,c,rfl,hlt,hbw,hc⟩:=JcR hv h0;have hli:(0:Int)<(ws.length:Int):=by omega
 have CQ:Hid _:=Jo9 he h hi hn hbl hpot;have hb0:=hnt b rfl;clear he h hi hn hpot hv hnt h0;generalize ws.length=m at *
 go_enter func31,ntmps31
 go_wp2_with (go_at_call 61;refine Calls.mono CQ.out ?_;rintro e w1 ⟨rfl,h1,h2⟩;have H1:=hdz h1;have H2:=hdz h2;have hc1:w1.cell? (Ad b (o+0))=some (Sx s):=(World.cell?_of_block (h2.block b hbw hb0)).trans hc;rw[Nat.add_zero]at hc1;clear h1 h2)
 go_ret;exact⟨rfl,H1.out,H2.out⟩
section
attribute [local go_sem] Oper.semAt_some Jaj JaD JkM JkL
theorem JtX(b:Nat)(rs:List Nat)(u at_:Int)(hu:u=1\/u=2\/u=3)(hl0:0<=at_)(hl1:by_ u rs<at_)(w:World)(hT:Lib.Utf8Tabs 3 4 w)(h:Jc5 w b rs)(hz:C1 rs<=100000000) :
    Cg 117 #[Pd b 0,I6 u,I6 at_] w (Rt w (.tuple #[cntV [],.iface 25 (I6 2)])):=by
 obtain⟨q,t,h1,_,_,h4,ho,rfl⟩:=h;have hb2:Bw w (((w.alloc (Oc #[I6 u] 3)).alloc (Oc #[I6 at_] 3)).alloc (Oc #[I6 0,I6 0,I6 0,I6 0] 78)):=(((brf _ w).alloc (nlr _) _).alloc (by simp) _).alloc (by simp;omega) _;have hlu:(((w.alloc (Oc #[I6 u] 3)).alloc (Oc #[I6 at_] 3)).alloc (Oc #[I6 0,I6 0,I6 0,I6 0] 78)).cell? (Ad w.heap.size 0)=some (I6 u):=by simp[go_sem]
 have hla:(((w.alloc (Oc #[I6 u] 3)).alloc (Oc #[I6 at_] 3)).alloc (Oc #[I6 0,I6 0,I6 0,I6 0] 78)).cell? (Ad (w.heap.size+1) 0)=some (I6 at_):=by simp[go_sem]
 have hr:=JaK ((w.alloc (Oc #[I6 u] 3)).alloc (Oc #[I6 at_] 3)) 0 0 0 0 78;rw[wsa,World.size_alloc]at hr;have cT:=λwx (hb:Bw w wx)=>Jc1 b q wx (Jac hb h1);have cC:=λwx (hb:Bw w wx)=>Jc2 q t wx (Jab hb h4);have cN:=λwx=>Jg9 u hu wx;have cI:=λwx=>JdH u t.runes wx;generalize by_ u t.runes=n at *;have n0:¬at_<0:=by omega
 have n1:n<at_:=by omega
 have hC:cntV []=.agg #[I6 0,I6 0,I6 0,I6 0]:=rfl;rw[hC];clear hC;clear h4 ho hT hu hz;unfold cntV at cI
 go_enter func117,ntmps117
 go_wp2_with (first
  | (go_at_call 170;refine(cN _).mono ?_;rintro e w1 ⟨rfl,hw1⟩;obtain rfl:=hw1.symm)
  | (go_at_call 171;refine(cT _ hb2).mono ?_;rintro e w1 ⟨rfl,hw1⟩;obtain rfl:=hw1.symm))
 obtain⟨W2,hW2⟩:∃W2,(((w.alloc (Oc #[I6 u] 3)).alloc (Oc #[I6 at_] 3)).alloc (Oc #[I6 0,I6 0,I6 0,I6 0] 78))=W2:=⟨_,rfl⟩;rw[hW2]at hb2 hlu hla hr ⊢;clear hW2;refine Ja4 10 10 (by kernel_rfl) rfl ?_;intro w3 hb3;have hb23:=hb2.trans (hb3.mono hb2.size);obtain⟨G,hG⟩:=Jas w3;have gl:=hG.cell (Jac hb3 hla);have gu:=hG.cell (Jac hb3 hlu);have cG:=λx=>cC (G x) (hb23.trans ((hG.below x).mono hb23.size));have cJ:=λx=>cI (G x)
 (refine Jaa hG (i:=0) rfl (by kernel_rfl) (by kernel_rfl) (by kernel_rfl) (λK hK=>?_);go_simp;refine hK _ ?_;clear hK K)
 (refine Jaa hG (i:=1) rfl (by kernel_rfl) (by kernel_rfl) (by kernel_rfl) (λK hK=>?_);go_simp;refine hK _ ?_;clear hK K)
 (refine Jaa hG (i:=2) rfl (by kernel_rfl) (by kernel_rfl) (by kernel_rfl) (λK hK=>?_);go_simp;refine hK _ ?_;clear hK K)
 (refine Jaa hG (i:=3) rfl (by kernel_rfl) (by kernel_rfl) (by kernel_rfl) (λK hK=>?_);go_simp;refine hK _ ?_;clear hK K)
 (refine Jaa hG (i:=4) rfl (by kernel_rfl) (by kernel_rfl) (by kernel_rfl) (λK hK=>?_);go_simp;refine hK _ ?_;clear hK K)
 (refine Jaa hG (i:=5) rfl (by kernel_rfl) (by kernel_rfl) (by kernel_rfl) (λK hK=>?_);go_simp;apply Exists.intro;refine⟨λ_=>?_,hK _ ?_⟩;exact cG _;clear hK K)
 (refine Jaa hG (i:=6) rfl (by kernel_rfl) (by kernel_rfl) (by kernel_rfl) (λK hK=>?_);go_simp;refine hK _ ?_;clear hK K)
 (refine Jaa hG (i:=7) rfl (by kernel_rfl) (by kernel_rfl) (by kernel_rfl) (λK hK=>?_);go_simp;apply Exists.intro;refine⟨λ_=>?_,hK _ ?_⟩;exact cJ _;clear hK K)
 (refine Jaa hG (i:=8) rfl (by kernel_rfl) (by kernel_rfl) (by kernel_rfl) (λK hK=>?_);go_simp;refine hK _ ?_;clear hK K)
 (refine Jaa hG (i:=9) rfl (by kernel_rfl) (by kernel_rfl) (by kernel_rfl) (λK hK=>?_);go_simp;refine hK _ ?_;clear hK K)
 clear gl gu cG cJ hG;refine Jbi (by kernel_rfl) ?_;intro w4 hb4;have hb34:=hb3.trans (hb4.mono hb3.size);have hb24:=hb2.trans (hb34.mono hb2.size);have hr4:=Jad hr hb34;have HR4:=hdz hr4;have HB24:=hdz hb24;obtain⟨⟨z0,z1,z2,z3⟩,y0,y1,y2,y3⟩:=hr4;clear hb3 hb4 hb34 hb23 hb24 cC cT cI cN hlu hla hr;go_wp2;have hset:=JaN (m1:=0) (m2:=0) (m3:=0) (m4:=0) HR4.out;obtain⟨⟨s0,s1,s2,s3⟩,_⟩:=hset;refine bodyPost_ret (v:=.tuple #[.agg #[I6 0,I6 0,I6 0,I6 0],.iface 25 (I6 2)]) (by simp[results,results117,go_sem,s0,s1,s2,s3]) rfl ⟨rfl,Jbn HB24.out (by omega) _ _ _ _⟩
theorem JtW(b:Nat)(rs:List Nat)(u at_:Int)(hu:u=1\/u=2\/u=3)(hl0:at_<0)(w:World)(h:Jc5 w b rs) :
    Cg 117 #[Pd b 0,I6 u,I6 at_] w (Rt w (.tuple #[cntV [],.iface 25 (I6 2)])):=by
 obtain⟨q,t,h1,_,_,h4,ho,rfl⟩:=h;have hb2:Bw w (((w.alloc (Oc #[I6 u] 3)).alloc (Oc #[I6 at_] 3)).alloc (Oc #[I6 0,I6 0,I6 0,I6 0] 78)):=(((brf _ w).alloc (nlr _) _).alloc (by simp) _).alloc (by simp;omega) _;have hlu:(((w.alloc (Oc #[I6 u] 3)).alloc (Oc #[I6 at_] 3)).alloc (Oc #[I6 0,I6 0,I6 0,I6 0] 78)).cell? (Ad w.heap.size 0)=some (I6 u):=by simp[go_sem]
 have hla:(((w.alloc (Oc #[I6 u] 3)).alloc (Oc #[I6 at_] 3)).alloc (Oc #[I6 0,I6 0,I6 0,I6 0] 78)).cell? (Ad (w.heap.size+1) 0)=some (I6 at_):=by simp[go_sem]
 have hr:=JaK ((w.alloc (Oc #[I6 u] 3)).alloc (Oc #[I6 at_] 3)) 0 0 0 0 78;rw[wsa,World.size_alloc]at hr;have cT:=λwx (hb:Bw w wx)=>Jc1 b q wx (Jac hb h1);have cN:=λwx=>Jg9 u hu wx;have hC:cntV []=.agg #[I6 0,I6 0,I6 0,I6 0]:=rfl;rw[hC];clear h4 ho hu hC
 go_enter func117,ntmps117
 go_wp2_with (first
  | (go_at_call 170;refine(cN _).mono ?_;rintro e w1 ⟨rfl,hw1⟩;obtain rfl:=hw1.symm)
  | (go_at_call 171;refine(cT _ hb2).mono ?_;rintro e w1 ⟨rfl,hw1⟩;obtain rfl:=hw1.symm))
 obtain⟨W2,hW2⟩:∃W2,(((w.alloc (Oc #[I6 u] 3)).alloc (Oc #[I6 at_] 3)).alloc (Oc #[I6 0,I6 0,I6 0,I6 0] 78))=W2:=⟨_,rfl⟩;rw[hW2]at hb2 hlu hla hr ⊢;clear hW2;have HR4:=hdz hr;have HB24:=hdz hb2;obtain⟨⟨z0,z1,z2,z3⟩,y0,y1,y2,y3⟩:=hr;clear hb2 cT cN
 go_region
 go_wp2;have hset:=JaN (m1:=0) (m2:=0) (m3:=0) (m4:=0) HR4.out;obtain⟨⟨s0,s1,s2,s3⟩,_⟩:=hset;refine bodyPost_ret (v:=.tuple #[.agg #[I6 0,I6 0,I6 0,I6 0],.iface 25 (I6 2)]) (by simp[results,results117,go_sem,s0,s1,s2,s3]) rfl ⟨rfl,(Jbn HB24.out (by omega) _ _ _ _).drew⟩
def Jqo (u at_:Int) (rs:List Nat):Value :=
 if at_<0\/by_ u rs<at_ then .tuple #[cntV [],.iface 25 (I6 2)]
 else if by_ u (find (JaY u at_) [] rs)=at_ then .tuple #[cntV (find (JaY u at_) [] rs),.nilIface] else .tuple #[cntV [],.iface 25 (I6 10)]
theorem JnZ(b:Nat)(rs:List Nat)(u at_:Int)(hu:u=1\/u=2\/u=3)(w:World)(hT:Lib.Utf8Tabs 3 4 w)(h:Jc5 w b rs)(hz:C1 rs<=100000000) :
    Cg 117 #[Pd b 0,I6 u,I6 at_] w (Rt w (Jqo u at_ rs)):=by
 unfold Jqo
 by_cases h0:at_<0
 . rw[if_pos (Or.inl h0)]
   exact JtW b rs u at_ hu h0 w h
 . by_cases h1:by_ u rs<at_
   . rw[if_pos (Or.inr h1)]
     exact JtX b rs u at_ hu (by omega) h1 w hT h hz
   . rw[if_neg (by omega)]
     refine(JnY b rs u at_ hu (by omega) (by omega) w hT h hz).mono ?_;rintro e w' ⟨rfl,hb⟩;refine⟨?_,hb⟩
     split<;>rfl
variable {w : World}{a : Nat}{x y : Int}
def JcU (w:World) (a:Nat) (x y:Int):Prop :=
 (w.cell? (Ad a 0)=some (I6 x)/\w.cell? (Ad a 1)=some (I6 y))/\w.frozen? (Ad a 0)=false/\w.frozen? (Ad a 1)=false
theorem Jed(w:World)(x y:Int)(t:TypeId):JcU (w.alloc (Oc #[I6 x,I6 y] t)) w.heap.size x y:=by
 refine⟨⟨?_,?_⟩,?_,?_⟩<;>simp[go_sem]
theorem Ja9{w':World}(h:JcU w a x y)(hb:Bw w w'):JcU w' a x y:=by
 have hlt:a<w.heap.size:=blt w _ h.1.1;obtain⟨⟨a0,a1⟩,b0,b1⟩:=h;refine⟨⟨?_,?_⟩,?_,?_⟩
 . rw[zC hb a 0 hlt];exact a0
 . rw[zC hb a 1 hlt];exact a1
 . rw[hb.frozen (p:=(Ad a 0)) hlt];exact b0
 . rw[hb.frozen (p:=(Ad a 1)) hlt];exact b1
theorem JmN{m n:Int}(h:JcU w a x y):JcU ((w.setCell (Ad a 0) (I6 m)).setCell (Ad a 1) (I6 n)) a m n:=by
 obtain⟨⟨a0,a1⟩,b0,b1⟩:=h;refine⟨⟨?_,?_⟩,?_,?_⟩
 all_goals simp[go_sem,a0,a1,b0,b1]
theorem Jlc{lo:Nat}{W:World}{B:Nat}(hb:Below lo w W)(hlo:lo<=B)(u0 u1:Value) :
    Below lo w ((W.setCell (Ad B 0) u0).setCell (Ad B 1) u1) :=
 (hb.setCell (p:=(Ad B 0)) hlo _).setCell (p:=(Ad B 1)) hlo _
theorem JnQ(u:Int)(rs:List Nat):by_ u rs<=2*C1 rs:=by
 have h1:=JdN rs;have h2:=Job rs;have h3:=JjQ rs;unfold by_
 split
 . omega
 . split
   . omega
   . split<;>omega
theorem JiT(b:Nat)(u at_ E:Int)(w:World)
    (cA:Hid (∀wx,Bw w wx->Cg 117 #[Pd b 0,I6 u,I6 at_] wx (Rt wx (.tuple #[cntV [],.iface 25 (I6 E)])))) :
    Cg 73 #[Pd b 0,I6 u,I6 at_] w (Rt w (.tuple #[.agg #[I6 0,I6 0],.iface 25 (I6 E)])):=by
 have hC:cntV []=.agg #[I6 0,I6 0,I6 0,I6 0]:=rfl;rw[hC]at cA;clear hC;have HB0:Hid (Bw w (w.alloc (Oc #[I6 0,I6 0] 107))):=(brf _ w).alloc (nlr _) _;have HS0:Hid (JcU (w.alloc (Oc #[I6 0,I6 0] 107)) w.heap.size 0 0):=Jed w 0 0 _
 go_enter func73,ntmps73
 go_wp2_with (go_at_call 117;refine(cA.out _ HB0.out).mono ?_;rintro e w2 ⟨rfl,hb2⟩;have HB2:=hdz (HB0.out.trans (hb2.mono HB0.out.size));have HS2:Hid (JcU w2 w.heap.size 0 0):=Ja9 HS0.out hb2;have hlt:w.heap.size<w2.heap.size:=blt w2 _ HS2.out.1.1;have hne:w.heap.size≠w2.heap.size:=Nat.ne_of_lt hlt;clear hb2;obtain⟨⟨k0,k1⟩,k2,k3⟩:=HS2.out)
 have hset:=Ja9 (JmN (m:=0) (n:=0) HS2.out) ((brf _ _).alloc (nlr _) (Oc #[I6 0,I6 0,I6 0,I6 0] 78));have hB:=Jlc HB2.out (nlr _) (I6 0) (I6 0);obtain⟨⟨s0,s1⟩,_⟩:=hset;refine bodyPost_ret (v:=.tuple #[.agg #[I6 0,I6 0],.iface 25 (I6 E)]) (by simp[results,results73,go_sem,s0,s1]) rfl ⟨rfl,hB.alloc hB.size _⟩
theorem Js0(b:Nat)(rs X Y:List Nat)(u at_:Int)(w:World)(hX:C1 X<=100000000)(hY:C1 Y<=100000000)
    (cA:Hid (∀wx,Bw w wx->Cg 117 #[Pd b 0,I6 u,I6 at_] wx (Rt wx (.tuple #[cntV X,.nilIface]))))
    (cL:Hid (∀wx,Bw w wx->Cg 118 #[Pd b 0,I6 (C4 X)] wx (Rt wx (.tuple #[cntV Y,.nilIface])))) :
    Cg 73 #[Pd b 0,I6 u,I6 at_] w (Rt w (.tuple #[.agg #[I6 (C4 X),I6 (by_ u X - by_ u Y)],.nilIface])):=by
 have HB0:Hid (Bw w (w.alloc (Oc #[I6 0,I6 0] 107))):=(brf _ w).alloc (nlr _) _;have HS0:Hid (JcU (w.alloc (Oc #[I6 0,I6 0] 107)) w.heap.size 0 0):=Jed w 0 0 _;have cIX:Hid (∀wx,Cg 119 #[cntV X,I6 u] wx (Rt wx (I6 (by_ u X)))):=λwx=>JdH u X wx;have cIY:Hid (∀wx,Cg 119 #[cntV Y,I6 u] wx (Rt wx (I6 (by_ u Y)))):=λwx=>JdH u Y wx;have bX:by_ u X<=200000000:=Int.le_trans (JnQ u X) (by omega);have bY:by_ u Y<=200000000:=Int.le_trans (JnQ u Y) (by omega);have pX:=Jdd u X;have pY:=Jdd u Y;unfold cntV at cA cL cIX cIY;generalize by_ u X=nx at *;generalize by_ u Y=ny at *;have hwr:IntKind.i64.wrap (nx - ny)=nx - ny:=by unfold IntKind.wrap;simp[IntKind.bits,IntKind.signed];omega
 clear hX hY bX bY pX pY
 go_enter func73,ntmps73
 go_wp2_with (first
  | (go_at_call 117;refine(cA.out _ HB0.out).mono ?_;rintro e w2 ⟨rfl,hb2⟩;have HB2:=hdz (HB0.out.trans (hb2.mono HB0.out.size));have HS2:Hid (JcU w2 w.heap.size 0 0):=Ja9 HS0.out hb2;have hlt:w.heap.size<w2.heap.size:=blt w2 _ HS2.out.1.1;have hne:w.heap.size≠w2.heap.size:=Nat.ne_of_lt hlt;clear hb2;have HS3:Hid (JcU (w2.alloc (Oc #[I6 (C1 X),I6 (C2 X),I6 (C3 X),I6 (C4 X)] 78)) w.heap.size 0 0):=Ja9 HS2.out (zA _ _);have HB3:Hid (Bw w (w2.alloc (Oc #[I6 (C1 X),I6 (C2 X),I6 (C3 X),I6 (C4 X)] 78))):=HB2.out.alloc HB2.out.size _)
  | (go_at_call 118;refine(cL.out _ HB3.out).mono ?_;rintro e w4 ⟨rfl,hb4⟩;have HB4:=hdz (HB3.out.trans (hb4.mono HB3.out.size));have HS4:Hid (JcU w4 w.heap.size 0 0):=Ja9 HS3.out hb4;have HX4:Hid (counted w4 w2.heap.size (C1 X) (C2 X) (C3 X) (C4 X)):=Jad (JaK w2 _ _ _ _ _) hb4;clear hb4))
 have hb5:Bw w (w4.alloc (Oc #[I6 (C1 Y),I6 (C2 Y),I6 (C3 Y),I6 (C4 Y)] 78)):=HB4.out.alloc HB4.out.size _;have hg5:Bw w4 (w4.alloc (Oc #[I6 (C1 Y),I6 (C2 Y),I6 (C3 Y),I6 (C4 Y)] 78)):=zA _ _;have hs5:=Ja9 HS4.out hg5;have hx5:=Jad HX4.out hg5;have hy5:=JaK w4 (C1 Y) (C2 Y) (C3 Y) (C4 Y) 78;generalize (w4.alloc (Oc #[I6 (C1 Y),I6 (C2 Y),I6 (C3 Y),I6 (C4 Y)] 78))=W5 at *;generalize w4.heap.size=BY at *;generalize w2.heap.size=BX at *;clear hg5 HB4 HS4 HX4 HB3 HS3 HB2 HS2 HB0 HS0 hlt hne cA cL;refine Ja4 10 12 (by kernel_rfl) rfl ?_;intro w6 hb6;obtain⟨G,hG⟩:=Jas w6;have hx6:=Jad hx5 hb6;have hy6:=Jad hy5 hb6;obtain⟨⟨x0,x1,x2,x3⟩,_⟩:=hx6;obtain⟨⟨y0,y1,y2,y3⟩,_⟩:=hy6;have gx0:=hG.cell x0;have gx1:=hG.cell x1;have gx2:=hG.cell x2;have gx3:=hG.cell x3;have gy0:=hG.cell y0;have gy1:=hG.cell y1;have gy2:=hG.cell y2;have gy3:=hG.cell y3;have cX:=λx=>cIX.out (G x);have cY:=λx=>cIY.out (G x);clear x0 x1 x2 x3 y0 y1 y2 y3 cIX cIY
 (refine Jaa hG (i:=0) rfl (by kernel_rfl) (by kernel_rfl) (by kernel_rfl) (λK hK=>?_);go_simp;refine hK _ ?_;clear hK K)
 (refine Jaa hG (i:=1) rfl (by kernel_rfl) (by kernel_rfl) (by kernel_rfl) (λK hK=>?_);go_simp;refine hK _ ?_;clear hK K)
 (refine Jaa hG (i:=2) rfl (by kernel_rfl) (by kernel_rfl) (by kernel_rfl) (λK hK=>?_);go_simp;refine hK _ ?_;clear hK K)
 (refine Jaa hG (i:=3) rfl (by kernel_rfl) (by kernel_rfl) (by kernel_rfl) (λK hK=>?_);go_simp;refine hK _ ?_;clear hK K)
 (refine Jaa hG (i:=4) rfl (by kernel_rfl) (by kernel_rfl) (by kernel_rfl) (λK hK=>?_);go_simp;apply Exists.intro;refine⟨λ_=>?_,hK _ ?_⟩;exact cX _;clear hK K)
 (refine Jaa hG (i:=5) rfl (by kernel_rfl) (by kernel_rfl) (by kernel_rfl) (λK hK=>?_);go_simp;refine hK _ ?_;clear hK K)
 (refine Jaa hG (i:=6) rfl (by kernel_rfl) (by kernel_rfl) (by kernel_rfl) (λK hK=>?_);go_simp;refine hK _ ?_;clear hK K)
 (refine Jaa hG (i:=7) rfl (by kernel_rfl) (by kernel_rfl) (by kernel_rfl) (λK hK=>?_);go_simp;apply Exists.intro;refine⟨λ_=>?_,hK _ ?_⟩;exact cY _;clear hK K)
 (refine Jaa hG (i:=8) rfl (by kernel_rfl) (by kernel_rfl) (by kernel_rfl) (λK hK=>?_);go_simp;refine hK _ ?_;clear hK K)
 (refine Jaa hG (i:=9) rfl (by kernel_rfl) (by kernel_rfl) (by kernel_rfl) (λK hK=>?_);go_simp;refine hK _ ?_;clear hK K)
 clear gx0 gx1 gx2 gx3 gy0 gy1 gy2 gy3 cX cY hG;refine JdF (i:=10) rfl (by kernel_rfl) (by kernel_rfl) ?_;intro w7 hb7 K hK;have hb67:=hb6.trans (hb7.mono hb6.size);have hs7:=Ja9 hs5 hb67;have HS7:=hdz hs7;have HB7:Hid (Bw w w7):=hb5.trans (hb67.mono hb5.size);obtain⟨⟨k0,k1⟩,k2,k3⟩:=hs7;clear hb6 hb7 hb67 hs5 hx5 hy5 hb5
 go_simp
 refine hK _ _ ?_;clear hK K;refine JdF (i:=11) rfl (by kernel_rfl) (by kernel_rfl) ?_;intro w8 hb8 K hK
 go_simp
 refine hK _ _ ?_;clear hK K;refine Jbi (by kernel_rfl) ?_;intro w9 hb9;have hb79:=hb8.trans (hb9.mono hb8.size);have hset:=Ja9 (JmN (m:=C4 X) (n:=nx - ny) HS7.out) hb79;have hB7:=Jlc HB7.out (nlr _) (I6 (C4 X)) (I6 (nx - ny));have hB9:=hB7.trans (hb79.mono hB7.size);clear hb8 hb9 hb79 hB7 k0 k1 k2 k3;go_wp2;obtain⟨⟨s0,s1⟩,_⟩:=hset;refine bodyPost_ret (v:=.tuple #[.agg #[I6 (C4 X),I6 (nx - ny)],.nilIface]) (by simp[results,results73,go_sem,s0,s1]) rfl ⟨rfl,hB9⟩
end
section
attribute [local go_sem] Oper.semAt_some Jaj JaD JkM JkL
theorem JuW(b:Nat)(rs:List Nat)(line:Int)(hl0:0<=line)(hl1:C4 rs<line)(w:World)(hT:Lib.Utf8Tabs 3 4 w)(h:Jc5 w b rs)(hz:C1 rs<=100000000) :
    Cg 118 #[Pd b 0,I6 line] w (Rt w (.tuple #[cntV [],.iface 25 (I6 2)])):=by
 obtain⟨q,t,h1,_,_,h4,ho,rfl⟩:=h;have hb2:Bw w ((w.alloc (Oc #[I6 line] 3)).alloc (Oc #[I6 0,I6 0,I6 0,I6 0] 78)):=((brf _ w).alloc (nlr _) _).alloc (by simp) _;have hl:((w.alloc (Oc #[I6 line] 3)).alloc (Oc #[I6 0,I6 0,I6 0,I6 0] 78)).cell? (Ad w.heap.size 0)=some (I6 line):=by simp[go_sem]
 have hr:=JaK (w.alloc (Oc #[I6 line] 3)) 0 0 0 0 78;rw[wsa]at hr;have cT:=λwx (hb:Bw w wx)=>Jc1 b q wx (Jac hb h1);have cC:=λwx (hb:Bw w wx)=>Jc2 q t wx (Jab hb h4);generalize C1 t.runes=x1 at *;generalize C2 t.runes=x2 at *;generalize C3 t.runes=x3 at *;generalize C4 t.runes=x4 at *;have n0:¬line<0:=by omega
 have n1:x4<line:=by omega
 have hC:cntV []=.agg #[I6 0,I6 0,I6 0,I6 0]:=rfl;rw[hC];clear hC;clear h4 ho hT
 go_enter func118,ntmps118
 go_wp2_with (go_at_call 171;refine(cT _ hb2).mono ?_;rintro e w1 ⟨rfl,hw1⟩;obtain rfl:=hw1.symm)
 obtain⟨W2,hW2⟩:∃W2,((w.alloc (Oc #[I6 line] 3)).alloc (Oc #[I6 0,I6 0,I6 0,I6 0] 78))=W2:=⟨_,rfl⟩;rw[hW2]at hb2 hl hr ⊢;clear hW2;refine Ja4 9 9 (by kernel_rfl) rfl ?_;intro w3 hb3;have hb23:=hb2.trans (hb3.mono hb2.size);obtain⟨G,hG⟩:=Jas w3;have gl:=hG.cell (Jac hb3 hl);have cG:=λx=>cC (G x) (hb23.trans ((hG.below x).mono hb23.size))
 (refine Jaa hG (i:=0) rfl (by kernel_rfl) (by kernel_rfl) (by kernel_rfl) (λK hK=>?_);go_simp;refine hK _ ?_;clear hK K)
 (refine Jaa hG (i:=1) rfl (by kernel_rfl) (by kernel_rfl) (by kernel_rfl) (λK hK=>?_);go_simp;refine hK _ ?_;clear hK K)
 (refine Jaa hG (i:=2) rfl (by kernel_rfl) (by kernel_rfl) (by kernel_rfl) (λK hK=>?_);go_simp;refine hK _ ?_;clear hK K)
 (refine Jaa hG (i:=3) rfl (by kernel_rfl) (by kernel_rfl) (by kernel_rfl) (λK hK=>?_);go_simp;refine hK _ ?_;clear hK K)
 (refine Jaa hG (i:=4) rfl (by kernel_rfl) (by kernel_rfl) (by kernel_rfl) (λK hK=>?_);go_simp;refine hK _ ?_;clear hK K)
 (refine Jaa hG (i:=5) rfl (by kernel_rfl) (by kernel_rfl) (by kernel_rfl) (λK hK=>?_);go_simp;apply Exists.intro;refine⟨λ_=>?_,hK _ ?_⟩;exact cG _;clear hK K)
 (refine Jaa hG (i:=6) rfl (by kernel_rfl) (by kernel_rfl) (by kernel_rfl) (λK hK=>?_);go_simp;refine hK _ ?_;clear hK K)
 (refine Jaa hG (i:=7) rfl (by kernel_rfl) (by kernel_rfl) (by kernel_rfl) (λK hK=>?_);go_simp;refine hK _ ?_;clear hK K)
 (refine Jaa hG (i:=8) rfl (by kernel_rfl) (by kernel_rfl) (by kernel_rfl) (λK hK=>?_);go_simp;refine hK _ ?_;clear hK K)
 clear gl cG hG;refine Jbi (by kernel_rfl) ?_;intro w4 hb4;have hb34:=hb3.trans (hb4.mono hb3.size);have hb24:=hb2.trans (hb34.mono hb2.size);have hr4:=Jad hr hb34;have HR4:=hdz hr4;have HB24:=hdz hb24;obtain⟨⟨z0,z1,z2,z3⟩,y0,y1,y2,y3⟩:=hr4;clear hb3 hb4 hb34 hb23 hb24 cC cT hl hr;go_wp2;have hset:=JaN (m1:=0) (m2:=0) (m3:=0) (m4:=0) HR4.out;obtain⟨⟨s0,s1,s2,s3⟩,_⟩:=hset;refine bodyPost_ret (v:=.tuple #[.agg #[I6 0,I6 0,I6 0,I6 0],.iface 25 (I6 2)]) (by simp[results,results118,go_sem,s0,s1,s2,s3]) rfl ⟨rfl,Jbn HB24.out (by omega) _ _ _ _⟩
theorem JuV(b:Nat)(rs:List Nat)(line:Int)(hl0:line<0)(w:World)(h:Jc5 w b rs) :
    Cg 118 #[Pd b 0,I6 line] w (Rt w (.tuple #[cntV [],.iface 25 (I6 2)])):=by
 obtain⟨q,t,h1,_,_,h4,ho,rfl⟩:=h;have hb2:Bw w ((w.alloc (Oc #[I6 line] 3)).alloc (Oc #[I6 0,I6 0,I6 0,I6 0] 78)):=((brf _ w).alloc (nlr _) _).alloc (by simp) _;have hl:((w.alloc (Oc #[I6 line] 3)).alloc (Oc #[I6 0,I6 0,I6 0,I6 0] 78)).cell? (Ad w.heap.size 0)=some (I6 line):=by simp[go_sem]
 have hr:=JaK (w.alloc (Oc #[I6 line] 3)) 0 0 0 0 78;rw[wsa]at hr;have cT:=λwx (hb:Bw w wx)=>Jc1 b q wx (Jac hb h1);have hC:cntV []=.agg #[I6 0,I6 0,I6 0,I6 0]:=rfl;rw[hC];clear h4 ho hC
 go_enter func118,ntmps118
 go_wp2_with (go_at_call 171;refine(cT _ hb2).mono ?_;rintro e w1 ⟨rfl,hw1⟩;obtain rfl:=hw1.symm)
 obtain⟨W2,hW2⟩:∃W2,((w.alloc (Oc #[I6 line] 3)).alloc (Oc #[I6 0,I6 0,I6 0,I6 0] 78))=W2:=⟨_,rfl⟩;rw[hW2]at hb2 hl hr ⊢;clear hW2;have HR4:=hdz hr;have HB24:=hdz hb2;obtain⟨⟨z0,z1,z2,z3⟩,y0,y1,y2,y3⟩:=hr;clear hb2 cT
 go_region
 go_wp2;have hset:=JaN (m1:=0) (m2:=0) (m3:=0) (m4:=0) HR4.out;obtain⟨⟨s0,s1,s2,s3⟩,_⟩:=hset;refine bodyPost_ret (v:=.tuple #[.agg #[I6 0,I6 0,I6 0,I6 0],.iface 25 (I6 2)]) (by simp[results,results118,go_sem,s0,s1,s2,s3]) rfl ⟨rfl,(Jbn HB24.out (by omega) _ _ _ _).drew⟩
def Jre (line:Int) (rs:List Nat):Value :=
 if line<0\/C4 rs<line then .tuple #[cntV [],.iface 25 (I6 2)]
 else .tuple #[cntV (find (Ja3 line) [] rs),.nilIface]
theorem Ji5(b:Nat)(rs:List Nat)(line:Int)(w:World)(hT:Lib.Utf8Tabs 3 4 w)(h:Jc5 w b rs)(hz:C1 rs<=100000000) :
    Cg 118 #[Pd b 0,I6 line] w (Rt w (Jre line rs)):=by
 unfold Jre
 by_cases h0:line<0
 . rw[if_pos (Or.inl h0)]
   exact JuV b rs line h0 w h
 . by_cases h1:C4 rs<line
   . rw[if_pos (Or.inr h1)]
     exact JuW b rs line (by omega) h1 w hT h hz
   . rw[if_neg (by omega)]
     exact JuX b rs line (by omega) (by omega) w hT h hz
end
def noLF (Z:List Nat):Prop:=∀r∈Z,r≠10
def Jt2 (Y:List Nat):Prop:=Y=[]\/∃Y',Y=Y'++[10]
theorem C4_cons(r:Nat)(X:List Nat):C4 (r :: X)=cL r+C4 X:=by
 show C4 ([r]++X)=_;rw[Jet]
 congr 1
 unfold C4 sum4 wide;simp
theorem Jug:∀{Z:List Nat},noLF Z->C4 Z=0
 | [],_=>rfl
 | r :: Z,h=>by
  rw[C4_cons,Jug λx hx=>h x (List.mem_cons_of_mem _ hx)];unfold cL;rw[if_neg (h r (List.mem_cons_self ..))];rfl
theorem JkC:∀X:List Nat,∃Y Z,X=Y++Z/\noLF Z/\Jt2 Y
 | []=>⟨[],[],rfl,λ_ h=>(by cases h),.inl rfl⟩
 | r :: X=>by
  obtain⟨Y,Z,e,hz,hy⟩:=JkC X;subst e
  rcases hy with rfl|⟨Y',rfl⟩
  . by_cases h:r=10
    . exact⟨[r],Z,rfl,hz,.inr ⟨[],by rw[h];rfl⟩⟩
    . exact ⟨[],r :: Z,rfl,λx hx=>by
        rcases List.mem_cons.1 hx with rfl|hx
        . exact h
        . exact hz x hx,.inl rfl⟩
  . exact⟨r :: (Y'++[10]),Z,rfl,hz,.inr ⟨r :: Y',rfl⟩⟩
theorem Jtz{Y:List Nat}(h:Jt2 Y)(m:List Nat):find (Ja3 (C4 Y)) [] (Y++m)=Y:=by
 rcases h with rfl|⟨Y',rfl⟩
 . have e:Ja3 (C4 []) []=true:=decide_eq_true (Int.le_refl _)
   unfold find;rw[e,if_pos rfl]
 . have e1:C4 [10]=1:=rfl
   have f0:Ja3 (C4 (Y'++[10])) ([]++Y')=false:=decide_eq_false (by rw[Jet,e1,List.nil_append];omega);have f1:Ja3 (C4 (Y'++[10])) ([]++Y'++[10])=true:=decide_eq_true (by rw[List.nil_append];exact Int.le_refl _);rw[Jn4 (l:=Y'++[10]) (by simpa using f1),JkK (Je0 _) f0];unfold find;rw[f0,if_neg (by decide)];show(if Ja3 _ ([]++Y'++[10]) then some ([]++Y'++[10]) else none).getD _=_;rw[f1];simp
theorem Jn3{X:List Nat}(m:List Nat):∃Y Z,X=Y++Z/\noLF Z/\Jt2 Y/\C4 X=C4 Y/\find (Ja3 (C4 X)) [] (X++m)=Y:=by
 obtain⟨Y,Z,rfl,hz,hy⟩:=JkC X;have e:C4 (Y++Z)=C4 Y:=by rw[Jet,Jug hz];omega
 refine⟨Y,Z,rfl,hz,hy,e,?_⟩;rw[e,List.append_assoc];exact Jtz hy _
def Js1 (u at_:Int) (rs:List Nat):Value :=
 if ¬(u=1\/u=2\/u=3) then .tuple #[.agg #[I6 0,I6 0],errV 1]
 else if at_<0\/by_ u rs<at_ then .tuple #[.agg #[I6 0,I6 0],errV 2]
 else if by_ u (upTo rs u at_)=at_ then .tuple #[.agg #[I6 (C4 (upTo rs u at_)),I6 (by_ u (upTo rs u at_) - by_ u (find (Ja3 (C4 (upTo rs u at_))) [] rs))],.nilIface]
 else .tuple #[.agg #[I6 0,I6 0],errV 10]
theorem Jpx(rs:List Nat)(k:Nat):C1 (rs.take k)<=C1 rs:=by
 have e:rs.take k++rs.drop k=rs:=List.take_append_drop k rs;have h1:=Jbc (rs.take k) (rs.drop k);have h2:=JdN (rs.drop k);rw[e]at h1;omega
theorem C4_take(rs:List Nat)(k:Nat):C4 (rs.take k)<=C4 rs:=by
 have e:rs.take k++rs.drop k=rs:=List.take_append_drop k rs;have h1:=Jet (rs.take k) (rs.drop k);have h2:=(JjP (rs.drop k)).1;rw[e]at h1;omega
theorem Juz(b:Nat)(rs:List Nat)(u at_:Int)(w:World)(hT:Lib.Utf8Tabs 3 4 w)(h:Jc5 w b rs)(hz:C1 rs<=100000000) :
    Cg 73 #[Pd b 0,I6 u,I6 at_] w (Rt w (Js1 u at_ rs)):=by
 unfold Js1
 by_cases hu:(u=1\/u=2\/u=3)
 . rw [if_neg (not_not_intro hu)]
   have cA:=λ(wx:World) (hb:Bw w wx)=>JnZ b rs u at_ hu wx (Go.Proofs.Utf8Tabs_below hT hb) (Jb4 h hb) hz;unfold Jqo at cA
   by_cases hl:at_<0\/by_ u rs<at_
   . rw[if_pos hl]
     exact JiT b u at_ 2 w λwx hb=>by have:=cA wx hb;rw[if_pos hl]at this;exact this
   . rw [if_neg hl]
     by_cases hf:by_ u (upTo rs u at_)=at_
     . rw [if_pos hf]
       obtain⟨k,hk,ek,_,_⟩:=JhF u at_ rs [] (by simpa using (by omega:at_<=by_ u rs));rw[List.nil_append]at ek;have ek2:upTo rs u at_=rs.take k:=ek;obtain⟨Y,Z,e1,_,_,e2,e3⟩:=Jn3 (X:=rs.take k) (rs.drop k);rw[List.take_append_drop]at e3;have hy:C1 Y<=100000000:=by
        have h1:=Jbc Y Z;have h2:=JdN Z;have h3:=Jpx rs k;rw[←e1]at h1;omega
       have hx:=Jpx rs k;have h4:=C4_take rs k;have h5:=(JjP (rs.take k)).1;rw[hf];rw[ek2]at hf ⊢;rw[e3]
       have key:=Js0 b rs (rs.take k) Y u at_ w (by omega) hy
        (λwx hb=>by
          have:=cA wx hb;rw[if_neg hl,if_pos (by rw[ek];exact hf),ek]at this
          exact this)
        (λwx hb=>by
          have:=Ji5 b rs (C4 (rs.take k)) wx (Go.Proofs.Utf8Tabs_below hT hb) (Jb4 h hb) hz;unfold Jre at this;rw[if_neg (by omega),e3]at this
          exact this)
       rw[hf]at key;exact key
     . rw[if_neg hf]
       exact JiT b u at_ 10 w λwx hb=>by have:=cA wx hb;have hf2:¬by_ u (find (JaY u at_) [] rs)=at_:=hf;rw[if_neg hl,if_neg hf2]at this;exact this
 . rw[if_pos hu]
   exact JiT b u at_ 1 w λwx hb=>JnX b u at_ hu wx
section
attribute [local go_sem] Oper.semAt_some
theorem Jnp(b:Nat)(rs:List Nat)(u line:Int)(h0:0<=line)(h1:line<=C4 rs)(h2:C4 rs<line+1)(w:World)(hT:Lib.Utf8Tabs 3 4 w)(h:Jc5 w b rs)(hz:C1 rs<=100000000) :
    Cg 122 #[Pd b 0,I6 u,I6 line] w (Rt w (I6 (by_ u rs))):=by
 have cL:Hid (Cg 118 #[Pd b 0,I6 (line+1)] w (Rt w (.tuple #[.agg #[I6 0,I6 0,I6 0,I6 0],.iface 25 (I6 2)]))):=by
  have:=Ji5 b rs (line+1) w hT h hz;unfold Jre at this;rw[if_pos (Or.inr h2)]at this;exact this
 have cC:Hid (∀wx,Bw w wx->Cg 177 #[Pd b 0] wx (Rt wx (cntV rs))):=λwx hb=>JjX b rs wx (Jb4 h hb);have cI:Hid (∀wx,Cg 119 #[cntV rs,I6 u] wx (Rt wx (I6 (by_ u rs)))):=λwx=>JdH u rs wx;have bz:=(JjP rs).2;have hl0:0<=line:=h0;have hl1:line<=100000000:=by omega
 unfold cntV at cC cI;clear hT h hz h0 h1 h2 bz;generalize by_ u rs=n at *
 go_enter func122,ntmps122
 go_wp2_with (first
  | (go_at_call 118;refine Calls.mono cL.out ?_;rintro e w1 ⟨rfl,hb1⟩;have HB1:=hdz hb1;clear hb1;have HB2:Hid (Bw w (w1.alloc (Oc #[I6 0,I6 0,I6 0,I6 0] 78))):=HB1.out.alloc HB1.out.size _)
  | (go_at_call 177;refine(cC.out _ HB2.out).mono ?_;rintro e w3 ⟨rfl,hb3⟩;have HB3:=hdz (HB2.out.trans (hb3.mono HB2.out.size));clear hb3)
  | (go_at_call 119;refine(cI.out _).mono ?_;rintro e w4 ⟨rfl,hb4⟩))
 go_ret;exact⟨rfl,HB3.out.trans (hb4.mono HB3.out.size)⟩
theorem Jno(b:Nat)(rs X:List Nat)(u line:Int)(h0:0<=line)(h2:line+1<=C4 rs)(w:World)(hT:Lib.Utf8Tabs 3 4 w)(h:Jc5 w b rs)(hz:C1 rs<=100000000)(hX:find (Ja3 (line+1)) [] rs=X)(hx:by_ u X<=200000000) :
    Cg 122 #[Pd b 0,I6 u,I6 line] w (Rt w (I6 (by_ u X - 1))):=by
 have cL:Hid (Cg 118 #[Pd b 0,I6 (line+1)] w (Rt w (.tuple #[cntV X,.nilIface]))):=by
  have:=Ji5 b rs (line+1) w hT h hz;unfold Jre at this;rw[if_neg (by omega),hX]at this;exact this
 have cI:Hid (∀wx,Cg 119 #[cntV X,I6 u] wx (Rt wx (I6 (by_ u X)))):=λwx=>JdH u X wx;have bz:=(JjP rs).2;have px:=Jdd u X;have hl0:0<=line:=h0;have hl1:line<=100000000:=by omega
 unfold cntV at cL cI;clear hT h hz h0 h2 bz hX;generalize by_ u X=n at *
 go_enter func122,ntmps122
 go_wp2_with (first
  | (go_at_call 118;refine Calls.mono cL.out ?_;rintro e w1 ⟨rfl,hb1⟩;have HB1:=hdz hb1;clear hb1;have HB2:Hid (Bw w (w1.alloc (Oc #[I6 (C1 X),I6 (C2 X),I6 (C3 X),I6 (C4 X)] 78))):=HB1.out.alloc HB1.out.size _)
  | (go_at_call 119;refine(cI.out _).mono ?_;rintro e w4 ⟨rfl,hb4⟩))
 go_ret;exact⟨rfl,HB2.out.trans (hb4.mono HB2.out.size)⟩
end
section
attribute [local go_sem] Oper.semAt_some Jaj JaD JkM JkL
theorem JqT(b:Nat)(u line col E:Int)(w:World)
    (cU:Hid (∀wx,Bw w wx->Cg 121 #[Pd b 0,I6 u] wx (Rt wx (.iface 25 (I6 E))))) :
    Cg 75 #[Pd b 0,I6 u,.agg #[I6 line,I6 col]] w (Rt w (.tuple #[I6 0,.iface 25 (I6 E)])):=by
 have HB0:Hid (Bw w (w.alloc (Oc #[I6 line,I6 col] 107))):=(brf _ w).alloc (nlr _) _;have HS0:Hid (JcU (w.alloc (Oc #[I6 line,I6 col] 107)) w.heap.size line col):=Jed w _ _ _
 go_enter func75,ntmps75
 go_wp2_with (go_at_call 121;refine(cU.out _ HB0.out).mono ?_;rintro e w1 ⟨rfl,hb1⟩;have HB1:=hdz (HB0.out.trans (hb1.mono HB0.out.size));have HS1:Hid (JcU w1 w.heap.size line col):=Ja9 HS0.out hb1;clear hb1;have ⟨⟨p0,p1⟩,p2,p3⟩:=HS1.out)
 go_ret2
 exact⟨rfl,HB1.out⟩
theorem JqU(b:Nat)(u line col E:Int)(w:World)
    (cU:Hid (∀wx,Bw w wx->Cg 121 #[Pd b 0,I6 u] wx (Rt wx .nilIface)))
    (cL:Hid (∀wx,Bw w wx->Cg 118 #[Pd b 0,I6 line] wx (Rt wx (.tuple #[cntV [],.iface 25 (I6 E)])))) :
    Cg 75 #[Pd b 0,I6 u,.agg #[I6 line,I6 col]] w (Rt w (.tuple #[I6 0,.iface 25 (I6 E)])):=by
 have hC:cntV []=.agg #[I6 0,I6 0,I6 0,I6 0]:=rfl;rw[hC]at cL;clear hC;have HB0:Hid (Bw w (w.alloc (Oc #[I6 line,I6 col] 107))):=(brf _ w).alloc (nlr _) _;have HS0:Hid (JcU (w.alloc (Oc #[I6 line,I6 col] 107)) w.heap.size line col):=Jed w _ _ _
 go_enter func75,ntmps75
 go_wp2_with (first
  | (go_at_call 121;refine(cU.out _ HB0.out).mono ?_;rintro e w1 ⟨rfl,hb1⟩;have HB1:=hdz (HB0.out.trans (hb1.mono HB0.out.size));have HS1:Hid (JcU w1 w.heap.size line col):=Ja9 HS0.out hb1;clear hb1;have ⟨⟨p0,p1⟩,p2,p3⟩:=HS1.out)
  | (go_at_call 118;refine(cL.out _ HB1.out).mono ?_;rintro e w2 ⟨rfl,hb2⟩;have HB2:=hdz (HB1.out.trans (hb2.mono HB1.out.size));clear hb2))
 go_ret2
 exact⟨rfl,HB2.out.alloc HB2.out.size _⟩
theorem JsA(b:Nat)(B:List Nat)(u line col nB:Int)(hc:col<0)(w:World)
    (cU:Hid (∀wx,Bw w wx->Cg 121 #[Pd b 0,I6 u] wx (Rt wx .nilIface)))
    (cL:Hid (∀wx,Bw w wx->Cg 118 #[Pd b 0,I6 line] wx (Rt wx (.tuple #[cntV B,.nilIface]))))
    (cI:Hid (∀wx,Cg 119 #[cntV B,I6 u] wx (Rt wx (I6 nB)))) :
    Cg 75 #[Pd b 0,I6 u,.agg #[I6 line,I6 col]] w (Rt w (.tuple #[I6 0,.iface 25 (I6 2)])):=by
 unfold cntV at cL cI;have HB0:Hid (Bw w (w.alloc (Oc #[I6 line,I6 col] 107))):=(brf _ w).alloc (nlr _) _;have HS0:Hid (JcU (w.alloc (Oc #[I6 line,I6 col] 107)) w.heap.size line col):=Jed w _ _ _
 go_enter func75,ntmps75
 go_wp2_with (first
  | (go_at_call 121;refine(cU.out _ HB0.out).mono ?_;rintro e w1 ⟨rfl,hb1⟩;have HB1:=hdz (HB0.out.trans (hb1.mono HB0.out.size));have HS1:Hid (JcU w1 w.heap.size line col):=Ja9 HS0.out hb1;clear hb1;have ⟨⟨p0,p1⟩,p2,p3⟩:=HS1.out)
  | (go_at_call 118;refine(cL.out _ HB1.out).mono ?_;rintro e w2 ⟨rfl,hb2⟩;have HB2:=hdz (HB1.out.trans (hb2.mono HB1.out.size));have HS2:Hid (JcU w2 w.heap.size line col):=Ja9 HS1.out hb2;have HB3:Hid (Bw w (w2.alloc (Oc #[I6 (C1 B),I6 (C2 B),I6 (C3 B),I6 (C4 B)] 78))):=HB2.out.alloc HB2.out.size _;have HS3:Hid (JcU (w2.alloc (Oc #[I6 (C1 B),I6 (C2 B),I6 (C3 B),I6 (C4 B)] 78)) w.heap.size line col):=Ja9 HS2.out (zA _ _);clear hb2)
  | (go_at_call 119;refine(cI.out _).mono ?_;rintro e w4 ⟨rfl,hb4⟩;have HB4:=hdz (HB3.out.trans (hb4.mono HB3.out.size));have HS4:Hid (JcU w4 w.heap.size line col):=Ja9 HS3.out hb4;clear hb4))
 obtain⟨⟨k0,k1⟩,k2,k3⟩:=HS4.out
 go_region
 go_wp2
 go_ret2
 exact⟨rfl,HB4.out.drew⟩
theorem JsB(b:Nat)(B:List Nat)(u line col nB nE:Int)(hc:0<=col)(hw:IntKind.i64.wrap (nE - nB)=nE - nB)(hf:nE - nB<col)(w:World)
    (cU:Hid (∀wx,Bw w wx->Cg 121 #[Pd b 0,I6 u] wx (Rt wx .nilIface)))
    (cL:Hid (∀wx,Bw w wx->Cg 118 #[Pd b 0,I6 line] wx (Rt wx (.tuple #[cntV B,.nilIface]))))
    (cI:Hid (∀wx,Cg 119 #[cntV B,I6 u] wx (Rt wx (I6 nB))))
    (cE:Hid (∀wx,Bw w wx->Cg 122 #[Pd b 0,I6 u,I6 line] wx (Rt wx (I6 nE)))) :
    Cg 75 #[Pd b 0,I6 u,.agg #[I6 line,I6 col]] w (Rt w (.tuple #[I6 0,.iface 25 (I6 2)])):=by
 have n0:¬col<0:=by omega
 unfold cntV at cL cI;clear hc;have HB0:Hid (Bw w (w.alloc (Oc #[I6 line,I6 col] 107))):=(brf _ w).alloc (nlr _) _;have HS0:Hid (JcU (w.alloc (Oc #[I6 line,I6 col] 107)) w.heap.size line col):=Jed w _ _ _
 go_enter func75,ntmps75
 go_wp2_with (first
  | (go_at_call 121;refine(cU.out _ HB0.out).mono ?_;rintro e w1 ⟨rfl,hb1⟩;have HB1:=hdz (HB0.out.trans (hb1.mono HB0.out.size));have HS1:Hid (JcU w1 w.heap.size line col):=Ja9 HS0.out hb1;clear hb1;have ⟨⟨p0,p1⟩,p2,p3⟩:=HS1.out)
  | (go_at_call 118;refine(cL.out _ HB1.out).mono ?_;rintro e w2 ⟨rfl,hb2⟩;have HB2:=hdz (HB1.out.trans (hb2.mono HB1.out.size));have HS2:Hid (JcU w2 w.heap.size line col):=Ja9 HS1.out hb2;have HB3:Hid (Bw w (w2.alloc (Oc #[I6 (C1 B),I6 (C2 B),I6 (C3 B),I6 (C4 B)] 78))):=HB2.out.alloc HB2.out.size _;have HS3:Hid (JcU (w2.alloc (Oc #[I6 (C1 B),I6 (C2 B),I6 (C3 B),I6 (C4 B)] 78)) w.heap.size line col):=Ja9 HS2.out (zA _ _);clear hb2)
  | (go_at_call 119;refine(cI.out _).mono ?_;rintro e w4 ⟨rfl,hb4⟩;have HB4:=hdz (HB3.out.trans (hb4.mono HB3.out.size));have HS4:Hid (JcU w4 w.heap.size line col):=Ja9 HS3.out hb4;clear hb4))
 have hb4:=HB4.out;have hs4:=HS4.out;generalize w2.heap.size=BB at *;clear HB0 HS0 HB1 HS1 HB2 HS2 HB3 HS3 HB4 HS4 cU cL p0 p1 p2 p3;refine Ja4 15 15 (by kernel_rfl) rfl ?_;intro w6 hb6;obtain⟨G,hG⟩:=Jas w6;have hb46:=hb4.trans (hb6.mono hb4.size);have hs6:=Ja9 hs4 hb6;obtain⟨⟨x0,x1⟩,_⟩:=hs6;have gx0:=hG.cell x0;have gx1:=hG.cell x1;have cG:=λx=>cE.out (G x) (hb46.trans ((hG.below x).mono hb46.size));clear x0 x1
 (refine Jaa hG (i:=0) rfl (by kernel_rfl) (by kernel_rfl) (by kernel_rfl) (λK hK=>?_);go_simp;refine hK _ ?_;clear hK K)
 (refine Jaa hG (i:=1) rfl (by kernel_rfl) (by kernel_rfl) (by kernel_rfl) (λK hK=>?_);go_simp;refine hK _ ?_;clear hK K)
 (refine Jaa hG (i:=2) rfl (by kernel_rfl) (by kernel_rfl) (by kernel_rfl) (λK hK=>?_);go_simp;refine hK _ ?_;clear hK K)
 (refine Jaa hG (i:=3) rfl (by kernel_rfl) (by kernel_rfl) (by kernel_rfl) (λK hK=>?_);go_simp;refine hK _ ?_;clear hK K)
 (refine Jaa hG (i:=4) rfl (by kernel_rfl) (by kernel_rfl) (by kernel_rfl) (λK hK=>?_);go_simp;refine hK _ ?_;clear hK K)
 (refine Jaa hG (i:=5) rfl (by kernel_rfl) (by kernel_rfl) (by kernel_rfl) (λK hK=>?_);go_simp;refine hK _ ?_;clear hK K)
 (refine Jaa hG (i:=6) rfl (by kernel_rfl) (by kernel_rfl) (by kernel_rfl) (λK hK=>?_);go_simp;refine hK _ ?_;clear hK K)
 (refine Jaa hG (i:=7) rfl (by kernel_rfl) (by kernel_rfl) (by kernel_rfl) (λK hK=>?_);go_simp;refine hK _ ?_;clear hK K)
 (refine Jaa hG (i:=8) rfl (by kernel_rfl) (by kernel_rfl) (by kernel_rfl) (λK hK=>?_);go_simp;refine hK _ ?_;clear hK K)
 (refine Jaa hG (i:=9) rfl (by kernel_rfl) (by kernel_rfl) (by kernel_rfl) (λK hK=>?_);go_simp;refine hK _ ?_;clear hK K)
 (refine Jaa hG (i:=10) rfl (by kernel_rfl) (by kernel_rfl) (by kernel_rfl) (λK hK=>?_);go_simp;apply Exists.intro;refine⟨λ_=>?_,hK _ ?_⟩;exact cG _;clear hK K)
 (refine Jaa hG (i:=11) rfl (by kernel_rfl) (by kernel_rfl) (by kernel_rfl) (λK hK=>?_);go_simp;refine hK _ ?_;clear hK K)
 (refine Jaa hG (i:=12) rfl (by kernel_rfl) (by kernel_rfl) (by kernel_rfl) (λK hK=>?_);go_simp;refine hK _ ?_;clear hK K)
 (refine Jaa hG (i:=13) rfl (by kernel_rfl) (by kernel_rfl) (by kernel_rfl) (λK hK=>?_);go_simp;refine hK _ ?_;clear hK K)
 (refine Jaa hG (i:=14) rfl (by kernel_rfl) (by kernel_rfl) (by kernel_rfl) (λK hK=>?_);go_simp;refine hK _ ?_;clear hK K)
 clear gx0 gx1 cG hG;refine Jbi (by kernel_rfl) ?_;intro w7 hb7;have hb67:=hb6.trans (hb7.mono hb6.size);have HB7:Hid (Bw w w7):=hb4.trans (hb67.mono hb4.size);clear hb6 hb7 hb67 hb46 hb4 hs4;go_wp2
 go_ret2
 exact⟨rfl,HB7.out⟩
theorem Jh7(b:Nat)(B X:List Nat)(u line col nB nE nX:Int)(ev:Value)(hc:0<=col)(hw:IntKind.i64.wrap (nE - nB)=nE - nB)(hf:col<=nE - nB)(hw2:IntKind.i64.wrap (nB+col)=nB+col)(w:World)
    (cU:Hid (∀wx,Bw w wx->Cg 121 #[Pd b 0,I6 u] wx (Rt wx .nilIface)))
    (cL:Hid (∀wx,Bw w wx->Cg 118 #[Pd b 0,I6 line] wx (Rt wx (.tuple #[cntV B,.nilIface]))))
    (cI:Hid (∀wx,Cg 119 #[cntV B,I6 u] wx (Rt wx (I6 nB))))
    (cE:Hid (∀wx,Bw w wx->Cg 122 #[Pd b 0,I6 u,I6 line] wx (Rt wx (I6 nE))))
    (cA:Hid (∀wx,Bw w wx->Cg 117 #[Pd b 0,I6 u,I6 (nB+col)] wx (Rt wx (.tuple #[cntV X,ev]))))
    (cX:Hid (∀wx,Cg 119 #[cntV X,I6 u] wx (Rt wx (I6 nX)))) :
    Cg 75 #[Pd b 0,I6 u,.agg #[I6 line,I6 col]] w (Rt w (.tuple #[I6 nX,ev])):=by
 have n0:¬col<0:=by omega
 have n1:¬nE - nB<col:=by omega
 unfold cntV at cL cI cA cX;clear hc hf;have HB0:Hid (Bw w (w.alloc (Oc #[I6 line,I6 col] 107))):=(brf _ w).alloc (nlr _) _;have HS0:Hid (JcU (w.alloc (Oc #[I6 line,I6 col] 107)) w.heap.size line col):=Jed w _ _ _
 go_enter func75,ntmps75
 go_wp2_with (first
  | (go_at_call 121;refine(cU.out _ HB0.out).mono ?_;rintro e w1 ⟨rfl,hb1⟩;have HB1:=hdz (HB0.out.trans (hb1.mono HB0.out.size));have HS1:Hid (JcU w1 w.heap.size line col):=Ja9 HS0.out hb1;clear hb1;have ⟨⟨p0,p1⟩,p2,p3⟩:=HS1.out)
  | (go_at_call 118;refine(cL.out _ HB1.out).mono ?_;rintro e w2 ⟨rfl,hb2⟩;have HB2:=hdz (HB1.out.trans (hb2.mono HB1.out.size));have HS2:Hid (JcU w2 w.heap.size line col):=Ja9 HS1.out hb2;have HB3:Hid (Bw w (w2.alloc (Oc #[I6 (C1 B),I6 (C2 B),I6 (C3 B),I6 (C4 B)] 78))):=HB2.out.alloc HB2.out.size _;have HS3:Hid (JcU (w2.alloc (Oc #[I6 (C1 B),I6 (C2 B),I6 (C3 B),I6 (C4 B)] 78)) w.heap.size line col):=Ja9 HS2.out (zA _ _);clear hb2)
  | (go_at_call 119;refine(cI.out _).mono ?_;rintro e w4 ⟨rfl,hb4⟩;have HB4:=hdz (HB3.out.trans (hb4.mono HB3.out.size));have HS4:Hid (JcU w4 w.heap.size line col):=Ja9 HS3.out hb4;clear hb4))
 have hb4:=HB4.out;have hs4:=HS4.out;generalize w2.heap.size=BB at *;clear HB0 HS0 HB1 HS1 HB2 HS2 HB3 HS3 HB4 HS4 cU cL p0 p1 p2 p3;refine Ja4 15 15 (by kernel_rfl) rfl ?_;intro w6 hb6;obtain⟨G,hG⟩:=Jas w6;have hb46:=hb4.trans (hb6.mono hb4.size);have hs6:=Ja9 hs4 hb6;obtain⟨⟨x0,x1⟩,_⟩:=hs6;have gx0:=hG.cell x0;have gx1:=hG.cell x1;have cG:=λx=>cE.out (G x) (hb46.trans ((hG.below x).mono hb46.size));clear x0 x1
 (refine Jaa hG (i:=0) rfl (by kernel_rfl) (by kernel_rfl) (by kernel_rfl) (λK hK=>?_);go_simp;refine hK _ ?_;clear hK K)
 (refine Jaa hG (i:=1) rfl (by kernel_rfl) (by kernel_rfl) (by kernel_rfl) (λK hK=>?_);go_simp;refine hK _ ?_;clear hK K)
 (refine Jaa hG (i:=2) rfl (by kernel_rfl) (by kernel_rfl) (by kernel_rfl) (λK hK=>?_);go_simp;refine hK _ ?_;clear hK K)
 (refine Jaa hG (i:=3) rfl (by kernel_rfl) (by kernel_rfl) (by kernel_rfl) (λK hK=>?_);go_simp;refine hK _ ?_;clear hK K)
 (refine Jaa hG (i:=4) rfl (by kernel_rfl) (by kernel_rfl) (by kernel_rfl) (λK hK=>?_);go_simp;refine hK _ ?_;clear hK K)
 (refine Jaa hG (i:=5) rfl (by kernel_rfl) (by kernel_rfl) (by kernel_rfl) (λK hK=>?_);go_simp;refine hK _ ?_;clear hK K)
 (refine Jaa hG (i:=6) rfl (by kernel_rfl) (by kernel_rfl) (by kernel_rfl) (λK hK=>?_);go_simp;refine hK _ ?_;clear hK K)
 (refine Jaa hG (i:=7) rfl (by kernel_rfl) (by kernel_rfl) (by kernel_rfl) (λK hK=>?_);go_simp;refine hK _ ?_;clear hK K)
 (refine Jaa hG (i:=8) rfl (by kernel_rfl) (by kernel_rfl) (by kernel_rfl) (λK hK=>?_);go_simp;refine hK _ ?_;clear hK K)
 (refine Jaa hG (i:=9) rfl (by kernel_rfl) (by kernel_rfl) (by kernel_rfl) (λK hK=>?_);go_simp;refine hK _ ?_;clear hK K)
 (refine Jaa hG (i:=10) rfl (by kernel_rfl) (by kernel_rfl) (by kernel_rfl) (λK hK=>?_);go_simp;apply Exists.intro;refine⟨λ_=>?_,hK _ ?_⟩;exact cG _;clear hK K)
 (refine Jaa hG (i:=11) rfl (by kernel_rfl) (by kernel_rfl) (by kernel_rfl) (λK hK=>?_);go_simp;refine hK _ ?_;clear hK K)
 (refine Jaa hG (i:=12) rfl (by kernel_rfl) (by kernel_rfl) (by kernel_rfl) (λK hK=>?_);go_simp;refine hK _ ?_;clear hK K)
 (refine Jaa hG (i:=13) rfl (by kernel_rfl) (by kernel_rfl) (by kernel_rfl) (λK hK=>?_);go_simp;refine hK _ ?_;clear hK K)
 (refine Jaa hG (i:=14) rfl (by kernel_rfl) (by kernel_rfl) (by kernel_rfl) (λK hK=>?_);go_simp;refine hK _ ?_;clear hK K)
 clear gx0 gx1 cG hG;refine Jbi (by kernel_rfl) ?_;intro w7 hb7;have hb67:=hb6.trans (hb7.mono hb6.size);have HB7:Hid (Bw w w7):=hb4.trans (hb67.mono hb4.size);have HS7:Hid (JcU w7 w.heap.size line col):=Ja9 hs4 hb67;clear hb6 hb7 hb67 hb46 hb4 hs4;obtain⟨⟨k0,k1⟩,k2,k3⟩:=HS7.out
 go_wp2_with (first
  | (go_at_call 117;refine(cA.out _ HB7.out).mono ?_;rintro e w8 ⟨rfl,hb8⟩;have HB8:=hdz (HB7.out.trans (hb8.mono HB7.out.size));have HB9:Hid (Bw w (w8.alloc (Oc #[I6 (C1 X),I6 (C2 X),I6 (C3 X),I6 (C4 X)] 78))):=HB8.out.alloc HB8.out.size _;clear hb8)
  | (go_at_call 119;refine(cX.out _).mono ?_;rintro e w9 ⟨rfl,hb9⟩;have HB10:=hdz (HB9.out.trans (hb9.mono HB9.out.size));clear hb9))
 go_ret2
 exact⟨rfl,HB10.out⟩
end
theorem Jn2(f:List Nat->Bool):∀(rs pre:List Nat),∃k,find f pre rs=pre++rs.take k
 | [],pre=>⟨0,by unfold find;split<;>simp[seek]⟩
 | r :: rs,pre=>by
  by_cases h:f pre=true
  . exact⟨0,by unfold find;rw[if_pos h];simp⟩
  . obtain ⟨k,hk⟩:=Jn2 f rs (pre++[r])
    refine⟨k+1,?_⟩;have e:find f pre (r :: rs)=find f (pre++[r]) rs:=by
     unfold find;rw[if_neg h,seek]
     split
     . rfl
     . simp
    rw[e,hk];simp
theorem JeO(f:List Nat->Bool)(rs:List Nat)(hz:C1 rs<=100000000):C1 (find f [] rs)<=100000000:=by
 obtain⟨k,hk⟩:=Jn2 f rs [];rw[hk,List.nil_append];have:=Jpx rs k;omega
def Jbt (u line:Int) (rs:List Nat):Int:=by_ u (find (Ja3 line) [] rs)
def endL (u line:Int) (rs:List Nat):Int:=if C4 rs<line+1 then by_ u rs else by_ u (find (Ja3 (line+1)) [] rs) - 1
def Jne (u line col:Int) (rs:List Nat):Value :=
 if ¬(u=1\/u=2\/u=3) then .tuple #[I6 0,errV 1]
 else if line<0\/C4 rs<line then .tuple #[I6 0,errV 2]
 else if col<0\/endL u line rs - Jbt u line rs<col then .tuple #[I6 0,errV 2]
 else if Jbt u line rs+col<0\/by_ u rs<Jbt u line rs+col then .tuple #[I6 0,errV 2]
 else if by_ u (upTo rs u (Jbt u line rs+col))=Jbt u line rs+col then .tuple #[I6 (by_ u (upTo rs u (Jbt u line rs+col))),.nilIface]
 else .tuple #[I6 0,errV 10]
theorem JrP{a:Int}(h0: -1000000000<=a)(h1:a<=1000000000):IntKind.i64.wrap a=a:=by
 unfold IntKind.wrap;simp[IntKind.bits,IntKind.signed];omega
theorem JsC(b:Nat)(rs:List Nat)(u line col:Int)(w:World)(hT:Lib.Utf8Tabs 3 4 w)(h:Jc5 w b rs)(hz:C1 rs<=100000000) :
    Cg 75 #[Pd b 0,I6 u,.agg #[I6 line,I6 col]] w (Rt w (Jne u line col rs)):=by
 unfold Jne;have tT:=λ(wx:World) (hb:Bw w wx)=>Go.Proofs.Utf8Tabs_below hT hb;have tR:=λ(wx:World) (hb:Bw w wx)=>Jb4 h hb
 by_cases hu:(u=1\/u=2\/u=3)
 . rw [if_neg (not_not_intro hu)]
   have cU:Hid _:=λ(wx:World) (hb:Bw w wx)=>JjU b rs u hu wx (tT wx hb) (tR wx hb) hz;have cL:=λ(wx:World) (hb:Bw w wx)=>Ji5 b rs line wx (tT wx hb) (tR wx hb) hz;unfold Jre at cL
   by_cases hl:line<0\/C4 rs<line
   . rw[if_pos hl]
     exact JqU b u line col 2 w cU λwx hb=>by have:=cL wx hb;rw[if_pos hl]at this;exact this
   . rw [if_neg hl]
     have cL2:Hid _:=λ(wx:World) (hb:Bw w wx)=>by have:=cL wx hb;rw[if_neg hl]at this;exact this
     have cI:Hid _:=λ(wx:World)=>JdH u (find (Ja3 line) [] rs) wx;have s0:=JeO (Ja3 line) rs hz;have s1:=JnQ u (find (Ja3 line) [] rs);have s2:=Jdd u (find (Ja3 line) [] rs);have s3:=JeO (Ja3 (line+1)) rs hz;have s4:=JnQ u (find (Ja3 (line+1)) [] rs);have s5:=Jdd u (find (Ja3 (line+1)) [] rs);have s6:=JnQ u rs;have s7:=Jdd u rs
     have cE:Hid (∀wx,Bw w wx->Cg 122 #[Pd b 0,I6 u,I6 line] wx (Rt wx (I6 (endL u line rs)))):=λwx hb=>by
      unfold endL
      by_cases he:C4 rs<line+1
      . rw[if_pos he]
        exact Jnp b rs u line (by omega) (by omega) he wx (tT wx hb) (tR wx hb) hz
      . rw[if_neg he]
        exact Jno b rs _ u line (by omega) (by omega) wx (tT wx hb) (tR wx hb) hz rfl (by omega)
     have eb: -1<=endL u line rs/\endL u line rs<=200000000:=by
      unfold endL
      split<;>omega
     have bb:0<=Jbt u line rs/\Jbt u line rs<=200000000:=by
      unfold Jbt;omega
     have hw:=JrP (a:=endL u line rs - Jbt u line rs) (by omega) (by omega)
     by_cases hc:col<0
     . rw[if_pos (Or.inl hc)]
       exact JsA b _ u line col _ hc w cU cL2 cI
     . by_cases hf:endL u line rs - Jbt u line rs<col
       . rw[if_pos (Or.inr hf)]
         exact JsB b _ u line col (Jbt u line rs) _ (by omega) hw hf w cU cL2 cI cE
       . rw [if_neg (by omega)]
         have hw2:=JrP (a:=Jbt u line rs+col) (by omega) (by omega);have cA:=λ(wx:World) (hb:Bw w wx)=>JnZ b rs u (Jbt u line rs+col) hu wx (tT wx hb) (tR wx hb) hz;unfold Jqo at cA
         by_cases hr:Jbt u line rs+col<0\/by_ u rs<Jbt u line rs+col
         . rw [if_pos hr]
           exact Jh7 b _ [] u line col (Jbt u line rs) _ 0 (errV 2) (by omega) hw (by omega) hw2 w cU cL2 cI cE
            (λwx hb=>by have:=cA wx hb;rw[if_pos hr]at this;exact this) (λwx=>by have:=JdH u [] wx;rw[JjC]at this;exact this)
         . rw [if_neg hr]
           by_cases hf2:by_ u (find (JaY u (Jbt u line rs+col)) [] rs)=Jbt u line rs+col
           . have hf3:by_ u (upTo rs u (Jbt u line rs+col))=Jbt u line rs+col:=hf2
             rw[if_pos hf3]
             exact Jh7 b _ _ u line col (Jbt u line rs) _ _ .nilIface (by omega) hw (by omega) hw2 w cU cL2 cI cE
              (λwx hb=>by have:=cA wx hb;rw[if_neg hr,if_pos hf2]at this;exact this) (λwx=>JdH u _ wx)
           . have hf3:¬by_ u (upTo rs u (Jbt u line rs+col))=Jbt u line rs+col:=hf2
             rw[if_neg hf3]
             exact Jh7 b _ [] u line col (Jbt u line rs) _ 0 (errV 10) (by omega) hw (by omega) hw2 w cU cL2 cI cE
              (λwx hb=>by have:=cA wx hb;rw[if_neg hr,if_neg hf2]at this;exact this) (λwx=>by have:=JdH u [] wx;rw[JjC]at this;exact this)
 . rw[if_pos hu]
   exact JqT b u line col 1 w λwx hb=>Jl2 b u hu wx
end Go.Proofs.YtbkeomcicobohaaGreatDoor
