/-
  A part of the texts that the proof uses.
-/
import Derived.Test.YtedgnlgjmnccgabGreatDoorPartG
import Derived.Test.YtedgnlgjmnccgabGreatDoorPartB
import Derived.Test.YtedgnlgjmnccgabGreatDoorPartA
import Derived.Deep.RegionWith
import Derived.Deep.QuietTactic
import Derived.BigQuiet
import Derived.Test.YtedgnlgjmnccgabGreatDoorPartC
import Derived.Laws.EntriesVeiled
import Derived.Deep.LoopGhost
import Derived.Test.YtedgnlgjmnccgabGreatDoorPartF
import Derived.Deep.Cut
import Derived.Shelf.Strings.Builder1
import Derived.Shelf.Strings.Builder2
import Derived.Shelf.Small.Utf8
import Derived.Shelf.Strings.BuilderF
import Derived.Shelf.Strings.BuilderK
import Derived.Shelf.Utf8.AppendRunePlain
import Derived.Shelf.Utf8.RuneCount
import Derived.Shelf.Strings.Builder2Cap
import Derived.Shelf.LaysM
import Derived.Shelf.Strconv.Clone
import Derived.Shelf.Strings.Search1
import Derived.Shelf.Strings.Search2
import Derived.Shelf.Strings.Search3
import Derived.Shelf.Strings.Cut
import Derived.Shelf.Strings.Count
import Derived.Shelf.Strings.Shaped
import Derived.Shelf.Strings.RuneCount
import Derived.Shelf.Unicode.DecodeSlow
import Derived.Shelf.Unicode.DecodeAny
import Derived.Shelf.Strings.BuilderCap
import Derived.Test.YtedgnlgjmnccgabGreatDoorProg
import Derived.Laws.OwnMore
import Derived.Lib.SliceRun
set_option maxRecDepth 100000
set_option maxHeartbeats 40000000
set_option linter.unusedVariables false
namespace Go.Proofs.YtedgnlgjmnccgabGreatDoor
section
open Go.RowKit Go.Maps
attribute [local go_sem] Oper.semAt_some
theorem JoB{lo n:Nat}{w:World}{b bm:Nat}{t:List UInt8}{E:List SE}{M:Told}(h:Jcc lo n w b bm t E M){l0:Int}(hok:okS l0 t E)(k:Nat)(hk:k<=E.length)(hn:E.length<=1000) :
    Calls Tryz.prog 44 #[.pointer (some ⟨b,0,none⟩),.int .i64 (k:Int)] w fun e w'=>∃v',e=.returned (.tuple #[v',.nilIface])/\Jcz 105 lo w.heap.size w' v' (E.drop k)/\Below w.heap.size w w':=by
 have CR:Hid _:=Jit lo n w b bm t E M h;have CD:Hid _:=Jhm lo n w b bm t E M h;obtain⟨hlo,_,⟨v1,h3,h4⟩,_⟩:=h;obtain⟨p,c1,rfl⟩:=Jb6 h4;have x1:w.cell? ⟨b,1,none⟩=some (.slice p E.length c1):=chp h3 1;have HX1:Hid (w.cell? ⟨b,1,none⟩=some (.slice p E.length c1)):=x1;have HE:Hid (Jj4 lo w (if c1=k then p else Option.map (fun x=>x.add (k*3)) p) (E.length - k) (c1 - k) (E.drop k)):=Jk7 (JgU h4) hk;have HLO:Hid (lo<=w.heap.size):=Nat.le_of_lt (Nat.lt_of_le_of_lt hlo (alt h3));have hc1:=(JgU h4).2.1;have HOK:Hid (∀x∈E.drop k,(∀q∈x.op,q.put.length<=10000000)/\x.op.length<=10000000):=fun x hx=>by
  obtain⟨j,hj,rfl⟩:=List.getElem_of_mem (List.mem_of_mem_drop hx);obtain⟨t1,t2,t3,t4,t5⟩:=JgX E l0 j hj hok.chain hok.top;have hb1:endE l0 (E.take j)+Jan E[j].op<1000000:=by omega
  exact⟨fun q hq=>by have:=JdH q _ hq;omega,Nat.le_of_lt (t2.fine hb1).len⟩
 have hdl:(E.drop k).length=E.length - k:=List.length_drop;generalize hF:E.drop k=F at *;have h0:¬(k:Int)<0:=by omega
 have h1:¬(E.length:Int)<(k:Int):=by omega
 have h2:(k:Int)<=(E.length:Int):=by omega
 have HN:Hid (E.length - k=F.length):=hdl.symm;have HNN:Hid (F.length<=1000):=by rw[hdl];exact Nat.le_trans (Nat.sub_le _ _) hn
 obtain⟨i0,hi,hq0,hq1,hq2⟩:=info_parts Jh8;have HI:=hdz hi;have HQ0:=hdz hq0;have HQ1:=hdz hq1;have HQ2:=hdz hq2;clear hi hq0 hq1 hq2;clear h3 h4 hok hdl hlo x1;have hFL:=HN.out;have hni:(F.length:Int)<=1000:=by have:=HNN.out;omega
 by_cases hck:c1=k
 . rw [if_pos hck, hck,Nat.sub_self,hFL]at HE
   rw[hck]at HX1
   go_enter Tryz.func44,Tryz.ntmps44
   go_wp2_with (first
    | (go_at_call 41;refine Calls.mono CR.out ?_;rintro e w1 ⟨hw,rfl⟩;obtain rfl:=hw.symm)
    | (go_at_call 115;refine Calls.mono CD.out ?_;rintro e w1 ⟨hw,v1',rfl,hcc,_⟩;obtain rfl:=hw.symm;rw[HX1.out]at hcc;obtain rfl:=(osi hcc).symm;clear hcc)
    | fail)
   all_goals
    go_loopw [6,23] (fun v6 i wr=>∃j:Nat,i=.int .i64 j/\j<=F.length/\Jcz 105 lo w.heap.size wr v6 (F.take j)/\Below w.heap.size w wr) (fun _ i _=>F.length - (intOf i).toNat)
    case atStart=>exact⟨0,rfl,Nat.zero_le _,Jh2 _ _ _ _,brf _ _⟩
    case round =>
     obtain⟨j,rfl,hj,hown,hbw⟩:=hrel;obtain⟨p6,c6,rfl⟩:=Jb6 hown;have hjl:(F.take j).length=j:=by rw[List.length_take];omega
     rw[hjl];have HOW:Hid (Jcz 105 lo w.heap.size wr (.slice p6 j c6) (F.take j)):=by
      have:=hown;rw[hjl]at this;exact this
     have HBW:=hdz hbw;have hws:=hbw.size;have HWS:Hid (w.heap.size<=wr.heap.size):=hws;have HJL:Hid ((F.take j).length=j):=hjl;have hjle:=hown
     by_cases hlt:j<F.length
     . have hne : F≠[]:=by intro e;rw[e]at hlt;exact absurd hlt (Nat.not_lt_zero _)
       have hcell0:=HE.out.2.2.2;obtain⟨g,o,ePP,hg,hcell⟩:=hcell0 hne;clear hcell0;subst ePP;obtain⟨ve,f0,f1,f2,f3⟩:=hcell j F[j] (lgg hlt);have g0:=(HBW.out.cell (p:=⟨g,o+j*3,none⟩) hg).trans f0;have g1:=(HBW.out.cell (p:=⟨g,o+j*3+1,none⟩) hg).trans f1;have g2:=(HBW.out.cell (p:=⟨g,o+j*3+2,none⟩) hg).trans f2;have HX:Hid (opAt wr ve F[j].op):=Ja6 f3.1 HBW.out (nlr _);have HTK:Hid (F.take (j+1)=F.take j++[F[j]]):=List.take_succ_eq_append_getElem hlt;have HPL:Hid _:=HOK.out F[j] (List.getElem_mem hlt);have hki:(j:Int)<(F.length:Int):=by omega
       have hsh:∃p c,ve=.slice p F[j].op.length c:=by obtain⟨p,c,e,_⟩:=HX.out;exact⟨p,c,e⟩
       obtain⟨pe,ce,rfl⟩:=hsh;clear hcell f0 f1 f2 f3 hne hown hbw hjle;generalize F[j]=x at *;obtain⟨xc,xi,xo⟩:=x;simp only at g0 g1 g2 HX HPL;obtain⟨xn,hxn⟩:∃m,xo.length=m:=⟨_,rfl⟩;rw[hxn]at g2 HX;have HXN:Hid (xo.length=xn):=hxn
       have CO:Hid (∀wx,Below wr.heap.size wr wx->Calls Tryz.prog 116 #[.slice pe xn ce] wx fun e w'=>∃p' c',e=.returned (.slice p' xn c')/\opX lo w' (.slice p' xn c') xo/\Below wx.heap.size wx w'):=fun wx hb =>
        (JlL _ xo wx (Ja6 HX.out hb (nlr _)) HPL.out.1 HPL.out.2).mono fun e w' ⟨v',e1,ho,hb'⟩=>by
          obtain⟨p',c',rfl⟩:=Jad ho;rw[HXN.out]at e1 ho;exact⟨p',c',e1,JlO (by rw[HXN.out];exact ho),hb'⟩
       obtain⟨β,hβ⟩:∃β,wr.heap.size=β:=⟨_,rfl⟩;have HBT:Hid (wr.heap.size=β):=hβ;clear hxn hjl hFL hck HN HOK
       go_wp2_with (first
        | (go_at_call 116;refine(CO.out _ ((brf _ _).alloc (nlr _) _)).mono ?_;rintro e w2 ⟨p',c',rfl,hx2,hb2⟩;have hbox:w2.heap[β]?=some (.cells #[.int .i64 xc,.int .i64 xi,.slice pe xn ce] 105 (0,0)):=(hb2.block β (by rw[wsa,HBT.out];omega)).trans (by have:=heap_alloc_new wr (.cells #[.int .i64 xc,.int .i64 xi,.slice pe xn ce] 105);rwa[HBT.out]at this);have y0:w2.cell? ⟨β,0,none⟩=some (.int .i64 xc):=chp hbox 0;have y1:w2.cell? ⟨β,1,none⟩=some (.int .i64 xi):=chp hbox 1;have y2:w2.cell? ⟨β,2,none⟩=some (.slice pe xn ce):=chp hbox 2;have xf:w2.frozen? ⟨β,2,none⟩=false:=Jak hbox;have HB2:Hid (Below w.heap.size w w2):=(HBW.out.alloc HWS.out _).trans (hb2.mono (by rw[wsa];have:=HWS.out;omega));have hs2:β+1<=w2.heap.size:=by have:=hb2.size;rw[wsa,HBT.out]at this;exact this
           have HS2:Hid (β+1<=w2.heap.size):=hs2;have HLW:Hid (lo<=β):=by have:=HLO.out;have:=HWS.out;have:=HBT.out;show lo<=β;omega
           have hlg2:Jcz 105 lo w.heap.size w2 (.slice p6 j c6) (F.take j):=Jck (Jck HOW.out ((brf _ _).alloc (nlr _) _)) hb2;have hnp:Jc8 w2 β:=JaA hbox (by decide);have hset:sameBut w2 (w2.setCell ⟨β,2,none⟩ (.slice p' xn c')) (fun k=>k=β):=Jau rfl
           have hlg3:∃vs,vs.length=(F.take j).length/\((w2.setCell ⟨β,2,none⟩ (.slice p' xn c')).alloc (.cells #[.int .i64 xc,.int .i64 xi,.slice p' xn c'] 105)).ownsRow w.heap.size 105 3 (.slice p6 j c6) j (logC (F.take j) vs)/\∀w6 v2,w6.ownsRow w.heap.size 105 3 v2 (j+1) (logC (F.take j) vs++[.int .i64 xc,.int .i64 xi,.slice p' xn c'])->((w2.setCell ⟨β,2,none⟩ (.slice p' xn c')).alloc (.cells #[.int .i64 xc,.int .i64 xi,.slice p' xn c'] 105)).grownBy w6 (Value.slice p6 j c6).ownBlock->Jcz 105 lo w.heap.size w6 v2 (F.take j++[⟨xc,xi,xo⟩]):=by
            obtain⟨vs,q1,q2,q3⟩:=hlg2;have hbw3:Below (w2.setCell ⟨β,2,none⟩ (.slice p' xn c')).heap.size (w2.setCell ⟨β,2,none⟩ (.slice p' xn c')) ((w2.setCell ⟨β,2,none⟩ (.slice p' xn c')).alloc (.cells #[.int .i64 xc,.int .i64 xi,.slice p' xn c'] 105)):=(brf _ _).alloc (nlr _) _;have hmv:∀{v q},opX lo w2 v q->opX lo ((w2.setCell ⟨β,2,none⟩ (.slice p' xn c')).alloc (.cells #[.int .i64 xc,.int .i64 xi,.slice p' xn c'] 105)) v q:=fun hx=>Ja5 (Jht hx hset fun k hk=>by obtain rfl:=hk;exact⟨HLW.out,hnp⟩) hbw3
            have hnb:∀k,(Value.slice p6 j c6).ownBlock=some k->k<β:=fun k hk=>by
             have:=(Jfn HOW.out hk).2.1;have:=HBT.out;omega
            have q2':=Jaj (Jjz q2 hnb (.slice p' xn c')) hbw3;rw[HJL.out]at q2';refine⟨vs,q1,q2',fun w6 v2 hn6 hg6=>?_⟩;refine Jgg (x:=⟨xc,xi,xo⟩) (by decide) HLO.out q1 (by rw[HJL.out];exact q2') (fun i y v hy hv=>hmv (q3 i y v hy hv)) (hmv hx2) hg6 ?_
            rw[HJL.out];exact hn6
           obtain⟨vs,m1,m2,m3⟩:=hlg3;have M2:=hdz m2;have M3:=hdz m3
           clear hb2 hbox hlg2 hnp hset m2 m3 hx2)
        | (at_builtin;refine wpList_append_own _ rfl _ _ 87 rfl w.heap.size 105 i0 (.agg #[.int .i64 0,.int .i64 0,.slice none 0 0]) 3 40 Tryz.underlying87 HI.out HQ0.out HQ1.out HQ2.out rfl (by decide) _ _ _ rfl M2.out ⟨w2.heap.size,0,none⟩ 1 1 [.int .i64 xc,.int .i64 xi,.slice p' xn c'] rfl rfl (JdZ _ _ (by first | rfl | simp) _ _) (JhB _ _ _ _ _) (by have:=HNN.out;unfold maxLen;omega) (by have:=HNN.out;omega) (by have:=HB2.out.size;simp;omega) ?_)
        | fail)
       all_goals
        intro v2 w6 hown' hg' _;obtain⟨p7,c7,rfl⟩:=Jad hown';have HO3:Hid (Jcz 105 lo w.heap.size w6 (.slice p7 (j+1) c7) (F.take (j+1))):=by
         rw[HTK.out];exact M3.out w6 _ hown' hg'
        have HB3:Hid (Below w.heap.size w w6):=((HB2.out.setCell (p:=⟨β,2,none⟩) (by show w.heap.size<=β;have:=HWS.out;have:=HBT.out;omega) _).alloc (by rw[World.size_setCell];exact HB2.out.size) _).grown hg' (by simp;have:=HB2.out.size;omega) fun k hk=>(Jfn HOW.out hk).1
        clear hown' hg' y0 y1 y2 xf g0 g1 g2;go_wp2;exact⟨⟨j+1,by go_num,by omega,HO3.out,HB3.out⟩,by simp[intOf];omega⟩
     . obtain rfl:j=F.length:=by omega
       have hki:¬((F.length:Int)<(F.length:Int)):=by omega
       have HTK:Hid (F.take F.length=F):=List.take_length;clear hown hbw hjle;go_wp2
       go_ret2
       have:=HOW.out;rw[HTK.out]at this;exact⟨_,rfl,this,HBW.out⟩
 . rw [if_neg hck, hFL]at HE
   go_enter Tryz.func44,Tryz.ntmps44
   go_wp2_with (first
    | (go_at_call 41;refine Calls.mono CR.out ?_;rintro e w1 ⟨hw,rfl⟩;obtain rfl:=hw.symm)
    | (go_at_call 115;refine Calls.mono CD.out ?_;rintro e w1 ⟨hw,v1',rfl,hcc,_⟩;obtain rfl:=hw.symm;rw[HX1.out]at hcc;obtain rfl:=(osi hcc).symm;clear hcc)
    | fail)
   all_goals
    generalize Option.map (fun x=>x.add (k*3)) p=P at *
    go_loopw [6,23] (fun v6 i wr=>∃j:Nat,i=.int .i64 j/\j<=F.length/\Jcz 105 lo w.heap.size wr v6 (F.take j)/\Below w.heap.size w wr) (fun _ i _=>F.length - (intOf i).toNat)
    case atStart=>exact⟨0,rfl,Nat.zero_le _,Jh2 _ _ _ _,brf _ _⟩
    case round =>
     obtain⟨j,rfl,hj,hown,hbw⟩:=hrel;obtain⟨p6,c6,rfl⟩:=Jb6 hown;have hjl:(F.take j).length=j:=by rw[List.length_take];omega
     rw[hjl];have HOW:Hid (Jcz 105 lo w.heap.size wr (.slice p6 j c6) (F.take j)):=by
      have:=hown;rw[hjl]at this;exact this
     have HBW:=hdz hbw;have hws:=hbw.size;have HWS:Hid (w.heap.size<=wr.heap.size):=hws;have HJL:Hid ((F.take j).length=j):=hjl;have hjle:=hown
     by_cases hlt:j<F.length
     . have hne : F≠[]:=by intro e;rw[e]at hlt;exact absurd hlt (Nat.not_lt_zero _)
       have hcell0:=HE.out.2.2.2;obtain⟨g,o,ePP,hg,hcell⟩:=hcell0 hne;clear hcell0;subst ePP;obtain⟨ve,f0,f1,f2,f3⟩:=hcell j F[j] (lgg hlt);have g0:=(HBW.out.cell (p:=⟨g,o+j*3,none⟩) hg).trans f0;have g1:=(HBW.out.cell (p:=⟨g,o+j*3+1,none⟩) hg).trans f1;have g2:=(HBW.out.cell (p:=⟨g,o+j*3+2,none⟩) hg).trans f2;have HX:Hid (opAt wr ve F[j].op):=Ja6 f3.1 HBW.out (nlr _);have HTK:Hid (F.take (j+1)=F.take j++[F[j]]):=List.take_succ_eq_append_getElem hlt;have HPL:Hid _:=HOK.out F[j] (List.getElem_mem hlt);have hki:(j:Int)<(F.length:Int):=by omega
       have hsh:∃p c,ve=.slice p F[j].op.length c:=by obtain⟨p,c,e,_⟩:=HX.out;exact⟨p,c,e⟩
       obtain⟨pe,ce,rfl⟩:=hsh;clear hcell f0 f1 f2 f3 hne hown hbw hjle;generalize F[j]=x at *;obtain⟨xc,xi,xo⟩:=x;simp only at g0 g1 g2 HX HPL;obtain⟨xn,hxn⟩:∃m,xo.length=m:=⟨_,rfl⟩;rw[hxn]at g2 HX;have HXN:Hid (xo.length=xn):=hxn
       have CO:Hid (∀wx,Below wr.heap.size wr wx->Calls Tryz.prog 116 #[.slice pe xn ce] wx fun e w'=>∃p' c',e=.returned (.slice p' xn c')/\opX lo w' (.slice p' xn c') xo/\Below wx.heap.size wx w'):=fun wx hb =>
        (JlL _ xo wx (Ja6 HX.out hb (nlr _)) HPL.out.1 HPL.out.2).mono fun e w' ⟨v',e1,ho,hb'⟩=>by
          obtain⟨p',c',rfl⟩:=Jad ho;rw[HXN.out]at e1 ho;exact⟨p',c',e1,JlO (by rw[HXN.out];exact ho),hb'⟩
       obtain⟨β,hβ⟩:∃β,wr.heap.size=β:=⟨_,rfl⟩;have HBT:Hid (wr.heap.size=β):=hβ;clear hxn hjl hFL hck HN HOK
       go_wp2_with (first
        | (go_at_call 116;refine(CO.out _ ((brf _ _).alloc (nlr _) _)).mono ?_;rintro e w2 ⟨p',c',rfl,hx2,hb2⟩;have hbox:w2.heap[β]?=some (.cells #[.int .i64 xc,.int .i64 xi,.slice pe xn ce] 105 (0,0)):=(hb2.block β (by rw[wsa,HBT.out];omega)).trans (by have:=heap_alloc_new wr (.cells #[.int .i64 xc,.int .i64 xi,.slice pe xn ce] 105);rwa[HBT.out]at this);have y0:w2.cell? ⟨β,0,none⟩=some (.int .i64 xc):=chp hbox 0;have y1:w2.cell? ⟨β,1,none⟩=some (.int .i64 xi):=chp hbox 1;have y2:w2.cell? ⟨β,2,none⟩=some (.slice pe xn ce):=chp hbox 2;have xf:w2.frozen? ⟨β,2,none⟩=false:=Jak hbox;have HB2:Hid (Below w.heap.size w w2):=(HBW.out.alloc HWS.out _).trans (hb2.mono (by rw[wsa];have:=HWS.out;omega));have hs2:β+1<=w2.heap.size:=by have:=hb2.size;rw[wsa,HBT.out]at this;exact this
           have HS2:Hid (β+1<=w2.heap.size):=hs2;have HLW:Hid (lo<=β):=by have:=HLO.out;have:=HWS.out;have:=HBT.out;show lo<=β;omega
           have hlg2:Jcz 105 lo w.heap.size w2 (.slice p6 j c6) (F.take j):=Jck (Jck HOW.out ((brf _ _).alloc (nlr _) _)) hb2;have hnp:Jc8 w2 β:=JaA hbox (by decide);have hset:sameBut w2 (w2.setCell ⟨β,2,none⟩ (.slice p' xn c')) (fun k=>k=β):=Jau rfl
           have hlg3:∃vs,vs.length=(F.take j).length/\((w2.setCell ⟨β,2,none⟩ (.slice p' xn c')).alloc (.cells #[.int .i64 xc,.int .i64 xi,.slice p' xn c'] 105)).ownsRow w.heap.size 105 3 (.slice p6 j c6) j (logC (F.take j) vs)/\∀w6 v2,w6.ownsRow w.heap.size 105 3 v2 (j+1) (logC (F.take j) vs++[.int .i64 xc,.int .i64 xi,.slice p' xn c'])->((w2.setCell ⟨β,2,none⟩ (.slice p' xn c')).alloc (.cells #[.int .i64 xc,.int .i64 xi,.slice p' xn c'] 105)).grownBy w6 (Value.slice p6 j c6).ownBlock->Jcz 105 lo w.heap.size w6 v2 (F.take j++[⟨xc,xi,xo⟩]):=by
            obtain⟨vs,q1,q2,q3⟩:=hlg2;have hbw3:Below (w2.setCell ⟨β,2,none⟩ (.slice p' xn c')).heap.size (w2.setCell ⟨β,2,none⟩ (.slice p' xn c')) ((w2.setCell ⟨β,2,none⟩ (.slice p' xn c')).alloc (.cells #[.int .i64 xc,.int .i64 xi,.slice p' xn c'] 105)):=(brf _ _).alloc (nlr _) _;have hmv:∀{v q},opX lo w2 v q->opX lo ((w2.setCell ⟨β,2,none⟩ (.slice p' xn c')).alloc (.cells #[.int .i64 xc,.int .i64 xi,.slice p' xn c'] 105)) v q:=fun hx=>Ja5 (Jht hx hset fun k hk=>by obtain rfl:=hk;exact⟨HLW.out,hnp⟩) hbw3
            have hnb:∀k,(Value.slice p6 j c6).ownBlock=some k->k<β:=fun k hk=>by
             have:=(Jfn HOW.out hk).2.1;have:=HBT.out;omega
            have q2':=Jaj (Jjz q2 hnb (.slice p' xn c')) hbw3;rw[HJL.out]at q2';refine⟨vs,q1,q2',fun w6 v2 hn6 hg6=>?_⟩;refine Jgg (x:=⟨xc,xi,xo⟩) (by decide) HLO.out q1 (by rw[HJL.out];exact q2') (fun i y v hy hv=>hmv (q3 i y v hy hv)) (hmv hx2) hg6 ?_
            rw[HJL.out];exact hn6
           obtain⟨vs,m1,m2,m3⟩:=hlg3;have M2:=hdz m2;have M3:=hdz m3
           clear hb2 hbox hlg2 hnp hset m2 m3 hx2)
        | (at_builtin;refine wpList_append_own _ rfl _ _ 87 rfl w.heap.size 105 i0 (.agg #[.int .i64 0,.int .i64 0,.slice none 0 0]) 3 40 Tryz.underlying87 HI.out HQ0.out HQ1.out HQ2.out rfl (by decide) _ _ _ rfl M2.out ⟨w2.heap.size,0,none⟩ 1 1 [.int .i64 xc,.int .i64 xi,.slice p' xn c'] rfl rfl (JdZ _ _ (by first | rfl | simp) _ _) (JhB _ _ _ _ _) (by have:=HNN.out;unfold maxLen;omega) (by have:=HNN.out;omega) (by have:=HB2.out.size;simp;omega) ?_)
        | fail)
       all_goals
        intro v2 w6 hown' hg' _;obtain⟨p7,c7,rfl⟩:=Jad hown';have HO3:Hid (Jcz 105 lo w.heap.size w6 (.slice p7 (j+1) c7) (F.take (j+1))):=by
         rw[HTK.out];exact M3.out w6 _ hown' hg'
        have HB3:Hid (Below w.heap.size w w6):=((HB2.out.setCell (p:=⟨β,2,none⟩) (by show w.heap.size<=β;have:=HWS.out;have:=HBT.out;omega) _).alloc (by rw[World.size_setCell];exact HB2.out.size) _).grown hg' (by simp;have:=HB2.out.size;omega) fun k hk=>(Jfn HOW.out hk).1
        clear hown' hg' y0 y1 y2 xf g0 g1 g2;go_wp2;exact⟨⟨j+1,by go_num,by omega,HO3.out,HB3.out⟩,by simp[intOf];omega⟩
     . obtain rfl:j=F.length:=by omega
       have hki:¬((F.length:Int)<(F.length:Int)):=by omega
       have HTK:Hid (F.take F.length=F):=List.take_length;clear hown hbw hjle;go_wp2
       go_ret2
       have:=HOW.out;rw[HTK.out]at this;exact⟨_,rfl,this,HBW.out⟩
structure okD (l0:Int) (t:List UInt8) (E:List SE) (D:List (List UInt8)):Prop where
 len:D.length=E.length+1
 at_:∀k,k<=E.length->∃d,D[k]?=some d/\(d.length:Int)=endE l0 (E.take k)
 last:D[E.length]?=some t
def doD (l0:Int) (t:List UInt8) (E:List SE) (D:List (List UInt8)) (rev:Int) (ps:List Pt):List (List UInt8):=if doE l0 t E rev ps=0 then D++[Jab (JaK ps (E.drop rev.toNat)) t] else D
theorem JqC{l0:Int}{t:List UInt8}{E:List SE}{D:List (List UInt8)}(h:okS l0 t E)(hD:okD l0 t E D){ps:List Pt}{c i rev:Int}(hp:Jan ps<=40000):okS l0 (doT l0 t E rev ps) (doL l0 t E c i rev ps)/\okD l0 (doT l0 t E rev ps) (doL l0 t E c i rev ps) (doD l0 t E D rev ps):=by
 unfold doT doL doD
 by_cases hd:doE l0 t E rev ps=0
 . rw [if_pos hd,if_pos hd,if_pos hd]
   have hn:=do_next (c:=c) (i:=i) h hp hd;refine⟨hn,⟨by simp[hD.len],fun k hk=>?_,?_⟩⟩
   . rw [List.length_append,List.length_singleton]at hk
     rcases Nat.lt_or_ge k (E.length+1) with hlt|hge
     . obtain⟨d,h1,h2⟩:=hD.at_ k (by omega)
       refine⟨d,by rw[List.getElem?_append_left (by rw[hD.len];exact hlt)];exact h1,?_⟩;rw[List.take_append_of_le_length (by omega)];exact h2
     . obtain rfl:k=E.length+1:=by omega
       refine⟨_,by rw[List.getElem?_append_right (by rw[hD.len];exact nlr _),hD.len,Nat.sub_self];rfl,?_⟩;have e:(E++[(⟨c,i,JaK ps (E.drop rev.toNat)⟩:SE)]).take (E.length+1)=E++[⟨c,i,JaK ps (E.drop rev.toNat)⟩]:=List.take_of_length_le (by simp);rw[e];exact hn.last.symm
   . rw[List.length_append,List.length_singleton,List.getElem?_append_right (by rw[hD.len];exact nlr _),hD.len,Nat.sub_self]
     rfl
 . rw[if_neg hd,if_neg hd,if_neg hd]
   exact⟨h,hD⟩
theorem Jno(t:TypeId)(w:World):(Instr.makeMap t none).run Tryz.prog w=.ok (.map (some w.heap.size)) (w.alloc (.map #[] 0)):=rfl
attribute [local go_sem] Jno
theorem Je0(s:List UInt8)(hs:s.length<=1000000)(hsc:(scan s).2=true)(w:World)(hT:Lib.Utf8Tabs 2 3 w):Calls Tryz.prog 78 #[.string ⟨s.toArray⟩] w fun e w'=>∃n1 n2 n3 n4,e=.returned (.tuple #[.agg #[.int .i64 n1,.int .i64 n2,.int .i64 n3,.int .i64 n4],.nilIface])/\Below w.heap.size w w' :=
 (JcK ⟨s.toArray⟩ (by simp[ByteArray.size];omega) w hT).mono fun e w' ⟨v,x,h1,h2,h3⟩=>by
   have e0:(ByteArray.mk s.toArray).data.toList=s:=rfl;rw[e0]at h3
   rcases h3 with ⟨_,rfl,rfl⟩|⟨h4,_⟩
   . exact⟨_,_,_,_,h1,h2⟩
   . rw[hsc]at h4;cases h4
theorem Jlw(lo:Nat)(s:List UInt8)(hz:s.length<=2000)(hsc:(scan s).2=true)(w:World)(hlo:lo<=w.heap.size)(hT:Lib.Utf8Tabs 2 3 w):Calls Tryz.prog 36 #[.string ⟨s.toArray⟩] w fun e w'=>∃b bm,e=.returned (.tuple #[.pointer (some ⟨b,0,none⟩),.nilIface])/\Jcc lo 0 w' b bm s [] (fun _=>none)/\bm<w'.heap.size/\Below w.heap.size w w':=by
 have cC:Hid _:=Je0 s (by omega) hsc w hT;have CL:Hid (∀wx,Calls Tryz.prog 112 #[.string ⟨s.toArray⟩] wx fun e w'=>e=.returned (.string ⟨s.toArray⟩)/\Below wx.heap.size wx w'):=fun wx=>JeV s (by omega) wx
 have hz1:(ByteArray.mk s.toArray).size=s.length:=by simp[ByteArray.size]
 have hz2:¬(2000:Int)<(s.length:Int):=by omega
 have HLO:Hid (lo<=w.heap.size):=hlo;clear hT hsc hz hlo
 go_enter Tryz.func36,Tryz.ntmps36
 go_wp2_with (first
  | (go_at_call 78;refine Calls.mono cC.out ?_;rintro e w1 ⟨n1,n2,n3,n4,rfl,hb1⟩;have HB1:=hdz hb1;clear hb1)
  | (go_at_call 112;refine(CL.out _).mono ?_;rintro e w2 ⟨rfl,hb2⟩;have HB2:Hid (Below w.heap.size w w2):=(HB1.out.alloc HB1.out.size _).trans (hb2.mono (by rw[wsa];have:=HB1.out.size;omega));clear hb2)
  | fail)
 go_ret2
 have hs2:=HB2.out.size;have hl2:=HLO.out;have hA:Below (w2.alloc (.map #[] 0)).heap.size (w2.alloc (.map #[] 0)) ((w2.alloc (.map #[] 0)).alloc (.cells #[.string ⟨s.toArray⟩,.slice none 0 0,.map (some w2.heap.size)] 196)):=(brf _ _).alloc (nlr _) _;have hnew:=heap_alloc_new (w2.alloc (.map #[] 0)) (.cells #[.string ⟨s.toArray⟩,.slice none 0 0,.map (some w2.heap.size)] 196);rw[wsa]at hnew;exact⟨w2.heap.size+1,w2.heap.size,rfl,⟨by omega,by omega,⟨_,hnew,Jh2 _ _ _ _⟩,JcR (S:=fun _=>False) (JlY w2) (Jaf hA _) id⟩,by simp;omega,(HB2.out.alloc HB2.out.size _).alloc (by rw[wsa];omega) _⟩
end
section
open Go.RowKit Go.Maps
variable {n bm lo b : Nat}{w : World}{M : Told}{t : List UInt8}{E : List SE}{l0 : Int}{D : List (List UInt8)}
abbrev Jge (M:Told) (c i:Int):Prop:=i<=(got M c).1
def stE (l0:Int) (t:List UInt8) (E:List SE) (M:Told) (c i rev:Int) (ps:List Pt):Int:=if Jge M c i then (if i<(got M c).1 then 8 else (got M c).2) else doE l0 t E rev ps
def stT (l0:Int) (t:List UInt8) (E:List SE) (M:Told) (c i rev:Int) (ps:List Pt):List UInt8:=if Jge M c i then t else doT l0 t E rev ps
def stL (l0:Int) (t:List UInt8) (E:List SE) (M:Told) (c i rev:Int) (ps:List Pt):List SE:=if Jge M c i then E else doL l0 t E c i rev ps
def stM (l0:Int) (t:List UInt8) (E:List SE) (M:Told) (c i rev:Int) (ps:List Pt):Told:=if Jge M c i then M else upd M c (i,doE l0 t E rev ps)
def stD (l0:Int) (t:List UInt8) (E:List SE) (D:List (List UInt8)) (M:Told) (c i rev:Int) (ps:List Pt):List (List UInt8):=if Jge M c i then D else doD l0 t E D rev ps
theorem JlX(h:JdV n w bm M):JdV (n+1) w bm M:=by
 obtain⟨D,⟨es,clock,hb,F,hn,hD⟩,h2⟩:=h;exact⟨D,⟨es,clock,hb,F,by omega,hD⟩,h2⟩
theorem JnB(h:Jcc lo n w b bm t E M):Jcc lo (n+1) w b bm t E M:=⟨h.1,h.2.1,h.2.2.1,JlX h.2.2.2⟩
theorem Jlv(h:Jcc lo n w b bm t E M){l0:Int}(hk:okS l0 t E)(c i rev:Int)(hc:rng c)(v:Value)(ps:List Pt)(hg:JcM w)(hG:0<lo)(hT:Lib.Utf8Tabs 2 3 w)(hr:opAt w v ps)(hwf:∀p∈ps,wfP p)(hl:ps.length<=1000000)(hpu:Jan ps<=40000)(hn:E.length<=300)(hnn:n<1000000000) :
    Calls Tryz.prog 38 #[.pointer (some ⟨b,0,none⟩),.int .i64 c,.int .i64 i,.int .i64 rev,v] w fun e w'=>e=.returned (errV (stE l0 t E M c i rev ps))/\Jcc lo (n+1) w' b bm (stT l0 t E M c i rev ps) (stL l0 t E M c i rev ps) (stM l0 t E M c i rev ps)/\sameBut w w' (Jdf lo w bm):=by
 unfold stE stT stL stM
 by_cases ho:Jge M c i
 . rw[if_pos ho,if_pos ho,if_pos ho,if_pos ho]
   refine(Jlt h c i rev hc v ho).mono ?_
   rintro e w' ⟨rfl,hb⟩;exact⟨rfl,JnB (JbO h hb),Jaf hb _⟩
 . rw[if_neg ho,if_neg ho,if_neg ho,if_neg ho]
   exact Jlu h hk c i rev hc v ps hg hG hT hr hwf hl hpu hn hnn (by unfold Jge at ho;omega)
theorem st_next(h:okS l0 t E)(hD:okD l0 t E D){M:Told}{ps:List Pt}{c i rev:Int}(hp:Jan ps<=40000):okS l0 (stT l0 t E M c i rev ps) (stL l0 t E M c i rev ps)/\okD l0 (stT l0 t E M c i rev ps) (stL l0 t E M c i rev ps) (stD l0 t E D M c i rev ps)/\(stL l0 t E M c i rev ps).length<=E.length+1:=by
 unfold stT stL stD
 by_cases ho:Jge M c i
 . rw[if_pos ho,if_pos ho,if_pos ho]
   exact⟨h,hD,Nat.le_succ _⟩
 . rw[if_neg ho,if_neg ho,if_neg ho]
   obtain⟨k1,k2⟩:=JqC (c:=c) (i:=i) (rev:=rev) h hD hp;refine⟨k1,k2,?_⟩;unfold doL
   split
   . simp
   . omega
structure Both (lo n:Nat) (w:World) (bx bmx by_ bmy:Nat) (l0:Int) (t:List UInt8) (E:List SE) (D:List (List UInt8)) (M:Told):Prop where
 srv:Jcc lo n w bx bmx t E M
 ref:isRef lo n w by_ bmy D E M
 apart:bmx≠bmy
 ok:okS l0 t E
 docs:okD l0 t E D
 few:E.length<=n
theorem Both.below{w':World}{bx bmx by_ bmy:Nat}(h:Both lo n w bx bmx by_ bmy l0 t E D M)(hb:Below w.heap.size w w'):Both lo n w' bx bmx by_ bmy l0 t E D M :=
 ⟨JbO h.srv hb,JlU h.ref hb,h.apart,h.ok,h.docs,h.few⟩
end
section
variable {E : List SE}{D D' : List (List UInt8)}{n n' l0 : Int}{q : Int × Cl}
structure Pk where
 kind:Int
 c:Nat
 rev:Int
 id:Int
 x:SE
structure Rm where
 t:List UInt8
 E:List SE
 M:Told
 n:Nat
 cl:List (Int×Cl)
 fl:List Pk
 lost:Nat
def noSE:SE:=⟨0,0,[]⟩
def noCl:Int×Cl:=(1,⟨[],[],0,0,0,[]⟩)
def clK (R:Rm) (k:Nat):Int×Cl:=(R.cl[k]?).getD noCl
def setC (R:Rm) (k:Nat) (S:Cl):Rm:={ R with cl:=R.cl.set k ((clK R k).1,S) }
def Jb5 (R:Rm) (p:Pk):Rm:=if 400<=R.fl.length then { R with lost:=R.lost+1 } else { R with fl:=R.fl++[p] }
def Jdy (k:Nat):Int->List SE->Rm->Rm
 | _,[],R=>R
 | f,x :: xs,R=>Jdy k (f+1) xs (Jb5 R ⟨3,k,f,0,x⟩)
def Jci (R:Rm) (k:Nat) (f:Int):Rm:=if f<0\/(R.E.length:Int)<f then R else Jdy k f (R.E.drop f.toNat) R
def srvR (l0:Int) (R:Rm) (p:Pk):Rm :=
 { R with t:=stT l0 R.t R.E R.M p.c p.id p.rev p.x.op,E:=stL l0 R.t R.E R.M p.c p.id p.rev p.x.op,M:=stM l0 R.t R.E R.M p.c p.id p.rev p.x.op,n:=R.n+1 }
def srvE (l0:Int) (R:Rm) (p:Pk):Int:=stE l0 R.t R.E R.M p.c p.id p.rev p.x.op
def Jd1 (p:Pk):Pk:=⟨4,p.c,0,p.id,noSE⟩
def askR (l0:Int) (R:Rm) (p:Pk):Rm :=
 if srvE l0 R p≠0/\srvE l0 R p≠8 then Jb5 (Jci (srvR l0 R p) p.c p.rev) (Jd1 p) else Jci (srvR l0 R p) p.c p.rev
def Jce (l0:Int) (R:Rm) (p:Pk):Rm :=
 if p.kind=1 then askR l0 R p else if p.kind=2 then Jci R p.c p.rev
 else if p.kind=3 then setC R p.c (tkS p.c (clK R p.c).2 p.rev p.x.c p.x.i p.x.op)
 else if p.kind=4 then setC R p.c (rfS (clK R p.c).2 p.id) else R
def askP (R:Rm) (k:Nat):Pk :=
 if (clK R k).2.mine=[] then ⟨2,k,(clK R k).2.rev,0,noSE⟩ else ⟨1,k,(clK R k).2.rev,(clK R k).2.id,⟨k,(clK R k).2.id,JbB (clK R k).2⟩⟩
def Jde (R:Rm) (k:Nat):Rm:=Jb5 R (askP R k)
def JkF (R:Rm) (k:Nat) (q:List Pt):Rm:=setC R k (edS (clK R k).1 (clK R k).2 q)
def outR (R:Rm) (i:Nat):Rm:={ R with fl:=R.fl.eraseIdx i }
def Jcd (l0:Int) (R:Rm) (i:Nat):Rm:=match R.fl[i]? with
 | some p=>Jce l0 (outR R i) p
 | none=>R
def JcC (l0:Int):Nat->Rm->Rm
 | 0,R=>R
 | n+1,R=>match R.fl with
  | []=>R
  | p :: fl=>JcC l0 n (Jce l0 { R with fl:=fl } p)
def wP (p:Pk):Nat:=if p.kind=1\/p.kind=2 then 400 else 1
def Ja1 (fl:List Pk):Nat:=(fl.map wP).sum
def Jbj (l0:Int) (R:Rm):Rm:=JcC l0 (Ja1 R.fl) R
def JcL (l0:Int):Nat->Nat->Rm->Rm
 | 0,_,R=>R
 | n+1,k,R=>JcL l0 n (k+1) (Jbj l0 (Jde R k))
def Jc7 (l0:Int) (R:Rm):Rm:=JcL l0 R.cl.length 0 (Jbj l0 R)
def potR (R:Rm):Nat:=R.n+R.lost+Ja1 R.fl
/-! what is kept -/
structure okCl (n:Int) (D:List (List UInt8)) (q:Int×Cl):Prop where
 unit:Ja3 q.1
 ok:okK 2000 q.2
 rev:0<=q.2.rev
 seen:D[q.2.rev.toNat]?=some q.2.seen
 id:0<=q.2.id/\q.2.id+(if 2<=q.2.mine.length then 1 else 0)<=n
 dr:0<=q.2.drops/\q.2.drops+(if q.2.mine=[] then 0 else 1)<=q.2.id
structure okPk (E:List SE) (D:List (List UInt8)) (m:Nat) (p:Pk):Prop where
 c:p.c<m
 kind:p.kind=1\/p.kind=2\/p.kind=3\/p.kind=4
 rev:0<=p.rev/\p.rev<=(E.length:Int)
 ask:p.kind=1->p.x.c=(p.c:Int)/\p.x.i=p.id/\∃d,D[p.rev.toNat]?=some d/\good p.x.op d/\Jan p.x.op<=2000
 told:p.kind=3->E[p.rev.toNat]?=some p.x
structure Lk (E:List SE) (D:List (List UInt8)):Prop where
 len:D.length=E.length+1
 link:∀(i:Nat) (x:SE) (d:List UInt8),E[i]?=some x->D[i]?=some d->good x.op d/\D[i+1]?=some (Jab x.op d)
 fair:∀d∈D,V d/\d.length<=2000
structure Inv (l0 n:Int) (D:List (List UInt8)) (R:Rm):Prop where
 srv:okS l0 R.t R.E
 docs:okD l0 R.t R.E D
 lk:Lk R.E D
 few:R.E.length<=300
 cls:∀(k:Nat) (q:Int×Cl),R.cl[k]?=some q->okCl n D q
 pks:∀p∈R.fl,okPk R.E D R.cl.length p
 room:R.fl.length<=400
theorem Lk.at_(h:Lk E D){i:Nat}(hi:i<=E.length):∃d,D[i]?=some d/\V d/\d.length<=2000:=by
 have:i<D.length:=by have:=h.len;omega
 exact⟨D[i],lgg this,h.fair _ (List.getElem_mem this)⟩
theorem Lk.puts(h:Lk E D){i:Nat}{x:SE}(hx:E[i]?=some x):Jan x.op<=2000:=by
 have hi:i<E.length:=(llt hx);obtain⟨d,hd,_,_⟩:=h.at_ (Nat.le_of_lt hi);obtain⟨g,h1⟩:=h.link i x d hx hd;have h2:=h.fair _ (List.mem_of_getElem? h1);have:=JlA g;omega
theorem Lk.turn{E:List SE}{D:List (List UInt8)}(h:Lk E D){op:List Pt}:∀(j i:Nat)(d:List UInt8)(op:List Pt),D[i]?=some d->good op d->i+j<=E.length->∃d',D[i+j]?=some d'/\good (JaK op ((E.drop i).take j)) d'
 | 0,i,d,op,hd,hg,_=>⟨d,hd,by simpa[JaK] using hg⟩
 | j+1,i,d,op,hd,hg,hl=>by
  have hi:i<E.length:=by omega
  have hx:E[i]?=some E[i]:=lgg hi;obtain⟨g,h1⟩:=h.link i _ d hx hd;have g2:=(Jdo false hg g).1;obtain⟨d',e1,e2⟩:=h.turn (op:=op) j (i+1) _ _ h1 g2 (by omega);refine⟨d',by rw[←e1];congr 1;omega,?_⟩;have e:(E.drop i).take (j+1)=E[i] :: (E.drop (i+1)).take j:=by rw[List.drop_eq_getElem_cons hi,List.take_succ_cons]
  rw[e];exact e2
theorem okPk.more{E':List SE}{m:Nat}{p:Pk}(h:okPk E D m p)(hE:∀(i:Nat)(x:SE),E[i]?=some x->E'[i]?=some x)(hl:E.length<=E'.length)(hD:∀(i:Nat)(d:List UInt8),D[i]?=some d->D'[i]?=some d):okPk E' D' m p :=
 ⟨h.c,h.kind,⟨h.rev.1,by have:=h.rev.2;omega⟩,fun hk=>by
  obtain⟨a,b,d,h1,h2⟩:=h.ask hk;exact⟨a,b,d,hD _ _ h1,h2⟩,fun hk=>hE _ _ (h.told hk)⟩
theorem okCl.more(h:okCl n D q)(hn:n<=n')(hD:∀(i:Nat)(d:List UInt8),D[i]?=some d->D'[i]?=some d):okCl n' D' q :=
 ⟨h.unit,h.ok,h.rev,hD _ _ h.seen,⟨h.id.1,Int.le_trans h.id.2 hn⟩,h.dr⟩
theorem Inv.more{l0 n n':Int}{D:List (List UInt8)}{R:Rm}(h:Inv l0 n D R)(hn:n<=n'):Inv l0 n' D R :=
 ⟨h.srv,h.docs,h.lk,h.few,fun k q hq=>(h.cls k q hq).more hn fun _ _ h=>h,h.pks,h.room⟩
theorem Inv.clk{R:Rm}(h:Inv l0 n D R){k:Nat}(hk:k<R.cl.length):R.cl[k]?=some (clK R k)/\okCl n D (clK R k):=by
 have e:R.cl[k]?=some (clK R k):=by unfold clK;rw[lgg hk];rfl
 exact⟨e,h.cls k _ e⟩
theorem okCl.revle(h:okCl n D q)(hl:Lk E D):q.2.rev<=(E.length:Int):=by
 have h1:=(llt h.seen);have:=hl.len;have:=h.rev;omega
theorem okCl.small(h:okCl n D q)(hl:Lk E D):q.2.seen.length<=2000:=(hl.fair _ (List.mem_of_getElem? h.seen)).2
/-! one client is turned -/
theorem Inv.setK{R:Rm}(h:Inv l0 n D R)(hn:n<=n'){k:Nat}{S:Cl}(hS:okCl n' D ((clK R k).1,S)):Inv l0 n' D (setC R k S):=by
 refine⟨h.srv,h.docs,h.lk,h.few,fun j q hq=>?_,fun p hp=>?_,h.room⟩
 . have hq:(R.cl.set k ((clK R k).1,S))[j]?=some q:=hq
   rw[List.getElem?_set]at hq
   split at hq
   . split at hq
     . obtain rfl:=osi hq;exact hS
     . cases hq
   . exact(h.cls j q hq).more hn fun _ _ h=>h
 . have:(R.cl.set k ((clK R k).1,S)).length=R.cl.length:=List.length_set
   have h1:=h.pks p hp;show okPk R.E D (R.cl.set k ((clK R k).1,S)).length p;rw[this];exact h1
theorem Jpm(h:okCl n D q)(p:List Pt):okCl (n+1) D (q.1,edS q.1 q.2 p):=by
 have hk:=JqB h.unit h.ok p;have h2:=h.id;have h3:=h.dr;have h4:=h.ok.two;refine⟨h.unit,hk,?_,?_,?_,?_⟩
 . show 0<=(edS q.1 q.2 p).rev
   unfold edS;split<;>exact h.rev
 . show D[(edS q.1 q.2 p).rev.toNat]?=some (edS q.1 q.2 p).seen
   unfold edS;split<;>exact h.seen
 . show 0<=(edS q.1 q.2 p).id/\(edS q.1 q.2 p).id+(if 2<=(edS q.1 q.2 p).mine.length then 1 else 0)<=n+1
   unfold edS
   split
   . simp only
     rcases hm:q.2.mine with _|⟨m,_|⟨m2,ms⟩⟩
     . rw[hm]at h2;simp[addM]at h2 ⊢;omega
     . rw[hm]at h2;simp[addM]at h2 ⊢;omega
     . rw[hm]at h2;simp[addM]at h2 ⊢;omega
   . exact⟨h2.1,by omega⟩
 . show 0<=(edS q.1 q.2 p).drops/\(edS q.1 q.2 p).drops+(if (edS q.1 q.2 p).mine=[] then 0 else 1)<=(edS q.1 q.2 p).id
   unfold edS
   split
   . simp only
     rcases hm:q.2.mine with _|⟨m,_|⟨m2,ms⟩⟩
     . rw[hm]at h3;simp[addM]at h3 ⊢;omega
     . rw[hm]at h3;simp[addM]at h3 ⊢;omega
     . rw[hm]at h3;simp[addM]at h3 ⊢;omega
   . exact h3
theorem JlQ(h:okCl n D q)(i:Int):okCl n D (q.1,rfS q.2 i):=by
 have hk:=Jn9 h.ok i;have h2:=h.id;have h3:=h.dr;refine⟨h.unit,hk,?_,?_,?_,?_⟩
 . show 0<=(rfS q.2 i).rev
   unfold rfS;split<;>exact h.rev
 . show D[(rfS q.2 i).rev.toNat]?=some (rfS q.2 i).seen
   unfold rfS;split<;>exact h.seen
 . show 0<=(rfS q.2 i).id/\(rfS q.2 i).id+(if 2<=(rfS q.2 i).mine.length then 1 else 0)<=n
   unfold rfS
   split
   . refine⟨h2.1,?_⟩
     simp only[List.length_nil]
     split at h2<;>simp<;>omega
   . exact h2
 . show 0<=(rfS q.2 i).drops/\(rfS q.2 i).drops+(if (rfS q.2 i).mine=[] then 0 else 1)<=(rfS q.2 i).id
   unfold rfS
   split
   . rename_i hm
     rw[if_neg hm.1]at h3;simp only[if_true];omega
   . exact h3
theorem Jpl(h:okCl n D q)(hl:Lk E D)(who:Int){rev:Int}{x:SE}(hx:E[rev.toNat]?=some x):okCl n D (q.1,tkS who q.2 rev x.c x.i x.op):=by
 have hsm:=h.small hl;have hpu:=hl.puts hx;have hk:=JqA (who:=who) h.ok rev x.c x.i x.op (by omega);have h2:=h.id;have h3:=h.dr;have h4:=h.ok.two
 by_cases hn:rev≠q.2.rev\/tkE who q.2 rev x.c x.i x.op≠0
 . have e:tkS who q.2 rev x.c x.i x.op=q.2:=if_pos hn
   rw[e];exact h
 obtain⟨e1,_,_⟩:=tk_no hn;subst e1;obtain⟨g,hd⟩:=hl.link _ _ _ hx h.seen;have hr1:(q.2.rev+1).toNat=q.2.rev.toNat+1:=by have:=h.rev;omega
 have hr0:=h.rev
 by_cases ho:JkA who q.2 x.c x.i
 . have e:tkS who q.2 q.2.rev x.c x.i x.op = { q.2 with seen:=Jab x.op q.2.seen,rev:=q.2.rev+1,mine:=q.2.mine.tail,id:=if q.2.mine.tail≠[] then q.2.id+1 else q.2.id }:=by unfold tkS;rw[if_neg hn,if_pos ho]
   rw[e]at hk ⊢;refine⟨h.unit,hk,?_,?_,?_,?_⟩
   . show 0<=q.2.rev+1
     omega
   . show D[(q.2.rev+1).toNat]?=some (Jab x.op q.2.seen)
     rw[hr1];exact hd
   . simp only
     rcases hm:q.2.mine with _|⟨m,_|⟨m2,_|⟨m3,ms⟩⟩⟩
     . exact absurd hm ho.1
     . rw[hm]at h2;simp at h2 ⊢;omega
     . rw[hm]at h2;simp at h2 ⊢;omega
     . rw[hm]at h4;simp at h4
   . simp only
     rcases hm:q.2.mine with _|⟨m,_|⟨m2,_|⟨m3,ms⟩⟩⟩
     . exact absurd hm ho.1
     . rw[hm]at h3;simp at h3 ⊢;omega
     . rw[hm]at h3;simp at h3 ⊢;omega
     . rw[hm]at h4;simp at h4
 . have e:tkS who q.2 q.2.rev x.c x.i x.op = { q.2 with seen:=Jab x.op q.2.seen,rev:=q.2.rev+1,mine:=(Jbk q.2.mine x.op).1,doc:=Jab (Jbk q.2.mine x.op).2 q.2.doc }:=by unfold tkS;rw[if_neg hn,if_neg ho]
   rw[e]at hk ⊢;have hml:=JdQ q.2.mine x.op;refine⟨h.unit,hk,?_,?_,?_,?_⟩
   . show 0<=q.2.rev+1
     omega
   . show D[(q.2.rev+1).toNat]?=some (Jab x.op q.2.seen)
     rw[hr1];exact hd
   . show 0<=q.2.id/\q.2.id+(if 2<=(Jbk q.2.mine x.op).1.length then 1 else 0)<=n
     rw[hml];exact h2
   . show 0<=q.2.drops/\q.2.drops+(if (Jbk q.2.mine x.op).1=[] then 0 else 1)<=q.2.id
     have:((Jbk q.2.mine x.op).1=[])↔(q.2.mine=[]):=by
      rw[←List.length_eq_zero_iff,←List.length_eq_zero_iff,hml]
     simp only[this];exact h3
/-! packets -/
theorem Inv.send{R:Rm}(h:Inv l0 n D R){p:Pk}(hp:okPk R.E D R.cl.length p):Inv l0 n D (Jb5 R p):=by
 unfold Jb5
 split
 . exact⟨h.srv,h.docs,h.lk,h.few,h.cls,h.pks,h.room⟩
 . refine ⟨h.srv,h.docs,h.lk,h.few,h.cls,fun x hx=>?_,?_⟩
   . rcases List.mem_append.1 hx with hx|hx
     . exact h.pks x hx
     . rw[List.mem_singleton.1 hx];exact hp
   . show(R.fl++[p]).length<=400
     rw[List.length_append,List.length_singleton];omega
theorem Jct(R:Rm)(p:Pk):(Jb5 R p).t=R.t/\(Jb5 R p).E=R.E/\(Jb5 R p).M=R.M/\(Jb5 R p).n=R.n/\(Jb5 R p).cl=R.cl:=by
 unfold Jb5;split<;>exact⟨rfl,rfl,rfl,rfl,rfl⟩
theorem Jhe(k:Nat):∀(xs:List SE)(f:Int)(R:Rm),(Jdy k f xs R).t=R.t/\(Jdy k f xs R).E=R.E/\(Jdy k f xs R).M=R.M/\(Jdy k f xs R).n=R.n/\(Jdy k f xs R).cl=R.cl
 | [],_,_=>⟨rfl,rfl,rfl,rfl,rfl⟩
 | x :: xs,f,R=>by
  obtain⟨a,b,c,d,e⟩:=Jhe k xs (f+1) (Jb5 R ⟨3,k,f,0,x⟩);obtain⟨a',b',c',d',e'⟩:=Jct R ⟨3,k,f,0,x⟩;exact⟨a.trans a',b.trans b',c.trans c',d.trans d',e.trans e'⟩
theorem Jdx(R:Rm)(k:Nat)(f:Int):(Jci R k f).t=R.t/\(Jci R k f).E=R.E/\(Jci R k f).M=R.M/\(Jci R k f).n=R.n/\(Jci R k f).cl=R.cl:=by
 unfold Jci
 split
 . exact⟨rfl,rfl,rfl,rfl,rfl⟩
 . exact Jhe k _ _ _
theorem Inv.tellM{l0 n:Int}{D:List (List UInt8)}{k:Nat}:∀(xs:List SE)(f:Nat)(R:Rm),Inv l0 n D R->k<R.cl.length->R.E.drop f=xs->Inv l0 n D (Jdy k (f:Int) xs R)
 | [],_,_,h,_,_=>h
 | x :: xs,f,R,h,hk,hd=>by
  have hf:f<R.E.length:=by
   rcases Nat.lt_or_ge f R.E.length with h|h
   . exact h
   . rw[List.drop_eq_nil_of_le h]at hd;cases hd
  have hx:R.E[f]?=some x:=by
   rw[List.drop_eq_getElem_cons hf]at hd;injection hd with h1 h2
   rw[lgg hf,h1]
  have hr:R.E.drop (f+1)=xs:=by
   rw[List.drop_eq_getElem_cons hf]at hd;injection hd with h1 h2
  obtain⟨_,b',_,_,e'⟩:=Jct R ⟨3,k,f,0,x⟩;have h1:Inv l0 n D (Jb5 R ⟨3,k,f,0,x⟩):=h.send ⟨hk,.inr (.inr (.inl rfl)),⟨Int.natCast_nonneg _,by show(f:Int)<=_;omega⟩,fun e=>(by cases e),fun _=>hx⟩;have:=Inv.tellM xs (f+1) _ h1 (by rw[e'];exact hk) (by rw[b'];exact hr);rw[show(((f+1:Nat):Int))=(f:Int)+1 by omega]at this;exact this
theorem Inv.tellK{R:Rm}(h:Inv l0 n D R){k:Nat}(hk:k<R.cl.length)(f:Int):Inv l0 n D (Jci R k f):=by
 unfold Jci
 split
 . exact h
 . rename_i hf
   obtain⟨m,rfl⟩:∃m:Nat,f=(m:Int):=⟨f.toNat,by omega⟩;rw[Int.toNat_natCast];exact Inv.tellM _ m R h hk rfl
theorem Inv.out{R:Rm}(h:Inv l0 n D R)(i:Nat):Inv l0 n D (outR R i) :=
 ⟨h.srv,h.docs,h.lk,h.few,h.cls,fun p hp=>h.pks p (List.mem_of_mem_eraseIdx hp),Nat.le_trans (List.length_eraseIdx_le _ _) h.room⟩
theorem Inv.srvK{R:Rm}(h:Inv l0 n D R){p:Pk}(hp:okPk R.E D R.cl.length p)(hk:p.kind=1) :
    ∃D',Inv l0 n D' (srvR l0 R p)/\(∀(i:Nat) (d:List UInt8),D[i]?=some d->D'[i]?=some d)/\(∀(i:Nat) (x:SE),R.E[i]?=some x->(srvR l0 R p).E[i]?=some x)/\((srvR l0 R p).E=R.E/\(srvR l0 R p).t=R.t/\D'=D\/(srvR l0 R p).E.length=R.E.length+1/\D'=D++[(srvR l0 R p).t]):=by
 obtain⟨hc,hi,d,hd,hg,hpu⟩:=hp.ask hk;have hp4:Jan p.x.op<=40000:=by omega
 obtain⟨n1,n2,n3⟩:=st_next (c:=p.c) (i:=p.id) (rev:=p.rev) (M:=R.M) h.srv h.docs hp4;have hE:(srvR l0 R p).E=stL l0 R.t R.E R.M p.c p.id p.rev p.x.op:=rfl;have ht:(srvR l0 R p).t=stT l0 R.t R.E R.M p.c p.id p.rev p.x.op:=rfl
 by_cases hsame:Jge R.M p.c p.id\/doE l0 R.t R.E p.rev p.x.op≠0
 . have e1:stL l0 R.t R.E R.M p.c p.id p.rev p.x.op=R.E:=by
     unfold stL
     by_cases ho:Jge R.M p.c p.id
     . rw[if_pos ho]
     . rw[if_neg ho];unfold doL;rw[if_neg (hsame.resolve_left ho)]
   have e2:stT l0 R.t R.E R.M p.c p.id p.rev p.x.op=R.t:=by
    unfold stT
    by_cases ho:Jge R.M p.c p.id
    . rw[if_pos ho]
    . rw[if_neg ho];unfold doT;rw[if_neg (hsame.resolve_left ho)]
   refine⟨D,⟨?_,?_,?_,?_,h.cls,fun x hx=>?_,h.room⟩,fun _ _ h=>h,fun i x hx=>by rw[hE,e1];exact hx,.inl ⟨by rw[hE,e1],by rw[ht,e2],rfl⟩⟩
   . rw[hE,ht,e1,e2];exact h.srv
   . rw[hE,ht,e1,e2];exact h.docs
   . rw[hE,e1];exact h.lk
   . rw[hE,e1];exact h.few
   . rw[hE,e1];exact h.pks x hx
 . have ho:¬Jge R.M p.c p.id:=fun e=>hsame (.inl e)
   have hz:doE l0 R.t R.E p.rev p.x.op=0:=by
    by_cases e:doE l0 R.t R.E p.rev p.x.op=0
    . exact e
    . exact absurd (.inr e) hsame
   have e1:stL l0 R.t R.E R.M p.c p.id p.rev p.x.op=R.E++[⟨p.c,p.id,JaK p.x.op (R.E.drop p.rev.toNat)⟩]:=by
    unfold stL;rw[if_neg ho];unfold doL;rw[if_pos hz]
   have e2:stT l0 R.t R.E R.M p.c p.id p.rev p.x.op=Jab (JaK p.x.op (R.E.drop p.rev.toNat)) R.t:=by
    unfold stT;rw[if_neg ho];unfold doT;rw[if_pos hz]
   have e3:stD l0 R.t R.E D R.M p.c p.id p.rev p.x.op=D++[Jab (JaK p.x.op (R.E.drop p.rev.toNat)) R.t]:=by
    unfold stD;rw[if_neg ho];unfold doD;rw[if_pos hz]
   have hf:R.E.length<300:=by
    unfold doE at hz
    split at hz
    . cases hz
    split at hz
    . cases hz
    . omega
   have hord:ordE (JaK p.x.op (R.E.drop p.rev.toNat)) R.t=0:=by
    unfold doE at hz
    split at hz
    . cases hz
    split at hz
    . cases hz
    split at hz
    . rename_i h1;exact absurd hz h1
    split at hz
    . rename_i h1;exact absurd hz h1
    . rename_i h1;simpa using h1
   have hgt:=Jcl h.srv.text hord;generalize hop:JaK p.x.op (R.E.drop p.rev.toNat)=op' at *;have hlen:=h.lk.len;have hlast:=h.docs.last;have hDm:∀(i:Nat) (d:List UInt8),D[i]?=some d->(D++[Jab op' R.t])[i]?=some d:=fun i d hd=>by
    have:=(llt hd);rw[List.getElem?_append_left this];exact hd
   have hEm:∀(i:Nat) (x:SE),R.E[i]?=some x->(R.E++[(⟨p.c,p.id,op'⟩:SE)])[i]?=some x:=fun i x hx=>by
    have:=(llt hx);rw[List.getElem?_append_left this];exact hx
   have hroom:=n1.room;rw[e2]at hroom
   have hlk:Lk (R.E++[⟨p.c,p.id,op'⟩]) (D++[Jab op' R.t]):=by
    refine⟨by simp[hlen],fun i x d hx hd=>?_,fun d hd=>?_⟩
    . rcases Nat.lt_or_ge i R.E.length with hi | hi
      . rw[List.getElem?_append_left hi]at hx
        rw[List.getElem?_append_left (by omega)]at hd;obtain⟨g,h1⟩:=h.lk.link i x d hx hd;exact⟨g,hDm _ _ h1⟩
      . have:i<(R.E++[(⟨p.c,p.id,op'⟩:SE)]).length:=(llt hx)
        have hie:i=R.E.length:=by simp at this;omega
        subst hie;rw[List.getElem?_append_right (nlr _),Nat.sub_self]at hx;obtain rfl:(⟨p.c,p.id,op'⟩:SE)=x:=by simpa using hx
        rw[List.getElem?_append_left (by omega),hlast]at hd;obtain rfl:=osi hd;refine⟨hgt,?_⟩;rw[←hlen,List.getElem?_append_right (nlr _),Nat.sub_self];rfl
    . rcases List.mem_append.1 hd with hd | hd
      . exact h.lk.fair d hd
      . rw[List.mem_singleton.1 hd]
        exact⟨Jgs hgt.al,hroom⟩
   refine⟨D++[Jab op' R.t],⟨n1,?_,?_,?_,fun k q hq=>(h.cls k q hq).more (Int.le_refl _) hDm,fun x hx=>?_,h.room⟩,hDm,fun i x hx=>by rw[hE,e1];exact hEm i x hx,.inr ⟨by rw[hE,e1];simp,by rw[ht,e2]⟩⟩
   . rw[←e3];exact n2
   . rw[hE,e1];exact hlk
   . rw[hE,e1];simp;omega
   . rw[hE,e1];exact(h.pks x hx).more hEm (by simp) hDm
end
section
open Go.RowKit Go.Maps
variable {lo b : Nat}{w w' : World}{v : Value}{ms : List (List Pt)}{who u : Int}{S : Cl}
def Jc9 (lo:Nat) (w:World) (v:Value) (ms:List (List Pt)):Prop :=
 ∃vs:List Value,vs.length=ms.length/\w.ownsRow lo 23 1 v ms.length vs/\∀(i:Nat) (m:List Pt) (x:Value),ms[i]?=some m->vs[i]?=some x->opX lo w x m
theorem JcQ{lo:Nat}{w w':World}{v:Value}{ms:List (List Pt)}{S:Nat->Prop}(h:Jc9 lo w v ms)(hs:sameBut w w' S)(hS:∀k,k<w.heap.size->S k->lo<=k/\Jc8 w k)(hrow:∀k,v.ownBlock=some k->¬S k):Jc9 lo w' v ms:=by
 obtain⟨vs,h1,h2,h3⟩:=h;exact⟨vs,h1,Jc4 h2 hs hrow,fun i m x hm hx=>Jb8 (h3 i m x hm hx) hs hS⟩
theorem JbE(h:Jc9 lo w v ms)(hb:Below w.heap.size w w'):Jc9 lo w' v ms :=
 JcQ (S:=fun _=>False) h (Jaf hb _) (fun _ _ h=>h.elim) fun _ _ h=>h.elim
theorem JbL(h:Jc9 lo w v ms):∃p c,v=.slice p ms.length c:=by
 obtain⟨vs,_,h2,_⟩:=h;exact Jad h2
theorem JiE(lo:Nat)(w:World):Jc9 lo w (.slice none 0 0) []:=⟨[],rfl,World.ownsRow_nil _ _ _ _,fun i m x hm=>by simp at hm⟩
theorem JbN(h:Jc9 lo w v ms){k:Nat}(hk:v.ownBlock=some k):lo<=k/\k<w.heap.size/\∃cs,w.heap[k]?=some (.cells cs 23 (0,0)):=by
 obtain⟨vs,_,h2,_⟩:=h
 rcases h2.2 with ⟨rfl,_⟩|⟨g,cap,cur,rfl,h3,h4,_⟩
 . cases hk
 . obtain rfl:g=k:=osi hk
   exact⟨h3,(alt h4),_,h4⟩
def JaO (who u:Int) (S:Cl) (vm:Value):Array Value:=#[.int .i64 who,.int .i64 u,.int .i64 S.rev,.string ⟨S.seen.toArray⟩,vm,.string ⟨S.doc.toArray⟩,.int .i64 S.id,.int .i64 S.drops]
def isCl (lo:Nat) (w:World) (b:Nat) (who u:Int) (S:Cl):Prop :=
 lo<=b/\∃vm,w.heap[b]?=some (.cells (JaO who u S vm) 203 (0,0))/\Jc9 lo w vm S.mine
def ownC (w:World) (b k:Nat):Prop:=k=b\/∃vm,w.cell? ⟨b,4,none⟩=some vm/\vm.ownBlock=some k
theorem JbP(h:isCl lo w b who u S):b<w.heap.size:=by
 obtain⟨_,vm,h3,_⟩:=h;exact(alt h3)
theorem Jem(h:isCl lo w b who u S){k:Nat}(hk:ownC w b k):lo<=k/\k<w.heap.size/\∃cs T,w.heap[k]?=some (.cells cs T (0,0))/\(T=203\/T=23):=by
 obtain⟨h1,vm,h3,h4⟩:=h
 rcases hk with rfl|⟨vm',e,hk⟩
 . exact⟨h1,(alt h3),_,_,h3,.inl rfl⟩
 . have x4:w.cell? ⟨b,4,none⟩=some vm:=chp h3 4
   rw[x4]at e;obtain rfl:=osi e;obtain⟨a,b,cs,c⟩:=JbN h4 hk;exact⟨a,b,cs,_,c,.inr rfl⟩
theorem JlN(h:isCl lo w b who u S){k:Nat}(hk:ownC w b k):Jc8 w k:=by
 obtain⟨_,_,cs,T,h1,h2⟩:=Jem h hk;exact JaA h1 (by rcases h2 with rfl|rfl<;>decide)
theorem Jj9{lo:Nat}{w w':World}{b:Nat}{who u:Int}{S:Cl}{X:Nat->Prop}(h:isCl lo w b who u S)(hs:sameBut w w' X)(hX:∀k,k<w.heap.size->X k->lo<=k/\Jc8 w k)(hn:∀k,X k->¬ownC w b k):isCl lo w' b who u S:=by
 obtain⟨h1,vm,h3,h4⟩:=h;have x4:w.cell? ⟨b,4,none⟩=some vm:=chp h3 4;exact⟨h1,vm,(hs.2 b (alt h3) fun e=>hn b e (.inl rfl)).trans h3,JcQ h4 hs hX fun k hk e=>hn k e (.inr ⟨vm,x4,hk⟩)⟩
theorem JaZ(h:isCl lo w b who u S)(hb:Below w.heap.size w w'):isCl lo w' b who u S :=
 Jj9 (X:=fun _=>False) h (Jaf hb _) (fun _ _ h=>h.elim) fun _ h=>h.elim
theorem Je6{w w':World}{b k:Nat}{X:Nat->Prop}(hs:sameBut w w' X)(hb:b<w.heap.size)(hn:¬X b)(h:ownC w' b k):ownC w b k:=by
 rcases h with rfl|⟨vm,e,hk⟩
 . exact .inl rfl
 . exact .inr ⟨vm,(World.cell?_of_block (w:=w) (a:=⟨b,4,none⟩) (hs.2 b hb hn)).symm.trans e,hk⟩
def keptC (w w':World) (b:Nat):Prop:=sameBut w w' (ownC w b)/\∀k,ownC w' b k->ownC w b k\/w.heap.size<=k
theorem Jb0(h:Below w.heap.size w w')(hb:b<w.heap.size):keptC w w' b :=
 ⟨Jaf h _,fun k hk=>.inl (Je6 (X:=fun _=>False) (Jaf h _) hb id hk)⟩
theorem keptC.trans{w'':World}(h:keptC w w' b)(h':keptC w' w'' b):keptC w w'' b :=
 ⟨h.1.comp h'.1 fun k hk e=>(h.2 k e).elim id fun hk'=>absurd hk (by omega),fun k hk=>(h'.2 k hk).elim (h.2 k) fun hk'=>.inr (Nat.le_trans h.1.1 hk')⟩
end
section
open Go.RowKit Go.Maps
variable {e lo : Nat}{w w' : World}{v1 : Value}{ps : List Pk}
def JaQ (p:Pk) (v:Value):List Value:=[.int .i64 p.kind,.int .i64 (p.c:Int),.int .i64 p.rev,.int .i64 p.id,.int .i64 p.x.c,.int .i64 p.x.i,v]
def pkC (ps:List Pk) (vs:List Value):List Value:=(ps.zip vs).flatMap fun x=>JaQ x.1 x.2
theorem Jhs:∀(ps:List Pk)(vs:List Value),vs.length=ps.length->(pkC ps vs).length=ps.length*7
 | [],[],_=>rfl
 | x :: E,v :: vs,h=>by
  have ih:=Jhs E vs (by simpa using h);have e:pkC (x :: E) (v :: vs)=JaQ x v++pkC E vs:=rfl;rw[e,List.length_append,ih];simp[JaQ];omega
theorem JoZ:∀(ps:List Pk)(vs:List Value)(i:Nat)(x:Pk)(v:Value),ps[i]?=some x->vs[i]?=some v->∀j,j<7->(pkC ps vs)[i*7+j]?=(JaQ x v)[j]?
 | [],_,_,_,_,h,_,_,_=>by simp at h
 | _ :: _,[],_,_,_,_,h,_,_=>by simp at h
 | y :: E,u :: vs,0,x,v,h,h2,j,hj=>by
  obtain rfl:y=x:=by simpa using h
  obtain rfl:u=v:=by simpa using h2
  have e:pkC (y :: E) (u :: vs)=JaQ y u++pkC E vs:=rfl;rw[e,Nat.zero_mul,Nat.zero_add,List.getElem?_append_left (by simp[JaQ];omega)]
 | y :: E,u :: vs,i+1,x,v,h,h2,j,hj=>by
  have ih:=JoZ E vs i x v (by simpa using h) (by simpa using h2) j hj;have e:pkC (y :: E) (u :: vs)=JaQ y u++pkC E vs:=rfl;have hl:(JaQ y u).length=7:=rfl;rw[e,show(i+1)*7+j=(JaQ y u).length+(i*7+j) by rw[hl];omega,List.getElem?_append_right (Nat.le_add_right _ _),Nat.add_sub_cancel_left];exact ih
theorem JlJ(a b:List Pk)(vs us:List Value)(h:vs.length=a.length):pkC (a++b) (vs++us)=pkC a vs++pkC b us:=by
 unfold pkC;rw[List.zip_append h.symm,List.flatMap_append]
theorem Jjy:∀(ps:List Pk)(vs:List Value)(i:Nat),vs.length=ps.length->(pkC ps vs).take (i*7)=pkC (ps.take i) (vs.take i)
 | _,_,0,_=>by simp[pkC]
 | [],[],i+1,_=>by simp[pkC]
 | x :: ps,v :: vs,i+1,h=>by
  have ih:=Jjy ps vs i (by simpa using h);have e:pkC (x :: ps) (v :: vs)=JaQ x v++pkC ps vs:=rfl;have e2:pkC ((x :: ps).take (i+1)) ((v :: vs).take (i+1))=JaQ x v++pkC (ps.take i) (vs.take i):=rfl;have hl:(JaQ x v).length=7:=rfl;rw[e,e2,List.take_append,hl,List.take_of_length_le (by rw[hl];omega),show(i+1)*7 - 7=i*7 by omega,ih]
theorem JgQ:∀(ps:List Pk)(vs:List Value)(i:Nat),vs.length=ps.length->(pkC ps vs).drop (i*7)=pkC (ps.drop i) (vs.drop i)
 | _,_,0,_=>by simp
 | [],[],i+1,_=>by simp[pkC]
 | x :: ps,v :: vs,i+1,h=>by
  have ih:=JgQ ps vs i (by simpa using h);have e:pkC (x :: ps) (v :: vs)=JaQ x v++pkC ps vs:=rfl;have hl:(JaQ x v).length=7:=rfl;rw[e,List.drop_append,hl,List.drop_eq_nil_of_le (by rw[hl];omega),show(i+1)*7 - 7=i*7 by omega,List.nil_append];exact ih
def Je8 (e:TypeId) (lo:Nat) (w:World) (v1:Value) (ps:List Pk):Prop :=
 ∃vs,vs.length=ps.length/\w.ownsRow lo e 7 v1 ps.length (pkC ps vs)/\∀(i:Nat) (x:Pk) (v:Value),ps[i]?=some x->vs[i]?=some v->opX lo w v x.x.op
theorem Jd6{e lo:Nat}{w w':World}{v1:Value}{ps:List Pk}{S:Nat->Prop}(h:Je8 e lo w v1 ps)(hs:sameBut w w' S)(hS:∀k,k<w.heap.size->S k->lo<=k/\Jc8 w k/\∀cs fz,w.heap[k]?≠some (.cells cs e fz)):Je8 e lo w' v1 ps:=by
 obtain⟨vs,h1,h2,h3⟩:=h;refine⟨vs,h1,Jc4 h2 hs fun k hk hSk=>?_,fun i x v hx hv=>Jb8 (h3 i x v hx hv) hs fun k hk hSk=>⟨(hS k hk hSk).1,(hS k hk hSk).2.1⟩⟩
 rcases h2.2 with ⟨rfl,_⟩|⟨g,cap,cur,rfl,_,hg,_⟩
 . cases hk
 . obtain rfl:g=k:=osi hk
   exact(hS g (alt hg) hSk).2.2 _ _ hg
theorem JlW(h:Je8 e lo w v1 ps)(hb:Below w.heap.size w w'):Je8 e lo w' v1 ps :=
 Jd6 (S:=fun _=>False) h (Jaf hb _) fun _ _ h=>h.elim
theorem JlV(h:Je8 e lo w v1 ps):∃p c,v1=.slice p ps.length c:=by
 obtain⟨vs,_,h2,_⟩:=h;exact Jad h2
theorem JdU(h:Je8 e lo w v1 ps){k:Nat}(hk:v1.ownBlock=some k):lo<=k/\k<w.heap.size/\∃cs,w.heap[k]?=some (.cells cs e (0,0)):=by
 obtain⟨vs,_,h2,_⟩:=h
 rcases h2.2 with ⟨rfl,_⟩|⟨g,cap,cur,rfl,h3,h4,_⟩
 . cases hk
 . obtain rfl:g=k:=osi hk
   exact⟨h3,(alt h4),_,h4⟩
theorem Jpu(e lo:Nat)(w:World):Je8 e lo w (.slice none 0 0) []:=⟨[],rfl,World.ownsRow_nil _ _ _ _,fun i x v hx=>by simp at hx⟩
theorem JmO{p:Option Addr}{n c:Nat}(h:Je8 e lo w (.slice p n c) ps)(hne:ps≠[]):∃g,p=some ⟨g,0,none⟩/\g<w.heap.size/\n=ps.length/\n<=c/\c<=maxLen/\∀i x,ps[i]?=some x->∃v,w.cell? ⟨g,i*7,none⟩=some (.int .i64 x.kind)/\w.cell? ⟨g,i*7+1,none⟩=some (.int .i64 (x.c:Int))/\w.cell? ⟨g,i*7+2,none⟩=some (.int .i64 x.rev)/\w.cell? ⟨g,i*7+3,none⟩=some (.int .i64 x.id)/\w.cell? ⟨g,i*7+4,none⟩=some (.int .i64 x.x.c)/\w.cell? ⟨g,i*7+5,none⟩=some (.int .i64 x.x.i)/\w.cell? ⟨g,i*7+6,none⟩=some v/\opX lo w v x.x.op:=by
 obtain⟨vs,h1,⟨h0,hrow⟩,h3⟩:=h
 rcases hrow with ⟨_,hz⟩|⟨g,cap,cur,hv,h4,h5,h6,h7,h8,h9⟩
 . exact absurd (List.eq_nil_of_length_eq_zero hz) hne
 . injection hv with hp hn hc
   subst hp hn hc;refine⟨g,rfl,(alt h5),rfl,h6,h7,fun i x hx=>?_⟩;have hi:i<ps.length:=(llt hx);have hiv:i<vs.length:=by omega
   have hv:vs[i]?=some vs[i]:=lgg hiv;have hk:=JoZ ps vs i x vs[i] hx hv
   have hc:∀j u,j<7->(JaQ x vs[i])[j]?=some u->w.cell? ⟨g,i*7+j,none⟩=some u:=fun j u hj hu=>by
    have hcur:cur[i*7+j]?=some u:=by
     rw[←Array.getElem?_toList];have:=congrArg (·[i*7+j]?) h9;simp only[List.getElem?_take,show i*7+j<ps.length*7 by omega,if_true]at this;rw[this,hk j hj,hu]
    unfold World.cell?;simp[h5,hcur]
   exact⟨vs[i],hc 0 _ (by omega) rfl,hc 1 _ (by omega) rfl,hc 2 _ (by omega) rfl,hc 3 _ (by omega) rfl,hc 4 _ (by omega) rfl,hc 5 _ (by omega) rfl,hc 6 _ (by omega) rfl,h3 i x vs[i] hx hv⟩
theorem JnD{v2 vx:Value}{x:Pk}(he:e≠50){vs:List Value}(h1:vs.length=ps.length)(h2:w.ownsRow lo e 7 v1 ps.length (pkC ps vs))
    (h3:∀(i:Nat) (y:Pk) (v:Value),ps[i]?=some y->vs[i]?=some v->opX lo w v y.x.op) (hx:opX lo w vx x.x.op) (hg:w.grownBy w' v1.ownBlock) (hnew:w'.ownsRow lo e 7 v2 (ps.length+1) (pkC ps vs++JaQ x vx)):Je8 e lo w' v2 (ps++[x]):=by
 have hk:=fun k=>JdU (k:=k) ⟨vs,h1,h2,h3⟩
 have hs:sameBut w w' fun k=>v1.ownBlock=some k:=JaP hg fun k e=>e
 have hS:∀k,k<w.heap.size->v1.ownBlock=some k->lo<=k/\Jc8 w k:=fun k _ hkk=>by
  obtain⟨a,b,cs,c⟩:=hk k hkk;exact⟨a,JaA c he⟩
 refine⟨vs++[vx],by simp[h1],?_,fun i y v hy hv=>?_⟩
 . rw[JlJ ps [x] vs [vx] h1,List.length_append]
   have e:pkC [x] [vx]=JaQ x vx:=by unfold pkC;simp
   rw[e];exact hnew
 . rcases Nat.lt_or_ge i ps.length with hi | hi
   . rw[List.getElem?_append_left hi]at hy
     rw[List.getElem?_append_left (by omega)]at hv;exact Jb8 (h3 i y v hy hv) hs hS
   . have:i<(ps++[x]).length:=(llt hy)
     have hie:i=ps.length:=by simp at this;omega
     subst hie;rw[List.getElem?_append_right (nlr _),Nat.sub_self]at hy;rw[List.getElem?_append_right (by omega),h1,Nat.sub_self]at hv;obtain rfl:x=y:=by simpa using hy
     obtain rfl:vx=v:=by simpa using hv
     exact Jb8 hx hs hS
end
section
open Go.RowKit Go.Maps
variable {lo bmx r k b bx : Nat}{w w' : World}{bs : List Nat}{cl : List (Int × Cl)}{S : Cl}{R : Rm}
def ptrs (bs:List Nat):List Value:=bs.map fun b=>.pointer (some ⟨b,0,none⟩)
structure isCls (lo:Nat) (w:World) (bs:List Nat) (cl:List (Int×Cl)):Prop where
 len:bs.length=cl.length
 each:∀(k b:Nat) (q:Int×Cl),bs[k]?=some b->cl[k]?=some q->isCl lo w b (k:Int) q.1 q.2
 apart:∀(j k b b':Nat),bs[j]?=some b->bs[k]?=some b'->j≠k->∀x,ownC w b x->¬ownC w b' x
structure isRoom (lo:Nat) (w:World) (r bx bmx:Nat) (bs:List Nat) (R:Rm):Prop where
 low:lo<=r
 blk:∃vc vf,w.heap[r]?=some (.cells #[.pointer (some ⟨bx,0,none⟩),vc,vf,.int .i64 (R.lost:Int)] 215 (0,0))/\w.ownsRow lo 93 1 vc bs.length (ptrs bs)/\Je8 219 lo w vf R.fl
 cls:isCls lo w bs R.cl
 srv:Jcc lo R.n w bx bmx R.t R.E R.M
def Jju (T:TypeId):Prop:=T=215\/T=219\/T=93\/T=196\/T=105\/T=203\/T=23
def Jbg (lo:Nat) (w:World) (bmx k:Nat):Prop:=lo<=k/\(k=bmx\/∃cs T,w.heap[k]?=some (.cells cs T (0,0))/\Jju T)
def Joy (lo:Nat) (w:World) (k:Nat):Prop:=lo<=k/\∃cs T,w.heap[k]?=some (.cells cs T (0,0))/\(T=215\/T=219)
def ownF (w:World) (r k:Nat):Prop:=k=r\/∃v,w.cell? ⟨r,2,none⟩=some v/\v.ownBlock=some k
def keptF (w w':World) (r:Nat):Prop:=sameBut w w' (ownF w r)/\∀k,ownF w' r k->ownF w r k\/w.heap.size<=k
theorem JcT(h:sameBut w w' (Joy lo w)):sameBut w w' (Jbg lo w bmx):=h.mono fun k _ ⟨a,cs,T,hc,hT⟩=>⟨a,.inr ⟨cs,T,hc,by rcases hT with rfl|rfl<;>simp[Jju]⟩⟩
theorem Ji8(hr:r<w.heap.size)(hb:Below w.heap.size w w')(h:ownF w' r k):ownF w r k:=by
 rcases h with rfl|⟨v,e,hk⟩
 . exact .inl rfl
 . exact .inr ⟨v,(hb.cell (p:=⟨r,2,none⟩) hr).symm.trans e,hk⟩
theorem JcP(hr:r<w.heap.size)(hb:Below w.heap.size w w'):keptF w w' r:=⟨Jaf hb _,fun k hk=>.inl (Ji8 hr hb hk)⟩
theorem keptF.trans{w'':World}(h:keptF w w' r)(h':keptF w' w'' r):keptF w w'' r :=
 ⟨h.1.comp h'.1 fun k hk e=>(h.2 k e).elim id fun hk'=>absurd hk (by omega),fun k hk=>(h'.2 k hk).elim (h.2 k) fun hk'=>.inr (Nat.le_trans h.1.1 hk')⟩
theorem JcF{e size n:Nat}{v:Value}{xs:List Value}(h:w.ownsRow lo e size v n xs){k:Nat}(hk:v.ownBlock=some k):lo<=k/\k<w.heap.size/\∃cs,w.heap[k]?=some (.cells cs e (0,0)):=by
 rcases h.2 with ⟨rfl,_⟩|⟨g,cap,cur,rfl,h3,h4,_⟩
 . cases hk
 . obtain rfl:g=k:=osi hk
   exact⟨h3,(alt h4),_,h4⟩
theorem Je9{lo:Nat}{w w':World}{bs:List Nat}{cl:List (Int×Cl)}{X:Nat->Prop}(h:isCls lo w bs cl)(hs:sameBut w w' X)(hX:∀k,k<w.heap.size->X k->lo<=k/\Jc8 w k)(hn:∀b∈bs,∀k,X k->¬ownC w b k):isCls lo w' bs cl:=by
 have lt:∀(k b:Nat),bs[k]?=some b->b<w.heap.size:=fun k b hb=>by
  have hk:k<cl.length:=by rw[←h.len];exact(llt hb)
  exact JbP (h.each k b cl[k] hb (lgg hk))
 refine⟨h.len,fun k b q hb hq=>Jj9 (h.each k b q hb hq) hs hX (hn b (List.mem_of_getElem? hb)),fun j k b b' hb hb' hjk x hx hx'=>?_⟩;have hx:=Je6 hs (lt j b hb) (fun e=>hn b (List.mem_of_getElem? hb) b e (.inl rfl)) hx;have hx':=Je6 hs (lt k b' hb') (fun e=>hn b' (List.mem_of_getElem? hb') b' e (.inl rfl)) hx';exact h.apart j k b b' hb hb' hjk x hx hx'
theorem Jfp(h:isCls lo w bs cl)(hb:Below w.heap.size w w'):isCls lo w' bs cl :=
 Je9 (X:=fun _=>False) h (Jaf hb _) (fun _ _ h=>h.elim) fun _ _ _ h=>h.elim
theorem Jpx{u:Int}(h:isCls lo w bs cl)(hb:bs[k]?=some b)(hc:isCl lo w' b (k:Int) u S)(hk:keptC w w' b):isCls lo w' bs (cl.set k (u,S)):=by
 obtain⟨hs,hnew⟩:=hk;have hq:∀(j b':Nat),bs[j]?=some b'->∃q,cl[j]?=some q/\isCl lo w b' (j:Int) q.1 q.2:=fun j b' hb'=>by
  have hj:j<cl.length:=by rw[←h.len];exact(List.getElem?_eq_some_iff.1 hb').1
  exact⟨cl[j],lgg hj,h.each j b' cl[j] hb' (lgg hj)⟩
 obtain⟨q,hqk,hcl⟩:=hq k b hb;have hX:∀x,x<w.heap.size->ownC w b x->lo<=x/\Jc8 w x:=fun x _ hx=>⟨(Jem hcl hx).1,JlN hcl hx⟩
 have old:∀(j b':Nat),bs[j]?=some b'->j≠k->∀x,ownC w' b' x->ownC w b' x:=fun j b' hb' hjk x hx=>by
  obtain⟨q',_,hc'⟩:=hq j b' hb';exact Je6 hs (JbP hc') (fun e=>h.apart k j b b' hb hb' (Ne.symm hjk) b' e (.inl rfl)) hx
 refine⟨by rw[h.len,List.length_set],fun j b' q' hb' hq'=>?_,fun i j c c' hc1 hc2 hij x hx hx'=>?_⟩
 . rw [List.getElem?_set]at hq'
   by_cases hjk:k=j
   . subst hjk
     rw[if_pos rfl]at hq'
     split at hq'
     . obtain rfl:=osi hq'
       rw[hb]at hb';obtain rfl:=osi hb';exact hc
     . cases hq'
   . rw[if_neg hjk]at hq'
     exact Jj9 (h.each j b' q' hb' hq') hs hX fun x hx hx'=>h.apart k j b b' hb hb' hjk x hx hx'
 . by_cases hik:i=k
   . subst hik
     rw[hb]at hc1;obtain rfl:=osi hc1;have hx':=old j c' hc2 (Ne.symm hij) x hx'
     rcases hnew x hx with hx|hx
     . exact h.apart i j b c' hb hc2 hij x hx hx'
     . obtain⟨q',_,hc'⟩:=hq j c' hc2
       exact absurd (Jem hc' hx').2.1 (by omega)
   . have hx:=old i c hc1 hik x hx
     by_cases hjk:j=k
     . subst hjk
       rw[hb]at hc2;obtain rfl:=osi hc2
       rcases hnew x hx' with hx' | hx'
       . exact h.apart i j c b hc1 hb hij x hx hx'
       . obtain⟨q',_,hc'⟩:=hq i c hc1
         exact absurd (Jem hc' hx).2.1 (by omega)
     . exact h.apart i j c c' hc1 hc2 hij x hx (old j c' hc2 hjk x hx')
theorem JhH(h:isCls lo w bs cl){b:Nat}(hb:b∈bs){k:Nat}(hk:ownC w b k):lo<=k/\k<w.heap.size/\∃cs T,w.heap[k]?=some (.cells cs T (0,0))/\(T=203\/T=23):=by
 obtain⟨j,hj⟩:=List.mem_iff_getElem?.1 hb;have hjl:j<cl.length:=by rw[←h.len];exact(llt hj)
 exact Jem (h.each j b cl[j] hj (lgg hjl)) hk
theorem JiD{lo:Nat}{w w':World}{r bx bmx:Nat}{bs:List Nat}{R:Rm}{X:Nat->Prop}(h:isRoom lo w r bx bmx bs R)(hs:sameBut w w' X)(hX:∀k,k<w.heap.size->X k->lo<=k/\Jc8 w k/\k≠bmx/\∀cs T fz,w.heap[k]?=some (.cells cs T fz)->¬Jju T):isRoom lo w' r bx bmx bs R:=by
 obtain⟨h1,⟨vc,vf,h2,h3,h4⟩,h5,h6⟩:=h;have hr:∀k cs T,w.heap[k]?=some (.cells cs T (0,0))->Jju T->¬X k:=fun k cs T hk hT hXk=>(hX k (alt hk) hXk).2.2.2 cs T _ hk hT
 refine⟨h1,⟨vc,vf,(hs.2 r (alt h2) (hr r _ _ h2 (.inl rfl))).trans h2,Jc4 h3 hs fun k hk=>?_,Jd6 h4 hs fun k hk hXk=>?_⟩,Je9 h5 hs (fun k hk hXk=>⟨(hX k hk hXk).1,(hX k hk hXk).2.1⟩) fun b hb k hXk hk=>?_,?_⟩
 . obtain⟨_,_,cs,hc⟩:=JcF h3 hk
   exact hr k cs _ hc (.inr (.inr (.inl rfl)))
 . exact⟨(hX k hk hXk).1,(hX k hk hXk).2.1,fun cs fz hc=>(hX k hk hXk).2.2.2 cs _ fz hc (.inr (.inl rfl))⟩
 . obtain⟨_,_,cs,T,hc,hT⟩:=JhH h5 hb hk
   exact hr k cs T hc (by rcases hT with rfl|rfl<;>simp[Jju]) hXk
 . obtain⟨g1,g2,⟨v1,g3,g4⟩,g5⟩:=h6
   refine⟨g1,g2,⟨v1,(hs.2 bx (alt g3) (hr bx _ _ g3 (.inr (.inr (.inr (.inl rfl)))))).trans g3,?_⟩,JcR g5 hs fun hk=>(hX bmx (Jpw g5) hk).2.2.1 rfl⟩;refine Jd7 (S:=fun k=>k<w.heap.size/\X k) g4 ⟨hs.1,fun k hk hn=>hs.2 k hk fun e=>hn ⟨hk,e⟩,hs.os,hs.tape,hs.output⟩ fun k hk=>?_
   exact⟨(hX k hk.1 hk.2).1,(hX k hk.1 hk.2).2.1,fun cs fz hc=>(hX k hk.1 hk.2).2.2.2 cs _ fz hc (.inr (.inr (.inr (.inr (.inl rfl)))))⟩
theorem Jap(h:isRoom lo w r bx bmx bs R)(hb:Below w.heap.size w w'):isRoom lo w' r bx bmx bs R :=
 JiD (X:=fun _=>False) h (Jaf hb _) fun _ _ h=>h.elim
theorem Jbo(h:isRoom lo w r bx bmx bs R):r<w.heap.size:=by
 obtain⟨_,⟨vc,vf,h2,_⟩,_⟩:=h;exact(alt h2)
theorem Jbv(h:isRoom lo w r bx bmx bs R):∃pc cc pf cf,w.heap[r]?=some (.cells #[.pointer (some ⟨bx,0,none⟩),.slice pc bs.length cc,.slice pf R.fl.length cf,.int .i64 (R.lost:Int)] 215 (0,0))/\w.ownsRow lo 93 1 (.slice pc bs.length cc) bs.length (ptrs bs)/\Je8 219 lo w (.slice pf R.fl.length cf) R.fl:=by
 obtain⟨_,⟨vc,vf,h2,h3,h4⟩,_⟩:=h;obtain⟨pc,cc,rfl⟩:=Jad h3;obtain⟨pf,cf,rfl⟩:=JlV h4;exact⟨pc,cc,pf,cf,h2,h3,h4⟩
theorem Jdi(h:isRoom lo w r bx bmx bs R)(hb:bs[k]?=some b)(hc:isCl lo w' b (k:Int) (clK R k).1 S)(hk:keptC w w' b):isRoom lo w' r bx bmx bs (setC R k S)/\sameBut w w' (Jbg lo w bmx):=by
 obtain⟨h1,⟨vc,vf,h2,h3,h4⟩,h5,h6⟩:=h;have hown:=fun x (hx:ownC w b x)=>JhH h5 (List.mem_of_getElem? hb) hx
 have hty:∀x cs T fz,w.heap[x]?=some (.cells cs T fz)->ownC w b x->T=203\/T=23:=fun x cs T fz hx ho=>by
  obtain⟨_,_,cs',T',hc',hT⟩:=hown x ho;rw[JaG hx hc'];exact hT
 refine⟨⟨h1,⟨vc,vf,(hk.1.2 r (alt h2) fun e=>?_).trans h2,Jc4 h3 hk.1 fun x hx e=>?_,Jd6 h4 hk.1 fun x hx e=>?_⟩,Jpx h5 hb hc hk,Jeq h6 hk.1 fun x hx e=>?_⟩,hk.1.mono fun x hx e=>?_⟩
 . rcases hty r _ _ _ h2 e with e|e<;>revert e<;>decide
 . obtain⟨_,_,cs,hcs⟩:=JcF h3 hx
   rcases hty x _ _ _ hcs e with e|e<;>revert e<;>decide
 . obtain⟨a,_,cs,T,hc',hT⟩:=hown x e
   refine⟨a,JaA hc' (by rcases hT with rfl|rfl<;>decide),fun cs' fz hcs=>?_⟩
   rcases hty x _ _ _ hcs e with e|e<;>revert e<;>decide
 . obtain⟨a,_,cs,T,hc',hT⟩:=hown x e
   exact⟨a,cs,T,_,hc',by rcases hT with rfl|rfl<;>decide,by rcases hT with rfl|rfl<;>decide,by rcases hT with rfl|rfl<;>decide⟩
 . obtain⟨a,_,cs,T,hc',hT⟩:=hown x e
   exact⟨a,.inr ⟨cs,T,hc',by rcases hT with rfl|rfl<;>simp[Jju]⟩⟩
theorem JnC{R':Rm}(h:isRoom lo w r bx bmx bs R)(hs:Jcc lo R'.n w' bx bmx R'.t R'.E R'.M)(hk:sameBut w w' (Jdf lo w bmx))(ec:R'.cl=R.cl)(ef:R'.fl=R.fl)(el:R'.lost=R.lost):isRoom lo w' r bx bmx bs R'/\sameBut w w' (Jbg lo w bmx):=by
 obtain⟨h1,⟨vc,vf,h2,h3,h4⟩,h5,h6⟩:=h
 have hno:∀x cs T fz,w.heap[x]?=some (.cells cs T fz)->T≠196->T≠105->¬Jdf lo w bmx x:=fun x cs T fz hx t1 t2 e=>by
  rcases e.2 with rfl|⟨cs',T',hc',hT⟩
  . exact Jby h6.2.2.2 _ _ _ hx
  . have:=JaG hx hc'
    subst this
    rcases hT with e|e
    . exact t1 e
    . exact t2 e
 have hnp:∀x,Jdf lo w bmx x->lo<=x/\Jc8 w x:=fun x e=>by
  refine⟨e.1,?_⟩
  rcases e.2 with rfl|⟨cs',T',hc',hT⟩
  . exact fun cs fz=>Jby h6.2.2.2 cs _ fz
  . exact JaA hc' (by rcases hT with rfl|rfl<;>decide)
 rw[←el]at h2;rw[←ef]at h4;rw[←ec]at h5;refine⟨⟨h1,⟨vc,vf,(hk.2 r (alt h2) (hno r _ _ _ h2 (by decide) (by decide))).trans h2,Jc4 h3 hk fun x hx=>?_,Jd6 h4 hk fun x hx e=>⟨(hnp x e).1,(hnp x e).2,fun cs fz hc=>hno x _ _ _ hc (by decide) (by decide) e⟩⟩,Je9 h5 hk (fun x _ e=>hnp x e) fun b hb x e hx=>?_,hs⟩,hk.mono fun x hx e=>?_⟩
 . obtain⟨_,_,cs,hcs⟩:=JcF h3 hx
   exact hno x _ _ _ hcs (by decide) (by decide)
 . obtain⟨_,_,cs,T,hc,hT⟩:=JhH h5 hb hx
   exact hno x _ _ _ hc (by rcases hT with rfl|rfl<;>decide) (by rcases hT with rfl|rfl<;>decide) e
 . exact⟨e.1,e.2.imp id fun ⟨cs,T,hc,hT⟩=>⟨cs,T,hc,by rcases hT with rfl|rfl<;>simp[Jju]⟩⟩
theorem Jer{lo:Nat}{w w':World}{r bx bmx:Nat}{bs:List Nat}{R R':Rm}{X:Nat->Prop}{vc vf:Value}(h:isRoom lo w r bx bmx bs R)(h2:w'.heap[r]?=some (.cells #[.pointer (some ⟨bx,0,none⟩),vc,vf,.int .i64 (R'.lost:Int)] 215 (0,0)))(hc:∃a b c,w.heap[r]?=some (.cells #[a,vc,b,c] 215 (0,0)))
    (h4:Je8 219 lo w' vf R'.fl) (hs:sameBut w w' X) (hX:∀k,k<w.heap.size->X k->lo<=k/\∃cs T,w.heap[k]?=some (.cells cs T (0,0))/\(T=215\/T=219)) (e1:R'.n=R.n) (e2:R'.t=R.t) (e3:R'.E=R.E) (e4:R'.M=R.M) (e5:R'.cl=R.cl):isRoom lo w' r bx bmx bs R':=by
 obtain⟨h1,⟨vc0,vf0,g2,g3,g4⟩,h5,h6⟩:=h;have evc:vc0=vc:=by
  obtain⟨a,b,c,hc⟩:=hc;rw[g2]at hc;injection hc with hc
  injection hc with hc
  have:=congrArg (fun x:Array Value=>x[1]?) hc;simpa using this
 subst evc;have hno:∀x cs T fz,x<w.heap.size->w.heap[x]?=some (.cells cs T fz)->T≠215->T≠219->¬X x:=fun x cs T fz hlt hx t1 t2 e=>by
  obtain⟨_,cs',T',hc',hT⟩:=hX x hlt e;have:=JaG hx hc';subst this
  rcases hT with e|e
  . exact t1 e
  . exact t2 e
 refine⟨h1,⟨vc0,vf,h2,Jc4 g3 hs fun x hx=>?_,h4⟩,?_,?_⟩
 . obtain⟨_,hlt,cs,hcs⟩:=JcF g3 hx
   exact hno x _ _ _ hlt hcs (by decide) (by decide)
 . rw [e5]
   refine Je9 h5 hs (fun x hx e=>?_) fun b hb x e hx=>?_
   . obtain⟨a,cs,T,hc,hT⟩:=hX x hx e
     exact⟨a,JaA hc (by rcases hT with rfl|rfl<;>decide)⟩
   . obtain⟨_,hlt,cs,T,hc,hT⟩:=JhH h5 hb hx
     exact hno x _ _ _ hlt hc (by rcases hT with rfl|rfl<;>decide) (by rcases hT with rfl|rfl<;>decide) e
 . rw[e1,e2,e3,e4]
   refine Jeq h6 hs fun x hx e=>?_
   obtain⟨a,cs,T,hc,hT⟩:=hX x hx e;exact⟨a,cs,T,_,hc,by rcases hT with rfl|rfl<;>decide,by rcases hT with rfl|rfl<;>decide,by rcases hT with rfl|rfl<;>decide⟩
theorem JlM(h:isRoom lo w r bx bmx bs R){k:Nat}(hk:ownF w r k):lo<=k/\k<w.heap.size/\∃cs T,w.heap[k]?=some (.cells cs T (0,0))/\(T=215\/T=219):=by
 obtain⟨h1,⟨vc,vf,h2,h3,h4⟩,_,_⟩:=h
 rcases hk with rfl|⟨v,e,hk⟩
 . exact⟨h1,(alt h2),_,_,h2,.inl rfl⟩
 . have x2:w.cell? ⟨r,2,none⟩=some vf:=chp h2 2
   rw[x2]at e;obtain rfl:=osi e;obtain⟨a,b,cs,hc⟩:=JdU h4 hk;exact⟨a,b,cs,_,hc,.inr rfl⟩
theorem keptF.touch(hf:keptF w w' r)(h:isRoom lo w r bx bmx bs R):sameBut w w' (Joy lo w):=hf.1.mono fun k _ hk=>by
 obtain⟨a,_,cs,T,hc,hT⟩:=JlM h hk;exact⟨a,cs,T,hc,hT⟩
end
section
open Go.RowKit Go.Maps
attribute [local go_sem] Oper.semAt_some
variable {lo r bx bmx : Nat}{w : World}{bs : List Nat}{R : Rm}
theorem Je5(h:isRoom lo w r bx bmx bs R) :
    Calls Tryz.prog 128 #[.pointer (some ⟨r,0,none⟩)] w fun e w'=>∃pc cc pf cf,e=.returned (.agg #[.pointer (some ⟨bx,0,none⟩),.slice pc bs.length cc,.slice pf R.fl.length cf,.int .i64 (R.lost:Int)])/\w.ownsRow lo 93 1 (.slice pc bs.length cc) bs.length (ptrs bs)/\Je8 219 lo w (.slice pf R.fl.length cf) R.fl/\Below w.heap.size w w':=by
 obtain⟨pc,cc,pf,cf,h2,h3,h4⟩:=Jbv h;have H3:=hdz h3;have H4:=hdz h4;have x0:w.cell? ⟨r,0,none⟩=some (.pointer (some ⟨bx,0,none⟩)):=chp h2 0;have x1:w.cell? ⟨r,1,none⟩=some (.slice pc bs.length cc):=chp h2 1;have x2:w.cell? ⟨r,2,none⟩=some (.slice pf R.fl.length cf):=chp h2 2;have x3:w.cell? ⟨r,3,none⟩=some (.int .i64 (R.lost:Int)):=chp h2 3;have hrl:r<w.heap.size:=Jbo h;clear h h2 h3 h4
 go_enter Tryz.func128,Tryz.ntmps128
 go_wp2;refine bodyPost_ret (v:=.agg #[.pointer (some ⟨bx,0,none⟩),.slice pc bs.length cc,.slice pf R.fl.length cf,.int .i64 (R.lost:Int)]) (by simp[results,Tryz.results128,go_sem]) rfl ⟨_,_,_,_,rfl,H3.out,H4.out,?_⟩;exact(brf _ _).alloc (nlr _) _
theorem rmF0(a:Addr)(p q:Option Addr)(n m n' m':Nat)(x:Int)(w:World):(Instr.field 215 (.agg #[.pointer (some a),.slice p n m,.slice q n' m',.int .i64 x]) 0).run Tryz.prog w=.ok (.pointer (some a)) w:=by kernel_rfl
theorem rmF1(a:Addr)(p q:Option Addr)(n m n' m':Nat)(x:Int)(w:World):(Instr.field 215 (.agg #[.pointer (some a),.slice p n m,.slice q n' m',.int .i64 x]) 1).run Tryz.prog w=.ok (.slice p n m) w:=by kernel_rfl
theorem rmF2(a:Addr)(p q:Option Addr)(n m n' m':Nat)(x:Int)(w:World):(Instr.field 215 (.agg #[.pointer (some a),.slice p n m,.slice q n' m',.int .i64 x]) 2).run Tryz.prog w=.ok (.slice q n' m') w:=by kernel_rfl
theorem rmF3(a:Addr)(p q:Option Addr)(n m n' m':Nat)(x:Int)(w:World):(Instr.field 215 (.agg #[.pointer (some a),.slice p n m,.slice q n' m',.int .i64 x]) 3).run Tryz.prog w=.ok (.int .i64 x) w:=by kernel_rfl
attribute [local go_sem] rmF0 rmF1 rmF2 rmF3
theorem JbV(h:isRoom lo w r bx bmx bs R) :
    Calls Tryz.prog 73 #[.pointer (some ⟨r,0,none⟩)] w fun e w'=>e=.returned (.int .i64 (R.fl.length:Int))/\Below w.heap.size w w':=by
 have C:Hid _:=Je5 h;clear h
 go_enter Tryz.func73,Tryz.ntmps73
 go_wp2_with (first | (go_at_call 128;refine Calls.mono C.out ?_;rintro e w1 ⟨pc,cc,pf,cf,rfl,_,_,hb1⟩;have HB1:=hdz hb1;clear hb1) | fail)
 go_ret;exact⟨rfl,HB1.out⟩
theorem JeO(h:isRoom lo w r bx bmx bs R) :
    Calls Tryz.prog 75 #[.pointer (some ⟨r,0,none⟩)] w fun e w'=>e=.returned (.string ⟨R.t.toArray⟩)/\Below w.heap.size w w':=by
 have C:Hid _:=Je5 h;have CT:Hid (∀wx,Below w.heap.size w wx->Calls Tryz.prog 42 #[.pointer (some ⟨bx,0,none⟩)] wx fun e w'=>w'=wx/\e=.returned (.string ⟨R.t.toArray⟩)):=fun wx hb=>Jls _ _ _ bx bmx R.t R.E R.M (JbO h.srv hb)
 clear h
 go_enter Tryz.func75,Tryz.ntmps75
 go_wp2_with (first
  | (go_at_call 128;refine Calls.mono C.out ?_;rintro e w1 ⟨pc,cc,pf,cf,rfl,_,_,hb1⟩;have HB1:=hdz hb1;clear hb1)
  | (go_at_call 42;refine(CT.out _ HB1.out).mono ?_;rintro e w2 ⟨hw,rfl⟩;obtain rfl:=hw.symm)
  | fail)
 go_ret;exact⟨rfl,HB1.out⟩
theorem JoP(h:isRoom lo w r bx bmx bs R) :
    Calls Tryz.prog 76 #[.pointer (some ⟨r,0,none⟩)] w fun e w'=>e=.returned (.int .i64 (R.E.length:Int))/\Below w.heap.size w w':=by
 have C:Hid _:=Je5 h;have CT:Hid (∀wx,Below w.heap.size w wx->Calls Tryz.prog 41 #[.pointer (some ⟨bx,0,none⟩)] wx fun e w'=>w'=wx/\e=.returned (.int .i64 R.E.length)):=fun wx hb=>Jit _ _ _ bx bmx R.t R.E R.M (JbO h.srv hb)
 clear h
 go_enter Tryz.func76,Tryz.ntmps76
 go_wp2_with (first
  | (go_at_call 128;refine Calls.mono C.out ?_;rintro e w1 ⟨pc,cc,pf,cf,rfl,_,_,hb1⟩;have HB1:=hdz hb1;clear hb1)
  | (go_at_call 41;refine(CT.out _ HB1.out).mono ?_;rintro e w2 ⟨hw,rfl⟩;obtain rfl:=hw.symm)
  | fail)
 go_ret;exact⟨rfl,HB1.out⟩
theorem JgR{e n m c:Nat}{p:Option Addr}{xs:List Value}(h:w.ownsRow lo e 1 (.slice p m c) n xs){k:Nat}{u:Value}(hk:xs[k]?=some u):∃g,p=some ⟨g,0,none⟩/\g<w.heap.size/\w.cell? ⟨g,k,none⟩=some u:=by
 have hkl:=(llt hk);obtain⟨h0,hrow⟩:=id h
 rcases hrow with ⟨e,hz⟩|⟨g,cap,cur,e,h3,h4,_⟩
 . rw[hz]at h0;rw[h0]at hkl;exact absurd hkl (by omega)
 . injection e with e1 _ _
   subst e1;refine⟨g,rfl,(alt h4),?_⟩;have:=World.ownsRow.cells (g:=g) h rfl k u hk;rw[Addr.add_lit,Nat.zero_add]at this;exact this
theorem JmA{k b:Nat}(h:bs[k]?=some b):(ptrs bs)[k]?=some (.pointer (some ⟨b,0,none⟩)):=by unfold ptrs;rw[List.getElem?_map,h];rfl
theorem Jd0(h:isRoom lo w r bx bmx bs R){k b:Nat}(hb:bs[k]?=some b)(hm:bs.length<=1000) :
    Calls Tryz.prog 62 #[.pointer (some ⟨r,0,none⟩),.int .i64 (k:Int)] w fun e w'=>e=.returned (.tuple #[.pointer (some ⟨b,0,none⟩),.nilIface])/\Below w.heap.size w w':=by
 have C:Hid _:=Je5 h;have hk:k<bs.length:=(llt hb);have HB0:Hid (bs[k]?=some b):=hb;have hk1:(k:Int)<(bs.length:Int):=by omega
 have hk2:¬(bs.length:Int)<=(k:Int):=by omega
 have hk3:¬(k:Int)<0:=by omega
 have hk4:(bs.length:Int)<=1000:=by omega
 clear h hb
 go_enter Tryz.func62,Tryz.ntmps62
 go_wp2_with (first
  | (go_at_call 128;refine Calls.mono C.out ?_
     rintro e w1 ⟨pc,cc,pf,cf,rfl,h3,_,hb1⟩;have HB1:=hdz hb1;obtain⟨g,epc,hgl,hgc0⟩:=JgR h3 (JmA HB0.out);subst epc;have hgc:w1.cell? ⟨g,k,none⟩=some (.pointer (some ⟨b,0,none⟩)):=(hb1.cell (p:=⟨g,k,none⟩) hgl).trans hgc0
     clear hb1 h3 hgc0)
  | fail)
 go_ret2
 exact⟨rfl,HB1.out⟩
end
section
open Go.RowKit Go.Maps
attribute [local go_sem] Oper.semAt_some
variable {lo b : Nat}{w : World}{who u : Int}{S : Cl}
theorem JeF(h:isCl lo w b who u S) :
    Calls Tryz.prog 127 #[.pointer (some ⟨b,0,none⟩)] w fun e w'=>∃p c,e=.returned (.agg #[.int .i64 who,.int .i64 u,.int .i64 S.rev,.string ⟨S.seen.toArray⟩,.slice p S.mine.length c,.string ⟨S.doc.toArray⟩,.int .i64 S.id,.int .i64 S.drops])/\Jc9 lo w (.slice p S.mine.length c) S.mine/\Below w.heap.size w w':=by
 obtain⟨_,vm,h3,h4⟩:=h;obtain⟨p,c,rfl⟩:=JbL h4;have H4:=hdz h4;have hbw:b<w.heap.size:=(alt h3);unfold JaO at h3;have x0:w.cell? ⟨b,0,none⟩=some (.int .i64 who):=chp h3 0;have x1:w.cell? ⟨b,1,none⟩=some (.int .i64 u):=chp h3 1;have x2:w.cell? ⟨b,2,none⟩=some (.int .i64 S.rev):=chp h3 2;have x3:w.cell? ⟨b,3,none⟩=some (.string ⟨S.seen.toArray⟩):=chp h3 3;have x4:w.cell? ⟨b,4,none⟩=some (.slice p S.mine.length c):=chp h3 4;have x5:w.cell? ⟨b,5,none⟩=some (.string ⟨S.doc.toArray⟩):=chp h3 5;have x6:w.cell? ⟨b,6,none⟩=some (.int .i64 S.id):=chp h3 6;have x7:w.cell? ⟨b,7,none⟩=some (.int .i64 S.drops):=chp h3 7;clear h3 h4
 go_enter Tryz.func127,Tryz.ntmps127
 go_wp2;refine bodyPost_ret (v:=.agg #[.int .i64 who,.int .i64 u,.int .i64 S.rev,.string ⟨S.seen.toArray⟩,.slice p S.mine.length c,.string ⟨S.doc.toArray⟩,.int .i64 S.id,.int .i64 S.drops]) (by simp[results,Tryz.results127,go_sem]) rfl ⟨_,_,rfl,H4.out,?_⟩;exact(brf _ _).alloc (nlr _) _
theorem clF1(a b c d e:Int)(s t:ByteArray)(p:Option Addr)(n m:Nat)(w:World):(Instr.field 203 (.agg #[.int .i64 a,.int .i64 b,.int .i64 c,.string s,.slice p n m,.string t,.int .i64 d,.int .i64 e]) 1).run Tryz.prog w=.ok (.int .i64 b) w:=by kernel_rfl
theorem clF2(a b c d e:Int)(s t:ByteArray)(p:Option Addr)(n m:Nat)(w:World):(Instr.field 203 (.agg #[.int .i64 a,.int .i64 b,.int .i64 c,.string s,.slice p n m,.string t,.int .i64 d,.int .i64 e]) 2).run Tryz.prog w=.ok (.int .i64 c) w:=by kernel_rfl
theorem clF3(a b c d e:Int)(s t:ByteArray)(p:Option Addr)(n m:Nat)(w:World):(Instr.field 203 (.agg #[.int .i64 a,.int .i64 b,.int .i64 c,.string s,.slice p n m,.string t,.int .i64 d,.int .i64 e]) 3).run Tryz.prog w=.ok (.string s) w:=by kernel_rfl
theorem clF4(a b c d e:Int)(s t:ByteArray)(p:Option Addr)(n m:Nat)(w:World):(Instr.field 203 (.agg #[.int .i64 a,.int .i64 b,.int .i64 c,.string s,.slice p n m,.string t,.int .i64 d,.int .i64 e]) 4).run Tryz.prog w=.ok (.slice p n m) w:=by kernel_rfl
theorem clF5(a b c d e:Int)(s t:ByteArray)(p:Option Addr)(n m:Nat)(w:World):(Instr.field 203 (.agg #[.int .i64 a,.int .i64 b,.int .i64 c,.string s,.slice p n m,.string t,.int .i64 d,.int .i64 e]) 5).run Tryz.prog w=.ok (.string t) w:=by kernel_rfl
theorem clF7(a b c d e:Int)(s t:ByteArray)(p:Option Addr)(n m:Nat)(w:World):(Instr.field 203 (.agg #[.int .i64 a,.int .i64 b,.int .i64 c,.string s,.slice p n m,.string t,.int .i64 d,.int .i64 e]) 7).run Tryz.prog w=.ok (.int .i64 e) w:=by kernel_rfl
attribute [local go_sem] clF1 clF2 clF3 clF4 clF5 clF7
theorem JeW(h:isCl lo w b who u S) :
    Calls Tryz.prog 54 #[.pointer (some ⟨b,0,none⟩)] w fun e w'=>e=.returned (.string ⟨S.doc.toArray⟩)/\Below w.heap.size w w':=by
 have C:Hid _:=JeF h;clear h
 go_enter Tryz.func54,Tryz.ntmps54
 go_wp2_with (first | (go_at_call 127;refine Calls.mono C.out ?_;rintro e w1 ⟨pm,cm,rfl,hm,hb1⟩;have HB1:=hdz hb1;clear hm hb1) | fail)
 go_ret;exact⟨rfl,HB1.out⟩
theorem JnP(h:isCl lo w b who u S) :
    Calls Tryz.prog 55 #[.pointer (some ⟨b,0,none⟩)] w fun e w'=>e=.returned (.string ⟨S.seen.toArray⟩)/\Below w.heap.size w w':=by
 have C:Hid _:=JeF h;clear h
 go_enter Tryz.func55,Tryz.ntmps55
 go_wp2_with (first | (go_at_call 127;refine Calls.mono C.out ?_;rintro e w1 ⟨pm,cm,rfl,hm,hb1⟩;have HB1:=hdz hb1;clear hm hb1) | fail)
 go_ret;exact⟨rfl,HB1.out⟩
theorem JbY(h:isCl lo w b who u S) :
    Calls Tryz.prog 57 #[.pointer (some ⟨b,0,none⟩)] w fun e w'=>e=.returned (.int .i64 u)/\Below w.heap.size w w':=by
 have C:Hid _:=JeF h;clear h
 go_enter Tryz.func57,Tryz.ntmps57
 go_wp2_with (first | (go_at_call 127;refine Calls.mono C.out ?_;rintro e w1 ⟨pm,cm,rfl,hm,hb1⟩;have HB1:=hdz hb1;clear hm hb1) | fail)
 go_ret;exact⟨rfl,HB1.out⟩
theorem JkT(h:isCl lo w b who u S) :
    Calls Tryz.prog 56 #[.pointer (some ⟨b,0,none⟩)] w fun e w'=>e=.returned (.int .i64 S.rev)/\Below w.heap.size w w':=by
 have C:Hid _:=JeF h;clear h
 go_enter Tryz.func56,Tryz.ntmps56
 go_wp2_with (first | (go_at_call 127;refine Calls.mono C.out ?_;rintro e w1 ⟨pm,cm,rfl,hm,hb1⟩;have HB1:=hdz hb1;clear hm hb1) | fail)
 go_ret;exact⟨rfl,HB1.out⟩
theorem Jbp(h:isCl lo w b who u S) :
    Calls Tryz.prog 58 #[.pointer (some ⟨b,0,none⟩)] w fun e w'=>e=.returned (.bool (decide (0<S.mine.length)))/\Below w.heap.size w w':=by
 have C:Hid _:=JeF h;clear h
 go_enter Tryz.func58,Tryz.ntmps58
 go_wp2_with (first | (go_at_call 127;refine Calls.mono C.out ?_;rintro e w1 ⟨pm,cm,rfl,hm,hb1⟩;have HB1:=hdz hb1;clear hm hb1) | fail)
 go_ret;exact⟨by simp,HB1.out⟩
end
section
open Go.RowKit
section
variable {P : Program} (w : World)
theorem Jfc(base:Nat)(t ty e:TypeId)(i:TypeInfo)(z:Value)(size bytes:Nat)(ht:P.underlying t=some (.slice e))(hi:P.info? e=some i)(hz:i.zero=some z)
    (hsize:i.size=size) (hby:i.bytes=bytes) (hzs:z.cells.size=size) (hsz:0<size) (v:Value) (n:Nat) (xs:List Value) (hown:w.ownsRow base e size v n xs)
    (a:Addr) (m c:Nat) (news:List Value) (hl:news.length=m*size) (hnews:∀j u,news[j]?=some u->w.cell? (a.add j)=some u) (h1:∀u∈news,u.oneCell'=true)
    (h63:n+m<=maxLen) (hbytes:(n+m)*bytes<=140737488355328) (hbase:base<=w.heap.size) (hm:0<m) :
    ∃ v' w',(Builtin.append_ #[t,t] ty #[v,.slice (some a) m c]).run P w=.ok v' w'/\w'.ownsRow base e size v' (n+m) (xs++news)/\w.grownBy w' v.ownBlock /\
     ∀k,v'.ownBlock=some k->v.ownBlock=some k\/w.heap.size<=k:=by
 obtain⟨v',w',r1,r2,r3,_⟩:=run_append_own w base t ty e i z size bytes ht hi hz hsize hby hzs hsz v n xs hown a m c news hl hnews h1 h63 hbytes hbase;refine⟨v',w',r1,r2,r3,?_⟩;subst hsize;subst hby;have key:∀x y,(Builtin.append_ #[t,t] ty #[v,.slice (some a) m c]).run P w=.ok x y->x=v':=fun x y h=>by
  rw[h]at r1;injection r1
 unfold maxLen at h63
 rcases hown.2 with ⟨rfl,rfl⟩|⟨g,cap,cur,rfl,hbg,hg,hnc,hcm,hcs,htake⟩
 . have hr:=run_append_nil (P:=P) w t ty e i z ht hi hz a m c news hl hnews hm (by omega) (by have hb:=hbytes;simp only[Nat.zero_add]at hb;omega)
   have:=key _ _ hr;subst this;intro k hk;exact .inr (Nat.le_of_eq (osi hk))
 . by_cases hroom:n+m<=cap
   . obtain⟨w2,hr,_,_⟩:=run_append_fits (P:=P) w base t ty e i i.size ht hi rfl g n cap xs hown a m c news hl hnews h1 hroom
     have:=key _ _ hr;subst this;intro k hk;exact .inl hk
   . have holds:∀j u,xs[j]?=some u->w.cell? ((⟨g,0,none⟩:Addr).add j)=some u:=hown.cells (g:=g) rfl
     have hr:=run_append_grow (P:=P) w t ty e i z ht hi hz ⟨g,0,none⟩ n cap xs hown.1 holds a m c news hl hnews (by omega) (by omega) (growslice_fits (by omega) hbytes);have:=key _ _ hr;subst this;intro k hk;exact .inr (Nat.le_of_eq (osi hk))
theorem Jcq{ops:Array Oper}{rest:List Oper}{o:Oper}{a:Act}{Q:Exit->Act->World->Prop}(hgd:o.guard=none)(s x:Operand)(t:TypeId)
    (ho:o.op=.call { callee:=.builtin .append,args:=#[s,x],argTypes:=#[t,t] })
    (base:Nat) (e:TypeId) (i:TypeInfo) (z:Value) (size bytes:Nat) (ht:P.underlying t=some (.slice e)) (hi:P.info? e=some i) (hz:i.zero=some z)
    (hsize:i.size=size) (hby:i.bytes=bytes) (hzs:z.cells.size=size) (hsz:0<size) (v:Value) (n:Nat) (xs:List Value) (hs:a.eval s=v) (hown:w.ownsRow base e size v n xs)
    (ad:Addr) (m c:Nat) (news:List Value) (hx:a.eval x=.slice (some ad) m c) (hl:news.length=m*size) (hnews:∀j u,news[j]?=some u->w.cell? (ad.add j)=some u) (h1:∀u∈news,u.oneCell'=true)
    (h63:n+m<=maxLen) (hbytes:(n+m)*bytes<=140737488355328) (hbase:base<=w.heap.size) (hm:0<m)
    (h:∀v' w',w'.ownsRow base e size v' (n+m) (xs++news)->w.grownBy w' v.ownBlock->(∀k,v'.ownBlock=some k->v.ownBlock=some k\/w.heap.size<=k)->wpList P ops Q rest (a.put o.dst v') w'):wpList P ops Q (o :: rest) a w :=
 wpList_plain hgd fun K hK=>by
  obtain⟨v',w',hr,h2,h3,h4⟩:=Jfc (P:=P) w base t o.type e i z size bytes ht hi hz hsize hby hzs hsz v n xs hown ad m c news hl hnews h1 h63 hbytes hbase hm;unfold Oper.wp execOp;simp only[ho,resolve,invoke,builtin,Sem.run_bind,Sem.run_pure,Result.andThen_ok,List.map_toArray,List.map_cons,List.map_nil,hs,hx,hr];exact hK _ _ (h v' w' h2 h3 h4)
end
end
section
open Go.RowKit
structure GrowZ (Z:World->Prop) (G:World->World):Prop where
 grow:∀{w w':World},Z w->Below w.heap.size w w'->Z w'
 but:∀x,Z (G x)
 onto:∀w,Z w->G w=w
open Classical in
theorem Jax{Z:World->Prop}{W:World}(hW:Z W)(h:∀{w w':World},Z w->Below w.heap.size w w'->Z w'):∃G,GrowZ Z G :=
 ⟨fun x=>if Z x then x else W,h,fun x=>by
  show Z (if Z x then x else W)
  split
  . assumption
  . exact hW,fun w h=>if_pos h⟩
section
variable {P : Program} {ops : Array Oper} {md : Region.Mode} {m : Nat} {Z : World → Prop} {Q : Exit → Act → World → Prop}
def anyZ (Z:World->Prop) (P:Program) (md:Region.Mode) (ops:Array Oper) (m:Nat) (Q:Exit->Act->World->Prop):Nat->Array Bool->Act->World->Prop
 | 0,listed,a,w=>Region.ready md ops listed=[]/\∀w',Below w.heap.size w w'->Q .normal a w'
 | fuel+1,listed,a,w =>
  (Region.ready md ops listed=[]->∀w',Below w.heap.size w w'->Q .normal a w') /\
  ∀i∈Region.ready md ops listed,∀w',Below w.heap.size w w'->opG P ops i (fun a' w''=>(i<m->Z w'->Z w'')/\anyZ Z P md ops m Q fuel (listed.setIfInBounds i true) a' w'') a w'
theorem JhN:∀(fuel:Nat)(listed:Array Bool)(a:Act)(w:World),anyZ Z P md ops m Q fuel listed a w->wpAny P md ops Q fuel listed a w
 | 0,_,_,w,h=>⟨h.1,h.2 w (brf _ _)⟩
 | fuel + 1,listed,a,w,h=>⟨fun h0=>h.1 h0 w (brf _ _),fun i hi=>by
     have h1:=h.2 i hi w (brf _ _);have h2:=JeQ (fun a' w'' hh=>JhN fuel _ a' w'' hh.2) h1;unfold opG at h2;unfold wpOp
     split
     . rename_i ho;simp only[ho]at h2;exact h2
     . rename_i o ho
       simp only[ho]at h2
       split
       . rename_i hw;simp only[hw,if_true]at h2;exact .inl (Jif h2)
       . rename_i hw;simp only[hw]at h2;exact h2⟩
theorem JiY:∀{fuel:Nat}{listed:Array Bool}{a:Act}{w w2:World},anyZ Z P md ops m Q fuel listed a w->Below w.heap.size w w2->anyZ Z P md ops m Q fuel listed a w2
 | 0,_,_,_,_,h,hb=>⟨h.1,fun w' hb'=>h.2 w' (hb.trans (hb'.mono hb.size))⟩
 | _+1,_,_,_,_,h,hb=>⟨fun h0 w' hb'=>h.1 h0 w' (hb.trans (hb'.mono hb.size)),fun i hi w' hb'=>h.2 i hi w' (hb.trans (hb'.mono hb.size))⟩
def Jdu (Z:World->Prop) (P:Program) (ops:Array Oper) (o:Oper) (v:Value) (a:Act):Prop :=
 if Region.wanted o (yielded ops a.tmps) then ∀w',Z w'->Ja2 P w' v ((execOp a.eval o).run P w') else v=undef
theorem JjT{o:Oper}{v:Value}{a a':Act}(hy:Jdu Z P ops o v a)(he:execOp a'.eval o=execOp a.eval o)
    (hw:Region.wanted o (yielded ops a'.tmps)=Region.wanted o (yielded ops a.tmps)):Jdu Z P ops o v a':=by
 unfold Jdu at *;rw[hw,he];exact hy
theorem Jfd{i:Nat}{o:Oper}{v:Value}{a:Act}{w':World}(hi:ops[i]?=some o)(hy:Jdu Z P ops o v a)(hb:Z w'){K:Act->World->Prop}
    (h:∀w'',Below w'.heap.size w' w''->K (a.put o.dst v) w''):opG P ops i K a w':=by
 unfold opG;simp only[hi];unfold Jdu at hy
 split
 . rename_i hw
   rw[if_pos hw]at hy;have h3:=hy w' hb;generalize (execOp a.eval o).run P w'=r at *
   cases r with
   | ok n w2 =>
    cases n<;>simp only[Ja2]at h3<;>simp only[JaV]
    case value u =>
     obtain⟨e1,e2⟩:=h3;rw[e2];exact h _ (by rw[e1];exact brf _ _)
    case skip =>
     obtain⟨e1,e2⟩:=h3;rw[←e2];exact h _ (by rw[e1];exact brf _ _)
    case enter f args =>
     obtain⟨e1,hc⟩:=h3;rw[e1];exact hc.mono fun e w'' ⟨he,hw''⟩=>⟨v,he,h _ hw''⟩
   | halt x w2=>simp only[Ja2]at h3
 . rename_i hw
   rw[if_neg hw]at hy;rw[←hy];exact h _ (brf _ _)
theorem Jq6{j:Nat}{oi oj:Oper}{v:Value}(hj:ops[j]?=some oj)(hap:oi.apart ops oj=true)(hsi:∀cs b,oi.op≠.select cs b)(hsj:∀cs b,oj.op≠.select cs b)
    {K:Act->World->Prop} {a:Act} {w:World} (hy:Jdu Z P ops oi v a) (h:opG P ops j K (a.put oi.dst v) w) :
    opG P ops j (fun a' w'=>Jdu Z P ops oi v a'/\K (a'.put oi.dst v) w') a w:=by
 obtain⟨h1,h2,h3⟩:=Oper.apart_spec hap;have keep:∀u,Jdu Z P ops oi v (a.put oj.dst u):=fun u=>JjT hy (execOp_put oi hsi a oj.dst u h3) (wanted_put oi a oj.dst u h3)
 unfold opG at *;simp only[hj]at *;rw[wanted_put oj a oi.dst v h1]at h
 split
 . rename_i hw
   simp only[hw,if_true]at h;rw[execOp_put oj hsj a oi.dst v h1]at h;generalize (execOp a.eval oj).run P w=r at *
   cases r with
   | ok n w2 =>
    cases n<;>simp only[JaV]at h ⊢
    case value u=>exact⟨keep u,by rw[←Act.put_comm a v u h2];exact h⟩
    case skip=>exact⟨keep _,by rw[←Act.put_comm a v undef h2];exact h⟩
    case enter f args=>exact h.mono fun e w'' ⟨u,e1,e2⟩=>⟨u,e1,keep u,by rw[←Act.put_comm a v u h2];exact e2⟩
   | halt x w2=>simp only[JaV]at h
 . rename_i hw
   simp only[hw]at h;exact⟨keep _,by rw[←Act.put_comm a v undef h2];exact h⟩
theorem JiZ(hZ:∀{w w':World},Z w->Below w.heap.size w w'->Z w'){i:Nat}{oi:Oper}{v:Value}(hi:ops[i]?=some oi)(him:i<m)(hsel:∀(j:Nat)(o:Oper) cs b,ops[j]?=some o->o.op≠.select cs b)(hlate:Jg1 md ops m=true) :
    ∀ (fuel:Nat) (listed:Array Bool) (a:Act) (w:World),Z w ->
     (∀j oj,ops[j]?=some oj->j≠i->listed.getD j true=false->(∀e∈oj.after,Region.binds md e=true->e.on≠i)->oi.apart ops oj=true) ->
     i∈Region.ready md ops listed->Jdu Z P ops oi v a ->
     anyZ Z P md ops m Q fuel (listed.setIfInBounds i true) (a.put oi.dst v) w->anyZ Z P md ops m Q (fuel+1) listed a w:=by
 intro fuel
 induction fuel with
 | zero =>
  intro listed a w hC _ hr hy H;refine⟨fun h=>(by rw[h]at hr;cases hr),fun j hj w' hb=>?_⟩
  by_cases hji:j=i
  . subst hji;exact Jfd hi hy (hZ hC hb) fun w'' hb'=>⟨fun _ h=>hZ h hb',JiY H (hb.trans (hb'.mono hb.size))⟩
  . have:=ready_mono hj hji
    rw[H.1]at this
    cases this
 | succ fuel ih =>
  intro listed a w hC hfree hr hy H;refine⟨fun h=>(by rw[h]at hr;cases hr),fun j hj w' hb=>?_⟩;have hC':=hZ hC hb
  by_cases hji:j=i
  . subst hji;exact Jfd hi hy hC' fun w'' hb'=>⟨fun _ h=>hZ h hb',JiY H (hb.trans (hb'.mono hb.size))⟩
  . have h1:=H.2 j (ready_mono hj hji) w' hb
    obtain⟨hjun,oj,hoj,hall⟩:=mem_ready.1 hj;have hnot:∀e∈oj.after,Region.binds md e=true->e.on≠i:=fun e he hb heq=>by
     have h1:=hall e he hb;have h0:=(mem_ready.1 hr).1;rw[heq]at h1
     rcases Nat.lt_or_ge i listed.size with h' | h'
     . simp[h']at h0 h1;rw[h0]at h1;cases h1
     . simp[Array.getElem?_eq_none h']at h1
    have hjm:j<m:=by
     by_cases hjm:j<m
     . exact hjm
     . obtain⟨e,he,hb,hon⟩:=Jh1 hlate hoj hjm him
       exact absurd hon (hnot e he hb)
    have h2:=Jq6 hoj (hfree j oj hoj hji hjun hnot) (fun cs b=>hsel i oi cs b hi) (fun cs b=>hsel j oj cs b hoj) hy h1
    have hfree':∀k ok,ops[k]?=some ok->k≠i->(listed.setIfInBounds j true).getD k true=false ->
        (∀e∈ok.after,Region.binds md e=true->e.on≠i)->oi.apart ops ok=true:=fun k ok hk hki hun hno=>by
     refine hfree k ok hk hki ?_ hno
     by_cases hjk:j=k
     . subst hjk;exact hjun
     . rw[getD_set_ne true hjk]at hun;exact hun
    refine JeQ (fun a' w'' h3=>?_) h2;obtain⟨h3y,h3g,h3a⟩:=h3;refine⟨fun _=>h3g hjm,ih (listed.setIfInBounds j true) a' w'' (h3g hjm hC') hfree' (ready_mono hr (Ne.symm hji)) h3y ?_⟩;rw[Array.setIfInBounds_comm _ _ hji];exact h3a
theorem JpY{i fuel:Nat}{o:Oper}{listed:Array Bool}{a:Act}{w:World}{G:World->World}(hG:GrowZ Z G)(hw0:Z w)(hi:ops[i]?=some o)(him:decide (i<m)=true)(hs:(Region.noSelect ops && Jg1 md ops m)=true)
    (hf:(Region.free md ops listed i && (Region.ready md ops listed).contains i)=true)
    (h:∀K:Act->Prop,(∀a,anyZ Z P md ops m Q fuel (listed.setIfInBounds i true) a w->K a)->if Region.wanted o (yielded ops a.tmps) then ∃v,(∀x,Ja2 P (G x) v ((execOp a.eval o).run P (G x)))/\K (a.put o.dst v) else K (a.put o.dst undef)) :
    anyZ Z P md ops m Q (fuel+1) listed a w:=by
 have h1:=h _ fun _ h=>h
 have him':i<m:=of_decide_eq_true him;rw[Bool.and_eq_true]at hs hf
 split at h1
 . rename_i hw
   obtain⟨v,h2,h3⟩:=h1;refine JiZ hG.grow hi him' (Region.noSelect_spec hs.1) hs.2 fuel listed a w hw0 (Region.free_spec hi hf.1) (by simpa using hf.2) ?_ h3;unfold Jdu;rw[if_pos hw];intro w' hb;have:=h2 w';rw[hG.onto w' hb]at this;exact this
 . rename_i hw
   refine JiZ hG.grow hi him' (Region.noSelect_spec hs.1) hs.2 fuel listed a w hw0 (Region.free_spec hi hf.1) (by simpa using hf.2) ?_ h1;unfold Jdu;rw[if_neg hw]
theorem az{fuel:Nat}{o:Oper}{listed:Array Bool}{a:Act}{w:World}{G:World->World}(hG:GrowZ Z G)(hw0:Z w)(i:Nat)
    (h:∀K:Act->Prop,(∀a,anyZ Z P md ops m Q fuel (listed.setIfInBounds i true) a w->K a)->if Region.wanted o (yielded ops a.tmps) then ∃v,(∀x,Ja2 P (G x) v ((execOp a.eval o).run P (G x)))/\K (a.put o.dst v) else K (a.put o.dst undef)) (hi:ops[i]?=some o:=by rfl) (him:decide (i<m)=true:=by kernel_rfl) (hs:(Region.noSelect ops && Jg1 md ops m)=true:=by kernel_rfl) (hf:(Region.free md ops listed i && (Region.ready md ops listed).contains i)=true:=by kernel_rfl):anyZ Z P md ops m Q (fuel+1) listed a w :=
 JpY (i:=i) hG hw0 hi him hs hf h
def askZ (Z:World->Prop) (P:Program) (md:Region.Mode) (ops:Array Oper) (m:Nat) (Q:Exit->Act->World->Prop) (fuel:Nat) (listed:Array Bool) (a:Act) (w:World) (i:Nat):Prop :=
 ∃o,ops[i]?=some o/\∀w',Below w.heap.size w w'->∀K:Act->World->Prop,(∀a' w'',(Z w'->Z w'')->anyZ Z P md ops m Q fuel (listed.setIfInBounds i true) a' w''->K a' w'')->if Region.wanted o (yielded ops a.tmps) then JaV P o a K ((execOp a.eval o).run P w') else K (a.put o.dst undef) w'
theorem JaF{i fuel:Nat}{listed:Array Bool}{a:Act}{w:World}(hr:Region.ready md ops listed=[i])(h:askZ Z P md ops m Q fuel listed a w i):anyZ Z P md ops m Q (fuel+1) listed a w:=by
 obtain⟨o,hi,h⟩:=h;refine⟨fun h0=>absurd (hr.symm.trans h0) (by simp),fun j hj w' hb=>?_⟩;rw[hr,List.mem_singleton]at hj;subst hj;unfold opG;simp only[hi];exact h w' hb _ fun a' w'' hb' ha=>⟨fun _=>hb',ha⟩
theorem JaM{fuel:Nat}{listed:Array Bool}{a:Act}{w:World}(hr:Region.ready md ops listed=[])(h:∀w',Below w.heap.size w w'->Q .normal a w'):anyZ Z P md ops m Q fuel listed a w:=by
 cases fuel with
 | zero=>exact⟨hr,h⟩
 | succ n=>exact⟨fun _=>h,fun i hi=>(by rw[hr]at hi;cases hi)⟩
theorem Jaq{id:Nat}{a:Act}{w:World}{l:List Oper}(Z:World->Prop)(m n:Nat)(hm:P.follows .mixedOrders=true)(hn:l.length=n)
    (h:∀w',Below w.heap.size w w'->anyZ Z P .any l.toArray m Q n (Array.replicate n false) a w'):(Code.region id l.toArray true).wp P Q a w :=
 wp_region_any hm (JhN (Z:=Z) _ _ _ _ (by subst hn;simpa using h { w with drawn:=w.drawn+1 } (Below.drew (brf _ w))))
end
end
section
open Go.RowKit Go.Maps
attribute [local go_sem] Oper.semAt_some Ja2 JaV
variable {w w' : World}{b lo : Nat}{who u : Int}{S : Cl}{vm vm' v : Value}{o : List Pt}{ms : List (List Pt)}{vs : List Value}
theorem Jat(h3:w.heap[b]?=some (.cells (JaO who u S vm) 203 (0,0))) :
    w.cell? ⟨b,0,none⟩=some (.int .i64 who)/\w.cell? ⟨b,1,none⟩=some (.int .i64 u)/\w.cell? ⟨b,2,none⟩=some (.int .i64 S.rev)/\w.cell? ⟨b,3,none⟩=some (.string ⟨S.seen.toArray⟩)/\w.cell? ⟨b,4,none⟩=some vm/\w.cell? ⟨b,5,none⟩=some (.string ⟨S.doc.toArray⟩)/\w.cell? ⟨b,6,none⟩=some (.int .i64 S.id)/\w.cell? ⟨b,7,none⟩=some (.int .i64 S.drops)/\∀o,w.frozen? ⟨b,o,none⟩=false :=
 ⟨chp h3 0,chp h3 1,chp h3 2,chp h3 3,chp h3 4,chp h3 5,chp h3 6,chp h3 7,fun o=>Jak h3⟩
theorem JqQ(h4:w.cell? ⟨b,4,none⟩=some vm)(h4':w'.cell? ⟨b,4,none⟩=some vm')(hs:sameBut w w' fun k=>k=b\/vm.ownBlock=some k)(hn:∀k,vm'.ownBlock=some k->vm.ownBlock=some k\/w.heap.size<=k):keptC w w' b:=by
 refine⟨hs.mono fun k _ hk=>hk.imp id fun e=>⟨vm,h4,e⟩,fun k hk=>?_⟩
 rcases hk with rfl|⟨v,e,hk⟩
 . exact .inl (.inl rfl)
 . rw[h4']at e
   obtain rfl:=osi e;exact(hn k hk).imp (fun e=>.inr ⟨vm,h4,e⟩) id
theorem JdO{S':Cl}(hlo:lo<=b)(h3:w.heap[b]?=some (.cells (JaO who u S vm) 203 (0,0)))(h3':w'.heap[b]?=some (.cells (JaO who u S' vm') 203 (0,0)))(hm:Jc9 lo w' vm' S'.mine)
    (hs:sameBut w w' fun k=>k=b\/vm.ownBlock=some k) (hn:∀k,vm'.ownBlock=some k->vm.ownBlock=some k\/w.heap.size<=k):isCl lo w' b who u S'/\keptC w w' b :=
 ⟨⟨hlo,vm',h3',hm⟩,JqQ (Jat h3).2.2.2.2.1 (Jat h3').2.2.2.2.1 hs hn⟩
theorem Jrx(h:isCl lo w b who u S)(hm:S.mine=[])(v:Value)(o:List Pt)(hx:opX lo w v o)(hid:0<=S.id/\S.id<=1000000) :
    Calls Tryz.prog 121 #[.pointer (some ⟨b,0,none⟩),v] w fun e w'=>e=.returned (.tuple #[])/\isCl lo w' b who u { S with mine:=[o],id:=S.id+1 }/\keptC w w' b:=by
 have hlt:=JbP h;obtain⟨hlo,vm,h3,h4⟩:=h;obtain⟨p,c,rfl⟩:=JbL h4;have hl0:S.mine.length=0:=by rw[hm];rfl
 rw[hl0]at h3 h4;obtain⟨_,_,_,_,x4,_,x6,_,xf⟩:=Jat h3;have f4:=xf 4;have f6:=xf 6;obtain⟨pv,cv,rfl⟩:∃p c,v=.slice p o.length c:=by obtain⟨⟨p,c,e,_⟩,_⟩:=hx;exact⟨p,c,e⟩
 have H3:=hdz h3;have HX:=hdz hx;have hid1:wrap64 (S.id+1)=S.id+1:=Ja0 (by omega) (by omega);obtain⟨i0,i1⟩:=hid;generalize hon:o.length=on at *;have hne:b≠w.heap.size:=by omega
 clear h3 h4 hm hl0 hx xf
 go_enter Tryz.func121,Tryz.ntmps121
 go_wp2;go_end0;refine⟨rfl,?_⟩;have b1:=heap_setCell_same w b 4 _ _ (.slice (some ⟨w.heap.size,0,none⟩) 1 1) H3.out;have b2:=heap_setCell_same _ b 6 _ _ (.int .i64 (S.id+1)) b1;have hs1:sameBut w ((w.setCell ⟨b,4,none⟩ (.slice (some ⟨w.heap.size,0,none⟩) 1 1)).setCell ⟨b,6,none⟩ (.int .i64 (S.id+1))) (fun k=>k=b):=(Jau (S:=fun k=>k=b) rfl).trans (Jau (S:=fun k=>k=b) rfl);have hz1:((w.setCell ⟨b,4,none⟩ (.slice (some ⟨w.heap.size,0,none⟩) 1 1)).setCell ⟨b,6,none⟩ (.int .i64 (S.id+1))).heap.size=w.heap.size:=by rw[World.size_setCell,World.size_setCell]
 generalize (w.setCell ⟨b,4,none⟩ (.slice (some ⟨w.heap.size,0,none⟩) 1 1)).setCell ⟨b,6,none⟩ (.int .i64 (S.id+1))=W at *;have hs2:sameBut w (W.alloc (.cells #[.slice pv on cv] 23)) (fun k=>k=b):=hs1.trans (Jaf ((brf _ _).alloc (nlr _) _) _);have hrow:=World.ownsRow_lit (e:=23) (base:=lo) (size:=1) W #[.slice pv on cv] 1 (by omega) (by unfold maxLen;omega) rfl;rw[hz1]at hrow;refine JdO hlo H3.out (Jev b2) ⟨[.slice pv on cv],rfl,hrow,fun i m x hi hx=>?_⟩ (hs2.mono fun k _ hk=>.inl hk) fun k hk=>.inr (Nat.le_of_eq (osi hk))
 cases i with
 | succ i=>simp at hi
 | zero =>
  obtain rfl:o=m:=by simpa using hi
  obtain rfl:Value.slice pv on cv=x:=by simpa using hx
  exact Jb8 HX.out hs2 fun k _ hk=>by obtain rfl:=hk;exact⟨hlo,JaA H3.out (by decide)⟩
theorem info_op:(Tryz.prog.info? 23).map (fun i=>(i.zero,i.size,i.bytes))=some (some (.slice none 0 0),1,24):=by kernel_rfl
theorem JaH(h:opX lo w v o):∃p c,v=.slice p o.length c:=by
 obtain⟨⟨p,c,e,_⟩,_⟩:=h;exact⟨p,c,e⟩
theorem Jn8(p:Option Addr)(n c:Nat):∀x∈[Value.slice p n c],x.oneCell'=true:=by
 intro x hx;simp only[List.mem_singleton]at hx;subst hx;rfl
theorem Jpo{w6:World}{v1 v2 x:Value}(h1:vs.length=ms.length)(h2:w.ownsRow lo 23 1 v1 ms.length vs)(h3:∀(i:Nat)(m:List Pt)(y:Value),ms[i]?=some m->vs[i]?=some y->opX lo w y m)(hx:opX lo w x o)
    (hg:w.grownBy w6 v1.ownBlock) (hnew:w6.ownsRow lo 23 1 v2 (ms.length+1) (vs++[x])):Jc9 lo w6 v2 (ms++[o]):=by
 have hs:sameBut w w6 fun k=>v1.ownBlock=some k:=JaP hg fun k e=>e
 have hS:∀k,k<w.heap.size->v1.ownBlock=some k->lo<=k/\Jc8 w k:=fun k _ hk=>by
  obtain⟨a,b,cs,c⟩:=JbN ⟨vs,h1,h2,h3⟩ hk;exact⟨a,JaA c (by decide)⟩
 refine⟨vs++[x],by simp[h1],by rw[List.length_append,List.length_singleton];exact hnew,fun i m y hm hy=>?_⟩
 rcases Nat.lt_or_ge i ms.length with hi|hi
 . rw[List.getElem?_append_left hi]at hm
   rw[List.getElem?_append_left (by omega)]at hy;exact Jb8 (h3 i m y hm hy) hs hS
 . have : i=ms.length:=by
     rcases Nat.lt_or_ge ms.length i with h|h
     . rw[List.getElem?_append_right hi]at hm
       obtain⟨j,hj⟩:∃j,i - ms.length=j+1:=⟨i - ms.length - 1,by omega⟩;rw[hj]at hm;simp at hm
     . omega
   subst this;rw[List.getElem?_append_right (nlr _),Nat.sub_self]at hm;rw[List.getElem?_append_right (by omega),h1,Nat.sub_self]at hy;obtain rfl:o=m:=by simpa using hm
   obtain rfl:x=y:=by simpa using hy
   exact Jb8 hx hs hS
theorem JmK{g n c:Nat}(h1:vs.length=ms.length)(h2:w.ownsRow lo 23 1 (.slice (some ⟨g,0,none⟩) n c) ms.length vs)(h3:∀(i:Nat)(m:List Pt)(y:Value),ms[i]?=some m->vs[i]?=some y->opX lo w y m){x:Value}{o:List Pt}(hx:opX lo w x o)(j:Nat) :
    Jc9 lo (w.setCell ⟨g,j,none⟩ x) (.slice (some ⟨g,0,none⟩) n c) (ms.set j o)/\sameBut w (w.setCell ⟨g,j,none⟩ x) fun k=>(Value.slice (some ⟨g,0,none⟩) n c).ownBlock=some k:=by
 have hn:n=ms.length:=by
  rcases h2.2 with ⟨e,_⟩|⟨g',cap,cur,e,_⟩
  . cases e
  . injection e
 subst hn;obtain⟨r1,r2⟩:=World.ownsRow.stored h2 j x;have hs:sameBut w (w.setCell ⟨g,j,none⟩ x) fun k=>(Value.slice (some ⟨g,0,none⟩) ms.length c).ownBlock=some k:=JaP r2 fun k e=>e
 have hS:∀k,k<w.heap.size->(Value.slice (some ⟨g,0,none⟩) ms.length c).ownBlock=some k->lo<=k/\Jc8 w k:=fun k _ hk=>by
  obtain⟨a,b,cs,c⟩:=JbN ⟨vs,h1,h2,h3⟩ hk;exact⟨a,JaA c (by decide)⟩
 refine⟨⟨vs.set j x,by simp[h1],by rw[List.length_set];exact r1,fun i m y hm hy=>?_⟩,hs⟩
 by_cases hij:j=i
 . subst hij
   rw[List.getElem?_set]at hm hy;simp only[if_true]at hm hy
   split at hm
   . split at hy
     . obtain rfl:=osi hm
       obtain rfl:=osi hy;exact Jb8 hx hs hS
     . cases hy
   . cases hm
 . rw[List.getElem?_set_ne hij]at hm hy
   exact Jb8 (h3 i m y hm hy) hs hS
theorem Jrw(h:isCl lo w b who u S)(hm:S.mine.length=1)(v:Value)(o:List Pt)(hx:opX lo w v o) :
    Calls Tryz.prog 121 #[.pointer (some ⟨b,0,none⟩),v] w fun e w'=>e=.returned (.tuple #[])/\isCl lo w' b who u { S with mine:=S.mine++[o] }/\keptC w w' b:=by
 have hlt:=JbP h;obtain⟨hlo,vm,h3,h4⟩:=h;obtain⟨p,c,rfl⟩:=JbL h4;rw[hm]at h3 h4;obtain⟨_,_,_,_,x4,_,_,_,xf⟩:=Jat h3;obtain⟨pv,cv,rfl⟩:=JaH hx;have H3:=hdz h3;have HX:=hdz hx;have HM:Hid (S.mine.length=1):=hm;have hbw:Below w.heap.size w (w.alloc (.cells #[.slice pv o.length cv] 23)):=(brf _ _).alloc (nlr _) _;obtain⟨vs,m1,m2,m3⟩:=JbE h4 hbw;rw[hm]at m2;have M1:=hdz m1;have M2:=hdz m2;have M3:=hdz m3;have HMO:Hid (∀k,(Value.slice p 1 c).ownBlock=some k->lo<=k/\k<w.heap.size/\∃cs,w.heap[k]?=some (.cells cs 23 (0,0))):=fun k hk=>JbN h4 hk
 have HBW:=hdz hbw;obtain⟨i0,hi,hz0,hz1,hz2⟩:=info_parts info_op;have HI:=hdz hi;have HZ0:=hdz hz0;have HZ1:=hdz hz1;have HZ2:=hdz hz2;generalize hon:o.length=on at *;have hne:b≠w.heap.size:=by omega
 have HLO:Hid (lo<=b):=hlo;clear h3 h4 hm hx xf m1 m2 m3 hbw hi hz0 hz1 hz2 hlo
 go_enter Tryz.func121,Tryz.ntmps121
 go_wp2_with (first
  | (at_builtin;refine Jcq _ rfl _ _ 60 rfl lo 23 i0 (.slice none 0 0) 1 24 Tryz.underlying60 HI.out HZ0.out HZ1.out HZ2.out rfl (by decide) _ _ _ rfl M2.out ⟨w.heap.size,0,none⟩ 1 1 [.slice pv on cv] rfl rfl (JdZ _ _ (by first | rfl | simp) _ _) (Jn8 _ _ _) (by unfold maxLen;omega) (by omega) (by have:=HLO.out;simp;omega) (by decide) ?_)
  | fail)
 all_goals
  intro v2 w6 hown' hg' hnew';obtain⟨p7,c7,rfl⟩:=Jad hown';have hnb:some b≠(Value.slice p 1 c).ownBlock:=fun e=>by
   obtain⟨_,_,cs,hc⟩:=HMO.out b e.symm;have:=JaG H3.out hc;revert this;decide
  have hb6:=(hg'.block b (by rw[wsa];omega) hnb).trans (Jev (o':=.cells #[.slice pv on cv] 23) H3.out);have HB6:=hdz hb6;obtain⟨_,_,_,_,y4,_,_,_,yf⟩:=Jat hb6;have z4:=yf 4;have HMN:Hid (Jc9 lo w6 (.slice p7 (1+1) c7) (S.mine++[o])):=Jpo M1.out (by rw[HM.out];exact M2.out) M3.out (Ja5 HX.out HBW.out) hg' (by rw[HM.out];exact hown');have HS6:Hid (sameBut w w6 fun k=>k=b\/(Value.slice p 1 c).ownBlock=some k):=(Jaf HBW.out _).comp (JaP (S:=fun k=>(Value.slice p 1 c).ownBlock=some k) hg' fun k e=>e) fun k _ e=>.inr e
  have HNW:Hid (∀k,(Value.slice p7 (1+1) c7).ownBlock=some k->(Value.slice p 1 c).ownBlock=some k\/w.heap.size<=k):=fun k hk=>(hnew' k hk).imp id fun e=>by omega
  clear hown' hg' hnew' hnb hb6 yf;go_wp2;go_end0;refine⟨rfl,?_⟩;have b1:=heap_setCell_same w6 b 4 _ _ (.slice p7 (1+1) c7) HB6.out;have hs1:sameBut w6 (w6.setCell ⟨b,4,none⟩ (.slice p7 (1+1) c7)) (fun k=>k=b):=Jau (S:=fun k=>k=b) rfl;refine JdO HLO.out H3.out b1 (JcQ HMN.out hs1 (fun k _ hk=>by obtain rfl:=hk;exact⟨HLO.out,JaA HB6.out (by decide)⟩) fun k hk e=>?_) (HS6.out.comp hs1 fun k _ e=>.inl e) HNW.out;obtain⟨_,_,cs,hc⟩:=JbN HMN.out hk;subst e;have:=JaG HB6.out hc;revert this;decide
theorem kCompN(v1 v2:Value)(a b:List Pt)(t:List UInt8)(w:World)(hT:Lib.Utf8Tabs 2 3 w)(r1:opAt w v1 a)(r2:opAt w v2 b)(ha:good a t)(hb:good b (Jab a t))(h1:t.length+Jan a<1000000)(h2:(Jab a t).length+Jan b<1000000) :
    Calls Tryz.prog 182 #[v1,v2] w fun e w'=>∃v',e=.returned (.tuple #[v',.nilIface])/\opN w.heap.size w' v' (JaC (JgF a b))/\Below w.heap.size w w':=by
 have f1:=ha.fine h1;have f2:=hb.fine h2;have e:JpL a b=0:=by unfold JpL;rw[ha.both hb h1 h2,if_pos rfl,(ha.lens h1).2,(hb.lens h2).1,if_pos rfl]
 have:=JpK v1 v2 a b w hT r1 r2 (ha.wf h1) (hb.wf h2) f1.len f2.len fun _=>⟨f1,f2⟩
 rw[e,if_pos rfl]at this;exact this
theorem Jpt(v1 v2:Value)(F:Bool)(a b:List Pt)(t:List UInt8)(w:World)(hT:Lib.Utf8Tabs 2 3 w)(r1:opAt w v1 a)(r2:opAt w v2 b)(ha:good a t)(hb:good b t)(h1:t.length+Jan a<1000000)(h2:t.length+Jan b<1000000) :
    Calls Tryz.prog 187 #[v1,v2,.bool F] w fun e w'=>∃v',e=.returned (.tuple #[v',.nilIface])/\opN w.heap.size w' v' (JaC (Jba F a b))/\Below w.heap.size w w':=by
 have f1:=ha.fine h1;have f2:=hb.fine h2;have e:Jln a b=0:=by unfold Jln;rw[ha.both hb h1 h2,if_pos rfl,(ha.lens h1).1,(hb.lens h2).1,if_pos rfl]
 have:=Jil v1 v2 F a b w hT r1 r2 (ha.wf h1) (hb.wf h2) f1.len f2.len fun _=>⟨f1,f2⟩
 rw[e,if_pos rfl]at this;exact this
theorem Jd4{B:Nat}(h:opN B w v o):∃p c,v=.slice p o.length c:=by
 obtain⟨⟨p,c,e,_⟩,_⟩:=h;exact⟨p,c,e⟩
theorem Jrv(h:isCl lo w b who u S){m1 m2:List Pt}(hm:S.mine=[m1,m2])(v:Value)(o:List Pt)(hx:opX lo w v o)(hT:Lib.Utf8Tabs 2 3 w){t:List UInt8}(ha:good m2 t)(hb:good o (Jab m2 t))(h1:t.length+Jan m2<1000000)(h2:(Jab m2 t).length+Jan o<1000000) :
    Calls Tryz.prog 121 #[.pointer (some ⟨b,0,none⟩),v] w fun e w'=>e=.returned (.tuple #[])/\isCl lo w' b who u { S with mine:=[m1,JaC (JgF m2 o)] }/\keptC w w' b:=by
 have hlt:=JbP h;obtain⟨hlo,vm,h3,h4⟩:=h;have h4':=h4;obtain⟨vs,q1,q2,q3⟩:=h4';obtain ⟨g,c,rfl⟩:∃g c,vm=.slice (some ⟨g,0,none⟩) 2 c:=by
  rw[hm]at q2
  rcases q2.2 with ⟨_,e⟩|⟨g,cap,cur,e,_⟩
  . cases e
  . exact⟨g,cap,e⟩
 have hl2:S.mine.length=2:=by rw[hm];rfl
 have hvl:vs.length=2:=by rw[q1,hl2]
 obtain⟨x1,hx1⟩:∃x1,vs[1]?=some x1:=⟨vs[1],lgg (by omega)⟩;have ho1:opX lo w x1 m2:=q3 1 m2 x1 (by rw[hm];rfl) hx1;have hr1:w.cell? ⟨g,1,none⟩=some x1:=by rw[hl2]at q2;rw[World.ownsRow.cellAt q2 1 (by omega)];exact hx1
 obtain⟨_,_,_,_,x4,_,_,_,xf⟩:=Jat h3;have hg:=JbN h4 (k:=g) rfl;have hgb:g≠b:=fun e=>by
  obtain⟨_,_,cs,hc⟩:=hg;subst e;have:=JaG h3 hc;revert this;decide
 have hc2:2<=c/\c<=maxLen:=by
  rw[hl2]at q2
  rcases q2.2 with ⟨e,_⟩|⟨g',cap,cur,e,_,_,e5,e6,_⟩
  . cases e
  . injection e with _ _ e;subst e;exact⟨e5,e6⟩
 obtain⟨hc2,hc3⟩:=hc2;unfold maxLen at hc3;have CC:Hid (∀wx,Below w.heap.size w wx->Calls Tryz.prog 182 #[x1,v] wx fun e w'=>∃v',e=.returned (.tuple #[v',.nilIface])/\opN wx.heap.size w' v' (JaC (JgF m2 o))/\Below wx.heap.size wx w'):=fun wx hb'=>kCompN x1 v m2 o t wx (Go.Proofs.Utf8Tabs_below hT hb') (Ja5 ho1 hb').1 (Ja5 hx hb').1 ha hb h1 h2
 obtain⟨p1,c1,rfl⟩:=JaH ho1;obtain⟨pv,cv,rfl⟩:=JaH hx;have H3:=hdz h3;have H4:=hdz h4;have HLO:Hid (lo<=b):=hlo;have HM:Hid (S.mine=[m1,m2]):=hm;have HG:Hid (lo<=g/\g<w.heap.size):=⟨hg.1,hg.2.1⟩;generalize hO:JaC (JgF m2 o)=O at *;generalize m2.length=n2 at *;generalize o.length=on at *;clear h3 h4 hm hx ho1 q1 q2 q3 hvl hx1 hl2 xf hT ha hb h1 h2 hg hlo hO
 go_enter Tryz.func121,Tryz.ntmps121
 go_wp2;refine Jaq (fun wx:World=>wx.heap[b]?=some (.cells (JaO who u S (.slice (some ⟨g,0,none⟩) 2 c)) 203 (0,0))) 17 17 (by kernel_rfl) rfl ?_
 intro w30 hb30;have hz0:w30.heap[b]?=some (.cells (JaO who u S (.slice (some ⟨g,0,none⟩) 2 c)) 203 (0,0)):=(hb30.block b hlt).trans H3.out;obtain⟨G,hG⟩:=Jax (Z:=fun wx:World=>wx.heap[b]?=some (.cells (JaO who u S (.slice (some ⟨g,0,none⟩) 2 c)) 203 (0,0))) hz0 (fun {w w'} h hb=>(hb.block b (alt h)).trans h);have y4:∀x,(G x).cell? ⟨b,4,none⟩=some (.slice (some ⟨g,0,none⟩) 2 c):=fun x=>(Jat (hG.but x)).2.2.2.2.1
 refine az hG hz0 0 fun _ k=>?_;go_simp;refine k _ ?_;clear k
 refine az hG hz0 1 fun _ k=>?_;go_simp;refine k _ ?_;clear k
 refine az hG hz0 2 fun _ k=>?_;go_simp;refine k _ ?_;clear k
 refine az hG hz0 3 fun _ k=>?_;go_simp;refine k _ ?_;clear k
 refine az hG hz0 4 fun _ k=>?_;go_simp;refine k _ ?_;clear k
 refine az hG hz0 5 fun _ k=>?_;go_simp;refine k _ ?_;clear k
 refine az hG hz0 6 fun _ k=>?_;go_simp;refine k _ ?_;clear k
 refine az hG hz0 7 fun _ k=>?_;go_simp;refine k _ ?_;clear k
 refine az hG hz0 8 fun _ k=>?_;go_simp;refine k _ ?_;clear k
 refine az hG hz0 10 fun _ k=>?_;go_simp;refine k _ ?_;clear k
 clear y4;refine JaF (i:=9) (by kernel_rfl) ⟨_,rfl,?_⟩;intro w29 hb29 K hK;have yr:=(hb29.cell (p:=⟨g,1,none⟩) (Nat.lt_of_lt_of_le HG.out.2 hb30.size)).trans ((hb30.cell (p:=⟨g,1,none⟩) HG.out.2).trans hr1)
 go_simp
 refine hK _ _ (fun h=>h) ?_
 clear hK K yr;refine JaF (i:=11) (by kernel_rfl) ⟨_,rfl,?_⟩;intro w31 hb31 K hK
 go_simp
 have hb39:=hb30.trans (hb29.mono hb30.size);have hb38:=hb39.trans (hb31.mono hb39.size);refine(CC.out w31 hb38).mono ?_
 rintro e w32 ⟨v',rfl,hn,hb32⟩;obtain⟨p9,c9,rfl⟩:=Jd4 hn;have HN:=hdz hn;have hz2:w32.heap[b]?=some (.cells (JaO who u S (.slice (some ⟨g,0,none⟩) 2 c)) 203 (0,0)):=((hb38.trans (hb32.mono hb38.size)).block b hlt).trans H3.out;refine⟨_,rfl,hK _ _ (fun _=>hz2) ?_⟩;clear hK K hn hz0;refine az hG hz2 12 fun _ k=>?_;go_simp;refine k _ ?_;clear k
 refine az hG hz2 13 fun _ k=>?_;go_simp;refine k _ ?_;clear k
 refine az hG hz2 14 fun _ k=>?_;go_simp;refine k _ ?_;clear k
 refine az hG hz2 15 fun _ k=>?_;go_simp;refine k _ ?_;clear k
 clear hG hz2;refine JaF (i:=16) (by kernel_rfl) ⟨_,rfl,?_⟩;intro w33 hb33 K hK;have hb37:=hb38.trans (hb32.mono hb38.size);have hbA:Below w.heap.size w w33:=hb37.trans (hb33.mono hb37.size);have hA3:=(hbA.block b hlt).trans H3.out;have HA4:Hid _:=JbE H4.out hbA;have hgr:∃cs,w33.heap[g]?=some (.cells cs 23 (0,0)):=by obtain⟨_,_,e⟩:=JbN HA4.out (k:=g) rfl;exact e
 obtain⟨cs,hcs⟩:=hgr;have zr:=(hbA.cell (p:=⟨g,1,none⟩) HG.out.2).trans hr1;have zf:w33.frozen? ⟨g,1,none⟩=false:=Jak hcs;have HN33:Hid (opX lo w33 (.slice p9 O.length c9) O):=Ja5 (JbF HN.out) hb33;have HA3:=hdz hA3;have HBA:=hdz hbA;clear hbA hA3 hb30 hb31 hb32 hb33 hcs hb29 hb39 hb38 hb37
 go_simp
 refine hK _ _ (fun _=>?_) ?_
 . exact(Below.heap_setCell w33 ⟨g,1,none⟩ _ b (fun e=>hgb e.symm)).trans HA3.out
 clear hK K;refine JaM (by kernel_rfl) ?_
 intro w34 hb34;go_wp2;go_end0;refine⟨rfl,?_⟩;obtain⟨vs,q1,q2,q3⟩:=HA4.out;obtain⟨r1,r2⟩:=JmK q1 q2 q3 HN33.out 1;rw[HM.out]at r1;have hbn:(w33.setCell ⟨g,1,none⟩ (.slice p9 O.length c9)).heap[b]?=some (.cells (JaO who u S (.slice (some ⟨g,0,none⟩) 2 c)) 203 (0,0)):=(r2.2 b (alt HA3.out) fun e=>hgb (osi e)).trans HA3.out;have hb3:=(hb34.block b (alt hbn)).trans hbn;refine JdO HLO.out H3.out hb3 (JbE r1 hb34) (((Jaf HBA.out _).comp r2 fun k _ e=>.inr e).trans (Jaf hb34 _)) fun k hk=>.inl hk
end
section
open Go.RowKit Go.Maps
attribute [local go_sem] Oper.semAt_some
variable {lo r bx bmx : Nat}{w : World}{bs : List Nat}{R : Rm}
def pkV (p:Pk) (v:Value):Value:=.agg #[.int .i64 p.kind,.int .i64 (p.c:Int),.int .i64 p.rev,.int .i64 p.id,.int .i64 p.x.c,.int .i64 p.x.i,v]
theorem box7{w w1:World}{β:Nat}{a0 a1 a2 a3 a4 a5 a6:Value}{T:TypeId}(h:w.heap.size=β)(hb:Below (w.alloc (.cells #[a0,a1,a2,a3,a4,a5,a6] T)).heap.size (w.alloc (.cells #[a0,a1,a2,a3,a4,a5,a6] T)) w1) :
    w1.cell? ⟨β,0,none⟩=some a0/\w1.cell? ⟨β,1,none⟩=some a1/\w1.cell? ⟨β,2,none⟩=some a2/\w1.cell? ⟨β,3,none⟩=some a3/\w1.cell? ⟨β,4,none⟩=some a4/\w1.cell? ⟨β,5,none⟩=some a5/\w1.cell? ⟨β,6,none⟩=some a6/\(∀o,w1.frozen? ⟨β,o,none⟩=false)/\w1.heap[β]?=some (.cells #[a0,a1,a2,a3,a4,a5,a6] T (0,0)):=by
 subst h;have hbox:=(hb.block _ (by rw[wsa];omega)).trans (heap_alloc_new w (.cells #[a0,a1,a2,a3,a4,a5,a6] T));exact⟨chp hbox 0,chp hbox 1,chp hbox 2,chp hbox 3,chp hbox 4,chp hbox 5,chp hbox 6,fun o=>Jak hbox,hbox⟩
def set7 (w:World) (β:Nat) (a0 a1 a2 a3 a4 a5 a6:Value):World:=((((((w.setCell ⟨β,0,none⟩ a0).setCell ⟨β,1,none⟩ a1).setCell ⟨β,2,none⟩ a2).setCell ⟨β,3,none⟩ a3).setCell ⟨β,4,none⟩ a4).setCell ⟨β,5,none⟩ a5).setCell ⟨β,6,none⟩ a6
theorem Jks{w:World}{β:Nat}{T:TypeId}{c0 c1 c2 c3 c4 c5 c6:Value}(a0 a1 a2 a3 a4 a5 a6:Value)(h:w.heap[β]?=some (.cells #[c0,c1,c2,c3,c4,c5,c6] T (0,0))){lo:Nat}{w0:World}(hb:Below lo w0 w)(hl:lo<=β) :
    (set7 w β a0 a1 a2 a3 a4 a5 a6).heap[β]?=some (.cells #[a0,a1,a2,a3,a4,a5,a6] T (0,0))/\Below lo w0 (set7 w β a0 a1 a2 a3 a4 a5 a6):=by
 have h1:(w.setCell ⟨β,0,none⟩ a0).heap[β]?=some (.cells #[a0,c1,c2,c3,c4,c5,c6] T (0,0)):=heap_setCell_same w β 0 _ T a0 h;have b1:Below lo w0 (w.setCell ⟨β,0,none⟩ a0):=hb.setCell (p:=⟨β,0,none⟩) hl a0;unfold set7;generalize w.setCell ⟨β,0,none⟩ a0=w1 at *;have h2:(w1.setCell ⟨β,1,none⟩ a1).heap[β]?=some (.cells #[a0,a1,c2,c3,c4,c5,c6] T (0,0)):=heap_setCell_same w1 β 1 _ T a1 h1;have b2:Below lo w0 (w1.setCell ⟨β,1,none⟩ a1):=b1.setCell (p:=⟨β,1,none⟩) hl a1;generalize w1.setCell ⟨β,1,none⟩ a1=w2 at *;have h3:(w2.setCell ⟨β,2,none⟩ a2).heap[β]?=some (.cells #[a0,a1,a2,c3,c4,c5,c6] T (0,0)):=heap_setCell_same w2 β 2 _ T a2 h2;have b3:Below lo w0 (w2.setCell ⟨β,2,none⟩ a2):=b2.setCell (p:=⟨β,2,none⟩) hl a2;generalize w2.setCell ⟨β,2,none⟩ a2=w3 at *;have h4:(w3.setCell ⟨β,3,none⟩ a3).heap[β]?=some (.cells #[a0,a1,a2,a3,c4,c5,c6] T (0,0)):=heap_setCell_same w3 β 3 _ T a3 h3;have b4:Below lo w0 (w3.setCell ⟨β,3,none⟩ a3):=b3.setCell (p:=⟨β,3,none⟩) hl a3;generalize w3.setCell ⟨β,3,none⟩ a3=w4 at *;have h5:(w4.setCell ⟨β,4,none⟩ a4).heap[β]?=some (.cells #[a0,a1,a2,a3,a4,c5,c6] T (0,0)):=heap_setCell_same w4 β 4 _ T a4 h4;have b5:Below lo w0 (w4.setCell ⟨β,4,none⟩ a4):=b4.setCell (p:=⟨β,4,none⟩) hl a4;generalize w4.setCell ⟨β,4,none⟩ a4=w5 at *;have h6:(w5.setCell ⟨β,5,none⟩ a5).heap[β]?=some (.cells #[a0,a1,a2,a3,a4,a5,c6] T (0,0)):=heap_setCell_same w5 β 5 _ T a5 h5;have b6:Below lo w0 (w5.setCell ⟨β,5,none⟩ a5):=b5.setCell (p:=⟨β,5,none⟩) hl a5;generalize w5.setCell ⟨β,5,none⟩ a5=w6 at *;exact⟨heap_setCell_same w6 β 6 _ T a6 h6,b6.setCell (p:=⟨β,6,none⟩) hl a6⟩
theorem Je4(h:isRoom lo w r bx bmx bs R)(k:Int)(hk:k<0\/(R.fl.length:Int)<=k) :
    Calls Tryz.prog 131 #[.pointer (some ⟨r,0,none⟩),.int .i64 k] w fun e w'=>e=.returned (.tuple #[.agg #[.int .i64 0,.int .i64 0,.int .i64 0,.int .i64 0,.int .i64 0,.int .i64 0,.slice none 0 0],.iface 26 (.int .i64 2)])/\Below w.heap.size w w':=by
 have C:Hid (∀wx,Below w.heap.size w wx->Calls Tryz.prog 73 #[.pointer (some ⟨r,0,none⟩)] wx fun e w'=>e=.returned (.int .i64 (R.fl.length:Int))/\Below wx.heap.size wx w'):=fun wx hb=>JbV (Jap h hb)
 clear h
 by_cases hk0:k<0
 . clear hk
   go_enter Tryz.func131,Tryz.ntmps131
   go_wp2;refine bodyPost_ret (v:=.tuple #[.agg #[.int .i64 0,.int .i64 0,.int .i64 0,.int .i64 0,.int .i64 0,.int .i64 0,.slice none 0 0],.iface 26 (.int .i64 2)]) (by simp[results,Tryz.results131,go_sem]) rfl ⟨rfl,?_⟩;exact(brf _ _).alloc (nlr _) _
 . have hk1:(R.fl.length:Int)<=k:=by omega
   obtain⟨β,hβ⟩:∃β,w.heap.size=β:=⟨_,rfl⟩;have HBT:Hid (w.heap.size=β):=hβ;clear hk
   go_enter Tryz.func131,Tryz.ntmps131
   go_wp2_with (first
    | (go_at_call 73;refine(C.out _ ((brf _ _).alloc (nlr _) _)).mono ?_;rintro e w1 ⟨rfl,hb1⟩;have HB1:Hid (Below w.heap.size w w1):=((brf _ _).alloc (nlr _) _).trans (hb1.mono (by rw[wsa];omega));obtain⟨b0,b1,b2,b3,b4,b5,b6,bf,bh⟩:=box7 HBT.out hb1;have BH:=hdz bh;have f0:=bf 0;have f1:=bf 1;have f2:=bf 2;have f3:=bf 3;have f4:=bf 4;have f5:=bf 5;have f6:=bf 6;clear hb1 bf bh)
    | fail)
   obtain⟨W,hW⟩:∃W,W=set7 w1 β (.int .i64 0) (.int .i64 0) (.int .i64 0) (.int .i64 0) (.int .i64 0) (.int .i64 0) (.slice none 0 0):=⟨_,rfl⟩;have hs:=Jks (.int .i64 0) (.int .i64 0) (.int .i64 0) (.int .i64 0) (.int .i64 0) (.int .i64 0) (.slice none 0 0) BH.out HB1.out (Nat.le_of_eq HBT.out);rw[←hW]at hs;have HW:=hdz hs.2;have d0:W.cell? ⟨β,0,none⟩=some (.int .i64 0):=chp hs.1 0;have d1:W.cell? ⟨β,1,none⟩=some (.int .i64 0):=chp hs.1 1;have d2:W.cell? ⟨β,2,none⟩=some (.int .i64 0):=chp hs.1 2;have d3:W.cell? ⟨β,3,none⟩=some (.int .i64 0):=chp hs.1 3;have d4:W.cell? ⟨β,4,none⟩=some (.int .i64 0):=chp hs.1 4;have d5:W.cell? ⟨β,5,none⟩=some (.int .i64 0):=chp hs.1 5;have d6:W.cell? ⟨β,6,none⟩=some (.slice none 0 0):=chp hs.1 6;unfold set7 at hW;rw[←hW];clear b0 b1 b2 b3 b4 b5 b6 f0 f1 f2 f3 f4 f5 f6 hs hW;refine bodyPost_ret (v:=.tuple #[.agg #[.int .i64 0,.int .i64 0,.int .i64 0,.int .i64 0,.int .i64 0,.int .i64 0,.slice none 0 0],.iface 26 (.int .i64 2)]) (by simp[results,Tryz.results131,go_sem,d0,d1,d2,d3,d4,d5,d6]) rfl ⟨rfl,HW.out⟩
theorem Jfj(h:isRoom lo w r bx bmx bs R)(k:Nat){p:Pk}(hp:R.fl[k]?=some p)(hfl:R.fl.length<=400) :
    Calls Tryz.prog 131 #[.pointer (some ⟨r,0,none⟩),.int .i64 (k:Int)] w fun e w'=>∃v,e=.returned (.tuple #[pkV p v,.nilIface])/\opX lo w' v p.x.op/\Below w.heap.size w w':=by
 have C:Hid (∀wx,Below w.heap.size w wx->Calls Tryz.prog 73 #[.pointer (some ⟨r,0,none⟩)] wx fun e w'=>e=.returned (.int .i64 (R.fl.length:Int))/\Below wx.heap.size wx w'):=fun wx hb=>JbV (Jap h hb)
 obtain⟨pc,cc,pf,cf,h2,h3,h4⟩:=Jbv h;have hk:k<R.fl.length:=(llt hp);have hne:R.fl≠[]:=fun e=>by rw[e]at hk;exact absurd hk (Nat.not_lt_zero _)
 obtain⟨g,rfl,hgl,_,_,_,hat⟩:=JmO h4 hne;obtain⟨vp,a0,a1,a2,a3,a4,a5,a6,hop⟩:=hat k p hp;obtain⟨pv,cv,rfl⟩:=JaH hop;have HOP:=hdz hop;have HRL:Hid (r<w.heap.size):=Jbo h;have HGL:Hid (g<w.heap.size):=hgl;have HX:Hid (w.cell? ⟨r,2,none⟩=some (.slice (some ⟨g,0,none⟩) R.fl.length cf)):=chp h2 2;have A0:=hdz a0;have A1:=hdz a1;have A2:=hdz a2;have A3:=hdz a3;have A4:=hdz a4;have A5:=hdz a5;have A6:=hdz a6;have hk1:¬(R.fl.length:Int)<=(k:Int):=by omega
 have hk2:¬(k:Int)<0:=by omega
 have hk3:(k:Int)<(R.fl.length:Int):=by omega
 have hk4:(R.fl.length:Int)<=400:=by omega
 obtain⟨β,hβ⟩:∃β,w.heap.size=β:=⟨_,rfl⟩;have HBT:Hid (w.heap.size=β):=hβ;clear h h2 h3 h4 hat hop hgl a0 a1 a2 a3 a4 a5 a6 hp hfl hne
 go_enter Tryz.func131,Tryz.ntmps131
 go_wp2_with (first
  | (go_at_call 73;refine(C.out _ ((brf _ _).alloc (nlr _) _)).mono ?_;rintro e w1 ⟨rfl,hb1⟩;have HB1:Hid (Below w.heap.size w w1):=((brf _ _).alloc (nlr _) _).trans (hb1.mono (by rw[wsa];omega));obtain⟨b0,b1,b2,b3,b4,b5,b6,bf,bh⟩:=box7 HBT.out hb1;have BH:=hdz bh;have f0:=bf 0;have f1:=bf 1;have f2:=bf 2;have f3:=bf 3;have f4:=bf 4;have f5:=bf 5;have f6:=bf 6;have x2:=(HB1.out.cell (p:=⟨r,2,none⟩) HRL.out).trans HX.out;have c0:=(HB1.out.cell (p:=⟨g,k*7,none⟩) HGL.out).trans A0.out;have c1:=(HB1.out.cell (p:=⟨g,k*7+1,none⟩) HGL.out).trans A1.out;have c2:=(HB1.out.cell (p:=⟨g,k*7+2,none⟩) HGL.out).trans A2.out;have c3:=(HB1.out.cell (p:=⟨g,k*7+3,none⟩) HGL.out).trans A3.out;have c4:=(HB1.out.cell (p:=⟨g,k*7+4,none⟩) HGL.out).trans A4.out;have c5:=(HB1.out.cell (p:=⟨g,k*7+5,none⟩) HGL.out).trans A5.out;have c6:=(HB1.out.cell (p:=⟨g,k*7+6,none⟩) HGL.out).trans A6.out;clear hb1 bf bh)
  | fail)
 obtain⟨W,hW⟩:∃W,W=set7 w1 β (.int .i64 p.kind) (.int .i64 (p.c:Int)) (.int .i64 p.rev) (.int .i64 p.id) (.int .i64 p.x.c) (.int .i64 p.x.i) (.slice pv p.x.op.length cv):=⟨_,rfl⟩;have hs:=Jks (.int .i64 p.kind) (.int .i64 (p.c:Int)) (.int .i64 p.rev) (.int .i64 p.id) (.int .i64 p.x.c) (.int .i64 p.x.i) (.slice pv p.x.op.length cv) BH.out HB1.out (Nat.le_of_eq HBT.out);rw[←hW]at hs;have HW:=hdz hs.2;have d0:W.cell? ⟨β,0,none⟩=some (.int .i64 p.kind):=chp hs.1 0;have d1:W.cell? ⟨β,1,none⟩=some (.int .i64 (p.c:Int)):=chp hs.1 1;have d2:W.cell? ⟨β,2,none⟩=some (.int .i64 p.rev):=chp hs.1 2;have d3:W.cell? ⟨β,3,none⟩=some (.int .i64 p.id):=chp hs.1 3;have d4:W.cell? ⟨β,4,none⟩=some (.int .i64 p.x.c):=chp hs.1 4;have d5:W.cell? ⟨β,5,none⟩=some (.int .i64 p.x.i):=chp hs.1 5;have d6:W.cell? ⟨β,6,none⟩=some (.slice pv p.x.op.length cv):=chp hs.1 6;unfold set7 at hW;rw[←hW];clear b0 b1 b2 b3 b4 b5 b6 f0 f1 f2 f3 f4 f5 f6 hs hW;refine bodyPost_ret (v:=.tuple #[.agg #[.int .i64 p.kind,.int .i64 (p.c:Int),.int .i64 p.rev,.int .i64 p.id,.int .i64 p.x.c,.int .i64 p.x.i,.slice pv p.x.op.length cv],.nilIface]) (by simp[results,Tryz.results131,go_sem,d0,d1,d2,d3,d4,d5,d6]) rfl ⟨_,rfl,Ja5 HOP.out HW.out,HW.out⟩
end
section
open Go.RowKit
section
variable {P : Program} {ops : Array Oper} {md : Region.Mode} {m m' : Nat} {Z Z' : World → Prop} {Q : Exit → Act → World → Prop}
theorem Jld:∀(fuel:Nat)(listed:Array Bool)(a:Act)(w:World),(∀i,i<m->listed.getD i true=true)->anyZ Z' P md ops m' Q fuel listed a w->anyZ Z P md ops m Q fuel listed a w
 | 0,_,_,_,_,h=>h
 | fuel + 1,listed,a,w,hl,h=>by
  refine⟨h.1,fun i hi w' hb=>JeQ (fun a' w'' h3=>?_) (h.2 i hi w' hb)⟩;refine⟨fun him=>?_,Jld fuel _ a' w'' (fun j hj=>?_) h3.2⟩
  . obtain⟨hun,_⟩:=mem_ready.1 hi
    rw[hl i him]at hun
    cases hun
  . by_cases hij:i=j
    . subst hij
      by_cases hs:i<listed.size<;>simp[hs]
    . rw[getD_set_ne true hij];exact hl j hj
theorem Joe{fuel:Nat}{listed:Array Bool}{a:Act}{w:World}(hl:((List.range m).all fun i=>listed.getD i true)=true)(h:anyZ (fun _=>True) P md ops ops.size Q fuel listed a w):anyZ Z P md ops m Q fuel listed a w :=
 Jld fuel listed a w (fun i hi=>List.all_eq_true.1 hl i (List.mem_range.2 hi)) h
end
end
section
open Go.RowKit
theorem Jgp{P:Program}{o:Oper}{a:Act}{w w':World}{K:Act->World->Prop}{s x:Operand}{t:TypeId}{v vx v':Value}{y:Nat->Option Bool}(hgd:o.guard=none)(ho:o.op=.call { callee:=.builtin .append,args:=#[s,x],argTypes:=#[t,t] })
    (hs:a.eval s=v) (hx:a.eval x=vx) (hr:(Builtin.append_ #[t,t] o.type #[v,vx]).run P w=.ok v' w') (h:K (a.put o.dst v') w'):if Region.wanted o y then JaV P o a K ((execOp a.eval o).run P w) else K (a.put o.dst undef) w:=by
 have hw:Region.wanted o y=true:=by unfold Region.wanted;rw[hgd]
 rw[if_pos hw];unfold execOp;simp only[ho,resolve,invoke,builtin,Sem.run_bind,Sem.run_pure,Result.andThen_ok,List.map_toArray,List.map_cons,List.map_nil,hs,hx,hr,JaV];exact h
end
section
open Go.RowKit Go.Maps
attribute [local go_sem] Oper.semAt_some Ja2 JaV
variable {lo r bx bmx β cf : Nat}{w w' : World}{bs : List Nat}{R : Rm}{p : Pk}{v : Value}{pf : Option Addr}
theorem Jfq:(Tryz.prog.info? 219).map (fun i=>(i.zero,i.size,i.bytes))=some (some (.agg #[.int .i64 0,.int .i64 0,.int .i64 0,.int .i64 0,.int .i64 0,.int .i64 0,.slice none 0 0]),7,72):=by kernel_rfl
theorem Jhr(p:Pk)(q:Option Addr)(n c:Nat):∀u∈JaQ p (.slice q n c),u.oneCell'=true:=fun u hu=>by
 simp only[JaQ,List.mem_cons,List.not_mem_nil,or_false]at hu
 rcases hu with rfl|rfl|rfl|rfl|rfl|rfl|rfl<;>rfl
theorem pk_push(h:isRoom lo w r bx bmx bs R){p:Pk}{vx:Value}(hx:opX lo w vx p.x.op)(hroom:R.fl.length<400){pf:Option Addr}{cf:Nat}(hce:w.cell? ⟨r,2,none⟩=some (.slice pf R.fl.length cf)) :
    ∃ vs,vs.length=R.fl.length/\w.ownsRow lo 219 7 (.slice pf R.fl.length cf) R.fl.length (pkC R.fl vs)/\∀w6 v2,w6.ownsRow lo 219 7 v2 (R.fl.length+1) (pkC R.fl vs++JaQ p vx)->w.grownBy w6 (Value.slice pf R.fl.length cf).ownBlock->(∀k,v2.ownBlock=some k->(Value.slice pf R.fl.length cf).ownBlock=some k\/w.heap.size<=k)->∀w7,Below w6.heap.size w6 w7 ->
     w7.cell? ⟨r,2,none⟩=some (.slice pf R.fl.length cf)/\w7.frozen? ⟨r,2,none⟩=false/\isRoom lo (w7.setCell ⟨r,2,none⟩ v2) r bx bmx bs (Jb5 R p)/\keptF w (w7.setCell ⟨r,2,none⟩ v2) r:=by
 obtain⟨pc,cc,pf',cf',h2,h3,h4⟩:=Jbv h;have e:=hce;rw[chp h2 2]at e;have e:(Value.slice pf' R.fl.length cf')=.slice pf R.fl.length cf:=by
  have:some (Value.slice pf' R.fl.length cf')=some (.slice pf R.fl.length cf):=e;exact osi this
 rw[e]at h2 h4;obtain⟨vs,g1,g2,g3⟩:=id h4;have hown:=fun k=>JdU (k:=k) h4
 refine⟨vs,g1,g2,fun w6 v2 hnew hg hv2 w7 hb7=>?_⟩;have h6:=JlW (JnD (x:=p) (by decide) g1 g2 g3 hx hg hnew) hb7;have hlow:=h.low;have hnb:some r≠(Value.slice pf R.fl.length cf).ownBlock:=fun e=>by
  obtain⟨_,_,cs,hc⟩:=hown r e.symm;have:=JaG h2 hc;revert this;decide
 have hb6':w6.heap[r]?=some (.cells #[.pointer (some ⟨bx,0,none⟩),.slice pc bs.length cc,.slice pf R.fl.length cf,.int .i64 (R.lost:Int)] 215 (0,0)):=(hg.block r (alt h2) hnb).trans h2;have hb6:=(hb7.block r (Array.getElem?_eq_some_iff.1 hb6').1).trans hb6';have hS:sameBut w (w7.setCell ⟨r,2,none⟩ v2) (fun k=>k=r\/(Value.slice pf R.fl.length cf).ownBlock=some k):=((JaP (S:=fun k=>k=r\/(Value.slice pf R.fl.length cf).ownBlock=some k) hg fun k e=>.inr e).comp (Jaf hb7 (fun _=>False)) fun k _ h=>h.elim).comp (Jau (S:=fun k=>k=r\/(Value.slice pf R.fl.length cf).ownBlock=some k) (.inl rfl)) fun k _ h=>h
 have hsend:Jb5 R p = { R with fl:=R.fl++[p] }:=by unfold Jb5;rw[if_neg (by omega)]
 have hfin:=heap_setCell_same w7 r 2 _ _ v2 hb6;refine⟨chp hb6 2,Jak hb6,?_,hS.mono fun k _ e=>e.imp id fun e=>⟨_,hce,e⟩,fun k hk=>?_⟩
 . rw [hsend]
   refine Jer (X:=fun k=>k=r\/(Value.slice pf R.fl.length cf).ownBlock=some k) (vc:=.slice pc bs.length cc) (vf:=v2) h hfin ⟨_,_,_,h2⟩ ?_ hS (fun k hk e=>?_) rfl rfl rfl rfl rfl
   . refine Jd6 (S:=fun k=>k=r) h6 (Jau rfl) fun k hk e=>?_
     subst e;exact⟨hlow,JaA hb6 (by decide),fun cs fz hc=>by have:=JaG hb6 hc;revert this;decide⟩
   . rcases e with rfl | e
     . exact⟨hlow,_,_,h2,.inl rfl⟩
     . obtain⟨a,_,cs,hc⟩:=hown k e
       exact⟨a,cs,_,hc,.inr rfl⟩
 . rcases hk with rfl | ⟨v,e,hk⟩
   . exact .inl (.inl rfl)
   . have x2:(w7.setCell ⟨r,2,none⟩ v2).cell? ⟨r,2,none⟩=some v2:=chp hfin 2
     rw[x2]at e;obtain rfl:=osi e;exact(hv2 k hk).imp (fun e=>.inr ⟨_,hce,e⟩) id
theorem pk_lost(h:isRoom lo w r bx bmx bs R){p:Pk}(hroom:400<=R.fl.length) :
    isRoom lo (w.setCell ⟨r,3,none⟩ (.int .i64 ((R.lost:Int)+1))) r bx bmx bs (Jb5 R p)/\keptF w (w.setCell ⟨r,3,none⟩ (.int .i64 ((R.lost:Int)+1))) r:=by
 obtain⟨pc,cc,pf,cf,h2,h3,h4⟩:=Jbv h;have hsend:Jb5 R p = { R with lost:=R.lost+1 }:=by unfold Jb5;rw[if_pos hroom]
 have hlow:=h.low;have hfin:=heap_setCell_same w r 3 _ _ (.int .i64 ((R.lost:Int)+1)) h2;refine⟨?_,Jau (.inl rfl),fun k hk=>?_⟩
 . rw [hsend]
   refine Jer (X:=fun k=>k=r) (vc:=.slice pc bs.length cc) (vf:=.slice pf R.fl.length cf) h hfin ⟨_,_,_,h2⟩ ?_ (Jau rfl) (fun k hk e=>?_) rfl rfl rfl rfl rfl
   . refine Jd6 (S:=fun k=>k=r) h4 (Jau rfl) fun k hk e=>?_
     subst e;exact⟨hlow,JaA h2 (by decide),fun cs fz hc=>by have:=JaG h2 hc;revert this;decide⟩
   . subst e
     exact⟨hlow,_,_,h2,.inl rfl⟩
 . rcases hk with rfl | ⟨v,e,hk⟩
   . exact .inl (.inl rfl)
   . refine .inl (.inr ⟨v,?_,hk⟩)
     have x2:(w.setCell ⟨r,3,none⟩ (.int .i64 ((R.lost:Int)+1))).cell? ⟨r,2,none⟩=some (.slice pf R.fl.length cf):=chp hfin 2;rw[x2]at e;rw[←osi e];exact chp h2 2
theorem JaI{w1 w2:World}(hb:Below w.heap.size w w1)(h:sameBut w1 w2 (Jbg lo w1 bmx)):sameBut w w2 (Jbg lo w bmx) :=
 (Jaf hb (Jbg lo w bmx)).comp h fun k hk e=>⟨e.1,e.2.imp id fun ⟨cs,T,hc,hT⟩=>⟨cs,T,(hb.block k hk).symm.trans hc,hT⟩⟩
structure ZPr (lo r bx bmx β:Nat) (bs:List Nat) (R:Rm) (p:Pk) (v:Value) (pf:Option Addr) (cf:Nat) (wx:World):Prop where
 rm:isRoom lo wx r bx bmx bs R
 fl:wx.cell? ⟨r,2,none⟩=some (.slice pf R.fl.length cf)
 box:wx.heap[β]?=some (.cells (JaQ p v).toArray 219 (0,0))
 op:opX lo wx v p.x.op
theorem ZPr.grow(h:ZPr lo r bx bmx β bs R p v pf cf w)(hb:Below w.heap.size w w'):ZPr lo r bx bmx β bs R p v pf cf w' :=
 ⟨Jap h.rm hb,(hb.cell (p:=⟨r,2,none⟩) (Jbo h.rm)).trans h.fl,(hb.block β (alt h.box)).trans h.box,Ja5 h.op hb⟩
structure ZPk (r β:Nat) (p:Pk) (n:Nat) (v:Value) (pf:Option Addr) (cf:Nat) (wx:World):Prop where
 lt:r<wx.heap.size
 fl:wx.cell? ⟨r,2,none⟩=some (.slice pf n cf)
 box:wx.heap[β]?=some (.cells (JaQ p v).toArray 219 (0,0))
theorem ZPk.grow{n:Nat}(h:ZPk r β p n v pf cf w)(hb:Below w.heap.size w w'):ZPk r β p n v pf cf w' :=
 ⟨Nat.lt_of_lt_of_le h.lt hb.size,(hb.cell (p:=⟨r,2,none⟩) h.lt).trans h.fl,(hb.block β (alt h.box)).trans h.box⟩
theorem ZPr.less(h:ZPr lo r bx bmx β bs R p v pf cf w):ZPk r β p R.fl.length v pf cf w:=⟨Jbo h.rm,h.fl,h.box⟩
theorem JdS(h:isRoom lo w r bx bmx bs R)(p:Pk)(v:Value)(hx:opX lo w v p.x.op)(hlost:R.lost<=1000000000000)(hfl:R.fl.length<=400) :
    Calls Tryz.prog 130 #[.pointer (some ⟨r,0,none⟩),pkV p v] w fun e w'=>e=.returned (.tuple #[])/\isRoom lo w' r bx bmx bs (Jb5 R p)/\keptF w w' r:=by
 obtain⟨pv,cv,rfl⟩:=JaH hx;obtain⟨pc,cc,pf,cf,h2,h3,h4⟩:=Jbv h;have hfc:R.fl.length<=cf/\cf<=maxLen:=by
  obtain⟨vs,_,h5,_⟩:=h4
  rcases h5.2 with ⟨e,h0⟩|⟨g,cap,cur,e,_,_,h6,h7,_⟩
  . injection e with _ _ e3;rw[e3,h0];unfold maxLen;omega
  . injection e with _ _ e3;rw[e3];exact⟨h6,h7⟩
 obtain⟨hf1,hf2⟩:=hfc;unfold maxLen at hf2;have hbw:Below w.heap.size w (w.alloc (.cells (JaQ p (.slice pv p.x.op.length cv)).toArray 219)):=(brf _ _).alloc (nlr _) _;have HB:=hdz hbw
 have HZ:Hid (ZPr lo r bx bmx w.heap.size bs R p (.slice pv p.x.op.length cv) pf cf (w.alloc (.cells (JaQ p (.slice pv p.x.op.length cv)).toArray 219))) :=
  ⟨Jap h hbw,(hbw.cell (p:=⟨r,2,none⟩) (Jbo h)).trans (chp h2 2),heap_alloc_new _ _,Ja5 hx hbw⟩
 have HLT:Hid (r<w.heap.size):=Jbo h;obtain⟨i0,hi,hq0,hq1,hq2⟩:=info_parts Jfq
 by_cases hroom:400<=R.fl.length
 case pos =>
  have hL:=fun W (hz:ZPr lo r bx bmx w.heap.size bs R p (.slice pv p.x.op.length cv) pf cf W)=>pk_lost (p:=p) hz.rm hroom
  have HL:Hid (isRoom lo ((w.alloc (.cells (JaQ p (.slice pv p.x.op.length cv)).toArray 219)).setCell ⟨r,3,none⟩ (.int .i64 ((R.lost:Int)+1))) r bx bmx bs (Jb5 R p)/\keptF w ((w.alloc (.cells (JaQ p (.slice pv p.x.op.length cv)).toArray 219)).setCell ⟨r,3,none⟩ (.int .i64 ((R.lost:Int)+1))) r):=by
   obtain⟨a,b⟩:=hL _ HZ.out;exact⟨a,(JcP (Jbo h) hbw).trans b⟩
  have hW:∃W,W=w.alloc (.cells (JaQ p (.slice pv p.x.op.length cv)).toArray 219):=⟨_,rfl⟩;have x2:(w.alloc (.cells (JaQ p (.slice pv p.x.op.length cv)).toArray 219)).cell? ⟨r,2,none⟩=some (.slice pf R.fl.length cf):=HZ.out.fl;have hb2:=(hbw.block r HLT.out).trans h2;have x3:(w.alloc (.cells (JaQ p (.slice pv p.x.op.length cv)).toArray 219)).cell? ⟨r,3,none⟩=some (.int .i64 (R.lost:Int)):=chp hb2 3;have xf:(w.alloc (.cells (JaQ p (.slice pv p.x.op.length cv)).toArray 219)).frozen? ⟨r,3,none⟩=false:=Jak hb2;have hge:(400:Int)<=(R.fl.length:Int):=by omega
  have hwr:wrap64 ((R.lost:Int)+1)=(R.lost:Int)+1:=Ja0 (by omega) (by omega);have ebox:(JaQ p (.slice pv p.x.op.length cv)).toArray=#[.int .i64 p.kind,.int .i64 (p.c:Int),.int .i64 p.rev,.int .i64 p.id,.int .i64 p.x.c,.int .i64 p.x.i,.slice pv p.x.op.length cv]:=rfl;rw[ebox]at HL x2 x3 xf;unfold pkV;generalize p.kind=a0 at *;generalize p.rev=a2 at *;generalize p.id=a3 at *;generalize p.x.c=a4 at *;generalize p.x.i=a5 at *;generalize p.x.op.length=a6 at *;clear h h2 h3 h4 hx hL hW hb2 ebox hbw HZ hi hq0 hq1 hq2 hlost hfl
  go_enter Tryz.func130,Tryz.ntmps130
  go_wp2;exact bodyPost_ret (results_none rfl _ _ _) rfl ⟨rfl,HL.out⟩
 case neg =>
  have hlt:¬(400:Int)<=(R.fl.length:Int):=by omega
  have x2:(w.alloc (.cells (JaQ p (.slice pv p.x.op.length cv)).toArray 219)).cell? ⟨r,2,none⟩=some (.slice pf R.fl.length cf):=HZ.out.fl;have HR:Hid (R.fl.length<400):=by show R.fl.length<400;omega
  have ebox:(JaQ p (.slice pv p.x.op.length cv)).toArray=#[.int .i64 p.kind,.int .i64 (p.c:Int),.int .i64 p.rev,.int .i64 p.id,.int .i64 p.x.c,.int .i64 p.x.i,.slice pv p.x.op.length cv]:=rfl;rw[ebox]at x2 HB;have HZ':=HZ.out;rw[ebox]at HZ';have HZ:Hid _:=HZ';obtain⟨β,hβ⟩:∃β,w.heap.size=β:=⟨_,rfl⟩;have HBT:Hid (w.heap.size=β):=hβ;have HOWN:Hid (∀k,(Value.slice pf R.fl.length cf).ownBlock=some k->k≠r/\k<β):=fun k hk=>by
   obtain⟨_,hlt,cs,hc⟩:=JdU h4 hk;refine⟨fun e=>?_,by rw[←hβ];exact hlt⟩;subst e;have:=JaG h2 hc;revert this;decide
  rw[hβ]at HZ;have HLO:Hid (lo<=w.heap.size):=Nat.le_of_lt (Nat.lt_of_le_of_lt h.low (Jbo h));clear h h2 h3 h4 hx hbw hβ HZ' hlost;unfold pkV
  go_enter Tryz.func130,Tryz.ntmps130
  go_wp2;refine Jaq (fun wx:World=>ZPk r β p R.fl.length (.slice pv p.x.op.length cv) pf cf wx) 8 11 (by kernel_rfl) rfl ?_
  intro w30 hb30;have hz1:=HZ.out.grow hb30;have hbA:=HB.out.trans (hb30.mono HB.out.size);have ht1:=hz1.less;obtain⟨G,hG⟩:=Jax (Z:=fun wx:World=>ZPk r β p R.fl.length (.slice pv p.x.op.length cv) pf cf wx) ht1 (fun {w w'} h hb=>ZPk.grow h hb);have y2:∀y,(G y).cell? ⟨r,2,none⟩=some (.slice pf R.fl.length cf):=fun y=>(hG.but y).fl
  have b0:∀y,(G y).cell? ⟨β,0,none⟩=some (.int .i64 p.kind):=fun y=>chp (hG.but y).box 0
  have b1:∀y,(G y).cell? ⟨β,1,none⟩=some (.int .i64 (p.c:Int)):=fun y=>chp (hG.but y).box 1
  have b2:∀y,(G y).cell? ⟨β,2,none⟩=some (.int .i64 p.rev):=fun y=>chp (hG.but y).box 2
  have b3:∀y,(G y).cell? ⟨β,3,none⟩=some (.int .i64 p.id):=fun y=>chp (hG.but y).box 3
  have b4:∀y,(G y).cell? ⟨β,4,none⟩=some (.int .i64 p.x.c):=fun y=>chp (hG.but y).box 4
  have b5:∀y,(G y).cell? ⟨β,5,none⟩=some (.int .i64 p.x.i):=fun y=>chp (hG.but y).box 5
  have b6:∀y,(G y).cell? ⟨β,6,none⟩=some (.slice pv p.x.op.length cv):=fun y=>chp (hG.but y).box 6
  rw[HBT.out];refine az hG ht1 0 fun _ k=>?_;go_simp;refine k _ ?_;clear k
  refine az hG ht1 1 fun _ k=>?_;go_simp;refine k _ ?_;clear k
  refine az hG ht1 2 fun _ k=>?_;go_simp;refine k _ ?_;clear k
  refine az hG ht1 3 fun _ k=>?_;go_simp;refine k _ ?_;clear k
  refine az hG ht1 4 fun _ k=>?_;go_simp;refine k _ ?_;clear k
  refine az hG ht1 5 fun _ k=>?_;go_simp;refine k _ ?_;clear k
  clear y2 b0 b1 b2 b3 b4 b5 b6 hG;refine JaF (i:=6) (by kernel_rfl) ⟨_,rfl,?_⟩;intro w31 hb31 K hK;have hz2:=hz1.grow hb31;have hbB:=hbA.trans (hb31.mono hbA.size)
  go_simp
  refine hK _ _ (fun hz=>hz.grow ((brf _ _).alloc (nlr _) _)) ?_
  clear hK K;refine JaF (i:=7) (by kernel_rfl) ⟨_,rfl,?_⟩;intro w32 hb32 K hK;have hbAl:Below w31.heap.size w31 (w31.alloc (.cells #[.int .i64 p.kind,.int .i64 (p.c:Int),.int .i64 p.rev,.int .i64 p.id,.int .i64 p.x.c,.int .i64 p.x.i,.slice pv p.x.op.length cv] 219)):=(brf _ _).alloc (nlr _) _;have hnew:=(hb32.block w31.heap.size (by rw[wsa];omega)).trans (heap_alloc_new w31 (.cells #[.int .i64 p.kind,.int .i64 (p.c:Int),.int .i64 p.rev,.int .i64 p.id,.int .i64 p.x.c,.int .i64 p.x.i,.slice pv p.x.op.length cv] 219));have hb312:=hbAl.trans (hb32.mono hbAl.size);have hz3:=hz2.grow hb312;have hbC:=hbB.trans (hb312.mono hbB.size);obtain⟨vs,v1,v2,v3⟩:=pk_push hz3.rm hz3.op HR.out hz3.fl;obtain ⟨v',w',hrun,hown',hgr,hvn⟩:=Jfc (P:=Tryz.prog) w32 lo 213 213 219 i0 (.agg #[.int .i64 0,.int .i64 0,.int .i64 0,.int .i64 0,.int .i64 0,.int .i64 0,.slice none 0 0]) 7 72 Tryz.underlying213 hi hq0 hq1 hq2 rfl (by decide) (.slice pf R.fl.length cf) R.fl.length _ v2 ⟨w31.heap.size,0,none⟩ 1 1 (JaQ p (.slice pv p.x.op.length cv)) rfl (fun j u hj=>by
   have hjl:j<7:=(llt hj);have:=chp hnew j;rw[Addr.add_lit,Nat.zero_add,this];have e:(#[Value.int .i64 p.kind,.int .i64 (p.c:Int),.int .i64 p.rev,.int .i64 p.id,.int .i64 p.x.c,.int .i64 p.x.i,.slice pv p.x.op.length cv]:Array Value)[j]?=(JaQ p (.slice pv p.x.op.length cv))[j]?:=by rw[←Array.getElem?_toList];rfl
   rw[e,hj]) (Jhr p pv p.x.op.length cv) (by unfold maxLen;omega) (by omega) (Nat.le_trans HLO.out hbC.size) (by omega)
  have HVN:=hdz hvn;have V3:=hdz v3;have HG:=hdz hgr;have HO:Hid _:=hown';have HBC:=hdz hbC;have hlt32:r<w32.heap.size:=hz3.less.lt;have hz4:ZPk r β p R.fl.length (.slice pv p.x.op.length cv) pf cf w':=by
   have hno:=HOWN.out;refine⟨Nat.lt_of_lt_of_le hlt32 hgr.size,?_,?_⟩
   . exact(World.cell?_of_block (w:=w32) (a:=⟨r,2,none⟩) (hgr.block r hlt32 fun e=>(hno r e.symm).1 rfl)).trans hz3.fl
   . exact(hgr.block β (alt hz3.box) fun e=>absurd (hno β e.symm).2 (Nat.lt_irrefl _)).trans hz3.box
  refine Jgp rfl rfl rfl rfl hrun ?_
  refine hK _ _ (fun _=>hz4) ?_
  clear hK K hz1 hz2 hz3 hbA hbB hbC hb30 hb31 hb32 hbAl hb312 hnew v3 v2 v1 ht1 hi hq0 hq1 hq2 hz4 hgr hlt32 hvn;obtain⟨p',c',rfl⟩:=Jad hown';clear hown';refine Joe (by kernel_rfl) ?_
  refine JaF (i:=8) (by kernel_rfl) ⟨_,rfl,?_⟩;intro w33 hb33 K hK
  go_simp
  refine hK _ _ (fun _=>trivial) ?_
  clear hK K;refine JaF (i:=9) (by kernel_rfl) ⟨_,rfl,?_⟩;intro w34 hb34 K hK
  go_simp
  refine hK _ _ (fun _=>trivial) ?_
  clear hK K;refine JaF (i:=10) (by kernel_rfl) ⟨_,rfl,?_⟩;intro w35 hb35 K hK;obtain⟨u1,u2,u3,u4⟩:=V3.out w' _ HO.out HG.out HVN.out w35 ((hb33.trans (hb34.mono hb33.size)).trans (hb35.mono (hb33.trans (hb34.mono hb33.size)).size));have U3:=hdz u3;have U4:=hdz u4;clear u3 u4 hb33 hb34 hb35
  go_simp
  refine hK _ _ (fun _=>trivial) ?_
  clear hK K;refine JaM (by kernel_rfl) ?_
  intro w36 hb36
  have FIN:Hid (isRoom lo w36 r bx bmx bs (Jb5 R p)/\keptF w w36 r) :=
   ⟨Jap U3.out hb36,((JcP HLT.out HBC.out).trans U4.out).trans (JcP (Jbo U3.out) hb36)⟩
  clear hb36;go_wp2;go_end0;exact⟨rfl,FIN.out⟩
end
section
open Go.RowKit Go.Maps
attribute [local go_sem] Oper.semAt_some Ja2 JaV
variable {lo g c : Nat}{w : World}{x0 : Value}
theorem JmP:(Tryz.prog.info? 23).map (·.zero)=some (some (.slice none 0 0)):=by kernel_rfl
theorem del2{n1 m1:Nat}{p1:Option Addr}(h:w.ownsRow lo 23 1 (.slice (some ⟨g,0,none⟩) 2 c) 2 [x0,.slice p1 n1 m1]) :
    Calls Tryz.prog 186 #[.slice (some ⟨g,0,none⟩) 2 c,.int .i64 0,.int .i64 1] w fun e w'=>e=.returned (.slice (some ⟨g,0,none⟩) 1 c)/\w'.ownsRow lo 23 1 (.slice (some ⟨g,0,none⟩) 1 c) 1 [.slice p1 n1 m1]/\w.grownBy w' (some g):=by
 have hc:2<=c/\c<=maxLen/\lo<=g/\∃cur,w.heap[g]?=some (.cells cur 23 (0,0))/\cur.size=c/\cur.toList.take 2=[x0,.slice p1 n1 m1]:=by
  rcases h.2 with ⟨e,_⟩|⟨g',cap,cur,e,e1,e2,e3,e4,e5,e6⟩
  . cases e
  . injection e with e7 e8 e9
    injection e7 with e7
    injection e7 with e7
    subst e7 e9;exact⟨e3,e4,e1,cur,e2,by simpa using e5,by simpa using e6⟩
 obtain⟨c2,c3,hlg,cur,hcur,hsz,htk⟩:=hc;unfold maxLen at c3;have hc1:¬c=1:=by omega
 have k0:w.cell? ⟨g,0,none⟩=some x0:=by have:=World.ownsRow.cellAt h 0 (by omega);exact this
 have k1:w.cell? ⟨g,1,none⟩=some (.slice p1 n1 m1):=by have:=World.ownsRow.cellAt h 1 (by omega);exact this
 have z0:w.frozen? ⟨g,0,none⟩=false:=Jak hcur;have z1:w.frozen? ⟨g,1,none⟩=false:=Jak hcur;have HC:=hdz hcur;have HSZ:=hdz hsz;have HTK:=hdz htk;clear h hcur hsz htk
 go_enter Tryz.func186,Tryz.ntmps186
 go_wp2;refine Jaq (fun _:World=>True) 8 8 (by kernel_rfl) rfl ?_
 intro w30 hb30;obtain⟨G,hG⟩:=Jax (Z:=fun _:World=>True) (W:=w) trivial (fun _ _=>trivial);refine az hG trivial 0 fun _ k=>?_;go_simp;refine k _ ?_;clear k
 refine az hG trivial 1 fun _ k=>?_;go_simp;refine k _ ?_;clear k
 refine az hG trivial 2 fun _ k=>?_;go_simp;refine k _ ?_;clear k
 refine az hG trivial 3 fun _ k=>?_;go_simp;refine k _ ?_;clear k
 refine az hG trivial 4 fun _ k=>?_;go_simp;refine k _ ?_;clear k
 refine az hG trivial 5 fun _ k=>?_;go_simp;refine k _ ?_;clear k
 clear hG;refine JaF (i:=6) (by kernel_rfl) ⟨_,rfl,?_⟩;intro w31 hb31 K hK;have hbA:=hb30.trans (hb31.mono hb30.size);have HBA:=hdz hbA;have hgl:g<w.heap.size:=(alt HC.out);have hcur':=(hbA.block g hgl).trans HC.out;have HC1:Hid _:=hcur';have y0:=(hbA.cell (p:=⟨g,0,none⟩) hgl).trans k0;have y1:=(hbA.cell (p:=⟨g,1,none⟩) hgl).trans k1;have f0:w31.frozen? ⟨g,0,none⟩=false:=Jak hcur';have h1c:1<=c:=by omega
 clear hb30 hb31 hbA hcur' k0 k1 z0 z1
 go_simp
 refine hK _ _ (fun _=>trivial) ?_
 clear hK K;refine JaF (i:=7) (by kernel_rfl) ⟨_,rfl,?_⟩;intro w32 hb32 K hK
 go_simp
 refine hK _ _ (fun _=>trivial) ?_
 clear hK K;refine JaM (by kernel_rfl) ?_
 intro w33 hb33;have hbS:=hb32.trans (hb33.mono hb32.size);have hblk:=heap_setCell_same w31 g 0 cur _ (.slice p1 n1 m1) HC1.out;have hblk2:=(hbS.block g (alt hblk)).trans hblk;have HBL:=hdz hblk2;have HBS:=hdz hbS;have u1:w33.cell? ⟨g,1,none⟩=some (.slice p1 n1 m1):=(hbS.cell (p:=⟨g,1,none⟩) (alt hblk)).trans ((World.cell?_setCell_other (w:=w31) ⟨g,0,none⟩ ⟨g,1,none⟩ _ (by simp)).trans y1);have uf:w33.frozen? ⟨g,1,none⟩=false:=Jak hblk2
 have hcl:∀ty,(Builtin.clear_ #[60] ty #[.slice (some ⟨g,1,none⟩) 1 (c - 1)]).run Tryz.prog w33=.ok (.tuple #[]) (w33.setCell ⟨g,1,none⟩ (.slice none 0 0)):=fun ty=>by
  have:=Lib.run_clear_slice (P:=Tryz.prog) w33 60 23 ty (.slice none 0 0) Tryz.underlying60 (fun w=>JgZ JmP w) rfl rfl g 1 1 (c - 1) (by omega) (fun j hj=>by
   obtain rfl:j=0:=by omega
   rw[u1];rfl) (fun j hj=>by
   obtain rfl:j=0:=by omega
   exact uf)
  rw[this];rfl
 clear hb32 hb33 hbS hblk hblk2 y0 y1 f0;go_wp2;go_ret;refine⟨rfl,?_,?_⟩
 . have hb2:=heap_setCell_same w33 g 1 _ _ (.slice none 0 0) HBL.out
   refine⟨rfl,.inr ⟨g,c,_,rfl,hlg,hb2,by omega,by unfold maxLen;omega,?_,?_⟩⟩
   . rw[Array.size_setIfInBounds,Array.size_setIfInBounds,HSZ.out,Nat.mul_one]
   . rw [Array.toList_setIfInBounds,Array.toList_setIfInBounds]
     have ht:=HTK.out
     match hl:cur.toList,ht with
     | a :: b :: l,ht =>
      rfl
 . have h:sameBut w (w33.setCell ⟨g,1,none⟩ (.slice none 0 0)) (fun k=>k=g):=((Jaf HBA.out _).trans (Jau (b:=g) (o:=0) (v:=.slice p1 n1 m1) (S:=fun k=>k=g) rfl)).trans ((Jaf HBS.out _).trans (Jau (S:=fun k=>k=g) rfl))
   exact⟨h.os,h.tape,h.output,h.size,fun k hk hn=>h.block k hk fun e=>hn (by rw[e])⟩
theorem del1(h:w.ownsRow lo 23 1 (.slice (some ⟨g,0,none⟩) 1 c) 1 [x0]) :
    Calls Tryz.prog 186 #[.slice (some ⟨g,0,none⟩) 1 c,.int .i64 0,.int .i64 1] w fun e w'=>e=.returned (.slice (some ⟨g,0,none⟩) 0 c)/\w'.ownsRow lo 23 1 (.slice (some ⟨g,0,none⟩) 0 c) 0 []/\w.grownBy w' (some g):=by
 have hc:1<=c/\c<=maxLen/\lo<=g/\∃cur,w.heap[g]?=some (.cells cur 23 (0,0))/\cur.size=c:=by
  rcases h.2 with ⟨e,_⟩|⟨g',cap,cur,e,e1,e2,e3,e4,e5,e6⟩
  . cases e
  . injection e with e7 e8 e9
    injection e7 with e7
    injection e7 with e7
    subst e7 e9;exact⟨e3,e4,e1,cur,e2,by simpa using e5⟩
 obtain⟨c2,c3,hlg,cur,hcur,hsz⟩:=hc;unfold maxLen at c3;have k0:w.cell? ⟨g,0,none⟩=some x0:=by have:=World.ownsRow.cellAt h 0 (by omega);exact this
 have HC:=hdz hcur;have HSZ:=hdz hsz;clear h hcur hsz
 by_cases hc1:c=1
 all_goals
  go_enter Tryz.func186,Tryz.ntmps186
  go_wp2;refine Jaq (fun _:World=>True) 8 8 (by kernel_rfl) rfl ?_
  intro w30 hb30;obtain⟨G,hG⟩:=Jax (Z:=fun _:World=>True) (W:=w) trivial (fun _ _=>trivial);refine az hG trivial 0 fun _ k=>?_;go_simp;refine k _ ?_;clear k
  refine az hG trivial 1 fun _ k=>?_;go_simp;refine k _ ?_;clear k
  refine az hG trivial 2 fun _ k=>?_;go_simp;refine k _ ?_;clear k
  refine az hG trivial 3 fun _ k=>?_;go_simp;refine k _ ?_;clear k
  refine az hG trivial 4 fun _ k=>?_;go_simp;refine k _ ?_;clear k
  refine az hG trivial 5 fun _ k=>?_;go_simp;refine k _ ?_;clear k
  clear hG;refine JaF (i:=6) (by kernel_rfl) ⟨_,rfl,?_⟩;intro w31 hb31 K hK
  go_simp
  refine hK _ _ (fun _=>trivial) ?_
  clear hK K;refine JaF (i:=7) (by kernel_rfl) ⟨_,rfl,?_⟩;intro w32 hb32 K hK
  go_simp
  refine hK _ _ (fun _=>trivial) ?_
  clear hK K;refine JaM (by kernel_rfl) ?_
  intro w33 hb33;have hbS:=hb30.trans ((hb31.trans ((hb32.trans (hb33.mono hb32.size)).mono hb31.size)).mono hb30.size);have hgl:g<w.heap.size:=(alt HC.out);have hblk2:=(hbS.block g hgl).trans HC.out;have HBL:=hdz hblk2;have HBS:=hdz hbS;have u1:w33.cell? ⟨g,0,none⟩=some x0:=(hbS.cell (p:=⟨g,0,none⟩) hgl).trans k0;have uf:w33.frozen? ⟨g,0,none⟩=false:=Jak hblk2
  have hcl:∀ty,(Builtin.clear_ #[60] ty #[.slice (some ⟨g,0,none⟩) 1 c]).run Tryz.prog w33=.ok (.tuple #[]) (w33.setCell ⟨g,0,none⟩ (.slice none 0 0)):=fun ty=>by
   have:=Lib.run_clear_slice (P:=Tryz.prog) w33 60 23 ty (.slice none 0 0) Tryz.underlying60 (fun w=>JgZ JmP w) rfl rfl g 0 1 c (by omega) (fun j hj=>by
    obtain rfl:j=0:=by omega
    rw[u1];rfl) (fun j hj=>by
    obtain rfl:j=0:=by omega
    exact uf)
   rw[this];rfl
  clear hb30 hb31 hb32 hb33 hbS hblk2
  try rw[hc1]at hcl
  go_wp2;go_ret;refine⟨by first | rfl | (rw[hc1];rfl),?_,?_⟩
  . have hb2:=heap_setCell_same w33 g 0 _ _ (.slice none 0 0) HBL.out
    refine⟨rfl,.inr ⟨g,_,_,rfl,hlg,hb2,by omega,by unfold maxLen;omega,?_,rfl⟩⟩;rw[Array.size_setIfInBounds,HSZ.out];omega
  . have h:sameBut w (w33.setCell ⟨g,0,none⟩ (.slice none 0 0)) (fun k=>k=g):=(Jaf HBS.out _).trans (Jau (S:=fun k=>k=g) rfl)
    exact⟨h.os,h.tape,h.output,h.size,fun k hk hn=>h.block k hk fun e=>hn (by rw[e])⟩
end
end Go.Proofs.YtedgnlgjmnccgabGreatDoor
