/-
  A part of the texts that the proof uses.
-/
import Derived.Test.YtedgnlgjmnccgabGreatDoorPartH
import Derived.Test.YtedgnlgjmnccgabGreatDoorPartG
import Derived.Test.YtedgnlgjmnccgabGreatDoorPartA
import Derived.Test.YtedgnlgjmnccgabGreatDoorPartE
set_option maxRecDepth 100000
set_option maxHeartbeats 40000000
set_option linter.unusedVariables false
namespace Go.Proofs.YtedgnlgjmnccgabGreatDoor
section
open Go.RowKit Go.Maps
attribute [local go_sem] Oper.semAt_some Ja2 JaV
variable {w : World}{lo e c : Nat}{p : Option Addr}{ps : List Pk}
theorem Jn5{size g m cap:Nat}{xs:List Value}(h:w.ownsRow lo e size (.slice (some ⟨g,0,none⟩) m cap) m xs){o:Nat}(ho:m*size<=o)(v:Value):(w.setCell ⟨g,o,none⟩ v).ownsRow lo e size (.slice (some ⟨g,0,none⟩) m cap) m xs:=by
 obtain⟨h0,hrow⟩:=h
 rcases hrow with ⟨e,_⟩|⟨g',cap',cur,e,h3,h4,h5,h6,h7,h8⟩
 . cases e
 . injection e with e1 _ e3
   injection e1 with e1
   injection e1 with e1
   subst e1 e3;refine⟨h0,.inr ⟨g,cap,_,rfl,h3,heap_setCell_same w g o cur _ v h4,h5,h6,?_,?_⟩⟩
   . rw[Array.size_setIfInBounds];exact h7
   . rw[Array.toList_setIfInBounds,List.take_set_of_le ho];exact h8
theorem Jfk{lo e size g m cap:Nat}{xs:List Value}:∀(vs:List Value)(w:World)(o:Nat),w.ownsRow lo e size (.slice (some ⟨g,0,none⟩) m cap) m xs->m*size<=o->(w.setCells g o vs).ownsRow lo e size (.slice (some ⟨g,0,none⟩) m cap) m xs
 | [],_,_,h,_=>h
 | v :: vs,w,o,h,ho=>Jfk vs _ (o+1) (Jn5 h ho v) (by omega)
theorem Jeh{g:Nat}:∀(vs:List Value)(w:World)(o:Nat),sameBut w (w.setCells g o vs) fun k=>k=g
 | [],w,o=>Je3 _ _
 | v :: vs,w,o=>(Jau (S:=fun k=>k=g) rfl).trans (Jeh vs _ (o+1))
def JdG:List Value:=[.int .i64 0,.int .i64 0,.int .i64 0,.int .i64 0,.int .i64 0,.int .i64 0,.slice none 0 0]
theorem Jgy(P:Program)(w:World)(t e ty:TypeId)(ht:P.underlying t=some (.slice e))(hv:(zeroValue e).run P w=.ok (.agg #[.int .i64 0,.int .i64 0,.int .i64 0,.int .i64 0,.int .i64 0,.int .i64 0,.slice none 0 0]) w)(b o c:Nat)
    (hc:∀j,j<7->(w.cell? ⟨b,o+j,none⟩).isSome=true) (hf:∀j,j<7->w.frozen? ⟨b,o+j,none⟩=false) :
    (Builtin.clear_ #[t] ty #[.slice (some ⟨b,o,none⟩) 1 c]).run P w=.ok (.tuple #[]) (w.setCells b o JdG):=by
 have hzc:(Builtin.zeroCells (Value.cells (.agg #[.int .i64 0,.int .i64 0,.int .i64 0,.int .i64 0,.int .i64 0,.int .i64 0,.slice none 0 0])) 1).toList=JdG:=by kernel_rfl
 have hst:=run_storeCells_cells (P:=P) b o JdG 0 w (by simpa[JdG] using hc) (by simpa[JdG] using hf) (by intro v hv';simp only[JdG,List.mem_cons,List.not_mem_nil,or_false]at hv';rcases hv' with rfl|rfl|rfl|rfl|rfl|rfl|rfl<;>rfl);simp only[Nat.add_zero]at hst;simp[Builtin.clear_,run_underlying ht,hv,hzc,hst]
theorem JoY{n:Nat}(h:Je8 e lo w (.slice p n c) ps)(hne:ps≠[]):∃g vs,p=some ⟨g,0,none⟩/\n=ps.length/\vs.length=ps.length/\(∀(i:Nat)(x:Pk)(v:Value),ps[i]?=some x->vs[i]?=some v->opX lo w v x.x.op)/\lo<=g/\g<w.heap.size/\ps.length<=c/\c<=maxLen/\∃cur,w.heap[g]?=some (.cells cur e (0,0))/\cur.size=c*7/\cur.toList.take (ps.length*7)=pkC ps vs:=by
 obtain⟨vs,h1,⟨h0,hrow⟩,h3⟩:=h
 rcases hrow with ⟨_,hz⟩|⟨g,cap,cur,hv,h4,h5,h6,h7,h8,h9⟩
 . exact absurd (List.eq_nil_of_length_eq_zero hz) hne
 . injection hv with hp hn hc
   subst hp hn hc;exact⟨g,vs,rfl,rfl,h1,h3,h4,(alt h5),h6,h7,cur,h5,h8,h9⟩
theorem Jg3:(Tryz.prog.info? 219).map (·.zero)=some (some (.agg #[.int .i64 0,.int .i64 0,.int .i64 0,.int .i64 0,.int .i64 0,.int .i64 0,.slice none 0 0])):=by kernel_rfl
theorem JlI{lo:Nat}{w:World}:∀{ps:List Pk}{vs:List Value},(∀(i:Nat)(x:Pk)(v:Value),ps[i]?=some x->vs[i]?=some v->opX lo w v x.x.op)->vs.length=ps.length->∀u∈pkC ps vs,u.oneCell'=true
 | [],_,_,_,u,hu=>by simp[pkC]at hu
 | _ :: _,[],_,h,u,hu=>by simp at h
 | p :: ps,v :: vs,h,hl,u,hu=>by
  have e:pkC (p :: ps) (v :: vs)=JaQ p v++pkC ps vs:=rfl;rw[e]at hu
  rcases List.mem_append.1 hu with hu|hu
  . obtain⟨q,c,rfl⟩:=JaH (h 0 p v rfl rfl)
    exact Jhr p q _ c u hu
  . exact JlI (fun i x v hx hv=>h (i+1) x v (by simpa using hx) (by simpa using hv)) (by simpa using hl) u hu
theorem delPk(h:Je8 219 lo w (.slice p ps.length c) ps){i:Nat}(hi:i<ps.length)(hm:ps.length<=1000) :
    Calls Tryz.prog 191 #[.slice p ps.length c,.int .i64 (i:Int),.int .i64 ((i:Int)+1)] w fun e w'=>e=.returned (.slice p (ps.length - 1) c)/\Je8 219 lo w' (.slice p (ps.length - 1) c) (ps.eraseIdx i)/\w.grownBy w' (Value.slice p ps.length c).ownBlock:=by
 have hne:ps≠[]:=fun e=>by rw[e]at hi;exact absurd hi (Nat.not_lt_zero _)
 obtain⟨g,vs,rfl,_,hvs,hop,hlg,hgl,hnc,hcm,cur,hcur,hcs,htk⟩:=JoY h hne;unfold maxLen at hcm;obtain⟨n,hn⟩:∃n,ps.length=n:=⟨_,rfl⟩;rw[hn]at hi hm hnc hvs htk ⊢;have HN:Hid (ps.length=n):=hn;have h1:(i:Int)<(n:Int):=by omega
 have h2:(n:Int)<=1000:=by omega
 have h3:(n:Int)<=(c:Int):=by omega
 have h4:(c:Int)<=9223372036854775807:=by omega
 by_cases hcj:c=i+1
 . subst hcj
   have HNI:Hid (n=i+1):=by show n=i+1;omega
   clear h3 h4;have hz:=JgZ (z:=.agg #[.int .i64 0,.int .i64 0,.int .i64 0,.int .i64 0,.int .i64 0,.int .i64 0,.slice none 0 0]) (t:=219) Jg3;have CLR:Hid (∀(W:World) (ty:TypeId) (cc:Nat),(∃cur',W.heap[g]?=some (.cells cur' 219 (0,0))/\cur'.size=(i+1)*7)->(Builtin.clear_ #[213] ty #[.slice (some ⟨g,i*7,none⟩) 1 cc]).run Tryz.prog W=.ok (.tuple #[]) (W.setCells g (i*7) JdG)):=fun W ty cc ⟨cur',e1,e2⟩=>by
    refine Jgy Tryz.prog W _ _ ty Tryz.underlying213 (hz W) g _ cc (fun j hj=>?_) fun j hj=>Jak e1
    have hl:i*7+j<cur'.size:=by rw[e2];have:=HNI.out;omega
    rw[chp e1,Array.getElem?_eq_getElem hl];rfl
   have HQ:Hid (n=i+1):=HNI.out;obtain⟨i0,hi0,hq0,hq1,hq2⟩:=info_parts Jfq;have hg0:(Value.slice (some ⟨g,0,none⟩) n (i+1)).ownBlock=some g:=rfl;rw[hg0];have HCUR:=hdz hcur;have HCS:=hdz hcs;have HTK:=hdz htk;have HVS:Hid (vs.length=n):=hvs;have HOP:=hdz hop;have HLG:Hid (lo<=g/\g<w.heap.size):=⟨hlg,hgl⟩;clear h hne hop hcur hcs htk hvs hlg hgl hz;have n1:i<=(i+1):=by omega
   have n2:i+1<=n:=by omega
   have m0:(0:Int)<=(i:Int):=by omega
   have m1:(0:Int)<=(i:Int)+1:=by omega
   have m2:(i:Int)+1<=(n:Int):=by omega
   have m3:(i:Int)<=(i:Int)+1:=by omega
   go_enter Tryz.func191,Tryz.ntmps191
   go_wp2;refine Jaq (fun _:World=>True) 8 8 (by kernel_rfl) rfl ?_
   intro w30 hb30;obtain⟨G,hG⟩:=Jax (Z:=fun _:World=>True) (W:=w) trivial (fun _ _=>trivial);refine az hG trivial 0 fun _ k=>?_;go_simp;refine k _ ?_;clear k
   refine az hG trivial 1 fun _ k=>?_;go_simp;refine k _ ?_;clear k
   refine az hG trivial 2 fun _ k=>?_;go_simp;refine k _ ?_;clear k
   refine az hG trivial 3 fun _ k=>?_;go_simp;refine k _ ?_;clear k
   refine az hG trivial 4 fun _ k=>?_;go_simp;refine k _ ?_;clear k
   refine az hG trivial 5 fun _ k=>?_;go_simp;refine k _ ?_;clear k
   clear hG;refine JaF (i:=6) (by kernel_rfl) ⟨_,rfl,?_⟩;intro w31 hb31 K hK;have hbA:=hb30.trans (hb31.mono hb30.size);have HBA:=hdz hbA;have hcur31:=(hbA.block g HLG.out.2).trans HCUR.out;have hown:w31.ownsRow lo 219 7 (.slice (some ⟨g,0,none⟩) i (i+1)) i (pkC (ps.take i) (vs.take i)):=by
    refine⟨by rw[Jhs _ _ (by rw[List.length_take,List.length_take,HVS.out,HN.out]),List.length_take,HN.out,Nat.min_eq_left (Nat.le_of_lt hi)],.inr ⟨g,(i+1),cur,rfl,HLG.out.1,hcur31,by omega,by unfold maxLen;omega,HCS.out,?_⟩⟩;have e:(cur.toList.take (n*7)).take (i*7)=(pkC ps vs).take (i*7):=by rw[HTK.out]
    rw[List.take_take,Nat.min_eq_left (by omega),Jjy ps vs i (by rw[HVS.out,HN.out])]at e;exact e
   have hnews:∀(j:Nat) (u:Value),(pkC (ps.drop (i+1)) (vs.drop (i+1)))[j]?=some u->w31.cell? ((⟨g,0,none⟩:Addr).add j)=some u:=fun j u hj=>by
    have e0:ps.drop (i+1)=[]:=List.drop_eq_nil_of_le (by rw[HN.out,HNI.out];omega);rw[e0]at hj;simp[pkC]at hj
   obtain⟨w',hrun,hown',hgr⟩:=run_append_fits (P:=Tryz.prog) w31 lo 213 213 219 i0 7 Tryz.underlying213 hi0 hq1 g i (i+1) (pkC (ps.take i) (vs.take i)) hown ⟨g,0,none⟩ 0 ((i+1) - (i+1)) (pkC (ps.drop (i+1)) (vs.drop (i+1))) (by rw[Jhs _ _ (by rw[List.length_drop,List.length_drop,HVS.out,HN.out]),List.length_drop,HN.out]<;>omega) hnews (fun u hu=>JlI HOP.out (by rw[HVS.out,HN.out]) u (List.mem_of_mem_drop (by rw[←JgQ ps vs (i+1) (by rw[HVS.out,HN.out])]at hu;exact hu))) (by omega);refine Jgp rfl rfl rfl rfl (by first | exact hrun | (simpa using hrun)) ?_
   refine hK _ _ (fun _=>trivial) ?_
   clear hK K;refine JaF (i:=7) (by kernel_rfl) ⟨_,rfl,?_⟩;intro w32 hb32 K hK
   go_simp
   refine hK _ _ (fun _=>trivial) ?_
   clear hK K;refine JaM (by kernel_rfl) ?_
   intro w33 hb33;have hb23:=hb32.trans (hb33.mono hb32.size);have HB23:=hdz hb23;have hrow33:=Jaj hown' hb23;have HROW:=hdz hrow33
   have hc33:∃cur',w33.heap[g]?=some (.cells cur' 219 (0,0))/\cur'.size=(i+1)*7:=by
    rcases hrow33.2 with ⟨e,_⟩|⟨g',cap',cur',e,_,e4,_,_,e7,_⟩
    . cases e
    . injection e with e1 _ e3
      injection e1 with e1
      injection e1 with e1
      subst e1;exact⟨cur',e4,by rw[e7,←e3]⟩
   have hclr:=fun ty cc=>CLR.out w33 ty cc hc33
   have HG31:=hdz hgr;have HSM:Hid (sameBut w (w33.setCells g (i*7) JdG) fun k=>k=g):=((Jaf HBA.out _).trans (JaP (S:=fun k=>k=g) hgr fun k e=>(osi e).symm)).trans ((Jaf hb23 _).trans (Jeh JdG w33 (i*7)));have hq1':n - i=1:=by have:=HQ.out;omega
   have hq3:i<=n:=by have:=HQ.out;omega
   have hq4:(i:Int)<=(n:Int):=by omega
   have hq5:(n:Int)<=(((i+1):Nat):Int):=by omega
   have hq6:n<=(i+1):=by omega
   clear hown' hrow33 hc33 hb23 hb32 hb33 hgr hcur31 hown hnews hbA hb30 hb31 hi0 hq0 hq1 hq2 n2 m0 m1 m2 m3 hrun
   skip
   go_wp2;go_ret;refine⟨by (rw[show n - 1=i by have:=HQ.out;omega];rfl),?_,⟨HSM.out.os,HSM.out.tape,HSM.out.output,HSM.out.size,fun k hk hn=>HSM.out.block k hk fun e=>hn (by rw[e])⟩⟩;have hl:(ps.eraseIdx i).length=i:=by rw[List.length_eraseIdx_of_lt (by rw[HN.out];omega),HN.out];have:=HQ.out;omega
   have hlv:(vs.eraseIdx i).length=i:=by rw[List.length_eraseIdx_of_lt (by rw[HVS.out];omega),HVS.out];have:=HQ.out;omega
   have hfin:=Jfk JdG w33 (i*7) HROW.out (by omega);refine⟨vs.eraseIdx i,by rw[hl,hlv],?_,fun j x v hx hv=>?_⟩
   . rw [hl]
     have epk:pkC (ps.eraseIdx i) (vs.eraseIdx i)=pkC (ps.take i) (vs.take i)++pkC (ps.drop (i+1)) (vs.drop (i+1)):=by
      rw[List.eraseIdx_eq_take_drop_succ,List.eraseIdx_eq_take_drop_succ,JlJ _ _ _ _ (by rw[List.length_take,List.length_take,HVS.out,HN.out])]
     rw[epk];have e2:n - 1=i:=by have:=HQ.out;omega
     rw[e2]
     skip
     exact hfin
   . have hcg:=HCUR.out
     refine Jb8 (S:=fun k=>k=g) ?_ HSM.out fun k hk e=>?_
     . obtain ⟨j',h1',h2'⟩:∃j',ps[j']?=some x/\vs[j']?=some v:=by
         rw[List.getElem?_eraseIdx]at hx hv
         split at hx
         . rename_i hlt;rw[if_pos hlt]at hv;exact⟨j,hx,hv⟩
         . rename_i hlt;rw[if_neg hlt]at hv;exact⟨j+1,hx,hv⟩
       exact HOP.out j' x v h1' h2'
     . subst e
       exact⟨HLG.out.1,JaA hcg (by decide)⟩
 . obtain ⟨q,hqn⟩:∃q,n=q+1:=⟨n - 1,by omega⟩
   have hz:=JgZ (z:=.agg #[.int .i64 0,.int .i64 0,.int .i64 0,.int .i64 0,.int .i64 0,.int .i64 0,.slice none 0 0]) (t:=219) Jg3;have CLR:Hid (∀(W:World) (ty:TypeId) (cc:Nat),(∃cur',W.heap[g]?=some (.cells cur' 219 (0,0))/\cur'.size=c*7)->(Builtin.clear_ #[213] ty #[.slice (some ⟨g,q*7,none⟩) 1 cc]).run Tryz.prog W=.ok (.tuple #[]) (W.setCells g (q*7) JdG)):=fun W ty cc ⟨cur',e1,e2⟩=>by
    refine Jgy Tryz.prog W _ _ ty Tryz.underlying213 (hz W) g _ cc (fun j hj=>?_) fun j hj=>Jak e1
    have hl:q*7+j<cur'.size:=by rw[e2];have:=hqn;omega
    rw[chp e1,Array.getElem?_eq_getElem hl];rfl
   have HQ:Hid (n=q+1):=hqn;obtain⟨i0,hi0,hq0,hq1,hq2⟩:=info_parts Jfq;have hg0:(Value.slice (some ⟨g,0,none⟩) n c).ownBlock=some g:=rfl;rw[hg0];have HCUR:=hdz hcur;have HCS:=hdz hcs;have HTK:=hdz htk;have HVS:Hid (vs.length=n):=hvs;have HOP:=hdz hop;have HLG:Hid (lo<=g/\g<w.heap.size):=⟨hlg,hgl⟩;clear h hne hop hcur hcs htk hvs hlg hgl hz hqn;have n1:i<=c:=by omega
   have n2:i+1<=n:=by omega
   have m0:(0:Int)<=(i:Int):=by omega
   have m1:(0:Int)<=(i:Int)+1:=by omega
   have m2:(i:Int)+1<=(n:Int):=by omega
   have m3:(i:Int)<=(i:Int)+1:=by omega
   go_enter Tryz.func191,Tryz.ntmps191
   go_wp2;refine Jaq (fun _:World=>True) 8 8 (by kernel_rfl) rfl ?_
   intro w30 hb30;obtain⟨G,hG⟩:=Jax (Z:=fun _:World=>True) (W:=w) trivial (fun _ _=>trivial);refine az hG trivial 0 fun _ k=>?_;go_simp;refine k _ ?_;clear k
   refine az hG trivial 1 fun _ k=>?_;go_simp;refine k _ ?_;clear k
   refine az hG trivial 2 fun _ k=>?_;go_simp;refine k _ ?_;clear k
   refine az hG trivial 3 fun _ k=>?_;go_simp;refine k _ ?_;clear k
   refine az hG trivial 4 fun _ k=>?_;go_simp;refine k _ ?_;clear k
   refine az hG trivial 5 fun _ k=>?_;go_simp;refine k _ ?_;clear k
   clear hG;refine JaF (i:=6) (by kernel_rfl) ⟨_,rfl,?_⟩;intro w31 hb31 K hK;have hbA:=hb30.trans (hb31.mono hb30.size);have HBA:=hdz hbA;have hcur31:=(hbA.block g HLG.out.2).trans HCUR.out;have hown:w31.ownsRow lo 219 7 (.slice (some ⟨g,0,none⟩) i c) i (pkC (ps.take i) (vs.take i)):=by
    refine⟨by rw[Jhs _ _ (by rw[List.length_take,List.length_take,HVS.out,HN.out]),List.length_take,HN.out,Nat.min_eq_left (Nat.le_of_lt hi)],.inr ⟨g,c,cur,rfl,HLG.out.1,hcur31,by omega,by unfold maxLen;omega,HCS.out,?_⟩⟩;have e:(cur.toList.take (n*7)).take (i*7)=(pkC ps vs).take (i*7):=by rw[HTK.out]
    rw[List.take_take,Nat.min_eq_left (by omega),Jjy ps vs i (by rw[HVS.out,HN.out])]at e;exact e
   have hnews:∀(j:Nat) (u:Value),(pkC (ps.drop (i+1)) (vs.drop (i+1)))[j]?=some u->w31.cell? ((⟨g,(i+1)*7,none⟩:Addr).add j)=some u:=fun j u hj=>by
    rw[←JgQ ps vs (i+1) (by rw[HVS.out,HN.out]),List.getElem?_drop,←HTK.out,List.getElem?_take]at hj
    split at hj
    . rw[Addr.add_lit,chp hcur31,←Array.getElem?_toList];exact hj
    . cases hj
   obtain⟨w',hrun,hown',hgr⟩:=run_append_fits (P:=Tryz.prog) w31 lo 213 213 219 i0 7 Tryz.underlying213 hi0 hq1 g i c (pkC (ps.take i) (vs.take i)) hown ⟨g,(i+1)*7,none⟩ (n - (i+1)) (c - (i+1)) (pkC (ps.drop (i+1)) (vs.drop (i+1))) (by rw[Jhs _ _ (by rw[List.length_drop,List.length_drop,HVS.out,HN.out]),List.length_drop,HN.out]<;>omega) hnews (fun u hu=>JlI HOP.out (by rw[HVS.out,HN.out]) u (List.mem_of_mem_drop (by rw[←JgQ ps vs (i+1) (by rw[HVS.out,HN.out])]at hu;exact hu))) (by omega);refine Jgp rfl rfl rfl rfl (by first | exact hrun | (simpa using hrun)) ?_
   refine hK _ _ (fun _=>trivial) ?_
   clear hK K;refine JaF (i:=7) (by kernel_rfl) ⟨_,rfl,?_⟩;intro w32 hb32 K hK
   go_simp
   refine hK _ _ (fun _=>trivial) ?_
   clear hK K;refine JaM (by kernel_rfl) ?_
   intro w33 hb33;have hb23:=hb32.trans (hb33.mono hb32.size);have HB23:=hdz hb23;have hrow33:=Jaj hown' hb23;have HROW:=hdz hrow33
   have hc33:∃cur',w33.heap[g]?=some (.cells cur' 219 (0,0))/\cur'.size=c*7:=by
    rcases hrow33.2 with ⟨e,_⟩|⟨g',cap',cur',e,_,e4,_,_,e7,_⟩
    . cases e
    . injection e with e1 _ e3
      injection e1 with e1
      injection e1 with e1
      subst e1;exact⟨cur',e4,by rw[e7,←e3]⟩
   have hclr:=fun ty cc=>CLR.out w33 ty cc hc33
   have HG31:=hdz hgr;have HSM:Hid (sameBut w (w33.setCells g (q*7) JdG) fun k=>k=g):=((Jaf HBA.out _).trans (JaP (S:=fun k=>k=g) hgr fun k e=>(osi e).symm)).trans ((Jaf hb23 _).trans (Jeh JdG w33 (q*7)));have hq1':n - q=1:=by have:=HQ.out;omega
   have hq3:q<=n:=by have:=HQ.out;omega
   have hq4:(q:Int)<=(n:Int):=by omega
   have hq5:(n:Int)<=((c:Nat):Int):=by omega
   have hq6:n<=c:=by omega
   clear hown' hrow33 hc33 hb23 hb32 hb33 hgr hcur31 hown hnews hbA hb30 hb31 hi0 hq0 hq1 hq2 n2 m0 m1 m2 m3 hrun;rw[show i+(n - (i+1))=q by have:=HQ.out;omega]at *;go_wp2;go_ret;refine⟨by (rw[show n - 1=q by have:=HQ.out;omega];rfl),?_,⟨HSM.out.os,HSM.out.tape,HSM.out.output,HSM.out.size,fun k hk hn=>HSM.out.block k hk fun e=>hn (by rw[e])⟩⟩;have hl:(ps.eraseIdx i).length=q:=by rw[List.length_eraseIdx_of_lt (by rw[HN.out];omega),HN.out];have:=HQ.out;omega
   have hlv:(vs.eraseIdx i).length=q:=by rw[List.length_eraseIdx_of_lt (by rw[HVS.out];omega),HVS.out];have:=HQ.out;omega
   have hfin:=Jfk JdG w33 (q*7) HROW.out (by omega);refine⟨vs.eraseIdx i,by rw[hl,hlv],?_,fun j x v hx hv=>?_⟩
   . rw [hl]
     have epk:pkC (ps.eraseIdx i) (vs.eraseIdx i)=pkC (ps.take i) (vs.take i)++pkC (ps.drop (i+1)) (vs.drop (i+1)):=by
      rw[List.eraseIdx_eq_take_drop_succ,List.eraseIdx_eq_take_drop_succ,JlJ _ _ _ _ (by rw[List.length_take,List.length_take,HVS.out,HN.out])]
     rw[epk];have e2:n - 1=q:=by have:=HQ.out;omega
     rw[e2]
     skip
     exact hfin
   . have hcg:=HCUR.out
     refine Jb8 (S:=fun k=>k=g) ?_ HSM.out fun k hk e=>?_
     . obtain ⟨j',h1',h2'⟩:∃j',ps[j']?=some x/\vs[j']?=some v:=by
         rw[List.getElem?_eraseIdx]at hx hv
         split at hx
         . rename_i hlt;rw[if_pos hlt]at hv;exact⟨j,hx,hv⟩
         . rename_i hlt;rw[if_neg hlt]at hv;exact⟨j+1,hx,hv⟩
       exact HOP.out j' x v h1' h2'
     . subst e
       exact⟨HLG.out.1,JaA hcg (by decide)⟩
end
section
open Go.RowKit Go.Maps
attribute [local go_sem] Oper.semAt_some Ja2 JaV
theorem Ji5{lo:Nat}{w:World}{r bx bmx:Nat}{bs:List Nat}{R:Rm}(h:isRoom lo w r bx bmx bs R){i:Nat}(hi:i<R.fl.length)(hfl:R.fl.length<=400) :
    Calls Tryz.prog 132 #[.pointer (some ⟨r,0,none⟩),.int .i64 (i:Int)] w fun e w'=>e=.returned (.tuple #[])/\isRoom lo w' r bx bmx bs (outR R i)/\keptF w w' r:=by
 obtain⟨pc,cc,pf,cf,h2,h3,h4⟩:=Jbv h;have hne:R.fl≠[]:=fun e=>by rw[e]at hi;exact absurd hi (Nat.not_lt_zero _)
 obtain⟨g,_,epf,_⟩:=JoY h4 hne;have CD:Hid _:=delPk h4 hi (by omega);have hown:=fun k=>JdU (k:=k) h4
 have hrg:r≠g:=fun e=>by
  obtain⟨_,_,cs,hc⟩:=hown g (by rw[epf];rfl);rw[←e]at hc;have:=JaG h2 hc;revert this;decide
 have x2:w.cell? ⟨r,2,none⟩=some (.slice pf R.fl.length cf):=chp h2 2
 have FIN:Hid (∀w1,Je8 219 lo w1 (.slice pf (R.fl.length - 1) cf) (R.fl.eraseIdx i)->w.grownBy w1 (Value.slice pf R.fl.length cf).ownBlock->w1.cell? ⟨r,2,none⟩=some (.slice pf R.fl.length cf)/\w1.frozen? ⟨r,2,none⟩=false/\isRoom lo (w1.setCell ⟨r,2,none⟩ (.slice pf (R.fl.length - 1) cf)) r bx bmx bs (outR R i)/\keptF w (w1.setCell ⟨r,2,none⟩ (.slice pf (R.fl.length - 1) cf)) r):=fun w1 hp hg=>by
  have hlow:=h.low;have hb6:w1.heap[r]?=some (.cells #[.pointer (some ⟨bx,0,none⟩),.slice pc bs.length cc,.slice pf R.fl.length cf,.int .i64 (R.lost:Int)] 215 (0,0)):=(hg.block r (alt h2) (by rw[epf];exact fun e=>hrg (osi e))).trans h2;have hS:sameBut w (w1.setCell ⟨r,2,none⟩ (.slice pf (R.fl.length - 1) cf)) (fun k=>k=r\/(Value.slice pf R.fl.length cf).ownBlock=some k):=(JaP (S:=fun k=>k=r\/(Value.slice pf R.fl.length cf).ownBlock=some k) hg fun k e=>.inr e).comp (Jau (S:=fun k=>k=r\/(Value.slice pf R.fl.length cf).ownBlock=some k) (.inl rfl)) fun k _ h=>h
  have hfin:=heap_setCell_same w1 r 2 _ _ (.slice pf (R.fl.length - 1) cf) hb6;refine⟨chp hb6 2,Jak hb6,?_,hS.mono fun k _ e=>e.imp id fun e=>⟨_,x2,e⟩,fun k hk=>?_⟩
  case refine_2 =>
   rcases hk with rfl|⟨v,e,hk⟩
   . exact .inl (.inl rfl)
   . have y2:(w1.setCell ⟨r,2,none⟩ (.slice pf (R.fl.length - 1) cf)).cell? ⟨r,2,none⟩=some (.slice pf (R.fl.length - 1) cf):=chp hfin 2
     rw[y2]at e;obtain rfl:=osi e;refine .inl (.inr ⟨_,x2,?_⟩);rw[epf]at hk ⊢;exact hk
  refine Jer (R':=outR R i) (X:=fun k=>k=r\/(Value.slice pf R.fl.length cf).ownBlock=some k) (vc:=.slice pc bs.length cc) (vf:=.slice pf (R.fl.length - 1) cf) h (heap_setCell_same w1 r 2 _ _ _ hb6) ⟨_,_,_,h2⟩ ?_ hS (fun k hk e=>?_) rfl rfl rfl rfl rfl
  . refine Jd6 (S:=fun k=>k=r) hp (Jau rfl) fun k hk e=>?_
    subst e;exact⟨hlow,JaA hb6 (by decide),fun cs fz hc=>by have:=JaG hb6 hc;revert this;decide⟩
  . rcases e with rfl | e
    . exact⟨hlow,_,_,h2,.inl rfl⟩
    . obtain⟨a,_,cs,hc⟩:=hown k e
      exact⟨a,cs,_,hc,.inr rfl⟩
 have hw1:wrap64 ((i:Int)+1)=(i:Int)+1:=Ja0 (by omega) (by omega);generalize R.fl.length=n at *;clear h h2 h3 h4 hne hown epf
 go_enter Tryz.func132,Tryz.ntmps132
 go_wp2_with (first
  | (go_at_call 191;refine Calls.mono CD.out ?_;rintro e w1 ⟨rfl,hp,hg⟩;obtain⟨u1,u2,u3,u4⟩:=FIN.out w1 hp hg;have U3:=hdz u3;have U4:=hdz u4;clear hp hg u3 u4)
  | fail)
 go_end0;exact⟨rfl,U3.out,U4.out⟩
variable {lo bmx r bx : Nat}{w : World}{bs : List Nat}{R : Rm}
theorem JbK{w1 w2:World}(h:sameBut w w1 (Jbg lo w bmx))(hb:Below w1.heap.size w1 w2):sameBut w w2 (Jbg lo w bmx):=h.comp (Jaf hb (fun _=>False)) fun _ _ h=>h.elim
theorem JoQ(h:isRoom lo w r bx bmx bs R){i:Nat}(hi:i<R.fl.length)(hfl:R.fl.length<=400) :
    Calls Tryz.prog 68 #[.pointer (some ⟨r,0,none⟩),.int .i64 (i:Int)] w fun e w'=>e=.returned .nilIface/\isRoom lo w' r bx bmx bs (outR R i)/\sameBut w w' (Jbg lo w bmx):=by
 have hp:R.fl[i]?=some R.fl[i]:=lgg hi;have CP:Hid _:=Jfj h i hp hfl;have CD:Hid (∀wx,Below w.heap.size w wx->Calls Tryz.prog 132 #[.pointer (some ⟨r,0,none⟩),.int .i64 (i:Int)] wx fun e w'=>e=.returned (.tuple #[])/\isRoom lo w' r bx bmx bs (outR R i)/\sameBut wx w' (Jbg lo wx bmx)):=fun wx hb=>(Ji5 (Jap h hb) hi hfl).mono fun e w' ⟨a,b,c⟩=>⟨a,b,JcT (c.touch (Jap h hb))⟩
 unfold pkV at CP;generalize R.fl[i]=p at *;clear h hp
 go_enter Tryz.func68,Tryz.ntmps68
 go_wp2_with (first
  | (go_at_call 131;refine Calls.mono CP.out ?_;rintro e w1 ⟨v,rfl,ho,hb1⟩;obtain⟨pv,cv,rfl⟩:=JaH ho;have HB1:=hdz hb1;have HB1A:Hid (∀o,Below w.heap.size w (w1.alloc o)):=fun o=>hb1.alloc hb1.size o;clear ho hb1)
  | (go_at_call 132;refine(CD.out _ (HB1A.out _)).mono ?_;rintro e w2 ⟨rfl,h2,hs2⟩;have H2:=hdz h2;have HS2:Hid _:=JaI (HB1A.out _) hs2;clear h2 hs2)
  | fail)
 go_ret;exact⟨rfl,H2.out,HS2.out⟩
theorem Jnu(h:isRoom lo w r bx bmx bs R)(k:Int)(hk:k<0\/(R.fl.length:Int)<=k) :
    Calls Tryz.prog 68 #[.pointer (some ⟨r,0,none⟩),.int .i64 k] w fun e w'=>e=.returned (.iface 26 (.int .i64 2))/\Below w.heap.size w w':=by
 have CP:Hid _:=Je4 h k hk;clear h hk
 go_enter Tryz.func68,Tryz.ntmps68
 go_wp2_with (first
  | (go_at_call 131;refine Calls.mono CP.out ?_;rintro e w1 ⟨rfl,hb1⟩;have HB1:=hdz hb1;have HB1A:Hid (∀o,Below w.heap.size w (w1.alloc o)):=fun o=>hb1.alloc hb1.size o;clear hb1)
  | fail)
 go_ret;exact⟨rfl,HB1A.out _⟩
theorem Jnt(h:isRoom lo w r bx bmx bs R){i:Nat}{p:Pk}(hp:R.fl[i]?=some p)(hlost:R.lost<=1000000000000)(hfl:R.fl.length<=400) :
    Calls Tryz.prog 70 #[.pointer (some ⟨r,0,none⟩),.int .i64 (i:Int)] w fun e w'=>e=.returned .nilIface/\isRoom lo w' r bx bmx bs (Jb5 R p)/\sameBut w w' (Jbg lo w bmx):=by
 have CP:Hid _:=Jfj h i hp hfl;have CD:Hid (∀wx v,Below w.heap.size w wx->opX lo wx v p.x.op->Calls Tryz.prog 130 #[.pointer (some ⟨r,0,none⟩),pkV p v] wx fun e w'=>e=.returned (.tuple #[])/\isRoom lo w' r bx bmx bs (Jb5 R p)/\sameBut wx w' (Jbg lo wx bmx)):=fun wx v hb ho=>(JdS (Jap h hb) p v ho hlost hfl).mono fun e w' ⟨a,b,c⟩=>⟨a,b,JcT (c.touch (Jap h hb))⟩
 unfold pkV at CP CD;clear h hp hlost
 go_enter Tryz.func70,Tryz.ntmps70
 go_wp2_with (first
  | (go_at_call 131;refine Calls.mono CP.out ?_;rintro e w1 ⟨v,rfl,ho,hb1⟩;obtain⟨pv,cv,rfl⟩:=JaH ho;have HB1:=hdz hb1;have HB1A:Hid (∀o,Below w.heap.size w (w1.alloc o)/\opX lo (w1.alloc o) (.slice pv p.x.op.length cv) p.x.op):=fun o=>⟨hb1.alloc hb1.size o,Ja5 ho ((brf _ _).alloc (nlr _) _)⟩;clear ho hb1)
  | (go_at_call 130;refine(CD.out _ _ (HB1A.out _).1 (HB1A.out _).2).mono ?_;rintro e w2 ⟨rfl,h2,hs2⟩;have H2:=hdz h2;have HS2:Hid _:=JaI (HB1A.out _).1 hs2;clear h2 hs2)
  | fail)
 go_ret;exact⟨rfl,H2.out,HS2.out⟩
theorem Jl7(h:isRoom lo w r bx bmx bs R)(k:Int)(hk:k<0\/(R.fl.length:Int)<=k) :
    Calls Tryz.prog 70 #[.pointer (some ⟨r,0,none⟩),.int .i64 k] w fun e w'=>e=.returned (.iface 26 (.int .i64 2))/\Below w.heap.size w w':=by
 have CP:Hid _:=Je4 h k hk;clear h hk
 go_enter Tryz.func70,Tryz.ntmps70
 go_wp2_with (first
  | (go_at_call 131;refine Calls.mono CP.out ?_;rintro e w1 ⟨rfl,hb1⟩;have HB1:=hdz hb1;have HB1A:Hid (∀o,Below w.heap.size w (w1.alloc o)):=fun o=>hb1.alloc hb1.size o;clear hb1)
  | fail)
 go_ret;exact⟨rfl,HB1A.out _⟩
end
section
variable {D : List (List UInt8)}{l0 n : Int}{R : Rm}{p : Pk}{fl : List Pk}
def Ext (D D':List (List UInt8)):Prop:=∀(i:Nat) (d:List UInt8),D[i]?=some d->D'[i]?=some d
theorem Ext.refl(D:List (List UInt8)):Ext D D:=fun _ _ h=>h
theorem Ext.trans{D' D'':List (List UInt8)}(h:Ext D D')(h':Ext D' D''):Ext D D'':=fun i d e=>h' i d (h i d e)
theorem JiX(l0:Int)(R:Rm)(p:Pk):(askR l0 R p).cl=R.cl/\(askR l0 R p).E=(srvR l0 R p).E/\(askR l0 R p).t=(srvR l0 R p).t/\(askR l0 R p).M=(srvR l0 R p).M/\(askR l0 R p).n=R.n+1:=by
 obtain⟨a,b,c,d,e⟩:=Jdx (srvR l0 R p) p.c p.rev;unfold askR
 split
 . obtain⟨a',b',c',d',e'⟩:=Jct (Jci (srvR l0 R p) p.c p.rev) (Jd1 p)
   exact⟨e'.trans e,b'.trans b,a'.trans a,c'.trans c,d'.trans d⟩
 . exact⟨e,b,a,c,d⟩
theorem Inv.comes(h:Inv l0 n D R){p:Pk}(hp:okPk R.E D R.cl.length p) :
    ∃ D',Inv l0 n D' (Jce l0 R p)/\Ext D D'/\(Jce l0 R p).cl.length=R.cl.length/\(∀(i:Nat) (x:SE),R.E[i]?=some x->(Jce l0 R p).E[i]?=some x) /\
     (D'=D/\(Jce l0 R p).E=R.E/\(Jce l0 R p).t=R.t\/D'=D++[(Jce l0 R p).t]/\(Jce l0 R p).E.length=R.E.length+1):=by
 unfold Jce
 by_cases k1:p.kind=1
 . rw [if_pos k1]
   obtain⟨D',i1,i2,i3,i4⟩:=h.srvK hp k1;obtain⟨a,b,c,d,e⟩:=JiX l0 R p;have hcl:(srvR l0 R p).cl.length=R.cl.length:=rfl;have it:=i1.tellK (k:=p.c) (by rw[hcl];exact hp.c) p.rev;obtain⟨ta,tb,tc,td,te⟩:=Jdx (srvR l0 R p) p.c p.rev;refine⟨D',?_,i2,by rw[a],fun i x hx=>by rw[b];exact i3 i x hx,?_⟩
   . unfold askR
     split
     . refine it.send ⟨?_,.inr (.inr (.inr rfl)),⟨Int.le_refl _,by show(0:Int)<=_;omega⟩,fun e=>(by cases e),fun e=>(by cases e)⟩
       rw[te,hcl];exact hp.c
     . exact it
   . rw[b,c]
     rcases i4 with ⟨e1,e2,e3⟩|⟨e1,e2⟩
     . exact .inl ⟨e3,e1,e2⟩
     . exact .inr ⟨e2,e1⟩
 rw[if_neg k1]
 by_cases k2:p.kind=2
 . rw[if_pos k2]
   obtain⟨ta,tb,tc,td,te⟩:=Jdx R p.c p.rev;exact⟨D,h.tellK hp.c p.rev,Ext.refl D,by rw[te],fun i x hx=>by rw[tb];exact hx,.inl ⟨rfl,tb,ta⟩⟩
 rw[if_neg k2];obtain⟨hq,hc⟩:=h.clk hp.c;have hlen:∀S,(setC R p.c S).cl.length=R.cl.length:=fun S=>List.length_set
 by_cases k3:p.kind=3
 . rw[if_pos k3]
   exact⟨D,h.setK (Int.le_refl _) (Jpl hc h.lk p.c (hp.told k3)),Ext.refl D,hlen _,fun i x hx=>hx,.inl ⟨rfl,rfl,rfl⟩⟩
 rw[if_neg k3]
 by_cases k4:p.kind=4
 . rw[if_pos k4]
   exact⟨D,h.setK (Int.le_refl _) (JlQ hc p.id),Ext.refl D,hlen _,fun i x hx=>hx,.inl ⟨rfl,rfl,rfl⟩⟩
 . rcases hp.kind with e|e|e|e
   . exact absurd e k1
   . exact absurd e k2
   . exact absurd e k3
   . exact absurd e k4
theorem Inv.askK(h:Inv l0 n D R){k:Nat}(hk:k<R.cl.length):okPk R.E D R.cl.length (askP R k):=by
 obtain⟨hq,hc⟩:=h.clk hk;have hr:=hc.revle h.lk;unfold askP
 split
 . exact⟨hk,.inr (.inl rfl),⟨hc.rev,hr⟩,fun e=>(by cases e),fun e=>(by cases e)⟩
 . rename_i hm
   obtain⟨g,hp⟩:=JfF hc.ok hm;exact⟨hk,.inl rfl,⟨hc.rev,hr⟩,fun _=>⟨rfl,rfl,_,hc.seen,g,hp⟩,fun e=>(by cases e)⟩
theorem Inv.sendK(h:Inv l0 n D R){k:Nat}(hk:k<R.cl.length):Inv l0 n D (Jde R k):=h.send (h.askK hk)
theorem Inv.edit(h:Inv l0 n D R){k:Nat}(hk:k<R.cl.length)(q:List Pt):Inv l0 (n+1) D (JkF R k q) :=
 h.setK (by omega) (Jpm (h.clk hk).2 q)
theorem Inv.deliv(h:Inv l0 n D R)(i:Nat) :
    ∃ D',Inv l0 n D' (Jcd l0 R i)/\Ext D D'/\(Jcd l0 R i).cl.length=R.cl.length /\
     (D'=D/\(Jcd l0 R i).E=R.E/\(Jcd l0 R i).t=R.t\/D'=D++[(Jcd l0 R i).t]/\(Jcd l0 R i).E.length=R.E.length+1):=by
 unfold Jcd
 cases hp:R.fl[i]? with
 | none=>exact⟨D,h,Ext.refl D,rfl,.inl ⟨rfl,rfl,rfl⟩⟩
 | some p =>
  obtain⟨D',a,b,c,_,d⟩:=(h.out i).comes (p:=p) (h.pks p (List.mem_of_getElem? hp));exact⟨D',a,b,c,d⟩
theorem Inv.twice(h:Inv l0 n D R){i:Nat}{p:Pk}(hp:R.fl[i]?=some p):Inv l0 n D (Jb5 R p):=h.send (h.pks p (List.mem_of_getElem? hp))
/-! how much there may be -/
theorem JfU(a b:List Pk):Ja1 (a++b)=Ja1 a+Ja1 b:=by simp[Ja1]
theorem JjV(p:Pk):1<=wP p/\wP p<=400:=by unfold wP;split<;>omega
theorem Jid:∀fl:List Pk,fl.length<=Ja1 fl/\Ja1 fl<=400*fl.length
 | []=>by simp[Ja1]
 | p :: fl=>by
  have:=Jid fl;have:=JjV p;have e:Ja1 (p :: fl)=wP p+Ja1 fl:=by simp[Ja1]
  rw[e,List.length_cons];omega
theorem JmB(R:Rm)(p:Pk)(hp:wP p=1):potR (Jb5 R p)=potR R+1:=by
 unfold potR Jb5
 split
 . simp only;omega
 . simp only[JfU]
   have:Ja1 [p]=1:=by simp[Ja1,hp]
   omega
theorem Jha(R:Rm)(p:Pk):Ja1 (Jb5 R p).fl<=Ja1 R.fl+wP p:=by
 unfold Jb5
 split
 . simp only;omega
 . simp only[JfU]
   have:Ja1 [p]=wP p:=by simp[Ja1]
   omega
theorem Jek(R:Rm)(p:Pk):potR (Jb5 R p)<=potR R+400:=by
 have:=JjV p;unfold potR Jb5
 split
 . simp only;omega
 . simp only[JfU]
   have:Ja1 [p]=wP p:=by simp[Ja1]
   omega
theorem Jk2(k:Nat):∀(xs:List SE)(f:Int)(R:Rm),potR (Jdy k f xs R)=potR R+xs.length/\Ja1 (Jdy k f xs R).fl<=Ja1 R.fl+xs.length
 | [],_,_=>⟨rfl,nlr _⟩
 | x :: xs,f,R=>by
  obtain⟨i1,i2⟩:=Jk2 k xs (f+1) (Jb5 R ⟨3,k,f,0,x⟩);have e:wP ⟨3,k,f,0,x⟩=1:=rfl;have h1:=JmB R ⟨3,k,f,0,x⟩ e;have h2:=Jha R ⟨3,k,f,0,x⟩;have u:Jdy k f (x :: xs) R=Jdy k (f+1) xs (Jb5 R ⟨3,k,f,0,x⟩):=rfl;rw[u,List.length_cons];omega
theorem Jk1(R:Rm)(k:Nat)(f:Int):potR (Jci R k f)<=potR R+R.E.length/\Ja1 (Jci R k f).fl<=Ja1 R.fl+R.E.length:=by
 unfold Jci
 split
 . omega
 . obtain⟨i1,i2⟩:=Jk2 k (R.E.drop f.toNat) f R
   have:=List.length_drop (i:=f.toNat) (l:=R.E);omega
theorem Jf8(l0:Int)(R:Rm)(p:Pk)(hE:(Jce l0 R p).E.length<=300):potR (Jce l0 R p)+1<=potR R+wP p+(if p.kind=1\/p.kind=2 then 0 else 1)/\Ja1 (Jce l0 R p).fl+1<=Ja1 R.fl+wP p:=by
 unfold Jce at *
 by_cases k1:p.kind=1
 . rw [if_pos k1]at hE ⊢
   have w1:wP p=400:=by unfold wP;rw[if_pos (.inl k1)]
   obtain⟨a,b,c,d,e⟩:=JiX l0 R p;rw[b]at hE;obtain⟨i1,i2⟩:=Jk1 (srvR l0 R p) p.c p.rev;have p0:potR (srvR l0 R p)=potR R+1:=by unfold potR;show R.n+1+R.lost+Ja1 R.fl=_;omega
   have w0:Ja1 (srvR l0 R p).fl=Ja1 R.fl:=rfl;rw[w1,if_pos (.inl k1)];unfold askR
   split
   . have h1:=JmB (Jci (srvR l0 R p) p.c p.rev) (Jd1 p) rfl
     have h2:=Jha (Jci (srvR l0 R p) p.c p.rev) (Jd1 p);have:wP (Jd1 p)=1:=rfl;omega
   . omega
 rw[if_neg k1]at hE ⊢
 by_cases k2:p.kind=2
 . rw[if_pos k2]at hE ⊢
   have w1:wP p=400:=by unfold wP;rw[if_pos (.inr k2)]
   obtain⟨i1,i2⟩:=Jk1 R p.c p.rev;obtain⟨ta,tb,tc,td,te⟩:=Jdx R p.c p.rev;rw[tb]at hE;rw[w1,if_pos (.inr k2)];omega
 rw[if_neg k2]at hE ⊢;have hk:¬(p.kind=1\/p.kind=2):=fun e=>e.elim k1 k2
 have w1:wP p=1:=by unfold wP;rw[if_neg hk]
 have hs:∀S,potR (setC R p.c S)=potR R/\Ja1 (setC R p.c S).fl=Ja1 R.fl:=fun S=>⟨rfl,rfl⟩
 rw[if_neg hk,w1]
 by_cases k3:p.kind=3
 . rw[if_pos k3];have:=hs (tkS p.c (clK R p.c).2 p.rev p.x.c p.x.i p.x.op);omega
 rw[if_neg k3]
 by_cases k4:p.kind=4
 . rw[if_pos k4];have:=hs (rfS (clK R p.c).2 p.id);omega
 . rw[if_neg k4];omega
/-! until nothing is under way -/
theorem JdR(l0:Int)(n:Nat)(R:Rm)(h:R.fl=[]):JcC l0 n R=R:=by
 cases n with
 | zero=>rfl
 | succ n=>unfold JcC;rw[h]
theorem Jef(l0:Int)(n:Nat)(R:Rm)(p:Pk)(fl:List Pk)(h:R.fl=p :: fl):JcC l0 (n+1) R=JcC l0 n (Jce l0 { R with fl:=fl } p):=by
 conv=>lhs;unfold JcC
 rw[h]
theorem JgS(h:R.fl=p :: fl):outR R 0 = { R with fl:=fl }:=by
 unfold outR;rw[h];rfl
theorem JiL(h:R.fl=p :: fl):Jcd l0 R 0=Jce l0 { R with fl:=fl } p:=by
 have e:R.fl[0]?=some p:=by rw[h];rfl
 unfold Jcd;rw[e,←JgS h]
theorem Inv.settleM{l0 n:Int}:∀(m:Nat)(D:List (List UInt8))(R:Rm),Inv l0 n D R->Ja1 R.fl<=m ->
    ∃D',Inv l0 n D' (JcC l0 m R)/\Ext D D'/\(JcC l0 m R).cl.length=R.cl.length/\(JcC l0 m R).fl=[]/\potR (JcC l0 m R)<=potR R/\∀m',Ja1 R.fl<=m'->JcC l0 m' R=JcC l0 m R
 | 0, D,R,h,hw=>by
  have hf:R.fl=[]:=by
   have:=(Jid R.fl).1;exact List.eq_nil_of_length_eq_zero (by omega)
  exact⟨D,h,Ext.refl D,rfl,hf,nlr _,fun m' _=>JdR l0 m' R hf⟩
 | m + 1, D,R,h,hw=>by
  cases hf:R.fl with
  | nil =>
   rw[JdR l0 (m+1) R hf];exact⟨D,h,Ext.refl D,rfl,hf,nlr _,fun m' _=>JdR l0 m' R hf⟩
  | cons p fl =>
   have hp:=h.pks p (by rw[hf];simp);have ho:=h.out 0;rw[JgS hf]at ho;obtain⟨D1,i1,i2,i3,_,_⟩:=ho.comes (p:=p) hp;obtain⟨q1,q2⟩:=Jf8 l0 { R with fl:=fl } p i1.few;have e1:Ja1 R.fl=wP p+Ja1 fl:=by rw[hf];simp[Ja1]
   have hwc:Ja1 (Jce l0 { R with fl:=fl } p).fl<=m:=by
    have:Ja1 ({ R with fl:=fl }:Rm).fl=Ja1 fl:=rfl;omega
   obtain⟨D2,j1,j2,j3,j4,j5,j6⟩:=Inv.settleM m D1 _ i1 hwc;rw[Jef l0 m R p fl hf];refine⟨D2,j1,i2.trans j2,by rw[j3,i3],j4,?_,fun m' hm'=>?_⟩
   . have e2:potR ({ R with fl:=fl }:Rm)+wP p=potR R:=by
       unfold potR;show R.n+R.lost+Ja1 fl+wP p=R.n+R.lost+Ja1 R.fl;omega
     split at q1<;>omega
   . have:=JjV p
     rw[←hf]at hm';obtain⟨m'',rfl⟩:∃m'',m'=m''+1:=⟨m' - 1,by omega⟩;rw[Jef l0 m'' R p fl hf];refine j6 m'' ?_
     have:Ja1 ({ R with fl:=fl }:Rm).fl=Ja1 fl:=rfl;omega
theorem Inv.settle(h:Inv l0 n D R):∃D',Inv l0 n D' (Jbj l0 R)/\Ext D D'/\(Jbj l0 R).cl.length=R.cl.length/\(Jbj l0 R).fl=[]/\potR (Jbj l0 R)<=potR R:=by
 obtain⟨D',a,b,c,d,e,_⟩:=Inv.settleM _ D R h (nlr _);exact⟨D',a,b,c,d,e⟩
theorem Inv.stepM(h:Inv l0 n D R)(hf:R.fl≠[]):Jbj l0 (Jcd l0 R 0)=Jbj l0 R/\Ja1 (Jcd l0 R 0).fl<Ja1 R.fl:=by
 cases hfl:R.fl with
 | nil=>exact absurd hfl hf
 | cons p fl =>
  have hp:=h.pks p (by rw[hfl];simp);have ho:=h.out 0;rw[JgS hfl]at ho;obtain⟨D1,i1,i2,i3,_,_⟩:=ho.comes (p:=p) hp;obtain⟨q1,q2⟩:=Jf8 l0 { R with fl:=fl } p i1.few;have e1:Ja1 R.fl=wP p+Ja1 fl:=by rw[hfl];simp[Ja1]
  have e2:Ja1 ({ R with fl:=fl }:Rm).fl=Ja1 fl:=rfl;rw[JiL hfl];refine⟨?_,by rw[←hfl];omega⟩;unfold Jbj;obtain⟨m,hm⟩:∃m,Ja1 R.fl=m+1:=⟨Ja1 R.fl - 1,by have:=JjV p;omega⟩;have hwc:Ja1 (Jce l0 { R with fl:=fl } p).fl<=m:=by omega
  obtain⟨D2,_,_,_,_,_,j6⟩:=Inv.settleM _ D1 _ i1 (nlr (Ja1 (Jce l0 { R with fl:=fl } p).fl));rw[hm,Jef l0 m R p fl hfl];exact(j6 m hwc).symm
theorem Inv.quietM{l0 n:Int}:∀(m k:Nat)(D:List (List UInt8))(R:Rm),Inv l0 n D R->k+m=R.cl.length->∃D',Inv l0 n D' (JcL l0 m k R)/\Ext D D'/\(JcL l0 m k R).cl.length=R.cl.length/\(R.fl=[]->(JcL l0 m k R).fl=[])/\potR (JcL l0 m k R)<=potR R+400*m
 | 0,k,D,R,h,_=>⟨D,h,Ext.refl D,rfl,fun h=>h,nlr _⟩
 | m+1,k,D,R,h,hk=>by
  have h1:=h.sendK (k:=k) (by omega);have hc:(Jde R k).cl.length=R.cl.length:=by unfold Jde;rw[(Jct _ _).2.2.2.2]
  obtain⟨D1,i1,i2,i3,i4,i5⟩:=h1.settle;obtain⟨D2,j1,j2,j3,j4,j5⟩:=Inv.quietM m (k+1) D1 _ i1 (by rw[i3,hc];omega);have hp:=Jek R (askP R k);refine⟨D2,j1,i2.trans j2,by show(JcL l0 m (k+1) _).cl.length=_;rw[j3,i3,hc],fun _=>j4 i4,?_⟩;show potR (JcL l0 m (k+1) _)<=_;have hp:potR (Jde R k)<=potR R+400:=hp;omega
theorem Inv.quiet(h:Inv l0 n D R):∃D',Inv l0 n D' (Jc7 l0 R)/\Ext D D'/\(Jc7 l0 R).cl.length=R.cl.length/\(Jc7 l0 R).fl=[]/\potR (Jc7 l0 R)<=potR R+400*R.cl.length:=by
 obtain⟨D1,i1,i2,i3,i4,i5⟩:=h.settle;obtain⟨D2,j1,j2,j3,j4,j5⟩:=Inv.quietM R.cl.length 0 D1 _ i1 (by rw[i3];omega);exact⟨D2,j1,i2.trans j2,by rw[show(Jc7 l0 R).cl.length=(JcL l0 R.cl.length 0 (Jbj l0 R)).cl.length from rfl,j3,i3],j4 i4,by show potR (JcL l0 R.cl.length 0 (Jbj l0 R))<=_;omega⟩
end
section
open Go.RowKit Go.Maps
attribute [local go_sem] Oper.semAt_some Ja2 JaV
variable {lo bmx : Nat}{w : World}{R : Rm}
theorem Jkt(R:Rm)(p:Pk)(h:R.fl.length<=400):(Jb5 R p).lost<=R.lost+1/\(Jb5 R p).fl.length<=400:=by
 unfold Jb5
 split
 . exact⟨nlr _,h⟩
 . exact⟨Nat.le_succ _,by show(R.fl++[p]).length<=400;rw[List.length_append,List.length_singleton];omega⟩
theorem Jio(k:Nat):∀(xs:List SE)(f:Int)(R:Rm),R.fl.length<=400->(Jdy k f xs R).lost<=R.lost+xs.length/\(Jdy k f xs R).fl.length<=400
 | [],_,_,h=>⟨nlr _,h⟩
 | x :: xs,f,R,h=>by
  obtain⟨a,b⟩:=Jkt R ⟨3,k,f,0,x⟩ h;obtain⟨c,d⟩:=Jio k xs (f+1) _ b;rw[List.length_cons];exact⟨by show(Jdy k (f+1) xs (Jb5 R ⟨3,k,f,0,x⟩)).lost<=_;omega,d⟩
theorem isLog_F{base:Nat}{w':World}{v1:Value}{E:List SE}(h:Jcz 105 lo base w v1 E)(hs:sameBut w w' (Joy lo w)):Jcz 105 lo base w' v1 E :=
 Jd7 h hs fun k ⟨a,cs,T,hc,hT⟩=>⟨a,JaA hc (by rcases hT with rfl|rfl<;>decide),fun cs' fz hc'=>by
  have:=JaG hc hc';subst this
  rcases hT with e|e<;>revert e<;>decide⟩
theorem JbJ{w1 w2:World}(h:sameBut w w1 (Jbg lo w bmx))(h':sameBut w1 w2 (Jbg lo w1 bmx)):sameBut w w2 (Jbg lo w bmx):=h.comp h' fun k hk e=>by
 by_cases hc:Jbg lo w bmx k
 . exact hc
 . obtain ⟨a,e | ⟨cs,T,hb,hT⟩⟩:=e
   . exact absurd ⟨a,.inl e⟩ hc
   . rw[h.2 k hk hc]at hb
     exact⟨a,.inr ⟨cs,T,hb,hT⟩⟩
theorem Jo3{k:Nat}{f:Int}{xs:List SE}{R':Rm}{i:Nat}{x:SE}(h:Jdy k (f+(i:Int)) (xs.drop i) R'=Jdy k f xs R)(hx:xs[i]?=some x):Jdy k (f+((i+1:Nat):Int)) (xs.drop (i+1)) (Jb5 R' ⟨3,k,f+(i:Int),0,x⟩)=Jdy k f xs R:=by
 have hi:i<xs.length:=(llt hx);rw[List.drop_eq_getElem_cons hi]at h;rw[lgg hi]at hx;rw[osi hx]at h;rw[←h,show f+((i+1:Nat):Int)=f+(i:Int)+1 by omega];rfl
theorem Jky{r bx:Nat}{bs:List Nat}{l0:Int}(h:isRoom lo w r bx bmx bs R)(hok:okS l0 R.t R.E)(hE:R.E.length<=300)(K m:Nat)(hm:m<=R.E.length)(hlost:R.lost<=100000000000)(hfl:R.fl.length<=400) :
    Calls Tryz.prog 192 #[.pointer (some ⟨r,0,none⟩),.int .i64 (K:Int),.int .i64 (m:Int)] w fun e w'=>e=.returned (.tuple #[])/\isRoom lo w' r bx bmx bs (Jci R K (m:Int))/\keptF w w' r:=by
 have hlo:lo<=w.heap.size:=Nat.le_of_lt (Nat.lt_of_le_of_lt h.low (Jbo h));have CL:Hid _:=JoB h.srv hok m hm (by omega);have HT:Hid (Jci R K (m:Int)=Jdy K (m:Int) (R.E.drop m) R):=by
  show Jci R K (m:Int)=_;unfold Jci;rw[if_neg (by omega),Int.toNat_natCast]
 have HR:Hid (∀w1,Below w.heap.size w w1->isRoom lo w1 r bx bmx bs R):=fun w1 hb=>Jap h hb
 have x0:w.cell? ⟨r,0,none⟩=some (.pointer (some ⟨bx,0,none⟩)):=by
  obtain⟨pc,cc,pf,cf,h2,_⟩:=Jbv h;exact chp h2 0
 obtain⟨xs,hxs⟩:∃xs,R.E.drop m=xs:=⟨_,rfl⟩;have hxl:xs.length<=300:=by rw[←hxs,List.length_drop];omega
 rw[hxs]at CL HT;have hm1:(m:Int)<=300:=by omega
 have hxi:(xs.length:Int)<=300:=by omega
 have HLOST:Hid (R.lost<=100000000000):=hlost;have HRL:Hid (r<w.heap.size):=Jbo h;have HFL:Hid (R.fl.length<=400):=hfl;clear h hok hE hm hlost hfl hxs hlo;rw[HT.out]
 go_enter Tryz.func192,Tryz.ntmps192
 go_wp2_with (first
  | (go_at_call 44;refine Calls.mono CL.out ?_;rintro e w1 ⟨v1,rfl,hl1,hb1⟩;obtain⟨pl,cl,rfl⟩:=Jb6 hl1;have HL1:=hdz hl1;have HB1:=hdz hb1;clear hl1 hb1)
  | fail)
 go_loopw [21] (fun i wr=>∃k:Nat,i=.int .i64 k/\k<=xs.length/\∃R',Jdy K ((m:Int)+(k:Int)) (xs.drop k) R'=Jdy K (m:Int) xs R/\isRoom lo wr r bx bmx bs R'/\keptF w1 wr r/\R'.lost<=R.lost+k/\R'.fl.length<=400) (fun i _=>xs.length - (intOf i).toNat)
 case atStart=>exact⟨0,rfl,Nat.zero_le _,R,by simp,HR.out _ HB1.out,JcP (Jbo (HR.out _ HB1.out)) (brf _ _),nlr _,HFL.out⟩
 case round =>
  obtain⟨k,rfl,hk,R',e1,e2,e3,e4,e5⟩:=hrel;have E1:=hdz e1;have E2:=hdz e2;have E3:=hdz e3;have E4:Hid (R'.lost<=R.lost+k/\R'.fl.length<=400):=⟨e4,e5⟩;have hki:(k:Int)<=300:=by omega
  clear e1 e2 e3 e4 e5
  by_cases hlt:k<xs.length
  . have hx:xs[k]?=some xs[k]:=lgg hlt
    have hne:xs≠[]:=by intro e;rw[e]at hlt;exact absurd hlt (Nat.not_lt_zero _)
    have hl2:=isLog_F HL1.out (keptF.touch E3.out (HR.out _ HB1.out));obtain⟨g,rfl,hgl,_,hc1,hc2,hat⟩:=Jj8 hl2 hne;obtain⟨vx,a0,a1,a2,hop⟩:=hat k _ hx;obtain⟨pv,cv,rfl⟩:=JaH hop;have HX:Hid (xs[k]?=some xs[k]):=hx;generalize xs[k]=x at *;have HOP:=hdz hop;have hwr:wrap64 ((m:Int)+(k:Int))=(m:Int)+(k:Int):=Ja0 (by omega) (by omega);have hki2:(k:Int)<(xs.length:Int):=by omega
    have CS:Hid (∀o,Calls Tryz.prog 130 #[.pointer (some ⟨r,0,none⟩),pkV ⟨3,K,(m:Int)+(k:Int),0,x⟩ (.slice pv x.op.length cv)] (wr.alloc o) fun e w'=>e=.returned (.tuple #[])/\isRoom lo w' r bx bmx bs (Jb5 R' ⟨3,K,(m:Int)+(k:Int),0,x⟩)/\keptF (wr.alloc o) w' r):=fun o=>JdS (Jap E2.out ((brf _ _).alloc (nlr _) o)) _ _ (Ja5 HOP.out ((brf _ _).alloc (nlr _) o)) (by have:=E4.out.1;have:=HLOST.out;omega) E4.out.2
    unfold pkV at CS;clear hat hop hx hl2 hne hc1 hc2
    go_wp2_with (first
     | (go_at_call 130;refine(CS.out _).mono ?_;rintro e w2 ⟨rfl,h2,hs2⟩;have H2:=hdz h2;have HS2:Hid _:=keptF.trans (keptF.trans E3.out (JcP (Jbo E2.out) ((brf _ _).alloc (nlr _) _))) hs2;clear h2 hs2)
     | fail)
    go_roundw
    case rel =>
     obtain⟨s1,s2⟩:=Jkt R' ⟨3,K,(m:Int)+(k:Int),0,x⟩ E4.out.2;exact⟨k+1,by go_num,by omega,_,Jo3 E1.out HX.out,H2.out,HS2.out,by have:=E4.out.1;omega,s2⟩
    case measure=>simp[intOf];omega
  . obtain rfl:k=xs.length:=by omega
    have hki2:¬((xs.length:Int)<(xs.length:Int)):=by omega
    go_wp2;go_end0;have e:=E1.out;rw[List.drop_length]at e;rw[←e];exact⟨rfl,E2.out,keptF.trans (JcP HRL.out HB1.out) E3.out⟩
end
section
open Go.RowKit Go.Maps
attribute [local go_sem] Oper.semAt_some
variable {lo b : Nat}{w : World}{who u : Int}{S : Cl}
theorem Jj3{vm:Value}{ms:List (List Pt)}(h:Jc9 lo w vm ms)(hm:ms≠[]):∃g c,vm=.slice (some ⟨g,0,none⟩) ms.length c:=by
 obtain⟨vs,_,h2,_⟩:=h
 rcases h2.2 with ⟨_,e⟩|⟨g,cap,cur,e,_⟩
 . exact absurd (List.eq_nil_of_length_eq_zero e) hm
 . exact⟨g,cap,e⟩
theorem two_of{α:Type}{l:List α}(h:l.length=2):∃a b,l=[a,b]:=by
 match l,h with
 | [a,b],_=>exact⟨a,b,rfl⟩
theorem JgA{w':World}{g:Nat}(h:w.grownBy w' (some g)):sameBut w w' fun k=>k=g:=JaP h fun k e=>(osi e).symm
theorem clLand1(h:isCl lo w b who u S){m1:List Pt}(hm:S.mine=[m1]) :
    Calls Tryz.prog 123 #[.pointer (some ⟨b,0,none⟩)] w fun e w'=>e=.returned (.tuple #[])/\isCl lo w' b who u { S with mine:=[] }/\keptC w w' b:=by
 have hlt:=JbP h;obtain⟨hlo,vm,h3,h4⟩:=h;obtain⟨g,c,rfl⟩:=Jj3 h4 (by rw[hm];simp);have hg:=JbN h4 (k:=g) rfl;have hgb:g≠b:=fun e=>by
  obtain⟨_,_,cs,hc⟩:=hg;subst e;have:=JaG h3 hc;revert this;decide
 obtain⟨vs,q1,q2,q3⟩:=h4;have hl1:S.mine.length=1:=by rw[hm];rfl
 rw[hl1]at q2 h3;obtain⟨x0,rfl⟩:∃x0,vs=[x0]:=List.length_eq_one_iff.1 (by rw[q1,hl1]);have CD:Hid _:=del1 q2;obtain⟨_,_,_,_,x4,_,_,_,xf⟩:=Jat h3;have f4:=xf 4;have H3:=hdz h3;have HLO:Hid (lo<=b):=hlo;clear h3 q1 q2 q3 hl1 xf hm hlo hg
 go_enter Tryz.func123,Tryz.ntmps123
 go_wp2_with (first
  | (go_at_call 9999)
  | fail)
 refine Calls.mono CD.out ?_
 rintro e w1 ⟨rfl,hown,hgr⟩;have hs:=JgA hgr;have hb1:w1.heap[b]?=some (.cells (JaO who u S (.slice (some ⟨g,0,none⟩) 1 c)) 203 (0,0)):=(hs.2 b hlt fun e=>hgb e.symm).trans H3.out;have y4:w1.cell? ⟨b,4,none⟩=some (.slice (some ⟨g,0,none⟩) 1 c):=(Jat hb1).2.2.2.2.1;have z4:w1.frozen? ⟨b,4,none⟩=false:=Jak hb1;have b2:=heap_setCell_same w1 b 4 _ _ (.slice (some ⟨g,0,none⟩) 0 c) hb1;have hs1:sameBut w1 (w1.setCell ⟨b,4,none⟩ (.slice (some ⟨g,0,none⟩) 0 c)) (fun k=>k=b):=Jau (S:=fun k=>k=b) rfl;have hmn:Jc9 lo (w1.setCell ⟨b,4,none⟩ (.slice (some ⟨g,0,none⟩) 0 c)) (.slice (some ⟨g,0,none⟩) 0 c) []:=⟨[],rfl,Jc4 hown hs1 (fun k hk e=>hgb ((osi hk).trans e)),fun i m x hi=>by simp at hi⟩
 have HB6:Hid (isCl lo (w1.setCell ⟨b,4,none⟩ (.slice (some ⟨g,0,none⟩) 0 c)) b who u { S with mine:=[] }/\keptC w (w1.setCell ⟨b,4,none⟩ (.slice (some ⟨g,0,none⟩) 0 c)) b) :=
  JdO HLO.out H3.out b2 hmn ((hs.mono fun k _ e=>.inr (congrArg some e.symm)).comp hs1 fun k _ e=>.inl e) fun k hk=>.inl hk
 have CP:Hid _:=Jbp HB6.out.1;have hp0:decide (0<({ S with mine:=[] }:Cl).mine.length)=false:=rfl;rw[hp0]at CP;clear hown hgr hs hb1 b2 hs1 hmn hp0
 go_wp2_with (first
  | (go_at_call 58;refine Calls.mono CP.out ?_;rintro e w2 ⟨rfl,hb2⟩;have HB2:=hdz hb2;clear hb2)
  | fail)
 go_end0;exact⟨rfl,JaZ HB6.out.1 HB2.out,HB6.out.2.trans (Jb0 HB2.out (JbP HB6.out.1))⟩
theorem clLand2(h:isCl lo w b who u S){m1 m2:List Pt}(hm:S.mine=[m1,m2])(hid:0<=S.id/\S.id<=1000000) :
    Calls Tryz.prog 123 #[.pointer (some ⟨b,0,none⟩)] w fun e w'=>e=.returned (.tuple #[])/\isCl lo w' b who u { S with mine:=[m2],id:=S.id+1 }/\keptC w w' b:=by
 have hlt:=JbP h;obtain⟨hlo,vm,h3,h4⟩:=h;obtain⟨g,c,rfl⟩:=Jj3 h4 (by rw[hm];simp);have hg:=JbN h4 (k:=g) rfl;have hgb:g≠b:=fun e=>by
  obtain⟨_,_,cs,hc⟩:=hg;subst e;have:=JaG h3 hc;revert this;decide
 have hgp:lo<=g/\Jc8 w g:=by
  obtain⟨e,_,cs,hc⟩:=hg;exact⟨e,JaA hc (by decide)⟩
 obtain⟨vs,q1,q2,q3⟩:=h4;have hl1:S.mine.length=2:=by rw[hm];rfl
 rw[hl1]at q2 h3;obtain⟨x0,x1,rfl⟩:∃x0 x1,vs=[x0,x1]:=two_of (by rw[q1,hl1]);have ho1:opX lo w x1 m2:=q3 1 m2 x1 (by rw[hm];rfl) rfl;obtain⟨p1,c1,rfl⟩:=JaH ho1;have CD:Hid _:=del2 q2;have HO1:=hdz ho1;obtain⟨_,_,_,_,x4,_,_,_,xf⟩:=Jat h3;have H3:=hdz h3;have HLO:Hid (lo<=b):=hlo;have HGP:Hid (lo<=g/\Jc8 w g):=hgp;have hid1:wrap64 (S.id+1)=S.id+1:=Ja0 (by omega) (by omega);obtain⟨i0,i1⟩:=hid;generalize hln:m2.length=ln at *;clear h3 q1 q2 q3 hl1 xf hm hlo hg ho1 hgp
 go_enter Tryz.func123,Tryz.ntmps123
 go_wp2_with (first
  | (go_at_call 9999)
  | fail)
 refine Calls.mono CD.out ?_
 rintro e w1 ⟨rfl,hown,hgr⟩;have hs:=JgA hgr;have hb1:w1.heap[b]?=some (.cells (JaO who u S (.slice (some ⟨g,0,none⟩) 2 c)) 203 (0,0)):=(hs.2 b hlt fun e=>hgb e.symm).trans H3.out;have y4:w1.cell? ⟨b,4,none⟩=some (.slice (some ⟨g,0,none⟩) 2 c):=(Jat hb1).2.2.2.2.1;have z4:w1.frozen? ⟨b,4,none⟩=false:=Jak hb1;have b2:=heap_setCell_same w1 b 4 _ _ (.slice (some ⟨g,0,none⟩) 1 c) hb1;have hs1:sameBut w1 (w1.setCell ⟨b,4,none⟩ (.slice (some ⟨g,0,none⟩) 1 c)) (fun k=>k=b):=Jau (S:=fun k=>k=b) rfl;have hsA:sameBut w (w1.setCell ⟨b,4,none⟩ (.slice (some ⟨g,0,none⟩) 1 c)) (fun k=>k=b\/k=g):=(hs.mono fun k _ e=>.inr e).comp hs1 fun k _ e=>.inl e
 have hmn:Jc9 lo (w1.setCell ⟨b,4,none⟩ (.slice (some ⟨g,0,none⟩) 1 c)) (.slice (some ⟨g,0,none⟩) 1 c) [m2]:=⟨[.slice p1 ln c1],rfl,Jc4 hown hs1 (fun k hk e=>hgb ((osi hk).trans e)),fun i m x hi hx=>by
  cases i with
  | succ i=>simp at hi
  | zero =>
   obtain rfl:m2=m:=by simpa using hi
   obtain rfl:Value.slice p1 ln c1=x:=by simpa using hx
   exact Jb8 HO1.out hsA fun k _ hk=>by
    rcases hk with rfl|rfl
    . exact⟨HLO.out,JaA H3.out (by decide)⟩
    . exact HGP.out⟩
 have HB6:Hid (isCl lo (w1.setCell ⟨b,4,none⟩ (.slice (some ⟨g,0,none⟩) 1 c)) b who u { S with mine:=[m2] }/\keptC w (w1.setCell ⟨b,4,none⟩ (.slice (some ⟨g,0,none⟩) 1 c)) b) :=
  JdO HLO.out H3.out b2 hmn (hsA.mono fun k _ e=>e.imp id fun e=>congrArg some e.symm) fun k hk=>.inl hk
 have HBL:Hid ((w1.setCell ⟨b,4,none⟩ (.slice (some ⟨g,0,none⟩) 1 c)).heap[b]?=some (.cells (JaO who u { S with mine:=[m2] } (.slice (some ⟨g,0,none⟩) 1 c)) 203 (0,0))):=b2;have CP:Hid _:=Jbp HB6.out.1;have hp0:decide (0<({ S with mine:=[m2] }:Cl).mine.length)=true:=by simp
 rw[hp0]at CP;clear hown hgr hs hb1 b2 hs1 hmn hp0 hsA
 go_wp2_with (first
  | (go_at_call 58;refine Calls.mono CP.out ?_;rintro e w2 ⟨rfl,hb2⟩;have HB2:=hdz hb2;have hbk:=(hb2.block b (alt HBL.out)).trans HBL.out;have HBK:=hdz hbk;have u6:w2.cell? ⟨b,6,none⟩=some (.int .i64 S.id):=(Jat hbk).2.2.2.2.2.2.1;have uf:w2.frozen? ⟨b,6,none⟩=false:=Jak hbk;clear hb2 hbk)
  | fail)
 go_end0;refine⟨rfl,?_⟩;have b3:=heap_setCell_same w2 b 6 _ _ (.int .i64 (S.id+1)) HBK.out;have hc2:=JaZ HB6.out.1 HB2.out;obtain⟨_,vm,e3,e4⟩:=hc2;have hvm:vm=.slice (some ⟨g,0,none⟩) 1 c:=by
  have h1:=(Jat e3).2.2.2.2.1;rw[(Jat HBK.out).2.2.2.2.1]at h1;exact(osi h1).symm
 subst hvm;have hs2:sameBut w2 (w2.setCell ⟨b,6,none⟩ (.int .i64 (S.id+1))) (fun k=>k=b):=Jau (S:=fun k=>k=b) rfl;have fin:=JdO (S':={ S with mine:=[m2],id:=S.id+1 }) HLO.out HBK.out b3 (JcQ e4 hs2 (fun k _ hk=>by obtain rfl:=hk;exact⟨HLO.out,JaA HBK.out (by decide)⟩) fun k hk e=>hgb ((osi hk).trans e)) (hs2.mono fun k _ e=>.inl e) fun k hk=>.inl hk
 exact⟨fin.1,(HB6.out.2.trans (Jb0 HB2.out (JbP HB6.out.1))).trans fin.2⟩
end
section
open Go.RowKit Go.Maps
attribute [local go_sem] Oper.semAt_some Ja2 JaV
theorem Jij:∀(ms:List (List Pt))(m x:List Pt),Jbk (ms++[m]) x=((Jbk ms x).1++[JaC (Jba false m (Jbk ms x).2)],JaC (Jba true (Jbk ms x).2 m))
 | [],m,x=>rfl
 | a :: ms,m,x=>by
  rw[List.cons_append,Jbk,Jij ms m];rfl
theorem JmQ:∀(ms:List (List Pt))(t:List UInt8)(k:Nat)(hk:k<ms.length),JgE ms t->JgE (ms.take k) t/\good ms[k] (allM (ms.take k) t)
 | m :: ms,t,0,_,h=>⟨trivial,h.1⟩
 | m :: ms,t,k+1,hk,h=>by
  obtain⟨i1,i2⟩:=JmQ ms _ k (by simpa using hk) h.2;exact⟨⟨h.1,i1⟩,i2⟩
structure tuI (lo:Nat) (w:World) (b g:Nat) (VM:Value) (ms:List (List Pt)) (x:List Pt) (CB:Obj) (k:Nat) (v1:Value) (wr:World):Prop where
 le:k<=ms.length
 blk:wr.heap[b]?=some CB
 mine:Jc9 lo wr VM ((Jbk (ms.take k) x).1++ms.drop k)
 op:opX lo wr v1 (Jbk (ms.take k) x).2
 same:sameBut w wr fun j=>VM.ownBlock=some j
theorem Jjl(A:List (List Pt))(ms:List (List Pt))(k:Nat)(hk:k<ms.length)(y:List Pt)(hA:A.length=k):(A++ms.drop k).set k y=(A++[y])++ms.drop (k+1):=by
 rw[List.drop_eq_getElem_cons hk,List.set_append,if_neg (by omega),hA,Nat.sub_self,List.append_assoc];rfl
theorem Jgn{lo:Nat}{w:World}{b:Nat}{who u:Int}{S:Cl}(h:isCl lo w b who u S)(hk:okK 2000 S)(v:Value)(x:List Pt)(hx:opX lo w v x)(hg:good x S.seen)(hsz:S.seen.length+Jan x<=500000)(hG:2<lo/\3<lo)(hT:Lib.Utf8Tabs 2 3 w) :
    Calls Tryz.prog 124 #[.pointer (some ⟨b,0,none⟩),v] w fun e w'=>e=.returned (.tuple #[])/\isCl lo w' b who u { S with mine:=(Jbk S.mine x).1,doc:=Jab (Jbk S.mine x).2 S.doc }/\keptC w w' b:=by
 have hlt:=JbP h;obtain⟨hlo,vm,h3,h4⟩:=h;obtain⟨p,c,rfl⟩:=JbL h4;obtain⟨n,hn⟩:∃n,S.mine.length=n:=⟨_,rfl⟩;have hn2:n<=2:=by have:=hk.two;omega
 rw[hn]at h3 h4;have x4:=(Jat h3).2.2.2.2.1;have HN:Hid (S.mine.length=n):=hn;have H3:=hdz h3;have HK:Hid (okK 2000 S):=hk;have HGX:Hid (good x S.seen):=hg;have HSZ:Hid (S.seen.length+Jan x<=500000):=hsz;have HLO:Hid (lo<=b):=hlo;have HT:Hid (Lib.Utf8Tabs 2 3 w):=hT;have HGG:=hdz hG;have H0:Hid (tuI lo w b 0 (.slice p n c) S.mine x (.cells (JaO who u S (.slice p n c)) 203 (0,0)) 0 v w):=⟨Nat.zero_le _,h3,h4,hx,Je3 _ _⟩;have HMO:Hid (∀k,(Value.slice p n c).ownBlock=some k->lo<=k/\k<w.heap.size/\∃cs,w.heap[k]?=some (.cells cs 23 (0,0))):=fun k hk=>JbN h4 hk
 obtain⟨pv,cv,rfl⟩:=JaH hx;have hni:(n:Int)<=2:=by omega
 generalize x.length=xn at *;clear h3 h4 hn hk hg hsz hlo hT hx hG
 go_enter Tryz.func124,Tryz.ntmps124
 go_wp2
 go_loopw [1,13] (fun v1 i wr=>∃k:Nat,i=.int .i64 k/\tuI lo w b 0 (.slice p n c) S.mine x (.cells (JaO who u S (.slice p n c)) 203 (0,0)) k v1 wr) (fun _ i _=>n - (intOf i).toNat)
 case atStart=>exact⟨0,rfl,H0.out⟩
 case round =>
  obtain⟨k,rfl,hI⟩:=hrel;have HI:=hdz hI;have hkn:k<=n:=by have:=hI.le;have:=HN.out;omega
  obtain⟨pv1,cv1,hv1⟩:=JaH hI.op;subst hv1;generalize (Jbk (S.mine.take k) x).2.length=xl at *;clear H0
  by_cases hlt':k<n
  . have hkr:k<S.mine.length:=by rw[HN.out];exact hlt'
    have hmn:=hI.mine;have htl:(S.mine.take k).length=k:=by rw[List.length_take];omega
    have hAl:(Jbk (S.mine.take k) x).1.length=k:=by rw[JdQ,htl]
    obtain⟨vs,q1,q2,q3⟩:=hmn;have hll:((Jbk (S.mine.take k) x).1++S.mine.drop k).length=n:=by rw[List.length_append,hAl,List.length_drop,HN.out];omega
    obtain ⟨g,rfl⟩:∃g,p=some ⟨g,0,none⟩:=by
     rcases q2.2 with ⟨_,e⟩|⟨g,cap,cur,e,_⟩
     . rw[hll]at e;omega
     . injection e with e1 _ _;exact⟨g,e1⟩
    have hgm:=HMO.out g rfl;have hgb:g≠b:=fun e=>by
     obtain⟨_,_,cs,hc⟩:=hgm;subst e;have:=JaG H3.out hc;revert this;decide
    have hvk:k<vs.length:=by rw[q1,hll];omega
    have hok:opX lo wr vs[k] S.mine[k]:=q3 k S.mine[k] vs[k] (by rw[List.getElem?_append_right (by omega),hAl,Nat.sub_self,List.getElem?_drop,Nat.add_zero];exact lgg hkr) (lgg hvk);have hck:wr.cell? ⟨g,k,none⟩=some vs[k]:=by
     rw[hll]at q2;rw[World.ownsRow.cellAt q2 k (by omega)];exact lgg hvk
    obtain⟨gA,gm⟩:=JmQ S.mine S.seen k hkr HK.out.all;obtain⟨_,gX,_⟩:=JeK (S.mine.take k) x S.seen HGX.out gA;have hpA:∀m∈S.mine.take k,Jan m<=2000:=fun m hm=>HK.out.puts m (List.mem_of_mem_take hm)
    have hsz:=HSZ.out;have hpx:=(JeJ 2000 (S.mine.take k) x S.seen HGX.out gA hpA (by rw[htl];omega) (by omega)).2;have hTl:=JgY 2000 (S.mine.take k) S.seen gA hpA;rw[htl]at hTl;have hpm:=HK.out.puts S.mine[k] (List.getElem_mem hkr);have hTr:Lib.Utf8Tabs 2 3 wr:=Jfy HT.out hI.same (fun e=>by have:=(HMO.out _ e).1;have:=HGG.out.1;omega) (fun e=>by have:=(HMO.out _ e).1;have:=HGG.out.2;omega);obtain⟨X,hX⟩:∃X,(Jbk (S.mine.take k) x).2=X:=⟨_,rfl⟩;obtain⟨mk,hmk⟩:∃mk,S.mine[k]=mk:=⟨_,rfl⟩;have hop:=hI.op;rw[hX]at gX hpx hop;rw[hmk]at gm hpm hok;have CT1:Hid (∀wx,Below wr.heap.size wr wx->Calls Tryz.prog 187 #[.slice pv1 xl cv1,vs[k],.bool true] wx fun e w'=>∃v',e=.returned (.tuple #[v',.nilIface])/\opN wx.heap.size w' v' (JaC (Jba true X mk))/\Below wx.heap.size wx w'):=fun wx hb=>Jpt _ _ true X mk _ wx (Go.Proofs.Utf8Tabs_below hTr hb) (Ja5 hop hb).1 (Ja5 hok hb).1 gX gm (by omega) (by omega)
    have CT2:Hid (∀wx,Below wr.heap.size wr wx->Calls Tryz.prog 187 #[vs[k],.slice pv1 xl cv1,.bool false] wx fun e w'=>∃v',e=.returned (.tuple #[v',.nilIface])/\opN wx.heap.size w' v' (JaC (Jba false mk X))/\Below wx.heap.size wx w'):=fun wx hb=>Jpt _ _ false mk X _ wx (Go.Proofs.Utf8Tabs_below hTr hb) (Ja5 hok hb).1 (Ja5 hop hb).1 gm gX (by omega) (by omega)
    have HTK:Hid (Jbk (S.mine.take (k+1)) x=((Jbk (S.mine.take k) x).1++[JaC (Jba false mk X)],JaC (Jba true X mk))):=by
     show _=_;rw[List.take_succ_eq_append_getElem hkr,Jij,hX,hmk]
    have HSET:Hid (∀y,((Jbk (S.mine.take k) x).1++S.mine.drop k).set k y=((Jbk (S.mine.take k) x).1++[y])++S.mine.drop (k+1)):=fun y=>Jjl _ _ k hkr y hAl
    generalize hXv:vs[k]=xv at *;obtain⟨pk,ck,rfl⟩:=JaH hok;generalize JaC (Jba true X mk)=Y1 at *;generalize JaC (Jba false mk X)=Y2 at *;have HMN:=hdz hI.mine;have HBK:Hid (wr.heap[b]?=some (.cells (JaO who u S (.slice (some ⟨g,0,none⟩) n c)) 203 (0,0))):=hI.blk;have HSM:=hdz hI.same;have HGM:=hdz hgm;have HLL:Hid (k+1<=S.mine.length):=hkr;have hki:(k:Int)<(n:Int):=by omega
    have w4:=(Jat hI.blk).2.2.2.2.1;have hglr:g<wr.heap.size:=Nat.lt_of_lt_of_le hgm.2.1 hI.same.size;have hblr:b<wr.heap.size:=Nat.lt_of_lt_of_le hlt hI.same.size;have hcn:n<=c/\c<=maxLen:=by
     rw[hll]at q2
     rcases q2.2 with ⟨e,_⟩|⟨g',cap,cur,e,_,_,e5,e6,_⟩
     . cases e
     . injection e with _ _ e;subst e;exact⟨e5,e6⟩
    obtain⟨hcn,hcm⟩:=hcn;unfold maxLen at hcm;generalize mk.length=ml at *;clear hI HI q1 q2 q3 hvk hok gA gm gX hpA hsz hpx hTl hpm hTr hX hmk hop hXv htl hAl hll hkr hgm
    go_wp2_with (first
     | (go_at_call 187;refine(CT1.out _ (brf _ _)).mono ?_;rintro e w5 ⟨v5,rfl,hn5,hb5⟩;obtain⟨p5,c5,rfl⟩:=Jd4 hn5;have HN5:=hdz hn5;have HB5:=hdz hb5;have u4:=((hb5.cell (p:=⟨b,4,none⟩) hblr).trans w4);clear hn5 hb5)
     | fail)
    have hB5:=HB5.out;refine Jaq (fun wx:World=>wx.heap[b]?=some (.cells (JaO who u S (.slice (some ⟨g,0,none⟩) n c)) 203 (0,0))) 13 13 (by kernel_rfl) rfl ?_
    intro w30 hb30;have hb5A:=hB5.trans (hb30.mono hB5.size);have hz0:w30.heap[b]?=some (.cells (JaO who u S (.slice (some ⟨g,0,none⟩) n c)) 203 (0,0)):=(hb5A.block b hblr).trans HBK.out;obtain⟨G,hG⟩:=Jax (Z:=fun wx:World=>wx.heap[b]?=some (.cells (JaO who u S (.slice (some ⟨g,0,none⟩) n c)) 203 (0,0))) hz0 (fun {w w'} h hb=>(hb.block b (alt h)).trans h);have y4:∀x,(G x).cell? ⟨b,4,none⟩=some (.slice (some ⟨g,0,none⟩) n c):=fun x=>(Jat (hG.but x)).2.2.2.2.1
    refine az hG hz0 0 fun _ k=>?_;go_simp;refine k _ ?_;clear k
    refine az hG hz0 1 fun _ k=>?_;go_simp;refine k _ ?_;clear k
    refine az hG hz0 2 fun _ k=>?_;go_simp;refine k _ ?_;clear k
    refine az hG hz0 3 fun _ k=>?_;go_simp;refine k _ ?_;clear k
    refine az hG hz0 4 fun _ k=>?_;go_simp;refine k _ ?_;clear k
    refine az hG hz0 5 fun _ k=>?_;go_simp;refine k _ ?_;clear k
    refine az hG hz0 6 fun _ k=>?_;go_simp;refine k _ ?_;clear k
    clear y4;refine JaF (i:=7) (by kernel_rfl) ⟨_,rfl,?_⟩;intro w31 hb31 K hK
    go_simp
    have hb5B:=hb5A.trans (hb31.mono hb5A.size);refine(CT2.out w31 hb5B).mono ?_
    rintro e w32 ⟨v',rfl,hn6,hb32⟩;obtain⟨p6,c6,rfl⟩:=Jd4 hn6;have HN6:=hdz hn6;have hz2:w32.heap[b]?=some (.cells (JaO who u S (.slice (some ⟨g,0,none⟩) n c)) 203 (0,0)):=((hb5B.trans (hb32.mono hb5B.size)).block b hblr).trans HBK.out;refine⟨_,rfl,hK _ _ (fun _=>hz2) ?_⟩;clear hK K hn6 hz0;refine az hG hz2 8 fun _ k=>?_;go_simp;refine k _ ?_;clear k
    refine az hG hz2 9 fun _ k=>?_;go_simp;refine k _ ?_;clear k
    refine az hG hz2 10 fun _ k=>?_;go_simp;refine k _ ?_;clear k
    refine az hG hz2 11 fun _ k=>?_;go_simp;refine k _ ?_;clear k
    clear hG hz2;refine JaF (i:=12) (by kernel_rfl) ⟨_,rfl,?_⟩;intro w33 hb33 K hK;have hb5C:=hb5B.trans (hb32.mono hb5B.size);have hbA:Below wr.heap.size wr w33:=hb5C.trans (hb33.mono hb5C.size);have hA3:=(hbA.block b hblr).trans HBK.out;have HA4:Hid _:=JbE HMN.out hbA;have hgr:∃cs,w33.heap[g]?=some (.cells cs 23 (0,0)):=by obtain⟨_,_,e⟩:=JbN HA4.out (k:=g) rfl;exact e
    obtain⟨cs,hcs⟩:=hgr;have zr:=(hbA.cell (p:=⟨g,k,none⟩) hglr).trans hck;have zf:w33.frozen? ⟨g,k,none⟩=false:=Jak hcs;have HN33:Hid (opX lo w33 (.slice p6 Y2.length c6) Y2):=Ja5 (JbF HN6.out) hb33;have HO33:Hid (opX lo w33 (.slice p5 Y1.length c5) Y1):=Ja5 (JbF HN5.out) (hb30.trans ((hb31.trans ((hb32.trans (hb33.mono hb32.size)).mono hb31.size)).mono hb30.size));have HA3:=hdz hA3;have HBA:=hdz hbA;clear hbA hA3 hb30 hb31 hb32 hb33 hcs hb5A hb5B hb5C hB5
    go_simp
    refine hK _ _ (fun _=>?_) ?_
    . exact(Below.heap_setCell w33 ⟨g,k,none⟩ _ b (fun e=>hgb e.symm)).trans HA3.out
    clear hK K;refine JaM (by kernel_rfl) ?_
    intro w34 hb34;obtain⟨vs',r1,r2,r3⟩:=HA4.out;obtain⟨s1,s2⟩:=JmK r1 r2 r3 HN33.out k;rw[HSET.out]at s1;have hbn:=(s2.2 b (alt HA3.out) fun e=>hgb (osi e)).trans HA3.out
    have FIN:Hid (tuI lo w b 0 (.slice (some ⟨g,0,none⟩) n c) S.mine x (.cells (JaO who u S (.slice (some ⟨g,0,none⟩) n c)) 203 (0,0)) (k+1) (.slice p5 Y1.length c5) w34):=by
     refine⟨HLL.out,(hb34.block b (alt hbn)).trans hbn,?_,?_,?_⟩
     . rw[HTK.out];exact JbE s1 hb34
     . rw [HTK.out]
       exact Ja5 (Jb8 HO33.out s2 fun j _ hj=>by
        obtain rfl:g=j:=osi hj;obtain⟨e1,_,cs',e3⟩:=HGM.out;obtain⟨_,_,cs'',e4⟩:=JbN HA4.out (k:=g) rfl
        exact⟨e1,JaA e4 (by decide)⟩) hb34
     . exact((HSM.out.trans (Jaf HBA.out _)).trans s2).trans (Jaf hb34 _)
    have HLT2:Hid (k<n):=hlt';clear r1 r2 r3 s1 s2 hbn hb34 zr zf;go_wp2
    go_roundw
    case rel=>exact⟨k+1,by go_num,FIN.out⟩
    case measure=>have:=HLT2.out;simp[intOf];omega
  . obtain rfl:k=n:=by omega
    have htk:S.mine.take k=S.mine:=List.take_of_length_le (by rw[HN.out];exact nlr _);have hop:=hI.op;have hmn:=hI.mine;rw[htk]at hop hmn;have hdr:S.mine.drop k=[]:=List.drop_of_length_le (by rw[HN.out];exact nlr _);rw[hdr,List.append_nil]at hmn;obtain⟨_,gX,_⟩:=JeK S.mine x S.seen HGX.out HK.out.all;have hsz:=HSZ.out;have hpx:=(JeJ 2000 S.mine x S.seen HGX.out HK.out.all HK.out.puts (by rw[HN.out];omega) (by omega)).2;have hTl:=JgY 2000 S.mine S.seen HK.out.all HK.out.puts;rw[HN.out]at hTl;rw[←HK.out.doc]at gX hTl;have hTr:Lib.Utf8Tabs 2 3 wr:=Jfy HT.out hI.same (fun e=>by have:=(HMO.out _ e).1;have:=HGG.out.1;omega) (fun e=>by have:=(HMO.out _ e).1;have:=HGG.out.2;omega);obtain⟨X,hX⟩:∃X,(Jbk S.mine x).2=X:=⟨_,rfl⟩;rw[hX]at gX hpx hop;have HXX:Hid ((Jbk S.mine x).2=X):=hX;have CA:Hid _:=JfD _ X S.doc wr hTr hop.1 gX (by omega);have hblr:b<wr.heap.size:=Nat.lt_of_lt_of_le hlt hI.same.size;have w5':=(Jat hI.blk).2.2.2.2.2.1;have HMN:=hdz hmn;have HBK:Hid (wr.heap[b]?=some (.cells (JaO who u S (.slice p k c)) 203 (0,0))):=hI.blk;have HSM:=hdz hI.same;have hki:¬((k:Int)<(k:Int)):=by omega
    clear hI HI gX hop hmn htk hdr hsz hpx hTl hTr hX
    go_wp2_with (first
     | (go_at_call 29;refine Calls.mono CA.out ?_;rintro e w2 ⟨rfl,hb2⟩;have HB2:=hdz hb2;have hbk2:=(hb2.block b hblr).trans HBK.out;have HBK2:=hdz hbk2;have u5:=(Jat hbk2).2.2.2.2.2.1;have uf:w2.frozen? ⟨b,5,none⟩=false:=Jak hbk2;clear hb2 hbk2)
     | fail)
    go_end0;refine⟨rfl,?_⟩;rw[HXX.out];have b1:=heap_setCell_same w2 b 5 _ _ (.string ⟨(Jab X S.doc).toArray⟩) HBK2.out;have hs1:sameBut w2 (w2.setCell ⟨b,5,none⟩ (.string ⟨(Jab X S.doc).toArray⟩)) (fun k=>k=b):=Jau (S:=fun k=>k=b) rfl;refine JdO HLO.out H3.out b1 (JcQ (JbE HMN.out HB2.out) hs1 (fun j _ hj=>by obtain rfl:=hj;exact⟨HLO.out,JaA HBK2.out (by decide)⟩) fun j hj e=>?_) ?_ fun j hj=>.inl hj
    . obtain⟨_,_,cs,hc⟩:=HMO.out j hj
      subst e;have:=JaG H3.out hc;revert this;decide
    . exact((HSM.out.mono fun j _ e=>.inr e).trans (Jaf HB2.out _)).comp hs1 fun j _ e=>.inl e
end
section
open Go.RowKit
attribute [local go_sem] Oper.semAt_some Ja2 JaV
theorem upTo_is{u n:Int}(hu:Ja3 u){rs c1 c2:List Nat}(h:rs=c1++c2)(h1:n<=by_ u c1)(h2:∀i,i<c1.length->by_ u (rs.take i)<n):upTo rs u n=c1:=by
 have hle:n<=by_ u rs:=by rw[h,Jb3];have:=Jea u c2;omega
 have ht:rs.take c1.length=c1:=by rw[h,List.take_left' rfl]
 obtain⟨k,k1,k2,k3,k4⟩:=JfV rs u n hle
 have hk:k=c1.length:=by
  rcases Nat.lt_trichotomy k c1.length with hlt|e|hlt
  . have:=h2 k hlt;omega
  . exact e
  . have:=k4 c1.length hlt
    rw[ht]at this;omega
 rw[k2,hk,ht]
def headI (W4:World) (B:Nat) (u n:Int) (rs:List Nat) (pre:List (Nat×Nat)) (W:World):Prop :=
 Below (B+2) W4 W/\∃c1 c2,rs=c1++c2/\pre=wide c1/\counted W (B+2) (C1 c1) (C2 c1) (C3 c1) (C4 c1)/\∀i,i<c1.length->by_ u (rs.take i)<n
def headX (W4:World) (B:Nat) (u n:Int) (rs:List Nat) (W:World):Prop :=
 Below (B+2) W4 W/\B+6<=W.heap.size/\∃c1 c2,rs=c1++c2/\n<=by_ u c1/\counted W (B+2) (C1 c1) (C2 c1) (C3 c1) (C4 c1)/\∀i,i<c1.length->by_ u (rs.take i)<n
theorem Jra(rs:List Nat)(hr:∀r∈rs,Jaw r)(hz:C1 rs<=10000000)(u n:Int)(hu:Ja3 u)(hn:n<=by_ u rs)(w:World)(hT:Lib.Utf8Tabs 2 3 w) :
    Calls Tryz.prog 180 #[.string (Jao rs),.int .i64 u,.int .i64 n] w fun e w'=>e=.returned (.tuple #[.int .i64 (by_ 1 (upTo rs u n)),.bool (JaU rs u n)])/\Below w.heap.size w w':=by
 have HZ:Hid (C1 rs<=10000000):=hz;have HT:Hid (Lib.Utf8Tabs 2 3 w):=hT;have HSC:Hid ((scan (Jao rs).data.toList).1=wide rs):=by show _=_;rw[JdL,Jcx rs hr]
 have hsz:(Jao rs).size<=100000000:=by rw[JdK];rw[JbU]at hz;omega
 have FIN:Hid (∀c1 c2,rs=c1++c2->(n<=by_ u c1\/c2=[])->(∀i,i<c1.length->by_ u (rs.take i)<n)->by_ 1 (upTo rs u n)=C1 c1/\JaU rs u n=decide (by_ u c1=n)):=fun c1 c2 h1 h2 h3=>by
  have h2:n<=by_ u c1:=h2.elim id fun e=>by subst e;rw[List.append_nil]at h1;rw[←h1];exact hn
  have:=upTo_is hu h1 h2 h3;unfold JaU;rw[this];exact⟨by unfold by_;rw[if_pos rfl],rfl⟩
 clear hr hz hT hn hu;refine(callsIn_wide (n:=3)).1 ?_
 refine callsIn_of_wp_marks Tryz.func180 rfl trivial ?_ rfl;simp only[Tryz.ntmps180,List.size_toArray,List.length_cons,List.length_nil,Nat.reduceAdd,Nat.reduceSub,Array.replicate_succ,Array.replicate_zero,List.push_toArray,List.append_toArray,List.nil_append,List.cons_append]
 gi_wp2_with (first
  | (refine⟨trivial,?_⟩;gi_at_call 220;refine(callsIn_wide.2 (Jr9 (Jao rs) _)).mono ?_;rintro e w13 ⟨rfl,rfl⟩)
  | fail)
 obtain⟨W4,hW4⟩:∃W4,W4=(((w.alloc (Obj.cells #[Value.int IntKind.i64 u] 3)).alloc (Obj.cells #[Value.int IntKind.i64 n] 3)).alloc (Obj.cells #[Value.int IntKind.i64 0,Value.int IntKind.i64 0,Value.int IntKind.i64 0,Value.int IntKind.i64 0] 25)).alloc (.cells #[.string (Jao rs)] 9):=⟨_,rfl⟩;have hb4:Below w.heap.size w W4:=by rw[hW4];exact((((brf _ w).alloc (nlr _) _).alloc (by simp) _).alloc (by simp;omega) _).alloc (by simp;omega) _
 have hs4:W4.heap.size=w.heap.size+4:=by rw[hW4];simp
 have u4:W4.cell? ⟨w.heap.size,0,none⟩=some (.int .i64 u):=by rw[hW4];simp[go_sem]
 have n4:W4.cell? ⟨w.heap.size+1,0,none⟩=some (.int .i64 n):=by rw[hW4];simp[go_sem]
 have r4:counted W4 (w.heap.size+2) 0 0 0 0:=by rw[hW4];refine⟨⟨?_,?_,?_,?_⟩,?_,?_,?_,?_⟩<;>simp[go_sem]
 have s4:W4.cell? ⟨w.heap.size+3,0,none⟩=some (.string (Jao rs)):=by rw[hW4];simp[go_sem]
 rw[←hW4];clear hW4
 refine Jgv (gf:=262) (lb:=#[.pointer (some ⟨w.heap.size+3,0,none⟩)]) rfl (enters_of Tryz.func262 (by kernel_rfl) rfl) (encs:=Jfv) (fun _ _=>rfl)
  (It:=Below (w.heap.size+6)) (Kp:=KeepUp (w.heap.size+6)) (Z:=Below w.heap.size w) (S:=fun xs=>xs=(scan (Jao rs).data.toList).1) (Sp:=fun pre=>∃rest,(scan (Jao rs).data.toList).1=pre++rest)
  ?seq ?its (fun h k=>h.trans k) (fun A o=>KeepUp.putObj A (.loop o) (by rw[hs4];omega))
  (headI W4 w.heap.size u n rs)
  (fun k pre W=>k=.exit 0/\headX W4 w.heap.size u n rs W) ?iz ?ixz ?ii ?ib ?ix ?ixb ?h0 ?round ?done ?stop
 case seq =>
  intro W hs1 hb1;rw[hs4]at hs1 hb1;have:=Jqj (Jao rs) (by omega) w HT.out (w.heap.size+3) W ((hb1.cell (p:=⟨w.heap.size+3,0,none⟩) (by show w.heap.size+3<_;omega)).trans s4);rw[hs1]at this;exact this
 case its=>exact fun A B h=>Same2.of_below h (by rw[hs4];omega)
 case iz=>exact fun pre A h=>hb4.trans (h.1.mono (by omega))
 case ixz=>exact fun k pre A h=>hb4.trans (h.2.1.mono (by omega))
 case ii =>
  rintro pre A B ⟨h1,c1,c2,h2,h3,h4,h5⟩ hb;exact⟨h1.trans (hb.mono (by omega)),c1,c2,h2,h3,Jb1 h4 hb (by omega),h5⟩
 case ib =>
  rintro pre A o ⟨h1,c1,c2,h2,h3,h4,h5⟩;have hb:Below (w.heap.size+5) A (A.putObj (w.heap.size+5) (.loop o)):=(Put1.putObj _ A (.loop o)).below (nlr _);rw[hs4];exact⟨h1.trans (hb.mono (by omega)),c1,c2,h2,h3,Jb1 h4 hb (by omega),h5⟩
 case ix =>
  rintro k pre A B ⟨h0,h1,hs,c1,c2,h2,h3,h4,h5⟩ hb;exact⟨h0,h1.trans (hb.mono (by omega)),Nat.le_trans hs hb.size,c1,c2,h2,h3,Jb1 h4 hb (by omega),h5⟩
 case ixb =>
  rintro k pre A o ⟨h0,h1,hs,c1,c2,h2,h3,h4,h5⟩;have hb:Below (w.heap.size+5) A (A.putObj (w.heap.size+5) (.loop o)):=(Put1.putObj _ A (.loop o)).below (nlr _);rw[hs4];exact⟨h0,h1.trans (hb.mono (by omega)),Nat.le_trans hs hb.size,c1,c2,h2,h3,Jb1 h4 hb (by omega),h5⟩
 case h0=>exact fun W hs hb _=>by rw[hs4]at hb;exact⟨hb.mono (by omega),[],rs,rfl,rfl,Jb1 r4 hb (by omega),fun i hi=>absurd hi (Nat.not_lt_zero _)⟩
 case round =>
  rintro l pre x W ⟨hI,c1,c2,hcc,rfl,hcnt,hlow⟩ hlW ⟨rest,hsp⟩;rw[hs4]at hlW ⊢;rw[HSC.out,List.append_assoc,hcc,Jdv]at hsp;have hsp2:=List.append_cancel_left hsp;obtain ⟨r,d2,rfl,rfl⟩:∃r d2,c2=r :: d2/\x=(r,(enc r).length):=by
   cases c2 with
   | nil=>simp[wide]at hsp2
   | cons r d2=>simp only[wide,List.map_cons,List.singleton_append,List.cons.injEq]at hsp2;exact⟨r,d2,rfl,hsp2.1.symm⟩
  have HW:Hid (wide c1++[(r,(enc r).length)]=wide (c1++[r])):=by show _=_;rw[Jdv];rfl
  have HCC:Hid (rs=(c1++[r])++d2):=by show _=_;rw[hcc];simp
  have HCC0:Hid (rs=c1++(r :: d2)):=hcc;have HLOW:Hid (∀i,i<c1.length->by_ u (rs.take i)<n):=hlow;have HTC:Hid (rs.take c1.length=c1):=by show _=_;rw[hcc,List.take_left' rfl]
  have hzc:C1 (c1++[r])<=100000000:=by have:=HZ.out;rw[HCC.out]at this;have:=C1_left this;omega
  have HP1:Hid (∀wx,Calls Tryz.prog 137 #[cntV c1,cntV [r]] wx fun e w'=>e=.returned (cntV (c1++[r]))/\Below wx.heap.size wx w'):=fun wx=>Jq4 c1 [r] (by omega) wx
  have HI1:Hid (∀wx,Calls Tryz.prog 23 #[cntV c1,.int .i64 u] wx fun e w'=>e=.returned (.int .i64 (by_ u c1))/\Below wx.heap.size wx w'):=fun wx=>Jlg u c1 wx
  rw[JjU];clear hsp hsp2 hcc hlow hzc;unfold cntV at HP1 HI1 ⊢;have HCN:Hid (counted W (w.heap.size+2) (C1 c1) (C2 c1) (C3 c1) (C4 c1)):=hcnt;clear hcnt;generalize hy1:C1 c1=y1 at *;generalize hy2:C2 c1=y2 at *;generalize hy3:C3 c1=y3 at *;generalize hy4:C4 c1=y4 at *;have HY:Hid (C1 c1=y1/\C2 c1=y2/\C3 c1=y3/\C4 c1=y4):=⟨hy1,hy2,hy3,hy4⟩;clear hy1 hy2 hy3 hy4;generalize C1 [r]=u1 at *;generalize C2 [r]=u2 at *;generalize C3 [r]=u3 at *;generalize C4 [r]=u4' at *
  gi_wp2
  refine⟨(((Same2.refl _ W).alloc (by omega) _).alloc (by rw[wsa];omega) _),((KeepUp.refl _ W).alloc _).alloc _,?_⟩;intro w20 hp _;have hww:Below W.heap.size W ((W.alloc (.cells #[.int .i64 y1,.int .i64 y2,.int .i64 y3,.int .i64 y4] 25)).alloc (.cells #[.int .i64 u1,.int .i64 u2,.int .i64 u3,.int .i64 u4'] 25)):=((brf _ W).alloc (nlr _) _).alloc (by rw[wsa];exact Nat.le_succ _) _;have hs20:w20.heap.size=W.heap.size+2:=by rw[hp.size,World.size_alloc,World.size_alloc]
  have hWW:Below (w.heap.size+2) W4 w20:=hI.trans ((hww.mono (by omega)).trans (hp.below (by omega)));have hW5:Below (w.heap.size+5) W w20:=(hww.mono (by omega)).trans (hp.below (by omega));have hKU:KeepUp (w.heap.size+6) W w20:=⟨by omega,fun k h1 h2=>(hp.block k (by omega)).trans (hww.block k h2)⟩;have u20:=(hWW.cell (p:=⟨w.heap.size,0,none⟩) (by show w.heap.size<_;omega)).trans u4;have n20:=(hWW.cell (p:=⟨w.heap.size+1,0,none⟩) (by show w.heap.size+1<_;omega)).trans n4;have r20:=Jb1 HCN.out hW5 (by omega);have a20:counted w20 W.heap.size y1 y2 y3 y4:=by
   have h:counted ((W.alloc (.cells #[.int .i64 y1,.int .i64 y2,.int .i64 y3,.int .i64 y4] 25)).alloc (.cells #[.int .i64 u1,.int .i64 u2,.int .i64 u3,.int .i64 u4'] 25)) W.heap.size y1 y2 y3 y4:=Jbf (JhF W y1 y2 y3 y4 _) ((brf _ _).alloc (nlr _) _);obtain⟨⟨h0,h1,h2,h3⟩,k0,k1,k2,k3⟩:=h;exact⟨⟨(hp.cell (by omega)).trans h0,(hp.cell (by omega)).trans h1,(hp.cell (by omega)).trans h2,(hp.cell (by omega)).trans h3⟩,(hp.frozen (by omega)).trans k0,(hp.frozen (by omega)).trans k1,(hp.frozen (by omega)).trans k2,(hp.frozen (by omega)).trans k3⟩
  have o20:counted w20 (W.heap.size+1) u1 u2 u3 u4':=by
   have h:counted ((W.alloc (.cells #[.int .i64 y1,.int .i64 y2,.int .i64 y3,.int .i64 y4] 25)).alloc (.cells #[.int .i64 u1,.int .i64 u2,.int .i64 u3,.int .i64 u4'] 25)) (W.heap.size+1) u1 u2 u3 u4':=by have:=JhF (W.alloc (.cells #[.int .i64 y1,.int .i64 y2,.int .i64 y3,.int .i64 y4] 25)) u1 u2 u3 u4' 25;rwa[World.size_alloc]at this
   obtain⟨⟨h0,h1,h2,h3⟩,k0,k1,k2,k3⟩:=h;exact⟨⟨(hp.cell (by omega)).trans h0,(hp.cell (by omega)).trans h1,(hp.cell (by omega)).trans h2,(hp.cell (by omega)).trans h3⟩,(hp.frozen (by omega)).trans k0,(hp.frozen (by omega)).trans k1,(hp.frozen (by omega)).trans k2,(hp.frozen (by omega)).trans k3⟩
  have hSize:w.heap.size+8<=w20.heap.size:=by omega
  clear hp hww u4 n4 r4 s4
  gi_wp2
  refine JhS 5 5 (by kernel_rfl) rfl (by kernel_rfl) ?_
  intro w21 hb21;obtain⟨G,hG⟩:=Jet w21;have HR20:=hdz r20;have r21:=Jbf r20 hb21;have u21:=(hb21.cell (p:=⟨w.heap.size,0,none⟩) (by show w.heap.size<_;omega)).trans u20;have n21:=(hb21.cell (p:=⟨w.heap.size+1,0,none⟩) (by show w.heap.size+1<_;omega)).trans n20;obtain⟨⟨f0,f1,f2,f3⟩,_⟩:=r21;have gf0:=hG.cell f0;have gf1:=hG.cell f1;have gf2:=hG.cell f2;have gf3:=hG.cell f3;have gu:=hG.cell u21;have gn:=hG.cell n21;clear f0 f1 f2 f3 u21 n21;generalize hYY:by_ u c1=YY at *;have HYY:Hid (by_ u c1=YY):=hYY;clear hYY
  by_cases hge:n<=YY
  all_goals
   (refine JaX hG (i:=0) rfl (by kernel_rfl) (by kernel_rfl) (by kernel_rfl) (fun K hK=>?_);go_simp;refine hK _ ?_;clear hK K)
   (refine JaX hG (i:=1) rfl (by kernel_rfl) (by kernel_rfl) (by kernel_rfl) (fun K hK=>?_);go_simp;refine hK _ ?_;clear hK K)
   (refine JaX hG (i:=2) rfl (by kernel_rfl) (by kernel_rfl) (by kernel_rfl) (fun K hK=>?_);go_simp;apply Exists.intro;refine⟨fun _=>?_,hK _ ?_⟩;exact HI1.out _;clear hK K)
   (refine JaX hG (i:=3) rfl (by kernel_rfl) (by kernel_rfl) (by kernel_rfl) (fun K hK=>?_);go_simp;refine hK _ ?_;clear hK K)
   (refine JaX hG (i:=4) rfl (by kernel_rfl) (by kernel_rfl) (by kernel_rfl) (fun K hK=>?_);go_simp;refine hK _ ?_;clear hK K)
   clear gf0 gf1 gf2 gf3 gu gn hG;refine JjM (by kernel_rfl) ?_
   intro w24 hb24;have hbF:=hb21.trans (hb24.mono hb21.size);have HBF:=hdz hbF;have HWW:=hdz hWW;have HSZ:Hid (w.heap.size+8<=w20.heap.size):=hSize;have HA24:Hid (counted w24 W.heap.size y1 y2 y3 y4):=Jbf a20 hbF;have HO24:Hid (counted w24 (W.heap.size+1) u1 u2 u3 u4'):=Jbf o20 hbF;have HR24:Hid (counted w24 (w.heap.size+2) y1 y2 y3 y4):=Jbf HR20.out hbF;clear hb21 hb24 hbF r20 a20 o20 u20 n20
  . gi_wp2
    have hy:=HY.out;exact⟨Same2.of_below HBF.out (by have:=HSZ.out;omega),KeepUp.of_below HBF.out,rfl,HWW.out.trans (HBF.out.mono (by have:=HSZ.out;omega)),by have:=HBF.out.size;have:=HSZ.out;omega,c1,r :: d2,HCC0.out,by rw[HYY.out];exact hge,by rw[hy.1,hy.2.1,hy.2.2.1,hy.2.2.2];exact HR24.out,HLOW.out⟩
  . obtain ⟨⟨a0,a1,a2,a3⟩,_⟩:=HA24.out
    obtain⟨⟨o0,o1,o2,o3⟩,_⟩:=HO24.out;obtain⟨⟨z0,z1,z2,z3⟩,t0,t1,t2,t3⟩:=HR24.out;have HGE:Hid (YY<n):=by show YY<n;omega
    clear hge
    have hnl:∀i,i<(c1++[r]).length->by_ u (rs.take i)<n:=fun i hi=>by
     rw[List.length_append,List.length_singleton]at hi
     rcases Nat.lt_or_ge i c1.length with hlt|hge'
     . exact HLOW.out i hlt
     . obtain rfl:i=c1.length:=by omega
       rw[HTC.out,HYY.out];exact HGE.out
    have HNL:=hdz hnl;clear hnl
    gi_wp2
    refine⟨trivial,rfl,?_⟩;refine(CallsIn.inRound l (callsIn_wide.2 (HP1.out _))).mono ?_
    rintro e w25 ⟨rfl,hb25⟩;have hr25:=Jbf HR24.out hb25;have HR25:=hdz hr25;have hbZ:=HBF.out.trans (hb25.mono HBF.out.size);have HBZ:=hdz hbZ;clear a0 a1 a2 a3 o0 o1 o2 o3 z0 z1 z2 z3 t0 t1 t2 t3 hb25 hbZ;obtain⟨⟨z0,z1,z2,z3⟩,t0,t1,t2,t3⟩:=hr25;generalize hX1:C1 (c1++[r])=X1 at *;generalize hX2:C2 (c1++[r])=X2 at *;generalize hX3:C3 (c1++[r])=X3 at *;generalize hX4:C4 (c1++[r])=X4 at *;have HX:Hid (C1 (c1++[r])=X1/\C2 (c1++[r])=X2/\C3 (c1++[r])=X3/\C4 (c1++[r])=X4):=⟨hX1,hX2,hX3,hX4⟩;clear hX1 hX2 hX3 hX4
    gi_wp2
    have hx:=HX.out;have hkk:KeepUp (w.heap.size+6) w20 w25:=KeepUp.of_below HBZ.out;have hszz:=HSZ.out
    refine ⟨((((Same2.of_below HBZ.out (by omega)).setCell (by show w.heap.size+2≠_;omega) (by show w.heap.size+2≠_;omega) _).setCell (by show w.heap.size+2≠_;omega) (by show w.heap.size+2≠_;omega) _).setCell (by show w.heap.size+2≠_;omega) (by show w.heap.size+2≠_;omega) _).setCell (by show w.heap.size+2≠_;omega) (by show w.heap.size+2≠_;omega) _,
     (((hkk.setCell (by show w.heap.size+2<_;omega) _).setCell (by show w.heap.size+2<_;omega) _).setCell (by show w.heap.size+2<_;omega) _).setCell (by show w.heap.size+2<_;omega) _,?_,c1++[r],d2,HCC.out,HW.out,?_,HNL.out⟩
    . exact JnW (HWW.out.trans (HBZ.out.mono (by omega))) (by omega) _ _ _ _
    . rw[hx.1,hx.2.1,hx.2.2.1,hx.2.2.2]
      exact Jfr HR25.out
 case done =>
  rintro xs W rfl ⟨hI,c1,c2,hcc,hx,hcnt,hlow⟩ hDef;rw[hs4]at hDef ⊢;have hc2:c2=[]:=by
   rw[HSC.out]at hx;have:=congrArg List.length hx;rw[hcc]at this;simp only[wide,List.length_map,List.length_append]at this;exact List.length_eq_zero_iff.1 (by omega)
  have hsW:w.heap.size+5<=W.heap.size:=by
   rcases Nat.lt_or_ge (w.heap.size+4) W.heap.size with h|h
   . omega
   . rw[Array.getElem?_eq_none h]at hDef;cases hDef
  have HFN:Hid _:=FIN.out c1 c2 hcc (.inr hc2) hlow;clear hx hc2;have hu5:=(hI.cell (p:=⟨w.heap.size,0,none⟩) (by show w.heap.size<_;omega)).trans u4;have hn5:=(hI.cell (p:=⟨w.heap.size+1,0,none⟩) (by show w.heap.size+1<_;omega)).trans n4;have hs5:=hI.size;rw[hs4]at hs5;have hbW:Below w.heap.size w W:=hb4.trans (hI.mono (by omega));have HI1:Hid (∀wx,Calls Tryz.prog 23 #[cntV c1,.int .i64 u] wx fun e w'=>e=.returned (.int .i64 (by_ u c1))/\Below wx.heap.size wx w'):=fun wx=>Jlg u c1 wx
  unfold cntV at HI1;clear hI u4 n4 r4 s4 hcc hlow;generalize C1 c1=y1 at *;generalize C2 c1=y2 at *;generalize C3 c1=y3 at *;generalize C4 c1=y4 at *
  gi_wp2
  refine wpIn_wide.2 ?_
  refine Jfu 9 9 (by kernel_rfl) rfl ?_
  intro w41 hb41;obtain⟨G,hG⟩:=Jet w41;obtain⟨⟨f0,f1,f2,f3⟩,_⟩:=Jbf hcnt hb41;have u41:=(hb41.cell (p:=⟨w.heap.size,0,none⟩) (by show w.heap.size<_;omega)).trans hu5;have n41:=(hb41.cell (p:=⟨w.heap.size+1,0,none⟩) (by show w.heap.size+1<_;omega)).trans hn5;have gf0:=hG.cell f0;have gf1:=hG.cell f1;have gf2:=hG.cell f2;have gf3:=hG.cell f3;have gu:=hG.cell u41;have gn:=hG.cell n41;clear f0 f1 f2 f3 u41 n41 hu5 hn5
  (refine JaX hG (i:=0) rfl (by kernel_rfl) (by kernel_rfl) (by kernel_rfl) (fun K hK=>?_);go_simp;refine hK _ ?_;clear hK K)
  (refine JaX hG (i:=1) rfl (by kernel_rfl) (by kernel_rfl) (by kernel_rfl) (fun K hK=>?_);go_simp;refine hK _ ?_;clear hK K)
  (refine JaX hG (i:=2) rfl (by kernel_rfl) (by kernel_rfl) (by kernel_rfl) (fun K hK=>?_);go_simp;refine hK _ ?_;clear hK K)
  (refine JaX hG (i:=3) rfl (by kernel_rfl) (by kernel_rfl) (by kernel_rfl) (fun K hK=>?_);go_simp;refine hK _ ?_;clear hK K)
  (refine JaX hG (i:=4) rfl (by kernel_rfl) (by kernel_rfl) (by kernel_rfl) (fun K hK=>?_);go_simp;apply Exists.intro;refine⟨fun _=>?_,hK _ ?_⟩;exact HI1.out _;clear hK K)
  (refine JaX hG (i:=5) rfl (by kernel_rfl) (by kernel_rfl) (by kernel_rfl) (fun K hK=>?_);go_simp;refine hK _ ?_;clear hK K)
  (refine JaX hG (i:=6) rfl (by kernel_rfl) (by kernel_rfl) (by kernel_rfl) (fun K hK=>?_);go_simp;refine hK _ ?_;clear hK K)
  (refine JaX hG (i:=7) rfl (by kernel_rfl) (by kernel_rfl) (by kernel_rfl) (fun K hK=>?_);go_simp;refine hK _ ?_;clear hK K)
  (refine JaX hG (i:=8) rfl (by kernel_rfl) (by kernel_rfl) (by kernel_rfl) (fun K hK=>?_);go_simp;refine hK _ ?_;clear hK K)
  clear gf0 gf1 gf2 gf3 gu gn hG;refine JjM (by kernel_rfl) ?_
  intro w44 hb44;have hbF:=hb41.trans (hb44.mono hb41.size)
  gi_wp2
  have hDef':w44.heap[w.heap.size+4]?=some (.deferred (some [])):=(hbF.block _ (by omega)).trans hDef;have hP:=Put1.putObj (w.heap.size+4) w44 (.deferred none);have hFin:Below w.heap.size w (w44.putObj (w.heap.size+4) (.deferred none)):=(hbW.trans (hbF.mono hbW.size)).trans (hP.below (by omega));refine⟨by simp,.inl ⟨_,_,rfl,run_takeDeferred hDef',?_⟩⟩;refine⟨.tuple #[.int .i64 y1,.bool (by_ u c1==n)],by simp[results,Tryz.results180,go_sem],?_,hFin⟩;have hf:=HFN.out;rw[hf.1,hf.2];rfl
 case stop =>
  rintro k pre W hsp ⟨rfl,hI,hsW,c1,c2,hcc,hge,hcnt,hlow⟩ hDef;rw[hs4]at hDef ⊢;have HFN:Hid _:=FIN.out c1 c2 hcc (.inl hge) hlow;clear hge;have hu5:=(hI.cell (p:=⟨w.heap.size,0,none⟩) (by show w.heap.size<_;omega)).trans u4;have hn5:=(hI.cell (p:=⟨w.heap.size+1,0,none⟩) (by show w.heap.size+1<_;omega)).trans n4;have hs5:=hI.size;rw[hs4]at hs5;have hbW:Below w.heap.size w W:=hb4.trans (hI.mono (by omega));have HI1:Hid (∀wx,Calls Tryz.prog 23 #[cntV c1,.int .i64 u] wx fun e w'=>e=.returned (.int .i64 (by_ u c1))/\Below wx.heap.size wx w'):=fun wx=>Jlg u c1 wx
  unfold cntV at HI1;clear hI u4 n4 r4 s4 hcc hlow;generalize C1 c1=y1 at *;generalize C2 c1=y2 at *;generalize C3 c1=y3 at *;generalize C4 c1=y4 at *
  gi_wp2
  refine wpIn_wide.2 ?_
  refine Jfu 9 9 (by kernel_rfl) rfl ?_
  intro w41 hb41;obtain⟨G,hG⟩:=Jet w41;obtain⟨⟨f0,f1,f2,f3⟩,_⟩:=Jbf hcnt hb41;have u41:=(hb41.cell (p:=⟨w.heap.size,0,none⟩) (by show w.heap.size<_;omega)).trans hu5;have n41:=(hb41.cell (p:=⟨w.heap.size+1,0,none⟩) (by show w.heap.size+1<_;omega)).trans hn5;have gf0:=hG.cell f0;have gf1:=hG.cell f1;have gf2:=hG.cell f2;have gf3:=hG.cell f3;have gu:=hG.cell u41;have gn:=hG.cell n41;clear f0 f1 f2 f3 u41 n41 hu5 hn5
  (refine JaX hG (i:=0) rfl (by kernel_rfl) (by kernel_rfl) (by kernel_rfl) (fun K hK=>?_);go_simp;refine hK _ ?_;clear hK K)
  (refine JaX hG (i:=1) rfl (by kernel_rfl) (by kernel_rfl) (by kernel_rfl) (fun K hK=>?_);go_simp;refine hK _ ?_;clear hK K)
  (refine JaX hG (i:=2) rfl (by kernel_rfl) (by kernel_rfl) (by kernel_rfl) (fun K hK=>?_);go_simp;refine hK _ ?_;clear hK K)
  (refine JaX hG (i:=3) rfl (by kernel_rfl) (by kernel_rfl) (by kernel_rfl) (fun K hK=>?_);go_simp;refine hK _ ?_;clear hK K)
  (refine JaX hG (i:=4) rfl (by kernel_rfl) (by kernel_rfl) (by kernel_rfl) (fun K hK=>?_);go_simp;apply Exists.intro;refine⟨fun _=>?_,hK _ ?_⟩;exact HI1.out _;clear hK K)
  (refine JaX hG (i:=5) rfl (by kernel_rfl) (by kernel_rfl) (by kernel_rfl) (fun K hK=>?_);go_simp;refine hK _ ?_;clear hK K)
  (refine JaX hG (i:=6) rfl (by kernel_rfl) (by kernel_rfl) (by kernel_rfl) (fun K hK=>?_);go_simp;refine hK _ ?_;clear hK K)
  (refine JaX hG (i:=7) rfl (by kernel_rfl) (by kernel_rfl) (by kernel_rfl) (fun K hK=>?_);go_simp;refine hK _ ?_;clear hK K)
  (refine JaX hG (i:=8) rfl (by kernel_rfl) (by kernel_rfl) (by kernel_rfl) (fun K hK=>?_);go_simp;refine hK _ ?_;clear hK K)
  clear gf0 gf1 gf2 gf3 gu gn hG;refine JjM (by kernel_rfl) ?_
  intro w44 hb44;have hbF:=hb41.trans (hb44.mono hb41.size)
  gi_wp2
  have hDef':w44.heap[w.heap.size+4]?=some (.deferred (some [])):=(hbF.block _ (by omega)).trans hDef;have hP:=Put1.putObj (w.heap.size+4) w44 (.deferred none);have hFin:Below w.heap.size w (w44.putObj (w.heap.size+4) (.deferred none)):=(hbW.trans (hbF.mono hbW.size)).trans (hP.below (by omega));refine⟨by simp,.inl ⟨_,_,rfl,run_takeDeferred hDef',?_⟩⟩;refine⟨.tuple #[.int .i64 y1,.bool (by_ u c1==n)],by simp[results,Tryz.results180,go_sem],?_,hFin⟩;have hf:=HFN.out;rw[hf.1,hf.2];rfl
end
section
open Go.RowKit Go.Maps
attribute [local go_sem] Oper.semAt_some
theorem Jpn(q:Pt)(w:World):Calls Tryz.prog 117 #[.agg #[.int .i64 q.keep,.int .i64 q.drop,.string ⟨q.put.toArray⟩]] w fun e w'=>e=.returned (.bool (JdT q))/\Below w.heap.size w w':=by
 unfold JdT;obtain⟨K,D,U⟩:=q;have hz:(ByteArray.mk U.toArray).size=U.length:=by simp[ByteArray.size]
 by_cases h:200<U.length
 . have h1:(200:Int)<(U.length:Int):=by omega
   rw[decide_eq_true h]
   go_enter Tryz.func117,Tryz.ntmps117
   go_wp2;go_ret;exact⟨rfl,(brf _ _).alloc (nlr _) _⟩
 . have h1:¬(200:Int)<(U.length:Int):=by omega
   rw[decide_eq_false h]
   go_enter Tryz.func117,Tryz.ntmps117
   go_wp2;go_ret;exact⟨rfl,(brf _ _).alloc (nlr _) _⟩
theorem JqZ(v:Value)(ps:List Pt)(w:World)(hr:opAt w v ps)(hl:ps.length<=1000) :
    Calls Tryz.prog 179 #[v,.func (.func 117) #[] #[]] w fun e w'=>∃i:Int,e=.returned (.int .i64 i)/\(decide (0<=i)=ps.any JdT)/\Below w.heap.size w w':=by
 obtain⟨p,c,rfl,r1,r2,r3⟩:=hr;have R3:=hdz r3;obtain⟨n,hn⟩:∃n,ps.length=n:=⟨_,rfl⟩;have HN:Hid (ps.length=n):=hn;rw[hn]at r1 hl ⊢;clear r3 hn;unfold maxLen at r2;have hni:(n:Int)<=1000:=by omega
 go_enter Tryz.func179,Tryz.ntmps179
 go_wp2
 go_loopw [8] (fun i wr=>∃k:Nat,i=.int .i64 k/\k<=n/\(ps.take k).any JdT=false/\Below w.heap.size w wr) (fun i _=>n - (intOf i).toNat)
 case atStart=>exact⟨0,rfl,Nat.zero_le _,rfl,brf _ _⟩
 case round =>
  obtain⟨k,rfl,hk,hno,hbw⟩:=hrel;have HNO:Hid ((ps.take k).any JdT=false):=hno;have HBW:=hdz hbw;clear hno hbw
  by_cases hlt:k<n
  . have hkr:k<ps.length:=by rw[HN.out];exact hlt
    have hne:ps≠[]:=by intro e;rw[e]at hkr;exact absurd hkr (Nat.not_lt_zero _)
    obtain⟨b,o,rfl,hb,hcell⟩:=R3.out hne;obtain⟨c0,c1,c2⟩:=hcell k ps[k] (lgg hkr);have g0:=(HBW.out.cell (p:=⟨b,o+k*3,none⟩) hb).trans c0;have g1:=(HBW.out.cell (p:=⟨b,o+k*3+1,none⟩) hb).trans c1;have g2:=(HBW.out.cell (p:=⟨b,o+k*3+2,none⟩) hb).trans c2;have hki:(k:Int)<(n:Int):=by omega
    have hts:ps.take (k+1)=ps.take k++[ps[k]]:=List.take_succ_eq_append_getElem hkr;have hin:ps[k]∈ps:=List.getElem_mem hkr;have CM:Hid (∀wx,Calls Tryz.prog 117 #[.agg #[.int .i64 ps[k].keep,.int .i64 ps[k].drop,.string ⟨ps[k].put.toArray⟩]] wx fun e w'=>e=.returned (.bool (JdT ps[k]))/\Below wx.heap.size wx w'):=fun wx=>Jpn _ wx
    cases hm:JdT ps[k] with
    | true =>
     have HAN:Hid (ps.any JdT=true):=List.any_eq_true.2 ⟨_,hin,hm⟩;rw[hm]at CM;clear hcell c0 c1 c2 hne hts hin hm;generalize ps[k]=q at *;obtain⟨K,D,U⟩:=q;simp only at g0 g1 g2 CM
     go_wp2_with (first
      | (go_at_call 117;refine(CM.out _).mono ?_;rintro e w2 ⟨rfl,hb2⟩;have HB2:=hdz (HBW.out.trans (hb2.mono HBW.out.size));clear hb2)
      | fail)
     go_ret;exact⟨_,rfl,by rw[HAN.out];exact decide_eq_true (by omega),HB2.out⟩
    | false =>
     have HAN:Hid ((ps.take (k+1)).any JdT=false):=by show _=_;rw[hts,List.any_append,HNO.out];simp[hm]
     rw[hm]at CM;clear hcell c0 c1 c2 hne hts hin hm;generalize ps[k]=q at *;obtain⟨K,D,U⟩:=q;simp only at g0 g1 g2 CM
     go_wp2_with (first
      | (go_at_call 117;refine(CM.out _).mono ?_;rintro e w2 ⟨rfl,hb2⟩;have HB2:=hdz (HBW.out.trans (hb2.mono HBW.out.size));clear hb2)
      | fail)
     go_roundw
     case rel=>exact⟨k+1,by go_num,by omega,HAN.out,HB2.out⟩
     case measure=>simp[intOf];omega
  . obtain rfl:k=n:=by omega
    have HAN:Hid (ps.any JdT=false):=by
     have:=HNO.out;rw[←HN.out,List.take_length]at this;exact this
    have hki:¬((k:Int)<(k:Int)):=by omega
    go_wp2;go_ret;exact⟨_,rfl,by rw[HAN.out];exact decide_eq_false (by omega),HBW.out⟩
theorem JkS(v:Value)(ps:List Pt)(w:World)(hr:opAt w v ps)(hl:ps.length<=1000) :
    Calls Tryz.prog 118 #[v,.func (.func 117) #[] #[]] w fun e w'=>e=.returned (.bool (ps.any JdT))/\Below w.heap.size w w':=by
 have C:Hid _:=JqZ v ps w hr hl;obtain⟨p,c,rfl,_⟩:=hr
 cases hm:ps.any JdT with
 | true =>
  rw[hm]at C
  go_enter Tryz.func118,Tryz.ntmps118
  go_wp2_with (first
   | (go_at_call 179;refine Calls.mono C.out ?_;rintro e w2 ⟨i,rfl,hi,hb2⟩;have hi2:0<=i:=of_decide_eq_true hi;have HB2:=hdz hb2;clear hb2 hi)
   | fail)
  go_ret;exact⟨by simp,HB2.out⟩
 | false =>
  rw[hm]at C
  go_enter Tryz.func118,Tryz.ntmps118
  go_wp2_with (first
   | (go_at_call 179;refine Calls.mono C.out ?_;rintro e w2 ⟨i,rfl,hi,hb2⟩;have hi2:¬0<=i:=of_decide_eq_false hi;have HB2:=hdz hb2;clear hb2 hi)
   | fail)
  go_ret;exact⟨by simp[hi2],HB2.out⟩
def ptV (q:Pt):Value:=.agg #[.int .i64 q.keep,.int .i64 q.drop,.string ⟨q.put.toArray⟩]
theorem JoF(q:Pt)(n:Int)(w:World)(hp:q.put.length<=1000000) :
    Calls Tryz.prog 181 #[.agg #[.int .i64 q.keep,.int .i64 q.drop,.string ⟨q.put.toArray⟩],.int .i64 n] w fun e w'=>e=.returned (ptV (JdP n q))/\Below w.heap.size w w':=by
 obtain⟨K,D,U⟩:=q;have CL:Hid (∀wx,Calls Tryz.prog 112 #[.string ⟨U.toArray⟩] wx fun e w'=>e=.returned (.string ⟨U.toArray⟩)/\Below wx.heap.size wx w'):=fun wx=>JeV U (by have:U.length<=1000000:=hp;omega) wx
 unfold JdP ptV;simp only;have hb1:Below w.heap.size w ((w.alloc (.cells #[.int .i64 K,.int .i64 D,.string ⟨U.toArray⟩] 50)).alloc (.cells #[.int .i64 0,.int .i64 0,.string ⟨#[]⟩] 50)):=((brf _ _).alloc (nlr _) _).alloc (by rw[wsa];omega) _;have HB1:=hdz hb1;clear hb1 hp
 by_cases hK:0<K
 . rw[if_pos hK]
   go_enter Tryz.func181,Tryz.ntmps181
   go_wp2;exact bodyPost_ret (v:=.agg #[.int .i64 n,.int .i64 0,.string ⟨#[]⟩]) (by simp[results,Tryz.results181,go_sem]) rfl ⟨rfl,((brf _ _).alloc (nlr _) _).alloc (by rw[wsa];omega) _⟩
 . rw [if_neg hK]
   by_cases hD:0<D
   . rw[if_pos hD]
     go_enter Tryz.func181,Tryz.ntmps181
     go_wp2;exact bodyPost_ret (v:=.agg #[.int .i64 0,.int .i64 n,.string ⟨#[]⟩]) (by simp[results,Tryz.results181,go_sem]) rfl ⟨rfl,((brf _ _).alloc (nlr _) _).alloc (by rw[wsa];omega) _⟩
   . rw [if_neg hD]
     go_enter Tryz.func181,Tryz.ntmps181
     go_wp2_with (first
      | (go_at_call 9999)
      | fail)
     refine(CL.out _).mono ?_
     rintro e w2 ⟨rfl,hb2⟩;have hbox:w2.heap[w.heap.size+1]?=some (.cells #[.int .i64 0,.int .i64 0,.string ⟨#[]⟩] 50 (0,0)):=(hb2.block (w.heap.size+1) (by rw[wsa,World.size_alloc];omega)).trans (by have:=heap_alloc_new (w.alloc (.cells #[.int .i64 K,.int .i64 D,.string ⟨U.toArray⟩] 50)) (.cells #[.int .i64 0,.int .i64 0,.string ⟨#[]⟩] 50);rwa[World.size_alloc]at this);have y0:w2.cell? ⟨w.heap.size+1,0,none⟩=some (.int .i64 0):=chp hbox 0;have y1:w2.cell? ⟨w.heap.size+1,1,none⟩=some (.int .i64 0):=chp hbox 1;have y2:w2.cell? ⟨w.heap.size+1,2,none⟩=some (.string ⟨#[]⟩):=chp hbox 2;have z0:w2.frozen? ⟨w.heap.size+1,0,none⟩=false:=Jak hbox;have z1:w2.frozen? ⟨w.heap.size+1,1,none⟩=false:=Jak hbox;have z2:w2.frozen? ⟨w.heap.size+1,2,none⟩=false:=Jak hbox;have HB2:Hid (Below w.heap.size w w2):=HB1.out.trans (hb2.mono HB1.out.size);clear hb2 hbox;go_wp2;exact bodyPost_ret (v:=.agg #[.int .i64 0,.int .i64 0,.string ⟨U.toArray⟩]) (by simp[results,Tryz.results181,go_sem,y0,y1,y2]) rfl ⟨rfl,((HB2.out.setCell (p:=⟨w.heap.size+1,0,none⟩) (Nat.le_succ _) _).setCell (p:=⟨w.heap.size+1,1,none⟩) (Nat.le_succ _) _).setCell (p:=⟨w.heap.size+1,2,none⟩) (Nat.le_succ _) _⟩
end
section
open Go.RowKit
attribute [local go_sem] Oper.semAt_some
variable {u : Int}
theorem Jnv(hu:Ja3 u){R:List Nat}{n:Int}(h1:n<=by_ u R)(he:JaU R u n=true) :
    ∃N:Nat,by_ 1 (upTo R u n)=(N:Int)/\N<=(Jao R).size/\(Jao R).extract N (Jao R).size=Jao (Jbb u R n):=by
 obtain⟨e1,e2⟩:=JeC hu h1 he;have e3:encs R=encs (upTo R u n)++encs (Jbb u R n):=by rw[←Jc6];exact congrArg _ e1
 refine⟨(encs (upTo R u n)).length,?_,?_,?_⟩
 . unfold by_;rw[if_pos rfl,JbU]
 . rw[JdK,e3,List.length_append];omega
 . apply ByteArray.ext
   apply Array.ext';rw[Lib.extract_to_end,JdL,JdL,e3,List.drop_left' rfl]
theorem rest_C1{R:List Nat}{n:Int}:C1 (Jbb u R n)<=C1 R:=by
 have e:R=R.take (upTo R u n).length++Jbb u R n:=(List.take_append_drop _ R).symm;have h:C1 R=C1 (R.take (upTo R u n).length)+C1 (Jbb u R n):=by rw[←Jcp];exact congrArg _ e
 have:=JdM (R.take (upTo R u n).length);omega
theorem Jq9(u:Int)(R:List Nat)(q:Pt)(qs:List Pt):okZ u R (q :: qs)=(JaU R u (lenP q) && okZ u (Jbb u R (lenP q)) qs):=rfl
theorem JqX(u v:Int)(R:List Nat)(q:Pt)(qs:List Pt):inZ u v R (q :: qs)=JdP (by_ v (upTo R u (lenP q))) q :: inZ u v (Jbb u R (lenP q)) qs:=rfl
structure inI (w:World) (u:Int) (rs:List Nat) (qs:List Pt) (k:Nat) (R:List Nat) (L:List Pt) (v:Value) (wr:World):Prop where
 le:k<=qs.length
 len:L.length=k
 own:wr.ownsRow w.heap.size 50 3 v k (Jag L)
 ok:okZ u rs qs=okZ u R (qs.drop k)
 out:inZ u 1 rs qs=L++inZ u 1 R (qs.drop k)
 long:Jar (qs.drop k)=by_ u R
 rune:∀r∈R,Jaw r
 few:C1 R<=1000000
 low:Below w.heap.size w wr
theorem inB_chk(rs:List Nat)(hr:∀r∈rs,Jaw r)(hz:C1 rs<=1000000)(u:Int)(qs:List Pt)(val:Value)(w:World)(hu:Ja3 u)(hT:Lib.Utf8Tabs 2 3 w)(ho:opAt w val qs)(hwf:∀q∈qs,wfP q)(hl:qs.length<=1000)(hc:chkE qs (by_ u rs)≠0) :
    Calls Tryz.prog 119 #[val,.int .i64 u,.string (Jao rs)] w fun e w'=>e=.returned (.tuple #[.slice none 0 0,errV (chkE qs (by_ u rs))])/\Below w.heap.size w w':=by
 have hby:=JjG rs hz u;have hup:=Jea u rs;have cC:Hid _:=JmY rs hr (by omega) w hT;have cI:Hid (∀wx,Calls Tryz.prog 23 #[cntV rs,.int .i64 u] wx fun e w'=>e=.returned (.int .i64 (by_ u rs))/\Below wx.heap.size wx w'):=fun wx=>Jlg u rs wx
 have hV:errV (chkE qs (by_ u rs))=.iface 26 (.int .i64 (chkE qs (by_ u rs))):=by unfold errV;rw[if_neg hc]
 have cK:Hid (∀wx,Below w.heap.size w wx->Calls Tryz.prog 92 #[val,.int .i64 (by_ u rs)] wx fun e w'=>e=.returned (.iface 26 (.int .i64 (chkE qs (by_ u rs))))/\Below wx.heap.size wx w'):=fun wx hb=>by
  have:=Jco val qs (by_ u rs) wx (Go.Proofs.Utf8Tabs_below hT hb) (Ja6 ho hb (nlr _)) hwf (by omega) (by omega);rw[hV]at this;exact this
 rw[hV];obtain⟨p,c,rfl,_⟩:=ho;generalize chkE qs (by_ u rs)=E at *;generalize by_ u rs=Bu at *;unfold cntV at cI;clear hT hwf hc hV hu hz hby hup hr;generalize hS:Jao rs=S at *;clear hS
 go_enter Tryz.func119,Tryz.ntmps119
 go_wp2_with (first
  | (go_at_call 78;refine Calls.mono cC.out ?_;rintro e w1 ⟨rfl,hb1⟩;have HB1:Hid (Below w.heap.size w (w1.alloc (.cells #[.int .i64 (C1 rs),.int .i64 (C2 rs),.int .i64 (C3 rs),.int .i64 (C4 rs)] 25))):=hb1.alloc hb1.size _;clear hb1)
  | (go_at_call 23;refine(cI.out _).mono ?_;rintro e w3 ⟨rfl,hb3⟩;have HB3:=hdz (HB1.out.trans (hb3.mono HB1.out.size));clear hb3)
  | (go_at_call 92;refine(cK.out _ HB3.out).mono ?_;rintro e w4 ⟨rfl,hb4⟩;have HB4:=hdz (HB3.out.trans (hb4.mono HB3.out.size));clear hb4)
  | fail)
 go_ret2
 exact⟨rfl,HB4.out⟩
theorem JqY(rs:List Nat)(hr:∀r∈rs,Jaw r)(hz:C1 rs<=1000000)(u:Int)(qs:List Pt)(val:Value)(w:World)(hu:Ja3 u)(hT:Lib.Utf8Tabs 2 3 w)(ho:opAt w val qs)(hwf:∀q∈qs,wfP q)(hpl:∀q∈qs,q.put.length<=1000000)(hl:qs.length<=1000)(hc:chkE qs (by_ u rs)=0) :
    Calls Tryz.prog 119 #[val,.int .i64 u,.string (Jao rs)] w fun e w'=>∃v',e=.returned (.tuple #[v',errV (if okZ u rs qs then 0 else 10)])/\opN w.heap.size w' v' (if okZ u rs qs then inZ u 1 rs qs else [])/\Below w.heap.size w w':=by
 have hby:=JjG rs hz u;have hup:=Jea u rs;obtain⟨hp1,hp2,hp3⟩:=JbZ hc;have cC:Hid _:=JmY rs hr (by omega) w hT;have cI:Hid (∀wx,Calls Tryz.prog 23 #[cntV rs,.int .i64 u] wx fun e w'=>e=.returned (.int .i64 (by_ u rs))/\Below wx.heap.size wx w'):=fun wx=>Jlg u rs wx
 have cK:Hid (∀wx,Below w.heap.size w wx->Calls Tryz.prog 92 #[val,.int .i64 (by_ u rs)] wx fun e w'=>e=.returned .nilIface/\Below wx.heap.size wx w'):=fun wx hb=>by
  have:=Jco val qs (by_ u rs) wx (Go.Proofs.Utf8Tabs_below hT hb) (Ja6 ho hb (nlr _)) hwf (by omega) (by omega);rw[hc]at this;exact this
 have HOP:Hid (opAt w val qs):=ho;have HT:Hid (Lib.Utf8Tabs 2 3 w):=hT;have HP1:Hid (∀p∈qs,oneB p=true/\(scan p.put).2=true):=hp1;have HP3:Hid (∀q∈qs,0<=lenP q):=hp3;have HPL:Hid (∀q∈qs,q.put.length<=1000000):=hpl;have HU:Hid (Ja3 u):=hu;have H0:Hid (inI w u rs qs 0 rs [] (.slice none 0 0) w):=⟨Nat.zero_le _,rfl,World.ownsRow_nil _ _ _ _,rfl,rfl,hp2,hr,hz,brf _ _⟩;obtain⟨p,c,rfl,r1,r2,r3⟩:=ho;obtain⟨n,hn⟩:∃n,qs.length=n:=⟨_,rfl⟩;have HN:Hid (qs.length=n):=hn;rw[hn]at r1 hl cK ⊢;obtain⟨i0,hi,hz0,hz1,hz2⟩:=info_parts JbT;have HI:=hdz hi;have HZ0:=hdz hz0;have HZ1:=hdz hz1;have HZ2:=hdz hz2;generalize by_ u rs=Bu at *;unfold cntV at cI;obtain⟨EV,hEV⟩:∃EV,errV (if okZ u rs qs then 0 else 10)=EV:=⟨_,rfl⟩;obtain⟨OP,hOP⟩:∃OP,(if okZ u rs qs then inZ u 1 rs qs else [])=OP:=⟨_,rfl⟩;have HEV:Hid (EV=errV (if okZ u rs qs then 0 else 10)):=hEV.symm;have HOPV:Hid (OP=if okZ u rs qs then inZ u 1 rs qs else []):=hOP.symm;rw[hEV,hOP];clear hEV hOP;obtain⟨S,hS⟩:∃S,Jao rs=S:=⟨_,rfl⟩;have HS:Hid (S=Jao rs):=hS.symm;rw[hS]at cC ⊢;clear hT hwf hpl hp1 hp2 hp3 hc hn r3 hS hu hz hby hup hr hi hz0 hz1 hz2;unfold maxLen at r2
 go_enter Tryz.func119,Tryz.ntmps119
 go_wp2_with (first
  | (go_at_call 78;refine Calls.mono cC.out ?_;rintro e w1 ⟨rfl,hb1⟩;have HB1:Hid (Below w.heap.size w (w1.alloc (.cells #[.int .i64 (C1 rs),.int .i64 (C2 rs),.int .i64 (C3 rs),.int .i64 (C4 rs)] 25))):=hb1.alloc hb1.size _;clear hb1)
  | (go_at_call 23;refine(cI.out _).mono ?_;rintro e w3 ⟨rfl,hb3⟩;have HB3:=hdz (HB1.out.trans (hb3.mono HB1.out.size));clear hb3)
  | (go_at_call 92;refine(cK.out _ HB3.out).mono ?_;rintro e w4 ⟨rfl,hb4⟩;have HB4:=hdz (HB3.out.trans (hb4.mono HB3.out.size));clear hb4)
  | fail)
 have H4:Hid (inI w u rs qs 0 rs [] (.slice none 0 0) w4):=⟨Nat.zero_le _,rfl,World.ownsRow_nil _ _ _ _,rfl,rfl,H0.out.long,H0.out.rune,H0.out.few,HB4.out⟩;have hni:(n:Int)<=1000:=by omega
 clear cC cI cK H0 HB1 HB3
 go_loopw [2,11,34] (fun v2 v11 i wr=>∃(k:Nat) (R:List Nat) (L:List Pt),i=.int .i64 k/\v2=.string (Jao R)/\inI w u rs qs k R L v11 wr) (fun _ _ i _=>n - (intOf i).toNat)
 case atStart=>exact⟨0,rs,[],rfl,by rw[HS.out],H4.out⟩
 case round =>
  obtain⟨k,R,L,rfl,rfl,hI⟩:=hrel;have HI1:=hdz hI;have hk:k<=n:=by have:=HN.out;have:=hI.le;omega
  have hown:=hI.own;obtain⟨pv,cv,rfl⟩:=Jad hown;clear H4 HS
  by_cases hlt:k<n
  . have hkr:k<qs.length:=by rw[HN.out];exact hlt
    have hne:qs≠[]:=by intro e;rw[e]at hkr;exact absurd hkr (Nat.not_lt_zero _)
    obtain⟨p0,c0,hvv,_,_,hcell⟩:=HOP.out;obtain⟨b0,o,rfl,hb0,hcell⟩:=hcell hne;obtain⟨f0,f1,f2⟩:=hcell k qs[k] (lgg hkr);have g0:=(hI.low.cell (p:=⟨b0,o+k*3,none⟩) hb0).trans f0;have g1:=(hI.low.cell (p:=⟨b0,o+k*3+1,none⟩) hb0).trans f1;have g2:=(hI.low.cell (p:=⟨b0,o+k*3+2,none⟩) hb0).trans f2;obtain rfl:p=some ⟨b0,o,none⟩:=by injection hvv
    have hqm:qs[k]∈qs:=List.getElem_mem _;have hsnd:=(JcG (HP1.out _ hqm).1).1;have hplq:=HPL.out _ hqm;have hdk:qs.drop k=qs[k] :: qs.drop (k+1):=List.drop_eq_getElem_cons hkr;have hlong:=hI.long;rw[hdk]at hlong;have hl2:Jar (qs[k] :: qs.drop (k+1))=lenP qs[k]+Jar (qs.drop (k+1)):=Jbt _ _;have hrest:=Jhj fun q hq=>HP3.out q (List.mem_of_mem_drop (i:=k+1) hq)
    have hok:=hI.ok;have hout:=hI.out;rw[hdk,Jq9]at hok;rw[hdk,JqX]at hout;have hle:lenP qs[k]<=by_ u R:=by omega
    have CH:=fun (wx:World) (hb:Below w.heap.size w wx)=>Jra R hI.rune (by have:=hI.few;omega) u (lenP qs[k]) HU.out hle wx (Go.Proofs.Utf8Tabs_below HT.out hb)
    have HLR:Hid (Jar (qs.drop (k+1))=by_ u R - lenP qs[k]):=by show _=_;omega
    have hbs:=JjG R hI.few u;have HLE:Hid (lenP qs[k]<=by_ u R):=hle;clear hcell hvv f0 f1 f2 hne hqm hl2 hrest hlong hdk;generalize qs[k]=q at *;obtain⟨K,D,U⟩:=q;obtain⟨s1,s2⟩:=hsnd;have s1:0<=K:=s1;have s2:0<=D:=s2;have hld:lenP ⟨K,D,U⟩=K+D:=rfl;rw[hld]at CH hok hout HLR HLE hle;have hw0:IntKind.i64.wrap (K+D)=K+D:=by rw[IntKind.wrap_i64];omega
    have hj:(k:Int)<(n:Int):=by omega
    obtain⟨β,hβ⟩:∃β,wr.heap.size=β:=⟨_,rfl⟩;have HBT:Hid (wr.heap.size=β):=hβ;have HOW:Hid (wr.ownsRow w.heap.size 50 3 (.slice pv k cv) k (Jag L)):=hown;have HBW:=hdz hI.low;have HLL:Hid (L.length=k):=hI.len;have HRN:Hid (∀r∈R,Jaw r):=hI.rune;have HFW:Hid (C1 R<=1000000):=hI.few;clear hI hown HI1
    by_cases hed:JaU R u (K+D)=true
    . obtain ⟨N1,e1,e2,e3⟩:=Jnv HU.out hle hed
      have HED:Hid (JaU R u (K+D)=true):=hed;rw[e1]at hout;rw[hed,Bool.true_and]at hok;rw[hed,e1]at CH;obtain⟨X,hX⟩:∃X,Jao R=X:=⟨_,rfl⟩;obtain⟨X2,hX2⟩:∃X2,Jao (Jbb u R (K+D))=X2:=⟨_,rfl⟩;rw[hX,hX2]at e3;rw[hX]at e2 CH ⊢;have HX2:Hid (Jao (Jbb u R (K+D))=X2):=hX2;have HE3:Hid (X.extract N1 X.size=X2):=e3;have hni1:(N1:Int)<=(X.size:Int):=by omega
      have hxs:(X.size:Int)<=1000000:=by rw[←hX,JdK];have:=HFW.out;rw[JbU]at this;exact this
      have HCH:Hid (∀wx,Below w.heap.size w wx->Calls Tryz.prog 180 #[.string X,.int .i64 u,.int .i64 (K+D)] wx fun e w'=>e=.returned (.tuple #[.int .i64 (N1:Int),.bool true])/\Below wx.heap.size wx w'):=CH;have CS:Hid (∀wx,Calls Tryz.prog 181 #[.agg #[.int .i64 K,.int .i64 D,.string ⟨U.toArray⟩],.int .i64 (N1:Int)] wx fun e w'=>e=.returned (ptV (JdP N1 ⟨K,D,U⟩))/\Below wx.heap.size wx w'):=fun wx=>JoF ⟨K,D,U⟩ N1 wx hplq
      generalize hQ:JdP (N1:Int) ⟨K,D,U⟩=Q1 at *;have HOK:Hid (okZ u rs qs=okZ u (Jbb u R (K+D)) (qs.drop (k+1))):=hok;have HOUT:Hid (inZ u 1 rs qs=(L++[Q1])++inZ u 1 (Jbb u R (K+D)) (qs.drop (k+1))):=by show _=_;rw[hout];simp
      obtain⟨QK,QD,QU⟩:=Q1;unfold ptV at CS;simp only at CS;have HLE2:Hid (K+D<=by_ u R):=hle;clear hed e1 e3 hX hX2 CH hok hout hplq hQ hle hbs HLE
      go_wp2_with (first
       | (go_at_call 180;refine(HCH.out _ (HBW.out.alloc HBW.out.size _)).mono ?_;rintro e w5 ⟨rfl,hb5⟩;have hbox:w5.heap[β]?=some (.cells #[.int .i64 K,.int .i64 D,.string ⟨U.toArray⟩] 50 (0,0)):=(hb5.block β (by rw[wsa,HBT.out];omega)).trans (by have:=heap_alloc_new wr (.cells #[.int .i64 K,.int .i64 D,.string ⟨U.toArray⟩] 50);rwa[HBT.out]at this);have y0:w5.cell? ⟨β,0,none⟩=some (.int .i64 K):=chp hbox 0;have y1:w5.cell? ⟨β,1,none⟩=some (.int .i64 D):=chp hbox 1;have y2:w5.cell? ⟨β,2,none⟩=some (.string ⟨U.toArray⟩):=chp hbox 2;have HB5:Hid (Below w.heap.size w w5):=(HBW.out.alloc HBW.out.size _).trans (hb5.mono (by rw[wsa];have:=HBW.out.size;omega));have HO5:Hid (w5.ownsRow w.heap.size 50 3 (.slice pv k cv) k (Jag L)):=Jaj (HOW.out.alloc _) hb5;clear hb5 hbox)
       | (go_at_call 181;refine(CS.out _).mono ?_;rintro e w6 ⟨rfl,hb6⟩;have HB6:Hid (Below w.heap.size w w6):=HB5.out.trans (hb6.mono HB5.out.size);have HO6:Hid (w6.ownsRow w.heap.size 50 3 (.slice pv k cv) k (Jag L)):=Jaj HO5.out hb6;have hs6:w.heap.size<=w6.heap.size:=HB6.out.size;clear hb6)
       | (at_builtin;refine wpList_append_own _ rfl _ _ 23 rfl w.heap.size 50 i0 (.agg #[.int .i64 0,.int .i64 0,.string ⟨#[]⟩]) 3 32 Tryz.underlying23 HI.out HZ0.out HZ1.out HZ2.out rfl (by decide) _ _ _ rfl (HO6.out.alloc _) ⟨w6.heap.size,0,none⟩ 1 1 (Jas ⟨QK,QD,QU⟩) rfl rfl (Jca _ _ (by first | rfl | simp) _ _) (JaD _) (by unfold maxLen;omega) (by omega) (by first | omega | (simp;omega)) ?_)
       | fail)
      intro v' w' hown' hg' _;obtain⟨p',c',rfl⟩:=Jad hown';have HB9:Hid (Below w.heap.size w w'):=(HB6.out.alloc HB6.out.size _).grown hg' (by simp;omega) fun j hj=>(HO6.out.lt j hj).1
      have HO9:Hid (w'.ownsRow w.heap.size 50 3 (.slice p' (k+1) c') (k+1) (Jag L++Jas ⟨QK,QD,QU⟩)):=hown';have HLT:Hid (k<n):=hlt;clear hown' hg';go_wp2
      go_roundw
      case rel =>
       obtain⟨q1,q2⟩:=JeC HU.out HLE2.out HED.out;have q3:by_ u R=by_ u (upTo R u (K+D))+by_ u (Jbb u R (K+D)):=by rw[←Jb3];exact congrArg _ q1
       refine⟨k+1,Jbb u R (K+D),L++[⟨QK,QD,QU⟩],by go_num,by rw[HE3.out,HX2.out],⟨by have:=HN.out;have:=HLT.out;omega,by rw[List.length_append,HLL.out];rfl,?_,HOK.out,HOUT.out,?_,Jf6 HRN.out,Int.le_trans rest_C1 HFW.out,HB9.out⟩⟩
       . rw[Jbh];exact HO9.out
       . have:=HLR.out;omega
      case measure=>have:=HLT.out;simp[intOf];omega
    . have hed:JaU R u (K+D)=false:=Bool.eq_false_iff.2 hed
      rw[hed]at CH hok;rw[Bool.false_and]at hok;have HOK:Hid (okZ u rs qs=false):=hok;obtain⟨M1,hM1⟩:∃M1,by_ 1 (upTo R u (K+D))=M1:=⟨_,rfl⟩;rw[hM1]at CH;have HCH:Hid (∀wx,Below w.heap.size w wx->Calls Tryz.prog 180 #[.string (Jao R),.int .i64 u,.int .i64 (K+D)] wx fun e w'=>e=.returned (.tuple #[.int .i64 M1,.bool false])/\Below wx.heap.size wx w'):=CH;clear hed hM1 CH hok hout hplq hle hbs HLE;generalize Jao R=X at *
      go_wp2_with (first
       | (go_at_call 180;refine(HCH.out _ (HBW.out.alloc HBW.out.size _)).mono ?_;rintro e w5 ⟨rfl,hb5⟩;have HB5:Hid (Below w.heap.size w w5):=(HBW.out.alloc HBW.out.size _).trans (hb5.mono (by rw[wsa];have:=HBW.out.size;omega));clear hb5)
       | fail)
      go_ret2
      refine⟨.slice none 0 0,?_,?_,HB5.out⟩
      . rw[HEV.out,HOK.out];rfl
      . rw[HOPV.out,HOK.out];exact Jen _ _
  . obtain rfl:k=n:=by omega
    have e:qs.drop k=[]:=List.drop_of_length_le (by rw[HN.out];exact nlr _);have hok:=hI.ok;have hout:=hI.out;rw[e]at hok hout;have HOK:Hid (okZ u rs qs=true):=hok;have HOUT:Hid (inZ u 1 rs qs=L):=hout.trans (by simp[inZ]);have HOW:Hid (wr.ownsRow w.heap.size 50 3 (.slice pv k cv) k (Jag L)):=hown;have HBW:=hdz hI.low;have HLL:Hid (L.length=k):=hI.len;have hj:¬((k:Int)<(k:Int)):=by omega
    clear hI HI1 e hok hout hown;generalize Jao R=X at *;go_wp2
    go_ret2
    refine⟨.slice pv k cv,?_,?_,HBW.out⟩
    . rw[HEV.out,HOK.out];rfl
    . rw[HOPV.out,HOK.out,if_pos rfl,HOUT.out]
      have:=HOW.out;rw[←HLL.out]at this ⊢;exact Jfl (nlr _) this
theorem Jma(rs:List Nat)(hr:∀r∈rs,Jaw r)(hz:C1 rs<=1000000)(u:Int)(qs:List Pt)(val:Value)(w:World)(hu:Ja3 u)(hT:Lib.Utf8Tabs 2 3 w)(ho:opAt w val qs)(hwf:∀q∈qs,wfP q)(hpl:∀q∈qs,q.put.length<=1000000)(hl:qs.length<=1000) :
    Calls Tryz.prog 119 #[val,.int .i64 u,.string (Jao rs)] w fun e w'=>∃v',e=.returned (.tuple #[v',errV (tzE rs u 1 qs)])/\opN w.heap.size w' v' (tzO rs u 1 qs)/\Below w.heap.size w w':=by
 have h1:(uB u && uB 1)=true:=by rw[(Jmx u).2 hu,(Jmx 1).2 (.inl rfl)];rfl
 unfold tzE tzO;rw[h1,if_pos rfl,if_pos rfl]
 by_cases hc:chkE qs (by_ u rs)=0
 . rw[if_pos hc,if_pos hc]
   obtain⟨_,h2,h3⟩:=JbZ hc;obtain⟨t1,t2⟩:=Jot hu 1 qs rs h3 (Int.le_of_eq h2);rw[t1,t2];exact JqY rs hr hz u qs val w hu hT ho hwf hpl hl hc
 . rw[if_neg hc,if_neg hc]
   exact(inB_chk rs hr hz u qs val w hu hT ho hwf hl hc).mono fun e w' h=>⟨_,h.1,Jen _ _,h.2⟩
end
section
open Go.RowKit Go.Maps
attribute [local go_sem] Oper.semAt_some Ja2 JaV
variable {lo b : Nat}{w : World}{who u : Int}{S : Cl}
theorem JkU(h:isCl lo w b who u S)(i:Int)(hd:0<=S.drops/\S.drops<=1000000) :
    Calls Tryz.prog 51 #[.pointer (some ⟨b,0,none⟩),.int .i64 i] w fun e w'=>e=.returned (.tuple #[])/\isCl lo w' b who u (rfS S i)/\keptC w w' b:=by
 have hlt:=JbP h;have HC:=hdz h;have CP:Hid _:=Jbp h
 by_cases hm:S.mine=[]
 . have e:decide (0<S.mine.length)=false:=by rw[hm];rfl
   rw[e]at CP;have HR:Hid (rfS S i=S):=if_neg fun h=>h.1 hm
   clear h hm e hd
   go_enter Tryz.func51,Tryz.ntmps51
   go_wp2_with (first
    | (go_at_call 58;refine Calls.mono CP.out ?_;rintro e w2 ⟨rfl,hb2⟩;have HB2:=hdz hb2;clear hb2)
    | fail)
   (try simp only[Exit.inBlock,Exit.then]);refine bodyPost_ret (results_none rfl _ _ _) rfl ?_
   rw[HR.out];exact⟨rfl,JaZ HC.out HB2.out,Jb0 HB2.out hlt⟩
 . have e:decide (0<S.mine.length)=true:=decide_eq_true (List.length_pos_iff.2 hm)
   rw[e]at CP;obtain⟨hlo,vm,h3,h4⟩:=h;obtain⟨p,c,rfl⟩:=JbL h4;have H3:=hdz h3;have HLO:Hid (lo<=b):=hlo
   by_cases hi:i=S.id
   . have HR:Hid (rfS S i = { S with mine:=[],doc:=S.seen,drops:=S.drops+1 }):=if_pos ⟨hm,hi⟩
     have hid1:wrap64 (S.drops+1)=S.drops+1:=Ja0 (by omega) (by omega);obtain⟨d0,d1⟩:=hd;subst hi;clear h3 h4 hm e hlo;generalize S.mine.length=n at *
     go_enter Tryz.func51,Tryz.ntmps51
     go_wp2_with (first
      | (go_at_call 58;refine Calls.mono CP.out ?_;rintro e w2 ⟨rfl,hb2⟩;have HB2:=hdz hb2;have hbk:=(hb2.block b hlt).trans H3.out;have HBK:=hdz hbk;obtain⟨_,_,_,y3,y4,y5,y6,y7,yf⟩:=Jat hbk;have f4:=yf 4;have f5:=yf 5;have f7:=yf 7;clear hb2 hbk yf)
      | fail)
     go_end0;rw[HR.out];refine⟨rfl,?_⟩;have b1:=heap_setCell_same w2 b 4 _ _ (.slice none 0 0) HBK.out;have b2:=heap_setCell_same _ b 5 _ _ (.string ⟨S.seen.toArray⟩) b1;have b3:=heap_setCell_same _ b 7 _ _ (.int .i64 (S.drops+1)) b2;refine JdO HLO.out H3.out b3 (JiE _ _) ?_ fun k hk=>by cases hk
     exact(Jaf HB2.out _).trans (((Jau (S:=fun k=>k=b\/(Value.slice p n c).ownBlock=some k) (.inl rfl)).trans (Jau (S:=fun k=>k=b\/(Value.slice p n c).ownBlock=some k) (.inl rfl))).trans (Jau (S:=fun k=>k=b\/(Value.slice p n c).ownBlock=some k) (.inl rfl)))
   . have HR:Hid (rfS S i=S):=if_neg fun h=>hi h.2
     have hi2:¬i=S.id:=hi;clear h3 h4 hm e hd hlo
     go_enter Tryz.func51,Tryz.ntmps51
     go_wp2_with (first
      | (go_at_call 58;refine Calls.mono CP.out ?_;rintro e w2 ⟨rfl,hb2⟩;have HB2:=hdz hb2;have y6:=(Jat ((hb2.block b hlt).trans H3.out)).2.2.2.2.2.2.1;clear hb2)
      | fail)
     (try simp only[Exit.inBlock,Exit.then]);refine bodyPost_ret (results_none rfl _ _ _) rfl ?_
     rw[HR.out];exact⟨rfl,JaZ HC.out HB2.out,Jb0 HB2.out hlt⟩
theorem Jmk(h:isCl lo w b who u S)(v:Value)(o:List Pt)(hx:opX lo w v o)(hT:Lib.Utf8Tabs 2 3 w)(htw:S.mine.length<=2)(hid:0<=S.id/\S.id<=1000000)
    (hg:∀m1 m2,S.mine=[m1,m2]->∃t,good m2 t/\good o (Jab m2 t)/\t.length+Jan m2<1000000/\(Jab m2 t).length+Jan o<1000000) :
    Calls Tryz.prog 121 #[.pointer (some ⟨b,0,none⟩),v] w fun e w'=>e=.returned (.tuple #[])/\isCl lo w' b who u { S with mine:=addM o S.mine,id:=if S.mine=[] then S.id+1 else S.id }/\keptC w w' b:=by
 rcases hm:S.mine with _|⟨m1,_|⟨m2,_|⟨m3,ms⟩⟩⟩
 . rw[if_pos rfl]
   exact Jrx h hm v o hx hid
 . rw[if_neg (by simp)]
   have:=Jrw h (by rw[hm];rfl) v o hx;rw[hm]at this;exact this
 . rw[if_neg (by simp)]
   obtain⟨t,g1,g2,g3,g4⟩:=hg m1 m2 hm;exact Jrv h hm v o hx hT g1 g2 g3 g4
 . rw[hm]at htw;simp at htw
end
section
open Go.RowKit Go.Maps
attribute [local go_sem] Oper.semAt_some Ja2 JaV
variable {lo b : Nat}{w : World}{who u : Int}{S : Cl}
theorem Jml(h:isCl lo w b who u S)(hu:Ja3 u)(v:Value)(q:List Pt)(hx:opAt w v q)(hl:q.length<=100)(hm:60<q.length\/q.any JdT=true) :
    Calls Tryz.prog 47 #[.pointer (some ⟨b,0,none⟩),v] w fun e w'=>e=.returned (errV 4)/\Below w.heap.size w w':=by
 have hu0:(u==0)=false:=by rcases hu with rfl|rfl|rfl<;>rfl
 have CU:Hid _:=JbY h;have CF:Hid (∀wx,Below w.heap.size w wx->Calls Tryz.prog 118 #[v,.func (.func 117) #[] #[]] wx fun e w'=>e=.returned (.bool (q.any JdT))/\Below wx.heap.size wx w'):=fun wx hb=>JkS v q wx (Ja6 hx hb (nlr _)) (by omega)
 rw[show errV 4=.iface 26 (.int .i64 4) from rfl];obtain⟨p,c,rfl,_⟩:=hx
 by_cases h6:60<q.length
 . have h6':(60:Int)<(q.length:Int):=by omega
   clear h hu hm CF
   go_enter Tryz.func47,Tryz.ntmps47
   go_wp2_with (first
    | (go_at_call 57;refine Calls.mono CU.out ?_;rintro e w1 ⟨rfl,hb1⟩;have HB1:=hdz hb1;clear hb1)
    | (go_at_call 118;refine(CF.out _ HB1.out).mono ?_;rintro e w2 ⟨rfl,hb2⟩;have HB2:=hdz (HB1.out.trans (hb2.mono HB1.out.size));clear hb2)
    | fail)
   go_ret;exact⟨rfl,HB1.out⟩
 . have h6':¬(60:Int)<(q.length:Int):=by omega
   have ha:q.any JdT=true:=hm.elim (fun e=>absurd e h6) id;rw[ha]at CF;clear h hu hm ha
   go_enter Tryz.func47,Tryz.ntmps47
   go_wp2_with (first
    | (go_at_call 57;refine Calls.mono CU.out ?_;rintro e w1 ⟨rfl,hb1⟩;have HB1:=hdz hb1;clear hb1)
    | (go_at_call 118;refine(CF.out _ HB1.out).mono ?_;rintro e w2 ⟨rfl,hb2⟩;have HB2:=hdz (HB1.out.trans (hb2.mono HB1.out.size));clear hb2)
    | fail)
   go_ret;exact⟨rfl,HB2.out⟩
theorem JiP(h:isCl lo w b who u S)(hk:okK 2000 S)(hu:Ja3 u)(v:Value)(q:List Pt)(hx:opAt w v q)(hwf:∀p∈q,wfP p)(hpl:∀p∈q,p.put.length<=300)(hl:q.length<=100)(hsz:S.seen.length<=100000)(hid:0<=S.id/\S.id<=1000000)(hG:2<lo/\3<lo)(hT:Lib.Utf8Tabs 2 3 w) :
    Calls Tryz.prog 47 #[.pointer (some ⟨b,0,none⟩),v] w fun e w'=>e=.returned (errV (edE u S q))/\isCl lo w' b who u (edS u S q)/\keptC w w' b:=by
 have hlt:=JbP h;have same:∀{n:Int},edE u S q=n->n≠0->(Calls Tryz.prog 47 #[.pointer (some ⟨b,0,none⟩),v] w fun e w'=>e=.returned (errV n)/\Below w.heap.size w w')->Calls Tryz.prog 47 #[.pointer (some ⟨b,0,none⟩),v] w fun e w'=>e=.returned (errV (edE u S q))/\isCl lo w' b who u (edS u S q)/\keptC w w' b:=fun {n} e1 e2 hc=>by
  refine hc.mono ?_
  rintro e w' ⟨rfl,hb⟩;have:edS u S q=S:=if_neg (by rw[e1];exact e2);rw[e1,this];exact⟨rfl,JaZ h hb,Jb0 hb hlt⟩
 by_cases hm:60<q.length\/q.any JdT=true
 . exact same (if_pos hm) (by decide) (Jml h hu v q hx hl hm)
 have hV:=hk.V;have hrs:encs (Jal S.doc)=S.doc:=Jcm (Jjc hV);have hbs:Jao (Jal S.doc)=⟨S.doc.toArray⟩:=by unfold Jao;rw[hrs]
 have hdl:=hk.len;have hC1:C1 (Jal S.doc)<=1000000:=by rw[JbU,hrs];omega
 have h6:¬60<q.length:=fun e=>hm (.inl e)
 have ha:q.any JdT=false:=by
  cases e:q.any JdT with
  | false=>rfl
  | true=>exact absurd (.inr e) hm
 have hu0:(u==0)=false:=by rcases hu with rfl|rfl|rfl<;>rfl
 have CU:Hid _:=JbY h;have CF:Hid (∀wx,Below w.heap.size w wx->Calls Tryz.prog 118 #[v,.func (.func 117) #[] #[]] wx fun e w'=>e=.returned (.bool false)/\Below wx.heap.size wx w'):=fun wx hb=>by
  have:=JkS v q wx (Ja6 hx hb (nlr _)) (by omega);rwa[ha]at this
 have cI:Hid (∀wx,Below w.heap.size w wx->Calls Tryz.prog 119 #[v,.int .i64 u,.string ⟨S.doc.toArray⟩] wx fun e w'=>∃v',e=.returned (.tuple #[v',errV (tzE (Jal S.doc) u 1 q)])/\opN wx.heap.size w' v' (edO u S q)/\Below wx.heap.size wx w'):=fun wx hb=>by
  have:=Jma (Jal S.doc) (fun r hr=>JcW hr) hC1 u q v wx hu (Go.Proofs.Utf8Tabs_below hT hb) (Ja6 hx hb (nlr _)) hwf (fun p hp=>by have:=hpl p hp;omega) (by omega);rwa[hbs]at this
 have h6':¬(60:Int)<(q.length:Int):=by omega
 by_cases ht:tzE (Jal S.doc) u 1 q=0
 case neg =>
  refine same (n:=tzE (Jal S.doc) u 1 q) (by unfold edE;rw[if_neg hm,if_pos ht]) ht ?_
  have hV2:errV (tzE (Jal S.doc) u 1 q)=.iface 26 (.int .i64 (tzE (Jal S.doc) u 1 q)):=by unfold errV;rw[if_neg ht]
  rw[hV2]at cI ⊢;generalize tzE (Jal S.doc) u 1 q=E at *;generalize edO u S q=O at *;have CI:=cI;obtain⟨hlo,vm,h3,h4⟩:=h;obtain⟨p,c,rfl⟩:=JbL h4;have H3:=hdz h3;obtain⟨p0,c0,rfl,_⟩:=hx;generalize S.mine.length=n at *;clear cI h3 h4 hm ha hk hu hwf hpl hsz hid hG hT same hV hrs hbs hdl hC1 h6 hV2 ht hlo
  go_enter Tryz.func47,Tryz.ntmps47
  go_wp2_with (first
   | (go_at_call 57;refine Calls.mono CU.out ?_;rintro e w1 ⟨rfl,hb1⟩;have HB1:=hdz hb1;clear hb1)
   | (go_at_call 118;refine(CF.out _ HB1.out).mono ?_;rintro e w2 ⟨rfl,hb2⟩;have HB2:=hdz (HB1.out.trans (hb2.mono HB1.out.size));clear hb2)
   | fail)
  refine Jaq (fun wx:World=>wx.heap[b]?=some (.cells (JaO who u S (.slice p n c)) 203 (0,0))) 15 15 (by kernel_rfl) rfl ?_
  intro w30 hb30;have hb2A:=HB2.out.trans (hb30.mono HB2.out.size);have hz0:w30.heap[b]?=some (.cells (JaO who u S (.slice p n c)) 203 (0,0)):=(hb2A.block b hlt).trans H3.out;obtain⟨G,hG⟩:=Jax (Z:=fun wx:World=>wx.heap[b]?=some (.cells (JaO who u S (.slice p n c)) 203 (0,0))) hz0 (fun {w w'} h hb=>(hb.block b (alt h)).trans h);have y1:∀x,(G x).cell? ⟨b,1,none⟩=some (.int .i64 u):=fun x=>(Jat (hG.but x)).2.1
  have y5:∀x,(G x).cell? ⟨b,5,none⟩=some (.string ⟨S.doc.toArray⟩):=fun x=>(Jat (hG.but x)).2.2.2.2.2.1
  refine az hG hz0 0 fun _ k=>?_;go_simp;refine k _ ?_;clear k
  refine az hG hz0 1 fun _ k=>?_;go_simp;refine k _ ?_;clear k
  refine az hG hz0 2 fun _ k=>?_;go_simp;refine k _ ?_;clear k
  refine az hG hz0 3 fun _ k=>?_;go_simp;refine k _ ?_;clear k
  refine az hG hz0 4 fun _ k=>?_;go_simp;refine k _ ?_;clear k
  refine az hG hz0 5 fun _ k=>?_;go_simp;refine k _ ?_;clear k
  refine az hG hz0 6 fun _ k=>?_;go_simp;refine k _ ?_;clear k
  refine az hG hz0 7 fun _ k=>?_;go_simp;refine k _ ?_;clear k
  refine az hG hz0 8 fun _ k=>?_;go_simp;refine k _ ?_;clear k
  clear y1 y5;refine JaF (i:=9) (by kernel_rfl) ⟨_,rfl,?_⟩;intro w31 hb31 K hK
  go_simp
  have hb2B:=hb2A.trans (hb31.mono hb2A.size);refine(CI.out w31 hb2B).mono ?_
  rintro e w3 ⟨v',rfl,hn3,hb3⟩;obtain⟨p3,c3,rfl⟩:=Jd4 hn3;have hz2:w3.heap[b]?=some (.cells (JaO who u S (.slice p n c)) 203 (0,0)):=((hb2B.trans (hb3.mono hb2B.size)).block b hlt).trans H3.out;refine⟨_,rfl,hK _ _ (fun _=>hz2) ?_⟩;clear hK K hz0;refine az hG hz2 10 fun _ k=>?_;go_simp;refine k _ ?_;clear k
  refine az hG hz2 11 fun _ k=>?_;go_simp;refine k _ ?_;clear k
  refine az hG hz2 12 fun _ k=>?_;go_simp;refine k _ ?_;clear k
  refine az hG hz2 13 fun _ k=>?_;go_simp;refine k _ ?_;clear k
  refine az hG hz2 14 fun _ k=>?_;go_simp;refine k _ ?_;clear k
  clear hG hz2;refine JaM (by kernel_rfl) ?_
  intro w4 hb4;have hb44:=(hb2B.trans (hb3.mono hb2B.size));have HB4:Hid (Below w.heap.size w w4):=hb44.trans (hb4.mono hb44.size);have HN4:Hid (opX lo w4 (.slice p3 O.length c3) O):=Ja5 (JbF hn3) hb4;clear hb30 hb31 hb3 hb4 hb44 hb2A hb2B hn3;go_wp2;go_ret;exact⟨rfl,HB4.out⟩
 case pos =>
 have g1:=(Jmf hu hk ht).1;rw[ht,show errV 0=.nilIface from rfl]at cI;have hpu:Jan (edO u S q)<=30000:=by
  obtain⟨_,_,e3,e4⟩:=Jmf hu hk ht;obtain⟨hp1,_,_⟩:=JbZ e3;rw[e4,Jpz q _ fun p hp=>(hp1 p hp).1];have:=Jm9 q hpl;omega
 have hbd:S.doc.length+Jan (edO u S q)<1000000:=by omega
 have hlens:=(g1.lens hbd).2;have hfl:=(g1.fine hbd).len;have CLn:Hid (∀vv wx,opAt wx vv (edO u S q)->Calls Tryz.prog 120 #[vv] wx fun e w'=>e=.returned (.tuple #[.int .i64 (Ja9 (edO u S q)).1,.int .i64 ((Jab (edO u S q) S.doc).length:Int)])/\Below wx.heap.size wx w'):=fun vv wx ho=>by
  have:=Jcg vv (edO u S q) wx ho hfl;rwa[hlens]at this
 have CAp:Hid (∀vv wx,Below w.heap.size w wx->opAt wx vv (edO u S q)->Calls Tryz.prog 29 #[vv,.string ⟨S.doc.toArray⟩] wx fun e w'=>e=.returned (.tuple #[.string ⟨(Jab (edO u S q) S.doc).toArray⟩,.nilIface])/\Below wx.heap.size wx w'):=fun vv wx hb ho=>JfD vv _ S.doc wx (Go.Proofs.Utf8Tabs_below hT hb) ho g1 hbd
 by_cases hfu:2000<(Jab (edO u S q) S.doc).length
 . refine same (n:=12) (by unfold edE;rw[if_neg hm,if_neg (by simpa using ht),if_pos hfu]) (by decide) ?_
   rw[show errV 12=.iface 26 (.int .i64 12) from rfl];have hfi:(2000:Int)<((Jab (edO u S q) S.doc).length:Int):=by omega
   generalize (Ja9 (edO u S q)).1=L1 at *;generalize (Jab (edO u S q) S.doc).length=L2 at *;generalize hOO:edO u S q=O at *;have CI:=cI;obtain⟨hlo,vm,h3,h4⟩:=h;obtain⟨p,c,rfl⟩:=JbL h4;have H3:=hdz h3;obtain⟨p0,c0,rfl,_⟩:=hx;generalize S.mine.length=n at *;clear cI h3 h4 hm ha hk hu hwf hpl hsz hid hG hT same hV hrs hbs hdl hC1 h6 ht hlo g1 hpu hbd hlens hfl hfu CAp hOO
   go_enter Tryz.func47,Tryz.ntmps47
   go_wp2_with (first
    | (go_at_call 57;refine Calls.mono CU.out ?_;rintro e w1 ⟨rfl,hb1⟩;have HB1:=hdz hb1;clear hb1)
    | (go_at_call 118;refine(CF.out _ HB1.out).mono ?_;rintro e w2 ⟨rfl,hb2⟩;have HB2:=hdz (HB1.out.trans (hb2.mono HB1.out.size));clear hb2)
    | fail)
   refine Jaq (fun wx:World=>wx.heap[b]?=some (.cells (JaO who u S (.slice p n c)) 203 (0,0))) 15 15 (by kernel_rfl) rfl ?_
   intro w30 hb30;have hb2A:=HB2.out.trans (hb30.mono HB2.out.size);have hz0:w30.heap[b]?=some (.cells (JaO who u S (.slice p n c)) 203 (0,0)):=(hb2A.block b hlt).trans H3.out;obtain⟨G,hG⟩:=Jax (Z:=fun wx:World=>wx.heap[b]?=some (.cells (JaO who u S (.slice p n c)) 203 (0,0))) hz0 (fun {w w'} h hb=>(hb.block b (alt h)).trans h);have y1:∀x,(G x).cell? ⟨b,1,none⟩=some (.int .i64 u):=fun x=>(Jat (hG.but x)).2.1
   have y5:∀x,(G x).cell? ⟨b,5,none⟩=some (.string ⟨S.doc.toArray⟩):=fun x=>(Jat (hG.but x)).2.2.2.2.2.1
   refine az hG hz0 0 fun _ k=>?_;go_simp;refine k _ ?_;clear k
   refine az hG hz0 1 fun _ k=>?_;go_simp;refine k _ ?_;clear k
   refine az hG hz0 2 fun _ k=>?_;go_simp;refine k _ ?_;clear k
   refine az hG hz0 3 fun _ k=>?_;go_simp;refine k _ ?_;clear k
   refine az hG hz0 4 fun _ k=>?_;go_simp;refine k _ ?_;clear k
   refine az hG hz0 5 fun _ k=>?_;go_simp;refine k _ ?_;clear k
   refine az hG hz0 6 fun _ k=>?_;go_simp;refine k _ ?_;clear k
   refine az hG hz0 7 fun _ k=>?_;go_simp;refine k _ ?_;clear k
   refine az hG hz0 8 fun _ k=>?_;go_simp;refine k _ ?_;clear k
   clear y1 y5;refine JaF (i:=9) (by kernel_rfl) ⟨_,rfl,?_⟩;intro w31 hb31 K hK
   go_simp
   have hb2B:=hb2A.trans (hb31.mono hb2A.size);refine(CI.out w31 hb2B).mono ?_
   rintro e w3 ⟨v',rfl,hn3,hb3⟩;obtain⟨p3,c3,rfl⟩:=Jd4 hn3;have hz2:w3.heap[b]?=some (.cells (JaO who u S (.slice p n c)) 203 (0,0)):=((hb2B.trans (hb3.mono hb2B.size)).block b hlt).trans H3.out;refine⟨_,rfl,hK _ _ (fun _=>hz2) ?_⟩;clear hK K hz0;refine az hG hz2 10 fun _ k=>?_;go_simp;refine k _ ?_;clear k
   refine az hG hz2 11 fun _ k=>?_;go_simp;refine k _ ?_;clear k
   refine az hG hz2 12 fun _ k=>?_;go_simp;refine k _ ?_;clear k
   refine az hG hz2 13 fun _ k=>?_;go_simp;refine k _ ?_;clear k
   refine az hG hz2 14 fun _ k=>?_;go_simp;refine k _ ?_;clear k
   clear hG hz2;refine JaM (by kernel_rfl) ?_
   intro w4 hb4;have hb44:=(hb2B.trans (hb3.mono hb2B.size));have HB4:Hid (Below w.heap.size w w4):=hb44.trans (hb4.mono hb44.size);have HN4:Hid (opX lo w4 (.slice p3 O.length c3) O):=Ja5 (JbF hn3) hb4;clear hb30 hb31 hb3 hb4 hb44 hb2A hb2B hn3
   go_wp2_with (first
    | (go_at_call 120;refine(CLn.out _ _ HN4.out.1).mono ?_;rintro e w5 ⟨rfl,hb5⟩;have HB5:=hdz (HB4.out.trans (hb5.mono HB4.out.size));clear hb5)
    | fail)
   go_ret;exact⟨rfl,HB5.out⟩
 . have he0:edE u S q=0:=by unfold edE;rw[if_neg hm,if_neg (by simpa using ht),if_neg hfu]
   have HES:Hid (edS u S q = { S with doc:=Jab (edO u S q) S.doc,mine:=addM (edO u S q) S.mine,id:=if S.mine=[] then S.id+1 else S.id }):=if_pos he0;have hfi:¬(2000:Int)<((Jab (edO u S q) S.doc).length:Int):=by omega
   have HQ:Hid (∀m1 m2,S.mine=[m1,m2]->∃t,good m2 t/\good (edO u S q) (Jab m2 t)/\t.length+Jan m2<1000000/\(Jab m2 t).length+Jan (edO u S q)<1000000):=fun m1 m2 e=>by
    have hal:=hk.all;have hpt:=hk.puts;have hdc:=hk.doc;rw[e]at hal hpt hdc;have g1':=g1;rw[hdc]at g1';have l1:=JjL hal.1;have p1:=hpt m1 (by simp);have p2:=hpt m2 (by simp);have e2:allM [m1,m2] S.seen=Jab m2 (Jab m1 S.seen):=rfl;rw[e2]at g1';refine⟨Jab m1 S.seen,hal.2.1,g1',by omega,?_⟩;rw[hdc,e2]at hbd;exact hbd
   have HTW:Hid (S.mine.length<=2):=hk.two;have HID:Hid (0<=S.id/\S.id<=1000000):=hid;have HT:Hid (Lib.Utf8Tabs 2 3 w):=hT;have HGG:=hdz hG;rw[he0];generalize (Ja9 (edO u S q)).1=L1 at *;generalize hTX:Jab (edO u S q) S.doc=TX at *;generalize hOO:edO u S q=O at *;have CI:=cI;obtain⟨hlo,vm,h3,h4⟩:=h;have HLO:Hid (lo<=b):=hlo;obtain⟨p,c,rfl⟩:=JbL h4;obtain⟨n,hn⟩:∃n,S.mine.length=n:=⟨_,rfl⟩;rw[hn]at h3 h4;have H3:=hdz h3;have H4:=hdz h4;obtain⟨p0,c0,rfl,_⟩:=hx;have hne5:∀k,(Value.slice p n c).ownBlock=some k->k≠b:=fun k hk e=>by
    obtain⟨_,_,cs,hc⟩:=JbN H4.out hk;subst e;have:=JaG H3.out hc;revert this;decide
   have HNE:=hdz hne5;clear cI h3 h4 hm ha hk hu hwf hpl hsz hid hG hT same hV hrs hbs hdl hC1 h6 ht hlo g1 hpu hbd hlens hfl hfu hOO hTX he0 hn hne5
   go_enter Tryz.func47,Tryz.ntmps47
   go_wp2_with (first
    | (go_at_call 57;refine Calls.mono CU.out ?_;rintro e w1 ⟨rfl,hb1⟩;have HB1:=hdz hb1;clear hb1)
    | (go_at_call 118;refine(CF.out _ HB1.out).mono ?_;rintro e w2 ⟨rfl,hb2⟩;have HB2:=hdz (HB1.out.trans (hb2.mono HB1.out.size));clear hb2)
    | fail)
   refine Jaq (fun wx:World=>wx.heap[b]?=some (.cells (JaO who u S (.slice p n c)) 203 (0,0))) 15 15 (by kernel_rfl) rfl ?_
   intro w30 hb30;have hb2A:=HB2.out.trans (hb30.mono HB2.out.size);have hz0:w30.heap[b]?=some (.cells (JaO who u S (.slice p n c)) 203 (0,0)):=(hb2A.block b hlt).trans H3.out;obtain⟨G,hG⟩:=Jax (Z:=fun wx:World=>wx.heap[b]?=some (.cells (JaO who u S (.slice p n c)) 203 (0,0))) hz0 (fun {w w'} h hb=>(hb.block b (alt h)).trans h);have y1:∀x,(G x).cell? ⟨b,1,none⟩=some (.int .i64 u):=fun x=>(Jat (hG.but x)).2.1
   have y5:∀x,(G x).cell? ⟨b,5,none⟩=some (.string ⟨S.doc.toArray⟩):=fun x=>(Jat (hG.but x)).2.2.2.2.2.1
   refine az hG hz0 0 fun _ k=>?_;go_simp;refine k _ ?_;clear k
   refine az hG hz0 1 fun _ k=>?_;go_simp;refine k _ ?_;clear k
   refine az hG hz0 2 fun _ k=>?_;go_simp;refine k _ ?_;clear k
   refine az hG hz0 3 fun _ k=>?_;go_simp;refine k _ ?_;clear k
   refine az hG hz0 4 fun _ k=>?_;go_simp;refine k _ ?_;clear k
   refine az hG hz0 5 fun _ k=>?_;go_simp;refine k _ ?_;clear k
   refine az hG hz0 6 fun _ k=>?_;go_simp;refine k _ ?_;clear k
   refine az hG hz0 7 fun _ k=>?_;go_simp;refine k _ ?_;clear k
   refine az hG hz0 8 fun _ k=>?_;go_simp;refine k _ ?_;clear k
   clear y1 y5;refine JaF (i:=9) (by kernel_rfl) ⟨_,rfl,?_⟩;intro w31 hb31 K hK
   go_simp
   have hb2B:=hb2A.trans (hb31.mono hb2A.size);refine(CI.out w31 hb2B).mono ?_
   rintro e w3 ⟨v',rfl,hn3,hb3⟩;obtain⟨p3,c3,rfl⟩:=Jd4 hn3;have hz2:w3.heap[b]?=some (.cells (JaO who u S (.slice p n c)) 203 (0,0)):=((hb2B.trans (hb3.mono hb2B.size)).block b hlt).trans H3.out;refine⟨_,rfl,hK _ _ (fun _=>hz2) ?_⟩;clear hK K hz0;refine az hG hz2 10 fun _ k=>?_;go_simp;refine k _ ?_;clear k
   refine az hG hz2 11 fun _ k=>?_;go_simp;refine k _ ?_;clear k
   refine az hG hz2 12 fun _ k=>?_;go_simp;refine k _ ?_;clear k
   refine az hG hz2 13 fun _ k=>?_;go_simp;refine k _ ?_;clear k
   refine az hG hz2 14 fun _ k=>?_;go_simp;refine k _ ?_;clear k
   clear hG hz2;refine JaM (by kernel_rfl) ?_
   intro w4 hb4;have hb44:=(hb2B.trans (hb3.mono hb2B.size));have HB4:Hid (Below w.heap.size w w4):=hb44.trans (hb4.mono hb44.size);have HN4:Hid (opX lo w4 (.slice p3 O.length c3) O):=Ja5 (JbF hn3) hb4;clear hb30 hb31 hb3 hb4 hb44 hb2A hb2B hn3;have h4k:=(HB4.out.block b hlt).trans H3.out;have HBK4:=hdz h4k;have hl4:b<w4.heap.size:=(alt h4k);have t5:=(Jat h4k).2.2.2.2.2.1;clear h4k
   go_wp2_with (first
    | (go_at_call 120;refine(CLn.out _ _ HN4.out.1).mono ?_;rintro e w5 ⟨rfl,hb5⟩;have HB5:=hdz hb5;have t5':=(hb5.cell (p:=⟨b,5,none⟩) hl4).trans t5;clear hb5)
    | (go_at_call 29;refine(CAp.out _ _ (HB4.out.trans (HB5.out.mono HB4.out.size)) (Ja5 HN4.out HB5.out).1).mono ?_;rintro e w6 ⟨rfl,hb6⟩;have hb46:=HB5.out.trans (hb6.mono HB5.out.size);have HB6:=hdz hb46;have hk6:=(hb46.block b hl4).trans HBK4.out;have HBK6:=hdz hk6;have t6:=(Jat hk6).2.2.2.2.2.1;have f6:w6.frozen? ⟨b,5,none⟩=false:=Jak hk6;clear hb6 hb46 hk6)
    | (go_at_call 9999)
    | fail)
   have hbw6:=HB4.out.trans (HB6.out.mono HB4.out.size);have b1:=heap_setCell_same w6 b 5 _ _ (.string ⟨TX.toArray⟩) HBK6.out;have hs1:sameBut w6 (w6.setCell ⟨b,5,none⟩ (.string ⟨TX.toArray⟩)) (fun k=>k=b):=Jau (S:=fun k=>k=b) rfl;obtain⟨hc1,hk1⟩:=JdO (S':={ S with doc:=TX }) HLO.out H3.out b1 (JcQ (JbE H4.out hbw6) hs1 (fun j _ hj=>by obtain rfl:=hj;exact⟨HLO.out,JaA HBK6.out (by decide)⟩) fun j hj e=>HNE.out j hj e) (((Jaf hbw6 _).comp hs1 fun j _ e=>.inl e)) fun j hj=>.inl hj
   have hT6:Lib.Utf8Tabs 2 3 (w6.setCell ⟨b,5,none⟩ (.string ⟨TX.toArray⟩)):=Jfy (Go.Proofs.Utf8Tabs_below HT.out hbw6) hs1 (fun e=>by have:=HLO.out;have:=HGG.out.1;omega) (fun e=>by have:=HLO.out;have:=HGG.out.2;omega);have hx6:opX lo (w6.setCell ⟨b,5,none⟩ (.string ⟨TX.toArray⟩)) (.slice p3 O.length c3) O:=Jb8 (Ja5 HN4.out HB6.out) hs1 fun j _ hj=>by obtain rfl:=hj;exact⟨HLO.out,JaA HBK6.out (by decide)⟩
   refine(Jmk hc1 _ O hx6 hT6 HTW.out HID.out HQ.out).mono ?_
   rintro e w7 ⟨rfl,hc7,hk7⟩;have HFIN:Hid (isCl lo w7 b who u (edS u S q)/\keptC w w7 b):=by
    show _/\_;rw[HES.out];exact⟨hc7,hk1.trans hk7⟩
   clear hc7 hk7 hc1 hk1 hs1 b1 hT6 hx6 hbw6;go_wp2;go_ret;exact⟨rfl,HFIN.out⟩
end
end Go.Proofs.YtedgnlgjmnccgabGreatDoor
