/-
  A part of the texts that the proof uses.
-/
import Derived.Test.YtedgnlgjmnccgabGreatDoorPartB
import Derived.Test.YtedgnlgjmnccgabGreatDoorRows
import Derived.Deep.Slices
import Derived.Deep.Strs
import Derived.ChangeSame
import Derived.OpenShut
import Derived.Test.YtedgnlgjmnccgabGreatDoorPartC
import Derived.Test.YtedgnlgjmnccgabGreatDoorPartD
import Derived.Deep.LoopGhost
import Derived.Test.YtedgnlgjmnccgabGreatDoorPartF
import Derived.Deep.Cut
import Derived.Test.YtedgnlgjmnccgabGreatDoorPartA
import Derived.Maps.OwnOps
set_option maxRecDepth 100000
set_option maxHeartbeats 40000000
set_option linter.unusedVariables false
namespace Go.Proofs.YtedgnlgjmnccgabGreatDoor
section
open Go.RowKit Go.Deep Go.ChangeShapes Go.WideShapes
def Jn8 (p:Pt):Prop:=-9223372036854775808<=p.keep/\p.keep<9223372036854775808/\-9223372036854775808<=p.drop/\p.drop<9223372036854775808
theorem Jrv{H:Type}{d:DataW H}{l:List (DataW H)}(h:d∈l):Rows.uptoBulk d<=Rows.uptoBulkAll l:=by
 induction l with
 | nil=>cases h
 | cons x r ih =>
  simp only[Rows.uptoBulkAll]
  rcases List.mem_cons.1 h with e|e
  . subst e;omega
  . have:=ih e;omega
theorem JlV:Tryz.prog.cellsOf 50=3:=by kernel_rfl
theorem Jnl:Tryz.prog.cellsOf 3=1:=by kernel_rfl
theorem Jnk:Tryz.prog.cellsOf 9=1:=by kernel_rfl
theorem Jqw{H:Type}{enc:TypeId×Value->H}{W:World}{base:Nat}{sp:Nat->Bool}{held:Bool}{n:Nat}{a:Addr}{cs:List Value}{y:DataW H×List MemPlace}
    (h1:W.cells? base a 3=some cs) (h2:DataW.trod enc Tryz.prog W base sp held n 50 cs=some y) :
    ∃ q:Pt,a.spot=none/\W.cell? ⟨a.block,a.off,none⟩=some (.int .i64 q.keep)/\W.cell? ⟨a.block,a.off+1,none⟩=some (.int .i64 q.drop)/\W.cell? ⟨a.block,a.off+2,none⟩=some (.string ⟨q.put.toArray⟩)/\Jn8 q/\q.put.length<=maxLen /\
     y.1=.agg [.lit (.int .i64 q.keep),.lit (.int .i64 q.drop),.lit (.string q.put)]:=by
 obtain⟨_,hlen,hcell⟩:=World.cells?_some h1;obtain⟨y0,y1,y2,m,rfl,_,t0,t1,t2⟩:=trod_struct3 Tryz.underlying50 h2;rw[Jnl]at t0 t1;rw[Jnk]at t2
 match cs,hlen with
 | [c0,c1,c2],_ =>
  simp only[List.drop_zero,List.take_succ_cons,List.take_zero,List.drop_succ_cons]at t0 t1 t2;obtain⟨K,e0,rfl,w0⟩:=DataW.trod_int Tryz.underlying3 t0;obtain⟨D,e1,rfl,w1⟩:=DataW.trod_int Tryz.underlying3 t1;obtain⟨s,e2,rfl,w2⟩:=DataW.trod_string Tryz.underlying9 t2;simp only[List.cons.injEq,and_true]at e0 e1 e2;subst e0 e1 e2;obtain⟨b,o,spot⟩:=a;have k0:=hcell 0 (by omega);have k1:=hcell 1 (by omega);have k2:=hcell 2 (by omega);have hspot:spot=none:=by simpa[Addr.add] using World.cell?_spot (show W.cell? ((⟨b,o,spot⟩:Addr).add 0)=some (.int .i64 K) from k0)
  subst hspot;rw[Addr.add_lit]at k0 k1 k2;have hw0:=bounds_i64 w0;have hw1:=bounds_i64 w1;have es:(ByteArray.mk s.data.toList.toArray)=s:=by cases s;simp
  refine⟨⟨K,D,s.data.toList⟩,rfl,k0,k1,by rw[es];exact k2,⟨hw0.1,by show K<_;omega,hw1.1,by show D<_;omega⟩,?_,rfl⟩;rw[Lib.size_eq]at w2;exact w2
theorem open_op{H:Type}{enc:TypeId×Value->H}{W:World}{base:Nat}{sp:Nat->Bool}{held:Bool}{fuel:Nat}{v:Value}{x:DataW H×List MemPlace}
    (h:DataW.trod enc Tryz.prog W base sp held fuel 23 [v]=some x) :
    ∃ps,opAt W v ps/\(∀p∈ps,Jn8 p/\p.put.length<=maxLen)/\(∀p∈ps,p.put.length<=Rows.uptoBulk x.1)/\ps.length<=maxLen:=by
 rcases open_slice Tryz.underlying23 h with ⟨hcs,_⟩|⟨a,len,cap,m,n,D,Pl,hcs,hb,hl,hm,hmm,rfl,hx⟩
 . simp only[List.cons.injEq,and_true]at hcs
   subst hcs;exact⟨[],⟨none,0,rfl,nlr _,Nat.zero_le _,fun h=>absurd rfl h⟩,by simp,by simp,Nat.zero_le _⟩
 . simp only [List.cons.injEq,and_true]at hcs
   subst hcs;have hlm:len<=m:=by rw[hmm];split<;>omega
   haveI:Inhabited Pt:=⟨⟨0,0,[]⟩⟩
   obtain ⟨f,hf⟩:=choose_lt (α:=Pt) (n:=len) (p:=fun i q=>(a.add (i*3)).spot=none/\W.cell? ⟨(a.add (i*3)).block,(a.add (i*3)).off,none⟩=some (.int .i64 q.keep)/\W.cell? ⟨(a.add (i*3)).block,(a.add (i*3)).off+1,none⟩=some (.int .i64 q.drop)/\W.cell? ⟨(a.add (i*3)).block,(a.add (i*3)).off+2,none⟩=some (.string ⟨q.put.toArray⟩)/\Jn8 q/\q.put.length<=maxLen /\
       D i=.agg [.lit (.int .i64 q.keep),.lit (.int .i64 q.drop),.lit (.string q.put)]) (fun i hi=>by
    obtain⟨cs,h1,h2⟩:=hx i (by omega);rw[JlV]at h1;obtain⟨q,hq⟩:=Jqw h1 h2
    exact⟨q,hq⟩)
   have hlen:((List.range len).map f).length=len:=by simp
   refine⟨(List.range len).map f,⟨some a,cap,by rw[hlen],by rw[hlen];exact hl,hm,fun hne=>?_⟩,?_,?_,by rw[hlen];omega⟩
   . have hpos:0<len:=by
       cases len with
       | zero=>exact absurd rfl hne
       | succ n=>exact Nat.succ_pos n
     obtain⟨b,o,spot⟩:=a;have hs0:=(hf 0 hpos).1;have hspot:spot=none:=by simpa[Addr.add] using hs0
     subst hspot;refine⟨b,o,rfl,?_,fun i q hi=>?_⟩
     . have:=blt W _ (hf 0 hpos).2.1
       rw[Addr.add_lit]at this;exact this
     . have hil:i<len:=by have:=(llt hi);rw[hlen]at this;exact this
       have e:q=f i:=by
        rw[List.getElem?_map,List.getElem?_range hil]at hi;exact(osi hi).symm
       subst e;obtain⟨_,k0,k1,k2,_⟩:=hf i hil;rw[Addr.add_lit]at k0 k1 k2;exact⟨k0,k1,k2⟩
   . intro p hp
     obtain⟨i,hi,rfl⟩:=List.mem_map.1 hp;have:=hf i (List.mem_range.1 hi);exact⟨this.2.2.2.2.1,this.2.2.2.2.2.1⟩
   . intro p hp
     obtain⟨i,hi,rfl⟩:=List.mem_map.1 hp;have hd:=(hf i (List.mem_range.1 hi)).2.2.2.2.2.2;have h1:Rows.uptoBulk (D i)<=Rows.uptoBulkAll ((List.range len).map D):=Jrv (List.mem_map.2 ⟨i,hi,rfl⟩);rw[hd]at h1;simp only[Rows.uptoBulk,Rows.uptoBulkAll]at h1 ⊢;omega
def JpX (q:List Pt):Prop:=∀p∈q,p.put.length<=300->wfP p
theorem Jpn:Tryz.prog.cellsOf 23=1:=by kernel_rfl
theorem JrP{q:List Pt}(h:∀p∈q,Jn8 p/\p.put.length<=maxLen):JpX q:=fun p hp hs=>by
 obtain⟨⟨r1,r2,r3,r4⟩,_⟩:=h p hp;exact⟨r1,r2,r3,r4,by omega⟩
end
section
open Go.RowKit
attribute [local go_sem] Oper.semAt_some
def Jga:List Pt->List UInt8->Bool
 | [],_=>false
 | p :: ps,s=>Jbg s || Jbg (s.drop (lenP p).toNat) || Jga ps (s.drop (lenP p).toNat)
theorem Jmd(ps:List Pt)(s:List UInt8)(hl:Jdw ps s=[])(h:Jbg s=true):badO ps s=true:=by
 induction ps generalizing s with
 | nil =>
  have:s=[]:=hl;rw[this]at h
  cases h
 | cons p ps ih =>
  rw[badO,Bool.or_eq_true]
  cases hn:(lenP p).toNat with
  | zero =>
   refine .inr ?_;have hl':Jdw ps (s.drop (lenP p).toNat)=[]:=hl;rw[hn]at hl';exact ih _ hl' h
  | succ m =>
   refine .inl ?_
   cases s with
   | nil=>cases h
   | cons b l=>exact h
theorem Jqh(ps:List Pt)(s:List UInt8)(hl:Jdw ps s=[]):Jga ps s=badO ps s:=by
 induction ps generalizing s with
 | nil=>rfl
 | cons p ps ih =>
  have hl':Jdw ps (s.drop (lenP p).toNat)=[]:=hl;have e:=ih _ hl';rw[Bool.eq_iff_iff];constructor
  . intro h
    rw[Jga,Bool.or_eq_true,Bool.or_eq_true]at h
    rcases h with (h|h) | h
    . exact Jmd (p :: ps) s hl h
    . rw[badO,Bool.or_eq_true];exact .inr (Jmd ps _ hl' h)
    . rw[badO,Bool.or_eq_true];rw[e]at h;exact .inr h
  . intro h
    rw[badO,Bool.or_eq_true]at h;rw[Jga,Bool.or_eq_true,Bool.or_eq_true]
    rcases h with h|h
    . refine .inl (.inl ?_)
      cases s with
      | nil=>simp[Jbg]at h
      | cons b l =>
       cases hn:(lenP p).toNat with
       | zero=>rw[hn]at h;cases h
       | succ m=>rw[hn]at h;exact h
    . rw[←e]at h;exact .inr h
theorem JpW(b:UInt8):JfU b=(decide ((b.toNat:Int)<128) || decide (192<=(b.toNat:Int))):=by
 have hb:=b.toNat_lt;unfold JfU Lib.runeStart;rw[Bool.eq_iff_iff];simp only[bne_iff_ne,ne_eq,Bool.or_eq_true,decide_eq_true_eq];omega
theorem Js8(s:List UInt8)(w:World)(hs:s.length<1000000000) :
    Calls Tryz.prog 111 #[.string ⟨s.toArray⟩,.int .i64 s.length] w fun e w'=>e=.returned (.bool true)/\w'=w:=by
 have hz:=Jfn s
 go_enter Tryz.func111,Tryz.ntmps111
 go_wp2;go_ret;exact⟨rfl,rfl⟩
theorem Js7(s:List UInt8)(k:Nat)(w:World)(hs:s.length<1000000000)(hk:k<s.length) :
    Calls Tryz.prog 111 #[.string ⟨s.toArray⟩,.int .i64 k] w fun e w'=>e=.returned (.bool (!Jbg (s.drop k)))/\w'=w:=by
 have hz:=Jfn s;have hd:s.drop k=s[k] :: s.drop (k+1):=List.drop_eq_getElem_cons hk;have hb:Jbg (s.drop k) = !JfU s[k]:=by rw[hd];rfl
 rw[JpW]at hb;obtain⟨R,hR⟩:∃R,(!Jbg (s.drop k))=R:=⟨_,rfl⟩;have HB:Hid (R=(decide ((s[k].toNat:Int)<128) || decide (192<=(s[k].toNat:Int)))):=by
  show R=_;rw[←hR,hb,Bool.not_not]
 rw[hR];clear hd hb hR
 go_enter Tryz.func111,Tryz.ntmps111
 go_wp2
 all_goals go_ret
 all_goals refine⟨?_,rfl⟩
 all_goals rw[HB.out]
 all_goals have hne:((k:Int)==(s.length:Int))=false:=beq_eq_false_iff_ne.2 (by omega)
 all_goals first
  | (rw[hne,Bool.false_or];rfl)
  | (rename_i h;have h':(s[k].toNat:Int)<128:=h;rw[decide_eq_true h'];rfl)
theorem Job(s:List UInt8)(k:Nat)(w:World)(hs:s.length<1000000000)(hk:k<=s.length) :
    Calls Tryz.prog 111 #[.string ⟨s.toArray⟩,.int .i64 k] w fun e w'=>e=.returned (.bool (!Jbg (s.drop k)))/\w'=w:=by
 rcases Nat.lt_or_ge k s.length with h|h
 . exact Js7 s k w hs h
 . obtain rfl:k=s.length:=Nat.le_antisymm hk h
   rw[List.drop_length];exact Js8 s w hs
def atP (ps:List Pt):Nat:=(ps.map fun p=>(lenP p).toNat).sum
theorem Jsi(ps:List Pt)(s:List UInt8):Jdw ps s=s.drop (atP ps):=by
 induction ps generalizing s with
 | nil=>rfl
 | cons p ps ih =>
  show Jdw ps (s.drop (lenP p).toNat)=_;rw[ih,List.drop_drop];simp[atP]
theorem Jry(ps:List Pt)(p:Pt):atP (ps++[p])=atP ps+(lenP p).toNat:=by simp[atP]
theorem JqU(ps:List Pt)(s:List UInt8)(h:Jki ps s)(k:Nat):atP (ps.take k)<=s.length:=by
 induction ps generalizing s k with
 | nil=>simp[atP]
 | cons p ps ih =>
  obtain⟨h1,h2,h3,h4⟩:=h
  cases k with
  | zero=>simp[atP]
  | succ k =>
   have:=ih _ h4 k;rw[List.length_drop]at this;show atP (p :: ps.take k)<=_;unfold atP at this ⊢;simp only[List.map_cons,List.sum_cons];omega
theorem Jqi(ps:List Pt)(s:List UInt8)(k:Nat)(hk:k<ps.length):Jga (ps.drop k) (s.drop (atP (ps.take k)))=(Jbg (s.drop (atP (ps.take k))) || Jbg (s.drop (atP (ps.take (k+1)))) || Jga (ps.drop (k+1)) (s.drop (atP (ps.take (k+1))))):=by
 rw[List.drop_eq_getElem_cons hk,Jga,List.drop_drop,←Jry,←List.take_succ_eq_append_getElem hk]
theorem Jnq(ps:List Pt)(s:List UInt8)(k:Nat)(hk:k<ps.length):Jaa (ps.take (k+1)) s=Jaa (ps.take k) s++JcN (ps[k],(s.drop (atP (ps.take k))).take (lenP ps[k]).toNat):=by
 unfold Jaa;rw[List.take_succ_eq_append_getElem hk,Jfs,List.flatMap_append,Jsi];simp[pcs]
theorem Jsg(s:List UInt8)(a:Nat)(p:Pt)(h0:0<=p.keep)(h1:0<=p.drop)(h2:p.keep=0\/p.drop=0):JcN (p,(s.drop a).take (lenP p).toNat)=(s.drop a).take p.keep.toNat++p.put:=by
 unfold JcN lenP
 rcases Int.lt_or_le 0 p.keep with h|h
 . rw[if_pos h]
   have:p.drop=0:=by omega
   simp[this]
 . have:p.keep=0:=by omega
   simp[this]
theorem Jpy{ps:List Pt}{s:List UInt8}(h:Jki ps s)(k:Nat):(Jaa (ps.take k) s).length<=s.length+Jal ps:=by
 have e:pcs ps s=pcs (ps.take k) s++pcs (ps.drop k) (Jdw (ps.take k) s):=by
  conv=>lhs;rw[←List.take_append_drop k ps]
  rw[Jfs]
 exact JnO h e
theorem cat3(a u:List UInt8)(X:ByteArray)(x:List UInt8)(h:X.data.toList=x):ByteArray.mk a.toArray++(X++ByteArray.mk u.toArray)=ByteArray.mk (a++(x++u)).toArray:=by
 subst h;apply ByteArray.ext;simp[ByteArray.data_append]
theorem cut_mid(l:List UInt8)(a n:Nat):((ByteArray.mk l.toArray).extract a (a+n)).data.toList=(l.drop a).take n:=by
 rw[Lib.extract_data];simp
theorem Jlh(v:Value)(ps:List Pt)(s:List UInt8)(w:World)(hr:opAt w v ps)(hwf:∀p∈ps,wfP p)(hsm:∀p∈ps,p.put.length<100000000)(hs:s.length<1000000000)(hl:ps.length<10000000)(he:chkE ps (s.length:Int)≠0) :
    Calls Tryz.prog 32 #[v,.string ⟨s.toArray⟩] w fun e w'=>e=.returned (.tuple #[.string ⟨#[]⟩,.int .i64 (chkE ps (s.length:Int))])/\Below w.heap.size w w':=by
 have cC:Hid _:=Jc9 v ps (s.length:Int) w hr hwf hsm (by omega) hl;have hz:=Jfn s;obtain⟨E,hE⟩:∃E,chkE ps (s.length:Int)=E:=⟨_,rfl⟩;rw[hE]at cC he ⊢;obtain⟨p,c,rfl,_⟩:=hr;clear hwf hsm hE
 go_enter Tryz.func32,Tryz.ntmps32
 go_wp2_with (go_at_call 86;refine Calls.mono cC.out ?_;rintro e w1 ⟨rfl,hb1⟩)
 go_ret2
 exact⟨rfl,hb1⟩
theorem JjQ(v:Value)(ps:List Pt)(s:List UInt8)(w:World)(hr:opAt w v ps)(hwf:∀p∈ps,wfP p)(hsm:∀p∈ps,p.put.length<100000000)(hs:s.length<100000000)(hl:ps.length<10000000)(hpu:Jal ps<100000000)(he:chkE ps (s.length:Int)=0) :
    Calls Tryz.prog 32 #[v,.string ⟨s.toArray⟩] w fun e w'=>e=.returned (.tuple #[.string ⟨(if badO ps s then [] else Jaa ps s).toArray⟩,.int .i64 (if badO ps s then 10 else 0)])/\Below w.heap.size w w':=by
 have cC:Hid _:=Jc9 v ps (s.length:Int) w hr hwf hsm (by omega) hl;have hz:=Jfn s;rw[he]at cC;obtain⟨hfit,hleft⟩:=Jis he
 have hones:∀p∈ps,Jbc p/\(p.keep=0\/p.drop=0):=by
  unfold chkE at he
  split at he
  . rename_i h1
    exact fun p hp=>Jce (Jey h1 p hp).1
  . rename_i h1;exact absurd he h1
 have HB:=hdz (Jqh ps s hleft);have HF:=hdz hfit;have HO:=hdz hones;have HSL:Hid (s.length<1000000000):=(by show _<_;omega);have HSM:=hdz hsm;have HPU:=hdz hpu;obtain⟨p,c,rfl,r1,r2,r3⟩:=hr;obtain⟨n,hn⟩:∃n,n=ps.length:=⟨_,rfl⟩;obtain⟨RS,hRS⟩:∃RS,RS=ByteArray.mk (if badO ps s=true then ([]:List UInt8) else Jaa ps s).toArray:=⟨_,rfl⟩;obtain⟨RE,hRE⟩:∃RE:Int,RE=if badO ps s=true then 10 else 0:=⟨_,rfl⟩
 have HRS:=hdz hRS;have HRE:=hdz hRE;rw[←hRS,←hRE];have HN:=hdz hn;rw[←hn]at r1 hl cC ⊢
 have R3:Hid (ps≠[]->∃b o,p=some ⟨b,o,none⟩/\b<w.heap.size/\∀i q,ps[i]?=some q ->
  w.cell? ⟨b,o+i*3,none⟩=some (.int .i64 q.keep)/\w.cell? ⟨b,o+i*3+1,none⟩=some (.int .i64 q.drop)/\w.cell? ⟨b,o+i*3+2,none⟩=some (.string ⟨q.put.toArray⟩)):=r3
 clear r3 hwf hsm hpu hfit hleft he hones hn hRS hRE
 go_enter Tryz.func32,Tryz.ntmps32
 go_wp2_with (go_at_call 86;refine Calls.mono cC.out ?_;rintro e w1 ⟨rfl,hb1⟩)
 go_loopw [7,8,20] (fun x y i wr=>∃(k:Nat),k<=n/\i=.int .i64 k/\y=.int .i64 (atP (ps.take k):Nat)/\x=.string ⟨(Jaa (ps.take k) s).toArray⟩/\Jga ps s=Jga (ps.drop k) (s.drop (atP (ps.take k)))/\Below w.heap.size w wr) (fun _ _ i _=>n - (intOf i).toNat)
 case atStart=>exact⟨0,Nat.zero_le _,rfl,rfl,rfl,rfl,hb1⟩
 case round =>
  obtain⟨k,hk,rfl,rfl,rfl,hbd,hwr⟩:=hrel
  by_cases hlt:k<n
  . have hkr:k<ps.length:=by rw[←HN.out];exact hlt
    have hne:ps≠[]:=by intro e;rw[e]at hkr;exact absurd hkr (Nat.not_lt_zero _)
    obtain⟨b,o,rfl,hbw,hcell⟩:=R3.out hne;obtain⟨c0,c1,c2⟩:=hcell k ps[k] (lgg hkr);have g0:=(hwr.cell (p:=⟨b,o+k*3,none⟩) hbw).trans c0;have g1:=(hwr.cell (p:=⟨b,o+k*3+1,none⟩) hbw).trans c1;have g2:=(hwr.cell (p:=⟨b,o+k*3+2,none⟩) hbw).trans c2;obtain⟨⟨s0,s1⟩,s2⟩:=HO.out ps[k] (List.getElem_mem _);have hA0:=JqU ps s HF.out k;have hA1:=JqU ps s HF.out (k+1);have ha:atP (ps.take (k+1))=atP (ps.take k)+(lenP ps[k]).toNat:=by rw[List.take_succ_eq_append_getElem hkr,Jry]
    have hap:=Jnq ps s k hkr;rw[Jsg s _ _ s0 s1 s2]at hap;rw[Jqi ps s k hkr]at hbd;have hU:=HSM.out ps[k] (List.getElem_mem _);have hOl:=Jpy HF.out k;have hpu:=HPU.out;generalize ps[k]=q at g0 g1 g2 s0 s1 s2 ha hap hU;obtain⟨K,D,U⟩:=q;simp only[lenP]at s0 s1 s2 ha hap g0 g1 g2 hU;have hzU:=Jfn U;obtain⟨A,hA⟩:∃A,A=atP (ps.take k):=⟨_,rfl⟩;obtain⟨A1,hA1'⟩:∃A1,A1=atP (ps.take (k+1)):=⟨_,rfl⟩;obtain⟨O,hO⟩:∃O,O=ByteArray.mk (Jaa (ps.take k) s).toArray:=⟨_,rfl⟩;have HOO:=hdz hO;rw[←hA,←hO];rw[←hA]at hA0 ha hap hbd;rw[←hA1']at hA1 ha hbd;have hi:(A1:Int)=(A:Int)+K+D:=by omega
    have HI:Hid (((atP (ps.take (k+1)):Nat):Int)=(A:Int)+K+D):=by show _=_;rw[←hA1'];exact hi
    have hK:(A:Int)+K+D<=s.length:=by omega
    obtain⟨B0,hB0⟩:∃B0,B0=Jbg (s.drop A):=⟨_,rfl⟩;obtain⟨B1,hB1⟩:∃B1,B1=Jbg (s.drop A1):=⟨_,rfl⟩;rw[←hB0,←hB1]at hbd;have cE0:Hid (∀wx,Calls Tryz.prog 111 #[.string ⟨s.toArray⟩,.int .i64 A] wx fun e w'=>e=.returned (.bool (!B0))/\w'=wx):=fun wx=>by rw[hB0];exact Job s A wx HSL.out hA0
    have cE1:Hid (∀wx,Calls Tryz.prog 111 #[.string ⟨s.toArray⟩,.int .i64 ((A:Int)+K+D)] wx fun e w'=>e=.returned (.bool (!B1))/\w'=wx):=fun wx=>by rw[hB1,←hi];exact Job s A1 wx HSL.out hA1
    have HA:=hdz hap;have HBD:=hdz hbd;have HA1:=hdz hA1';clear hcell c0 c1 c2 ha hap hbd hi hO hA hA1' hB0 hB1 hA1;have HWR:=hdz hwr;have hsize:=hwr.size;have hOs:O.size<=200000000:=by rw[HOO.out,Jfn];omega
    obtain⟨X,hX⟩:∃X,(ByteArray.mk s.toArray).extract A ((A:Int)+K).toNat=X:=⟨_,rfl⟩;have hk2:((A:Int)+K).toNat=A+K.toNat:=by omega
    have HXL:Hid (X.data.toList=(s.drop A).take K.toNat):=by show _=_;rw[←hX,hk2];exact cut_mid s A K.toNat
    have hXs:X.size<=100000000:=by
     have e:X.size=X.data.toList.length:=Array.length_toList.symm;rw[e,HXL.out,List.length_take,List.length_drop];omega
    have hcat:X.size+(ByteArray.mk U.toArray).size<=200000000:=by rw[hzU];omega
    have hcat2:O.size+(X.size+(ByteArray.mk U.toArray).size)<=400000000:=by omega
    clear hk2 hOl hpu
    cases B0 with
    | true =>
     have HT:Hid (badO ps s=true):=by show _=true;rw[←HB.out,HBD.out];rfl
     go_wp2_with (go_at_call 111;refine(cE0.out _).mono ?_;rintro e w2 ⟨rfl,rfl⟩)
     go_ret2
     exact⟨by rw[HRE.out,HRS.out,if_pos HT.out,if_pos HT.out];rfl,HWR.out.alloc hsize _⟩
    | false =>
    cases B1 with
    | true =>
     have HT:Hid (badO ps s=true):=by show _=true;rw[←HB.out,HBD.out];rfl
     go_wp2_with (first | (have _:=hfirst;go_at_call 111;refine(cE1.out _).mono ?_;rintro e w3 ⟨rfl,rfl⟩) | (go_at_call 111;refine(cE0.out _).mono ?_;rintro e w2 ⟨rfl,rfl⟩;have hfirst:=trivial))
     go_ret2
     exact⟨by rw[HRE.out,HRS.out,if_pos HT.out,if_pos HT.out];rfl,HWR.out.alloc hsize _⟩
    | false =>
     go_wp2_with (first | (have _:=hfirst;go_at_call 111;refine(cE1.out _).mono ?_;rintro e w3 ⟨rfl,rfl⟩) | (go_at_call 111;refine(cE0.out _).mono ?_;rintro e w2 ⟨rfl,rfl⟩;have hfirst:=trivial))
     go_region
     all_goals
      go_wp2
      go_roundw
      case rel=>exact⟨k+1,by omega,by go_num,by rw[HI.out,Int.add_assoc],by rw[HA.out,HOO.out,cat3 _ _ _ _ HXL.out],by rw[HBD.out,←HA1.out];rfl,(HWR.out.alloc hsize _).drew⟩
      case measure=>simp[intOf];omega
  . have e:ps.take k=ps:=List.take_of_length_le (by rw[←HN.out];omega)
    have e':ps.drop k=[]:=List.drop_eq_nil_of_le (by rw[←HN.out];omega);rw[e,e']at hbd;rw[e];have HT:Hid (badO ps s=false):=by show _=false;rw[←HB.out,hbd];rfl
    obtain⟨O,hO⟩:∃O,O=ByteArray.mk (Jaa ps s).toArray:=⟨_,rfl⟩;have HOO:=hdz hO;rw[←hO];clear e e' hbd hO;go_wp2
    go_ret2
    exact⟨by rw[HRE.out,HRS.out,HT.out,HOO.out];rfl,hwr⟩
theorem Jbd(v:Value)(ps:List Pt)(s:List UInt8)(w:World)(hr:opAt w v ps)(hwf:∀p∈ps,wfP p)(hsm:∀p∈ps,p.put.length<100000000)(hs:s.length<100000000)(hl:ps.length<10000000)(hpu:Jal ps<100000000) :
    Calls Tryz.prog 32 #[v,.string ⟨s.toArray⟩] w fun e w'=>e=.returned (.tuple #[.string ⟨(if ordE ps s=0 then Jaa ps s else []).toArray⟩,.int .i64 (ordE ps s)])/\Below w.heap.size w w':=by
 unfold ordE
 by_cases he:chkE ps (s.length:Int)=0
 . rw[if_pos he]
   have:=JjQ v ps s w hr hwf hsm hs hl hpu he
   cases hb:badO ps s<;>simp only[hb]at this<;>simpa using this
 . rw[if_neg he,if_neg he]
   exact Jlh v ps s w hr hwf hsm (by omega) hl he
variable {w : World}{a : Nat}{l : List Pt}
structure outAt (w:World) (a:Nat) (l:List Pt):Prop where
 out:∃p c,w.cell? ⟨a,0,none⟩=some (.slice p l.length c)/\w.ownsRow (a+1) 50 3 (.slice p l.length c) l.length (JaD l)
 outF:w.frozen? ⟨a,0,none⟩=false
theorem Jge(h:outAt w a l):a<w.heap.size:=by obtain⟨⟨p,c,h1,_⟩,_⟩:=h;exact blt w _ h1
theorem Jfu{w1:World}{p:Option Addr}{c:Nat}{o:Obj}{v':Value}{q:Pt}(h:outAt w a l)(hc:w.cell? ⟨a,0,none⟩=some (.slice p l.length c))
    (hown1:w1.ownsRow (a+1) 50 3 v' (l.length+1) (JaD l++Ja6 q)) (hg:(w.alloc o).grownBy w1 (Value.slice p l.length c).ownBlock) :
    outAt (w1.setCell ⟨a,0,none⟩ v') a (l++[q])/\Below a w (w1.setCell ⟨a,0,none⟩ v')/\w1.cell? ⟨a,0,none⟩=some (.slice p l.length c)/\w1.frozen? ⟨a,0,none⟩=false:=by
 have hlt:=Jge h;obtain⟨⟨p1,c1,h1,h2⟩,h3⟩:=h;rw[hc]at h1;simp only[Option.some.injEq,Value.slice.injEq,true_and]at h1;obtain⟨rfl,rfl⟩:=h1;have hrow:∀k,(Value.slice p l.length c).ownBlock=some k->a+1<=k:=fun k hk=>(h2.lt k hk).1;have hb1:Below (a+1) w w1:=((brf (a+1) w).alloc (by omega) o).grown hg (by rw[wsa];omega) hrow;have hc1:w1.cell? ⟨a,0,none⟩=some (.slice p l.length c):=by rw[hb1.cell (p:=⟨a,0,none⟩) (by show a<_;omega)];exact hc
 have hf1:w1.frozen? ⟨a,0,none⟩=false:=by rw[hb1.frozen (p:=⟨a,0,none⟩) (by show a<_;omega)];exact h3
 obtain⟨pv,cv,rfl⟩:=Jae hown1;refine⟨⟨⟨pv,cv,?_,?_⟩,?_⟩,(hb1.mono (show a<=a+1 by omega)).setCell (nlr _) _,hc1,hf1⟩
 . show _=some (Value.slice pv (l++[q]).length cv)
   rw[List.length_append];exact World.cell?_setCell_same _ _ _ hc1
 . show World.ownsRow _ _ _ _ (.slice pv (l++[q]).length cv) (l++[q]).length (JaD (l++[q]))
   rw[List.length_append,Jb3];exact JcI hown1 (by omega) _
 . rw[World.frozen?_setCell];exact hf1
def JbU (k:Int):List Pt:=if 0<k then [⟨k,0,[]⟩] else []
def putO (u:List UInt8):List Pt:=if u≠[] then [⟨0,0,u⟩] else []
theorem Jer(a:Nat)(l:List Pt)(k:Int)(w:World)(h:outAt w a l)(hlen:l.length<1000000000) :
    Calls Tryz.prog 189 #[.int .i64 k,.pointer (some ⟨a,0,none⟩)] w fun e w'=>(∃v,e=.returned v)/\outAt w' a (l++JbU k)/\Below a w w':=by
 obtain⟨i0,hi,hz0,hz1,hz2⟩:=info_parts Jbf;have hlt:=Jge h;have H0:=hdz h;obtain⟨⟨p,c,h1,h2⟩,h3⟩:=h;have HO:=hdz h2;have HC:=hdz h1;clear h2
 by_cases hk:0<k
 . have hkO:JbU k=[⟨k,0,[]⟩]:=if_pos hk
   rw[hkO];clear hkO
   go_enter Tryz.func189,Tryz.ntmps189
   go_wp2_with (at_builtin;refine wpList_append_own _ rfl _ _ 23 rfl (a+1) 50 i0 (.agg #[.int .i64 0,.int .i64 0,.string ⟨#[]⟩]) 3 32 Tryz.underlying23 hi hz0 hz1 hz2 rfl (by decide) _ _ _ rfl (HO.out.alloc _) ⟨w.heap.size,0,none⟩ 1 1 (Ja6 ⟨k,0,[]⟩) rfl rfl (JaW _ _ _) (Ja4 _) (by unfold maxLen;omega) (by omega) (by first | omega | (simp;omega)) ?_)
   intro v1 w1 hown1 hg1 _;have P1:=Jfu (q:=⟨k,0,[]⟩) H0.out HC.out hown1 hg1;obtain⟨p1,q1,hv1⟩:=Jae hown1;rw[hv1]at P1 hown1 ⊢;obtain⟨G1,B1,r1,r2⟩:=P1;have HG1:=hdz G1;have HB1:=hdz B1;clear h1 h3 G1 B1 hown1 hg1 hv1;go_wp2;go_end0;exact⟨⟨_,rfl⟩,HG1.out,HB1.out⟩
 . have hkO:JbU k=[]:=if_neg hk
   rw[hkO,List.append_nil];clear hkO
   go_enter Tryz.func189,Tryz.ntmps189
   go_wp2;go_end0;exact⟨⟨_,rfl⟩,H0.out,.refl _ _⟩
theorem Jhx(a:Nat)(l:List Pt)(u:List UInt8)(w:World)(h:outAt w a l)(hlen:l.length<1000000000) :
    Calls Tryz.prog 190 #[.string ⟨u.toArray⟩,.pointer (some ⟨a,0,none⟩)] w fun e w'=>(∃v,e=.returned v)/\outAt w' a (l++putO u)/\Below a w w':=by
 obtain⟨i0,hi,hz0,hz1,hz2⟩:=info_parts Jbf;have hlt:=Jge h;have H0:=hdz h;obtain⟨⟨p,c,h1,h2⟩,h3⟩:=h;have HO:=hdz h2;have HC:=hdz h1;clear h2
 by_cases hk:u≠[]
 . have hkO:putO u=[⟨0,0,u⟩]:=if_pos hk
   have hpe:u.isEmpty=false:=by simpa using hk
   rw[hkO];clear hkO
   go_enter Tryz.func190,Tryz.ntmps190
   go_wp2_with (at_builtin;refine wpList_append_own _ rfl _ _ 23 rfl (a+1) 50 i0 (.agg #[.int .i64 0,.int .i64 0,.string ⟨#[]⟩]) 3 32 Tryz.underlying23 hi hz0 hz1 hz2 rfl (by decide) _ _ _ rfl (HO.out.alloc _) ⟨w.heap.size,0,none⟩ 1 1 (Ja6 ⟨0,0,u⟩) rfl rfl (JaW _ _ _) (Ja4 _) (by unfold maxLen;omega) (by omega) (by first | omega | (simp;omega)) ?_)
   intro v1 w1 hown1 hg1 _;have P1:=Jfu (q:=⟨0,0,u⟩) H0.out HC.out hown1 hg1;obtain⟨p1,q1,hv1⟩:=Jae hown1;rw[hv1]at P1 hown1 ⊢;obtain⟨G1,B1,r1,r2⟩:=P1;have HG1:=hdz G1;have HB1:=hdz B1;clear h1 h3 G1 B1 hown1 hg1 hv1;go_wp2;go_end0;exact⟨⟨_,rfl⟩,HG1.out,HB1.out⟩
 . have hkO:putO u=[]:=if_neg hk
   have hu:u=[]:=Classical.not_not.1 hk;subst hu;rw[hkO,List.append_nil];clear hkO hk
   go_enter Tryz.func190,Tryz.ntmps190
   go_wp2;go_end0;exact⟨⟨_,rfl⟩,H0.out,.refl _ _⟩
end
section
open Go.RowKit
attribute [local go_sem] Oper.semAt_some
def bothR (w:World) (v1 v2:Value) (EA EB:Int) (k:Nat) (i:Value) (wr:World):Prop :=
 ∃j:Nat,i=.int .i64 j/\j+k=2/\(1<=j->EA=0)/\(2<=j->EB=0)/\Below w.heap.size w wr/\wr.cell? ⟨w.heap.size,0,none⟩=some v1/\wr.cell? ⟨w.heap.size,1,none⟩=some v2
theorem JdK(v1 v2:Value)(a b:List Pt)(w:World)(h1:opAt w v1 a)(h2:opAt w v2 b)(w1:∀p∈a,wfP p)(w2:∀p∈b,wfP p)(s1:∀p∈a,p.put.length<100000000)(s2:∀p∈b,p.put.length<100000000)(l1:a.length<10000000)(l2:b.length<10000000) :
    Calls Tryz.prog 183 #[v1,v2] w fun e w'=>e=.returned (.int .i64 (JbG a b))/\Below w.heap.size w w':=by
 have cL1:Hid (∀wx,Below w.heap.size w wx->Calls Tryz.prog 184 #[v1] wx fun e w'=>e=.returned (.tuple #[.int .i64 (Jar a).1,.int .i64 (Jar a).2])/\Below wx.heap.size wx w'):=fun wx hb=>JbD v1 a wx (Ja3 h1 hb) l1;have cL2:Hid (∀wx,Below w.heap.size w wx->Calls Tryz.prog 184 #[v2] wx fun e w'=>e=.returned (.tuple #[.int .i64 (Jar b).1,.int .i64 (Jar b).2])/\Below wx.heap.size wx w'):=fun wx hb=>JbD v2 b wx (Ja3 h2 hb) l2;have cC1:Hid (∀wx,Below w.heap.size w wx->Calls Tryz.prog 86 #[v1,.int .i64 (Jar a).1] wx fun e w'=>e=.returned (.int .i64 (chkE a (Jar a).1))/\Below wx.heap.size wx w'):=fun wx hb=>Jc9 v1 a _ wx (Ja3 h1 hb) w1 s1 (JeH a) l1;have cC2:Hid (∀wx,Below w.heap.size w wx->Calls Tryz.prog 86 #[v2,.int .i64 (Jar b).1] wx fun e w'=>e=.returned (.int .i64 (chkE b (Jar b).1))/\Below wx.heap.size wx w'):=fun wx hb=>Jc9 v2 b _ wx (Ja3 h2 hb) w2 s2 (JeH b) l2;obtain⟨R,hR⟩:∃R,R=JbG a b:=⟨_,rfl⟩;rw[←hR];unfold JbG at hR;generalize chkE a (Jar a).1=EA at cC1 hR;generalize chkE b (Jar b).1=EB at cC2 hR;generalize (Jar a).1=A1 at cL1 cC1;generalize (Jar a).2=A2 at cL1;generalize (Jar b).1=B1 at cL2 cC2;generalize (Jar b).2=B2 at cL2;have HR:=hdz hR;obtain⟨p1,c1,rfl,_⟩:=h1;obtain⟨p2,c2,rfl,_⟩:=h2;clear w1 w2 s1 s2 hR
 go_enter Tryz.func183,Tryz.ntmps183
 go_wp2
 have hst:bothR w (.slice p1 a.length c1) (.slice p2 b.length c2) EA EB 2 (.int .i64 0) (w.alloc (.cells #[.slice p1 a.length c1,.slice p2 b.length c2] 23)) :=
  ⟨0,rfl,rfl,fun h=>absurd h (by omega),fun h=>absurd h (by omega),(brf _ w).alloc (nlr _) _,by simp[go_sem],by simp[go_sem]⟩
 have HST:=hdz hst;clear hst
 go_loopg [14] 2 (fun k i wr=>bothR w (.slice p1 a.length c1) (.slice p2 b.length c2) EA EB k i wr)
 case atStart=>exact HST.out
 case round =>
  obtain⟨j,rfl,hjk,hA,hB,hb,k0,k1⟩:=hrel;have HBW:=hdz hb;clear HST hb
  rcases Nat.lt_or_ge j 1 with hj|hj
  . obtain rfl:j=0:=by omega
    obtain rfl:gk=2:=by omega
    clear hA hB hjk hj
    by_cases he:EA=0
    . subst he
      go_wp2_with (first
       | (go_at_call 184;refine(cL1.out _ (by first|exact HBW.out|exact HBW.out.drew)).mono ?_;rintro e w2 ⟨rfl,hb2⟩;have HB2:Hid (Below w.heap.size w w2):=(by first|exact HBW.out.trans (hb2.mono HBW.out.size) | exact HBW.out.drew.trans (hb2.mono HBW.out.size));have K0:Hid (w2.cell? ⟨w.heap.size,0,none⟩=some (.slice p1 a.length c1)):=(hb2.cell (blt wr _ k0)).trans k0;have K1:Hid (w2.cell? ⟨w.heap.size,1,none⟩=some (.slice p2 b.length c2)):=(hb2.cell (blt wr _ k1)).trans k1;clear hb2)
       | (go_at_call 86;refine(cC1.out _ HB2.out).mono ?_;rintro e w3 ⟨rfl,hb3⟩))
      go_roundg 1
      case measure=>omega
      case rel=>exact⟨1,rfl,rfl,fun _=>rfl,fun h=>absurd h (by omega),HB2.out.trans (hb3.mono HB2.out.size),(hb3.cell (blt w2 _ K0.out)).trans K0.out,(hb3.cell (blt w2 _ K1.out)).trans K1.out⟩
    . have hRA:R=EA:=by rw[HR.out,if_neg he]
      subst hRA;clear HR
      go_wp2_with (first
       | (go_at_call 184;refine(cL1.out _ (by first|exact HBW.out|exact HBW.out.drew)).mono ?_;rintro e w2 ⟨rfl,hb2⟩;have HB2:Hid (Below w.heap.size w w2):=(by first|exact HBW.out.trans (hb2.mono HBW.out.size) | exact HBW.out.drew.trans (hb2.mono HBW.out.size));clear hb2)
       | (go_at_call 86;refine(cC1.out _ HB2.out).mono ?_;rintro e w3 ⟨rfl,hb3⟩))
      go_ret;exact⟨rfl,HB2.out.trans (hb3.mono HB2.out.size)⟩
  . have hA:=hA hj
    subst hA;have HR':Hid (R=EB):=by have:=HR.out;rwa[if_pos rfl]at this
    clear HR
    rcases Nat.lt_or_ge j 2 with hj2|hj2
    . obtain rfl:j=1:=by omega
      obtain rfl:gk=1:=by omega
      clear hB hjk hj hj2
      by_cases he:EB=0
      . subst he
        go_wp2_with (first
         | (go_at_call 184;refine(cL2.out _ (by first|exact HBW.out|exact HBW.out.drew)).mono ?_;rintro e w2 ⟨rfl,hb2⟩;have HB2:Hid (Below w.heap.size w w2):=(by first|exact HBW.out.trans (hb2.mono HBW.out.size) | exact HBW.out.drew.trans (hb2.mono HBW.out.size));have K0:Hid (w2.cell? ⟨w.heap.size,0,none⟩=some (.slice p1 a.length c1)):=(hb2.cell (blt wr _ k0)).trans k0;have K1:Hid (w2.cell? ⟨w.heap.size,1,none⟩=some (.slice p2 b.length c2)):=(hb2.cell (blt wr _ k1)).trans k1;clear hb2)
         | (go_at_call 86;refine(cC2.out _ HB2.out).mono ?_;rintro e w3 ⟨rfl,hb3⟩))
        go_roundg 0
        case measure=>omega
        case rel=>exact⟨2,rfl,rfl,fun _=>rfl,fun _=>rfl,HB2.out.trans (hb3.mono HB2.out.size),(hb3.cell (blt w2 _ K0.out)).trans K0.out,(hb3.cell (blt w2 _ K1.out)).trans K1.out⟩
      . have hRA:R=EB:=HR'.out
        subst hRA;clear HR'
        go_wp2_with (first
         | (go_at_call 184;refine(cL2.out _ (by first|exact HBW.out|exact HBW.out.drew)).mono ?_;rintro e w2 ⟨rfl,hb2⟩;have HB2:Hid (Below w.heap.size w w2):=(by first|exact HBW.out.trans (hb2.mono HBW.out.size) | exact HBW.out.drew.trans (hb2.mono HBW.out.size));clear hb2)
         | (go_at_call 86;refine(cC2.out _ HB2.out).mono ?_;rintro e w3 ⟨rfl,hb3⟩))
        go_ret;exact⟨rfl,HB2.out.trans (hb3.mono HB2.out.size)⟩
    . obtain rfl:j=2:=by omega
      have hB:=hB (by omega);have hRA:R=0:=by rw[HR'.out,hB]
      subst hRA;clear HR' hB hjk hj hj2;go_wp2;go_ret;exact⟨rfl,HBW.out⟩
variable {first : Bool}{x y : GSt}{q gx1 gx2 gy1 gy2 n : Nat}
def Jgc (first:Bool) (u v:List UInt8):List Pt:=if first then putO u++JbU v.length else JbU v.length++putO u
def Jg7 (e d:Bool):List Pt:=if e then [] else [Jf5 d]
def gapO (first:Bool) (z:(List UInt8×Bool)×(List UInt8×Bool)):List Pt:=Jgc first z.1.1 z.2.1++Jg7 z.2.2 z.1.2
def outJ (first:Bool) (x y:GSt) (j:Nat):List Pt:=((x.1.zip y.1).take j).flatMap (gapO first)++if x.1.length<j then Jgc first x.2 y.2 else []
theorem Jlq(u:List UInt8)(s:NSt):(putO u).foldl addP s=addP s ⟨0,0,u⟩:=by
 unfold putO
 split
 . rfl
 . rename_i h
   rw[Classical.not_not.1 h,Jb6];rfl
theorem Jjg(v:List UInt8)(s:NSt):(JbU v.length).foldl addP s=addP s ⟨v.length,0,[]⟩:=by
 unfold JbU
 split
 . rfl
 . rename_i h
   have:(v.length:Int)=0:=by omega
   rw[this,Jb6];rfl
theorem JiY(first:Bool)(u v:List UInt8)(s:NSt):(Jgc first u v).foldl addP s=(if first then [⟨0,0,u⟩,⟨v.length,0,[]⟩] else [⟨v.length,0,[]⟩,⟨0,0,u⟩]:List Pt).foldl addP s:=by
 unfold Jgc
 cases first
 . simp only[Bool.false_eq_true,if_false,List.foldl_append,Jlq,Jjg];rfl
 . simp only[if_true,List.foldl_append,Jlq,Jjg];rfl
theorem JnE(first:Bool):∀(x y:List (List UInt8×Bool))(xl yl:List UInt8)(s:NSt),x.length=y.length->((x.zip y).flatMap (gapO first)++Jgc first xl yl).foldl addP s=(docT first x xl y yl).foldl addP s
 | [],[],xl,yl,s,_=>by
  simp only[List.zip_nil_left,List.flatMap_nil,List.nil_append,JiY];rfl
 | [],_ :: _,_,_,_,h=>by simp at h
 | _ :: _,[],_,_,_,h=>by simp at h
 | (u,d) :: x,(v,e) :: y,xl,yl,s,h=>by
   have ih:=JnE first x y xl yl
   rw[List.zip_cons_cons,List.flatMap_cons,List.append_assoc,List.foldl_append,ih _ (by simpa using h),docT,List.foldl_append,List.foldl_append]
   congr 1
   unfold gapO Jg7;rw[List.foldl_append,JiY]
theorem Jlu(first:Bool)(u v:List UInt8):(Jgc first u v).length<=2:=by
 have h1:(putO u).length<=1:=by unfold putO;split<;>simp
 have h2:(JbU v.length).length<=1:=by unfold JbU;split<;>simp
 unfold Jgc
 split<;>(rw[List.length_append];omega)
theorem Js1(first:Bool)(z:(List UInt8×Bool)×(List UInt8×Bool)):(gapO first z).length<=3:=by
 have h1:=Jlu first z.1.1 z.2.1
 have h2:(Jg7 z.2.2 z.1.2).length<=1:=by unfold Jg7;split<;>simp
 unfold gapO;rw[List.length_append];omega
theorem JnH(first:Bool)(x y:GSt)(j:Nat):(outJ first x y j).length<=3*j+2:=by
 have key:∀(l:List ((List UInt8×Bool)×(List UInt8×Bool))),(l.flatMap (gapO first)).length<=3*l.length:=by
  intro l
  induction l with
  | nil=>simp
  | cons z l ih =>
   have:=Js1 first z
   rw[List.flatMap_cons,List.length_append,List.length_cons];omega
 have h1:=key ((x.1.zip y.1).take j);have h2:((x.1.zip y.1).take j).length<=j:=by rw[List.length_take];omega
 have h3:=Jlu first x.2 y.2
 unfold outJ;rw[List.length_append]
 split
 . omega
 . simp only[List.length_nil];omega
theorem Jlx{j:Nat}(hl:x.1.length=y.1.length)(hj:j<x.1.length){u v:List UInt8}{d e:Bool}(hx:x.1[j]?=some (u,d))(hy:y.1[j]?=some (v,e)):outJ first x y (j+1)=outJ first x y j++(Jgc first u v++Jg7 e d):=by
 have hz:(x.1.zip y.1)[j]?=some ((u,d),(v,e)):=by rw[List.getElem?_zip_eq_some];exact⟨hx,hy⟩
 unfold outJ;rw[if_neg (by omega),if_neg (by omega),List.append_nil,List.append_nil,List.take_add_one,hz,List.flatMap_append];simp[gapO]
theorem Jly(hl:x.1.length=y.1.length):outJ first x y (x.1.length+1)=outJ first x y x.1.length++Jgc first x.2 y.2:=by
 have hz:(x.1.zip y.1).length=x.1.length:=by rw[List.length_zip];omega
 unfold outJ;rw[if_pos (by omega),if_neg (by omega),List.append_nil,List.take_of_length_le (by omega),List.take_of_length_le (by omega)]
theorem Jsp(k:Nat):(∀p∈JbU k,Jbc p)/\wts (JbU k)=k:=by
 unfold JbU
 split
 . refine⟨fun p hp=>?_,by simp[wts,wtP]⟩
   obtain rfl:=List.mem_singleton.1 hp;exact⟨by simp,by simp⟩
 . exact⟨by simp,by simp[wts];omega⟩
theorem putO_ok(u:List UInt8):(∀p∈putO u,Jbc p)/\wts (putO u)=u.length:=by
 unfold putO
 split
 . refine⟨fun p hp=>?_,by simp[wts,wtP]⟩
   obtain rfl:=List.mem_singleton.1 hp;exact⟨by simp,by simp⟩
 . rename_i h
   rw[Classical.not_not.1 h];exact⟨by simp,by simp[wts]⟩
theorem Jd1(l m:List Pt):wts (l++m)=wts l+wts m:=by simp[wts]
theorem Jhz(first:Bool)(u v:List UInt8):(∀p∈Jgc first u v,Jbc p)/\wts (Jgc first u v)=u.length+v.length:=by
 obtain⟨h1,h2⟩:=Jsp v.length;obtain⟨h3,h4⟩:=putO_ok u;unfold Jgc
 split
 . refine⟨fun p hp=>?_,by rw[Jd1];omega⟩
   rcases List.mem_append.1 hp with hp|hp
   . exact h3 p hp
   . exact h1 p hp
 . refine⟨fun p hp=>?_,by rw[Jd1];omega⟩
   rcases List.mem_append.1 hp with hp|hp
   . exact h1 p hp
   . exact h3 p hp
theorem Jnw(e d:Bool):(∀p∈Jg7 e d,Jbc p)/\wts (Jg7 e d)<=1:=by
 cases e<;>cases d<;>simp[Jg7,Jf5,Jbc,wts,wtP]
theorem Jja(first:Bool)(x y:GSt)(j:Nat):∀p∈outJ first x y j,Jbc p:=by
 intro p hp;unfold outJ at hp
 rcases List.mem_append.1 hp with hp|hp
 . obtain⟨z,_,hp⟩:=List.mem_flatMap.1 hp
   unfold gapO at hp
   rcases List.mem_append.1 hp with hp|hp
   . exact(Jhz _ _ _).1 p hp
   . exact(Jnw _ _).1 p hp
 . split at hp
   . exact(Jhz _ _ _).1 p hp
   . cases hp
theorem JnF(first:Bool):∀(x y:List (List UInt8×Bool))(j:Nat),wts (((x.zip y).take j).flatMap (gapO first))<=JbZ x+JbZ y+j
 | [],y,j=>by simp[wts];omega
 | _ :: _,[],j=>by simp[wts];omega
 | (u,d) :: x,(v,e) :: y,0=>by simp[wts];omega
 | (u,d) :: x,(v,e) :: y,j+1=>by
   have ih:=JnF first x y j
   have h1:=(Jhz first u v).2;have h2:=(Jnw e d).2;have e1:JbZ ((u,d) :: x)=u.length+JbZ x:=by simp[JbZ]
   have e2:JbZ ((v,e) :: y)=v.length+JbZ y:=by simp[JbZ]
   rw[List.zip_cons_cons,List.take_succ_cons,List.flatMap_cons,Jd1,e1,e2];have h3:wts (gapO first ((u,d),(v,e)))=wts (Jgc first u v)+wts (Jg7 e d):=Jd1 _ _;omega
theorem JnG(first:Bool)(x y:GSt)(j:Nat):wts (outJ first x y j)<=JbZ x.1+x.2.length+(JbZ y.1+y.2.length)+j:=by
 have h1:=JnF first x.1 y.1 j
 have h2:=(Jhz first x.2 y.2).2;unfold outJ;rw[Jd1]
 split
 . omega
 . simp only[wts,List.map_nil,List.sum_nil]at h1 ⊢;omega
def trR (first:Bool) (x y:GSt) (n OB:Nat) (W0:World) (k:Nat) (i:Value) (wr:World):Prop:=∃j:Nat,i=.int .i64 j/\j+k=n+1/\outAt wr OB (outJ first x y j)/\Below OB W0 wr
structure gapsAt (W:World) (q gx1 gx2 gy1 gy2 n:Nat) (x y:GSt):Prop where
 a0:W.cell? ⟨q,0,none⟩=some (.slice (some ⟨gx1,0,none⟩) (n+1) (n+1))
 a1:W.cell? ⟨q,1,none⟩=some (.slice (some ⟨gx2,0,none⟩) n n)
 b0:W.cell? ⟨q+1,0,none⟩=some (.slice (some ⟨gy1,0,none⟩) (n+1) (n+1))
 b1:W.cell? ⟨q+1,1,none⟩=some (.slice (some ⟨gy2,0,none⟩) n n)
 x1:∀j u d,x.1[j]?=some (u,d)->W.cell? ⟨gx1,j,none⟩=some (.string ⟨u.toArray⟩)/\W.cell? ⟨gx2,j,none⟩=some (.bool d)
 y1:∀j u d,y.1[j]?=some (u,d)->W.cell? ⟨gy1,j,none⟩=some (.string ⟨u.toArray⟩)/\W.cell? ⟨gy2,j,none⟩=some (.bool d)
 x2:W.cell? ⟨gx1,n,none⟩=some (.string ⟨x.2.toArray⟩)
 y2:W.cell? ⟨gy1,n,none⟩=some (.string ⟨y.2.toArray⟩)
 lt:gx1<q/\gx2<q/\gy1<q/\gy2<q
theorem JaF{W W':World}(h:gapsAt W q gx1 gx2 gy1 gy2 n x y){B:Nat}(hb:Below B W W')(hB:q+2<=B):gapsAt W' q gx1 gx2 gy1 gy2 n x y:=by
 obtain⟨l1,l2,l3,l4⟩:=h.lt
 exact ⟨(hb.cell (p:=⟨q,0,none⟩) (by show q<B;omega)).trans h.a0,(hb.cell (p:=⟨q,1,none⟩) (by show q<B;omega)).trans h.a1,(hb.cell (p:=⟨q+1,0,none⟩) (by show q+1<B;omega)).trans h.b0,(hb.cell (p:=⟨q+1,1,none⟩) (by show q+1<B;omega)).trans h.b1,
  fun j u d hj=>⟨(hb.cell (p:=⟨gx1,j,none⟩) (by show gx1<B;omega)).trans (h.x1 j u d hj).1,(hb.cell (p:=⟨gx2,j,none⟩) (by show gx2<B;omega)).trans (h.x1 j u d hj).2⟩,
  fun j u d hj=>⟨(hb.cell (p:=⟨gy1,j,none⟩) (by show gy1<B;omega)).trans (h.y1 j u d hj).1,(hb.cell (p:=⟨gy2,j,none⟩) (by show gy2<B;omega)).trans (h.y1 j u d hj).2⟩,
  (hb.cell (p:=⟨gx1,n,none⟩) (by show gx1<B;omega)).trans h.x2,(hb.cell (p:=⟨gy1,n,none⟩) (by show gy1<B;omega)).trans h.y2,h.lt⟩
theorem JkY{W6 W8 W0:World}{B6 B8:Nat}(hx:x.1.length=n)(hy:y.1.length=n)
    (X1:W6.ownsRow B6 9 1 (.slice (some ⟨gx1,0,none⟩) (n+1) (n+1)) (n+1) ((Jci n x).map strV)) (X2:W6.ownsRow B6 4 1 (.slice (some ⟨gx2,0,none⟩) n n) n ((JbY n x).map Value.bool))
    (Y1:W8.ownsRow B8 9 1 (.slice (some ⟨gy1,0,none⟩) (n+1) (n+1)) (n+1) ((Jci n y).map strV)) (Y2:W8.ownsRow B8 4 1 (.slice (some ⟨gy2,0,none⟩) n n) n ((JbY n y).map Value.bool))
    (b6:Below W6.heap.size W6 W0) (b8:Below W8.heap.size W8 W0) (s6:W6.heap.size<=q) (s8:W8.heap.size<=q)
    (a0:W0.cell? ⟨q,0,none⟩=some (.slice (some ⟨gx1,0,none⟩) (n+1) (n+1))) (a1:W0.cell? ⟨q,1,none⟩=some (.slice (some ⟨gx2,0,none⟩) n n)) (b0:W0.cell? ⟨q+1,0,none⟩=some (.slice (some ⟨gy1,0,none⟩) (n+1) (n+1))) (b1:W0.cell? ⟨q+1,1,none⟩=some (.slice (some ⟨gy2,0,none⟩) n n)) :
    gapsAt W0 q gx1 gx2 gy1 gy2 n x y:=by
 have lx1:=(X1.lt gx1 rfl).2;have lx2:=(X2.lt gx2 rfl).2;have ly1:=(Y1.lt gy1 rfl).2;have ly2:=(Y2.lt gy2 rfl).2
 have key:∀(x:GSt),x.1.length=n->(∀(j:Nat) (u:List UInt8) (d:Bool),x.1[j]?=some (u,d)->((Jci n x).map strV)[j]?=some (Value.string ⟨u.toArray⟩)/\((JbY n x).map Value.bool)[j]?=some (Value.bool d))/\((Jci n x).map strV)[n]?=some (Value.string ⟨x.2.toArray⟩):=by
  intro x hx;refine⟨fun j u d hj=>?_,?_⟩
  . have hlt:=(llt hj)
    have e1:(Jci n x)[j]?=some u:=by
     unfold Jci;rw[List.getElem?_append_left (by simpa using hlt),List.getElem?_map,hj];rfl
    have e2:(JbY n x)[j]?=some d:=by
     unfold JbY;rw[List.getElem?_append_left (by simpa using hlt),List.getElem?_map,hj];rfl
    rw[List.getElem?_map,e1,List.getElem?_map,e2];exact⟨rfl,rfl⟩
  . have e1:(Jci n x)[n]?=some x.2:=by
      unfold Jci;rw[List.getElem?_append_right (by simp[hx])];simp[hx]
    rw[List.getElem?_map,e1];rfl
 obtain⟨kx1,kx2⟩:=key x hx;obtain⟨ky1,ky2⟩:=key y hy;refine⟨a0,a1,b0,b1,fun j u d hj=>?_,fun j u d hj=>?_,?_,?_,by omega,by omega,by omega,by omega⟩
 . have hlt:=(llt hj)
   obtain⟨k1,k2⟩:=kx1 j u d hj;exact⟨(b6.cell (p:=⟨gx1,j,none⟩) lx1).trans ((X1.cellAt j (by omega)).trans k1),(b6.cell (p:=⟨gx2,j,none⟩) lx2).trans ((X2.cellAt j (by omega)).trans k2)⟩
 . have hlt:=(llt hj)
   obtain⟨k1,k2⟩:=ky1 j u d hj;exact⟨(b8.cell (p:=⟨gy1,j,none⟩) ly1).trans ((Y1.cellAt j (by omega)).trans k1),(b8.cell (p:=⟨gy2,j,none⟩) ly2).trans ((Y2.cellAt j (by omega)).trans k2)⟩
 . exact(b6.cell (p:=⟨gx1,n,none⟩) lx1).trans ((X1.cellAt n (by omega)).trans kx2)
 . exact(b8.cell (p:=⟨gy1,n,none⟩) ly1).trans ((Y1.cellAt n (by omega)).trans ky2)
theorem Jld(v1 v2:Value)(first:Bool)(a b:List Pt)(w:World)(h1:opAt w v1 a)(h2:opAt w v2 b)(w1:∀p∈a,wfP p)(w2:∀p∈b,wfP p)(s1:∀p∈a,p.put.length<100000000)(s2:∀p∈b,p.put.length<100000000)(l1:a.length<10000000)(l2:b.length<10000000)(he:JbG a b≠0) :
    Calls Tryz.prog 125 #[v1,v2,.bool first] w fun e w'=>e=.returned (.tuple #[.slice none 0 0,.int .i64 (JbG a b)])/\Below w.heap.size w w':=by
 have cB:Hid _:=JdK v1 v2 a b w h1 h2 w1 w2 s1 s2 l1 l2;have hne:¬JbG a b=0:=he;generalize JbG a b=E at *;obtain⟨p1,c1,rfl,_⟩:=h1;obtain⟨p2,c2,rfl,_⟩:=h2;clear w1 w2 s1 s2 he
 go_enter Tryz.func125,Tryz.ntmps125
 go_wp2_with (go_at_call 183;refine Calls.mono cB.out ?_;rintro e w1 ⟨rfl,hb1⟩)
 go_ret2
 exact⟨rfl,hb1⟩
theorem Jlc(v1 v2:Value)(first:Bool)(a b:List Pt)(w:World)(h1:opAt w v1 a)(h2:opAt w v2 b)(w1:∀p∈a,wfP p)(w2:∀p∈b,wfP p)(s1:∀p∈a,p.put.length<100000000)(s2:∀p∈b,p.put.length<100000000)(l1:a.length<10000000)(l2:b.length<10000000)(he:JbG a b=0)(hl:(Jar b).1≠(Jar a).1) :
    Calls Tryz.prog 125 #[v1,v2,.bool first] w fun e w'=>e=.returned (.tuple #[.slice none 0 0,.int .i64 (2)])/\Below w.heap.size w w':=by
 have cB:Hid _:=JdK v1 v2 a b w h1 h2 w1 w2 s1 s2 l1 l2;rw[he]at cB;have cL1:Hid (∀wx,Below w.heap.size w wx->Calls Tryz.prog 184 #[v1] wx fun e w'=>e=.returned (.tuple #[.int .i64 (Jar a).1,.int .i64 (Jar a).2])/\Below wx.heap.size wx w'):=fun wx hb=>JbD v1 a wx (Ja3 h1 hb) l1;have cL2:Hid (∀wx,Below w.heap.size w wx->Calls Tryz.prog 184 #[v2] wx fun e w'=>e=.returned (.tuple #[.int .i64 (Jar b).1,.int .i64 (Jar b).2])/\Below wx.heap.size wx w'):=fun wx hb=>JbD v2 b wx (Ja3 h2 hb) l2;generalize (Jar a).1=A1 at *;generalize (Jar a).2=A2 at *;generalize (Jar b).1=B1 at *;generalize (Jar b).2=B2 at *;obtain⟨p1,c1,rfl,_⟩:=h1;obtain⟨p2,c2,rfl,_⟩:=h2;clear w1 w2 s1 s2 he
 go_enter Tryz.func125,Tryz.ntmps125
 go_wp2_with (first
  | (have _:=HB2;go_at_call 184;refine(cL2.out _ HB2.out).mono ?_;rintro e w3 ⟨rfl,hb3⟩;have HB3:=hdz (HB2.out.trans (hb3.mono HB2.out.size));clear hb3)
  | (go_at_call 184;refine(cL1.out _ HB1.out).mono ?_;rintro e w2 ⟨rfl,hb2⟩;have HB2:=hdz (HB1.out.trans (hb2.mono HB1.out.size));clear hb2)
  | (go_at_call 183;refine Calls.mono cB.out ?_;rintro e w1 ⟨rfl,hb1⟩;have HB1:=hdz hb1;clear hb1))
 go_ret2
 exact⟨rfl,HB3.out⟩
end
section
open Go.RowKit
attribute [local go_sem] Oper.semAt_some
theorem JiB(v1 v2:Value)(a b:List Pt)(w:World)(h1:opAt w v1 a)(h2:opAt w v2 b)(w1:∀p∈a,wfP p)(w2:∀p∈b,wfP p)(s1:∀p∈a,p.put.length<100000000)(s2:∀p∈b,p.put.length<100000000)(f1:fineP a)(f2:fineP b)(he:JbG a b=0)(hl:(Jar b).1=(Jar a).1) :
    Calls Tryz.prog 125 #[v1,v2,.bool true] w fun e w'=>∃v',e=.returned (.tuple #[v',.int .i64 0])/\opN w.heap.size w' v' (Jac (outJ true (Jah (Jac a)) (Jah (Jac b)) ((Jah (Jac a)).1.length+1)))/\Below w.heap.size w w':=by
 have cB:Hid _:=JdK v1 v2 a b w h1 h2 w1 w2 s1 s2 f1.len f2.len;rw[he]at cB;have cL1:Hid (∀wx,Below w.heap.size w wx->Calls Tryz.prog 184 #[v1] wx fun e w'=>e=.returned (.tuple #[.int .i64 (Jar a).1,.int .i64 (Jar a).2])/\Below wx.heap.size wx w'):=fun wx hb=>JbD v1 a wx (Ja3 h1 hb) f1.len;have cL2:Hid (∀wx,Below w.heap.size w wx->Calls Tryz.prog 184 #[v2] wx fun e w'=>e=.returned (.tuple #[.int .i64 (Jar b).1,.int .i64 (Jar b).2])/\Below wx.heap.size wx w'):=fun wx hb=>JbD v2 b wx (Ja3 h2 hb) f2.len;obtain⟨n1,n2,n3,n4⟩:=JaY f1;obtain⟨m1,m2,m3,m4⟩:=JaY f2;have sn1:=Jak fun p hp=>(n1 p hp).1;have sm1:=Jak fun p hp=>(m1 p hp).1;have hwn:wts (Jac a)<10000000:=by rw[JcL a (Jak f1.one)];have:=f1.w;omega
 have hwm:wts (Jac b)<10000000:=by rw[JcL b (Jak f2.one)];have:=f2.w;omega
 have hln:(Jac a).length<10000000:=by
  have:=Jeo _ fun p hp=>(n1 p hp).1;have key:∀(l:List Pt),(∀p∈l,oneP p)->l.length<=Jao l:=by
   intro l
   induction l with
   | nil=>intro _;simp
   | cons p l ih=>intro h;have h1:=JaE (h p (by simp));have h2:=ih fun q hq=>h q (by simp[hq]);rw[Jay,List.length_cons];omega
  have:=key _ fun p hp=>(n1 p hp).1;omega
 have hlm:(Jac b).length<10000000:=by
  have key:∀(l:List Pt),(∀p∈l,oneP p)->l.length<=Jao l:=by
   intro l
   induction l with
   | nil=>intro _;simp
   | cons p l ih=>intro h;have h1:=JaE (h p (by simp));have h2:=ih fun q hq=>h q (by simp[hq]);rw[Jay,List.length_cons];omega
  have:=key _ fun p hp=>(m1 p hp).1;omega
 have hA1:(Jar a).1=((Jah (Jac a)).1.length:Int):=by
  rw[(JaZ f1).1,←n3,←JbJ _ sn1,JbB];rfl
 have hB1:(Jar b).1=((Jah (Jac b)).1.length:Int):=by
  rw[(JaZ f2).1,←m3,←JbJ _ sm1,JbB];rfl
 have hnn:(Jah (Jac b)).1.length=(Jah (Jac a)).1.length:=by omega
 have hn9:(Jah (Jac a)).1.length<3000000:=by
  have h8:=(Jcx (Jac a) sn1 (by omega)).2.2.1;rw[JcL a (Jak f1.one)]at h8;have:=f1.w;omega
 have cS1:Hid (∀wx,Below w.heap.size w wx->_):=fun wx (hb:Below w.heap.size w wx)=>JcU v1 a wx (Ja3 h1 hb) (Jak f1.one) (by have:=f1.w;omega) f1.len;have cS3:Hid (∀wx,Below w.heap.size w wx->_):=fun wx (hb:Below w.heap.size w wx)=>JcU v2 b wx (Ja3 h2 hb) (Jak f2.one) (by have:=f2.w;omega) f2.len;have cS2:Hid (∀(v':Value) wx,opAt wx v' (Jac a)->_):=fun v' wx (ho:opAt wx v' (Jac a))=>Je0 v' (Jac a) wx ho sn1 hwn hln _ rfl;have cS4:Hid (∀(v':Value) wx,opAt wx v' (Jac b)->_):=fun v' wx (ho:opAt wx v' (Jac b))=>Je0 v' (Jac b) wx ho sm1 hwm hlm _ hnn;have hSm:∀p∈outJ true (Jah (Jac a)) (Jah (Jac b)) ((Jah (Jac a)).1.length+1),Jbc p:=Jja _ _ _ _;have hWt:wts (outJ true (Jah (Jac a)) (Jah (Jac b)) ((Jah (Jac a)).1.length+1))<10000000:=by
  have e1:=JcH (Jac a) sn1;have e2:=JcH (Jac b) sm1;have e3:=JnG true (Jah (Jac a)) (Jah (Jac b)) ((Jah (Jac a)).1.length+1);have e4:=JcL a (Jak f1.one);have e5:=JcL b (Jak f2.one);have e6:=f1.w;have e7:=f2.w;have e8:=(Jcx (Jac a) sn1 (by omega)).2.2.1;omega
 obtain⟨x,hx⟩:∃x,Jah (Jac a)=x:=⟨_,rfl⟩;obtain⟨y,hy⟩:∃y,Jah (Jac b)=y:=⟨_,rfl⟩;rw[hx]at hA1 hnn hn9 cS2 hSm hWt ⊢;rw[hy]at hB1 hnn cS4 hSm hWt ⊢;rw[hx]at cS4;obtain⟨n,hn⟩:∃n,x.1.length=n:=⟨_,rfl⟩;rw[hn]at hA1 hnn hn9 cS2 cS4 hSm hWt ⊢;rw[hl]at cL2;have hN:(Jar a).1=(n:Int):=hA1;generalize (Jar a).1=N at cL1 cL2 hN;have HN:=hdz hN;have hN1:0<=N:=by omega
 have hN2:N<3000000:=by omega
 clear hN;have HXL:=hdz hn;have HYL:=hdz hnn;have HSm:=hdz hSm;have HWt:=hdz hWt;clear hl hA1;generalize (Jar a).2=A2 at *;generalize (Jar b).2=B2 at *;obtain⟨p1,c1,rfl,_⟩:=h1;obtain⟨p2,c2,rfl,_⟩:=h2;clear w1 w2 s1 s2 f1 f2 he hB1 hnn hn hSm hWt n1 n2 n3 n4 m1 m2 m3 m4 sn1 sm1 hwn hwm hln hlm hx hy;obtain⟨na,hna⟩:∃l,Jac a=l:=⟨_,rfl⟩;obtain⟨nb,hnb⟩:∃l,Jac b=l:=⟨_,rfl⟩;rw[hna]at cS1 cS2;rw[hnb]at cS3 cS4;clear hna hnb;obtain⟨LF,hLF⟩:∃l,outJ true x y (n+1)=l:=⟨_,rfl⟩;rw[hLF]at HSm HWt ⊢;have HLF:=hdz hLF;clear hLF
 go_enter Tryz.func125,Tryz.ntmps125
 go_wp2_with (first
  | (have _:=HO6;go_at_call 188;refine(cS4.out _ _ (JeF HO6.out)).mono ?_;rintro e w9 ⟨gy1,gy2,rfl,o1,o2,hb⟩;have HY1:=hdz o1;have HY2:=hdz o2;have HB89:=hdz hb;clear o1 o2 hb)
  | (have _:=HG7;go_at_call 185;refine Calls.mono HG7.out ?_;rintro e w8 ⟨v8,rfl,o8,hb8⟩;have HO6:=hdz o8;have HB8:=hdz (HB7.out.trans (hb8.mono HB7.out.size));have HB68:=hdz (HB67.out.trans (hb8.mono HB67.out.size));obtain⟨p8,c8,rfl⟩:=Jae o8;clear o8 hb8)
  | (have _:=HX1;go_at_call 188;refine(cS3.out _ HB6.out).mono ?_;rintro e w7 ⟨g7,rfl,hb7,hc7⟩;have HG7:=hdz hc7;have HB7:=hdz (HB6.out.trans (hb7.mono HB6.out.size));have HB67:=hdz hb7;clear hb7 hc7)
  | (have _:=HO5;go_at_call 188;refine(cS2.out _ _ (JeF HO5.out)).mono ?_;rintro e w6 ⟨gx1,gx2,rfl,o1,o2,hb⟩;have HX1:=hdz o1;have HX2:=hdz o2;have HB6:=hdz (HB5.out.trans (hb.mono HB5.out.size));clear o1 o2 hb)
  | (have _:=HG4;go_at_call 185;refine Calls.mono HG4.out ?_;rintro e w5 ⟨v5,rfl,o5,hb5⟩;have HO5:=hdz o5;have HB5:=hdz (HB4.out.trans (hb5.mono HB4.out.size));obtain⟨p5,c5,rfl⟩:=Jae o5;clear o5 hb5)
  | (have _:=HB3;go_at_call 188;refine(cS1.out _ HB3.out).mono ?_;rintro e w4 ⟨g4,rfl,hb4,hc4⟩;have HG4:=hdz hc4;have HB4:=hdz (HB3.out.trans (hb4.mono HB3.out.size));clear hb4 hc4)
  | (have _:=HB2;go_at_call 184;refine(cL2.out _ HB2.out).mono ?_;rintro e w3 ⟨rfl,hb3⟩;have HB3:=hdz (HB2.out.trans (hb3.mono HB2.out.size));clear hb3)
  | (have _:=HB1;go_at_call 184;refine(cL1.out _ HB1.out).mono ?_;rintro e w2 ⟨rfl,hb2⟩;have HB2:=hdz (HB1.out.trans (hb2.mono HB1.out.size));clear hb2)
  | (go_at_call 183;refine Calls.mono cB.out ?_;rintro e w1 ⟨rfl,hb1⟩;have HB1:=hdz hb1;clear hb1))
 obtain⟨W0,hW0⟩:∃W0,W0=(((w9.alloc (.cells #[.slice (some ⟨gx1,0,none⟩) (n+1) (n+1),.slice (some ⟨gx2,0,none⟩) n n] 292)).alloc (.cells #[.slice (some ⟨gy1,0,none⟩) (n+1) (n+1),.slice (some ⟨gy2,0,none⟩) n n] 292)).alloc (.cells #[.slice none 0 0] 23)):=⟨_,rfl⟩;rw[←hW0];have hb90:Below w9.heap.size w9 W0:=by rw[hW0];exact(((brf _ _).alloc (nlr _) _).alloc (by simp) _).alloc (by simp;omega) _
 have hs0:W0.heap.size=w9.heap.size+1+1+1:=by rw[hW0];simp
 have hb69:Below w6.heap.size w6 W0:=(HB68.out.trans (HB89.out.mono HB68.out.size)).trans (hb90.mono (Nat.le_trans HB68.out.size HB89.out.size));have hb80:Below w9.heap.size w9 W0:=hb90
 have HGP:Hid (gapsAt W0 w9.heap.size gx1 gx2 gy1 gy2 n x y):=JkY HXL.out HYL.out HX1.out HX2.out HY1.out HY2.out hb69 hb90 (Nat.le_trans HB68.out.size HB89.out.size) (nlr _)
  (by rw[hW0];simp[go_sem]) (by rw[hW0];simp[go_sem]) (by rw[hW0];simp[go_sem]) (by rw[hW0];simp[go_sem])
 have HBW:Hid (Below w.heap.size w W0):=(HB8.out.trans (HB89.out.mono HB8.out.size)).trans (hb90.mono (Nat.le_trans HB8.out.size HB89.out.size));have HSZ:=hdz (Nat.le_trans HB8.out.size HB89.out.size)
 have hst:trR true x y n (w9.heap.size+1+1) W0 (n+1) (.int .i64 0) W0:=by
  refine⟨0,rfl,by omega,⟨⟨none,0,?_,?_⟩,?_⟩,.refl _ _⟩
  . have e:outJ true x y 0=[]:=by simp[outJ]
    rw[e,hW0];simp[go_sem]
  . have e:outJ true x y 0=[]:=by simp[outJ]
    rw[e];exact World.ownsRow_nil _ _ _ _
  . rw[hW0];simp[go_sem]
 have HST:=hdz hst;clear hst hW0 hb90 hs0 hb69 hb80 HB1 HB2 HB3 HG4 HB4 HO5 HB5 HX1 HX2 HB6 HG7 HB7 HB67 HO6 HB8 HB68 HY1 HY2 HB89 cB cL1 cL2 cS1 cS2 cS3 cS4
 go_loopg [50] (n+1) (fun k i wr=>trR true x y n (w9.heap.size+1+1) W0 k i wr)
 case atStart=>exact HST.out
 case round =>
  obtain⟨j,rfl,hjk,ho,hb⟩:=hrel;have HOR:=hdz ho;have HBR:=hdz hb;have hlen:=JnH true x y j;clear HST ho hb
  rcases Nat.lt_or_ge n j with hj|hj
  . obtain rfl:gk=0:=by omega
    obtain rfl:j=n+1:=by omega
    rw[HLF.out]at HOR hlen;have ho:=HOR.out;obtain⟨⟨pL,cL,k1,k2⟩,k3⟩:=ho;have CS:Hid _:=JcU _ LF wr (JeF k2) HSm.out HWt.out (by omega);have hNn:=HN.out;have hjn:¬(((n+1:Nat):Int)<N+1):=by omega
    clear hj hjk hlen k2 hNn
    go_wp2_with (first
     | (go_at_call 188;refine Calls.mono CS.out ?_;rintro e w2 ⟨g2,rfl,hb2,hc2⟩;have HC2:=hdz hc2;have HB2:=hdz hb2;clear hb2 hc2)
     | (have _:=HC2;go_at_call 185;refine Calls.mono HC2.out ?_;rintro e w3 ⟨v3,rfl,o3,hb3⟩))
    obtain⟨p3,c3,rfl⟩:=Jae o3
    go_ret2
    have hB:=HBW.out.trans (HBR.out.mono (show w.heap.size<=w9.heap.size+1+1 by have:=HSZ.out;omega));exact⟨_,rfl,JeE (Nat.le_trans hB.size HB2.out.size) o3,(hB.trans (HB2.out.mono hB.size)).trans (hb3.mono (Nat.le_trans hB.size HB2.out.size))⟩
  rcases Nat.lt_or_ge j n with hj2|hj2
  rotate_left
  . obtain rfl:j=n:=by omega
    obtain rfl:gk=1:=by omega
    have hstep:outJ true x y (j+1)=outJ true x y j++(putO x.2++JbU y.2.length):=by
     have:=Jly (first:=true) (HXL.out.trans HYL.out.symm);rw[HXL.out]at this;exact this
    obtain⟨L,hL⟩:∃L,outJ true x y j=L:=⟨_,rfl⟩;rw[hL]at HOR hlen hstep;have GPwr:Hid (gapsAt wr w9.heap.size gx1 gx2 gy1 gy2 j x y):=JaF HGP.out HBR.out (nlr _);have fa0wr:=GPwr.out.a0;have fb0wr:=GPwr.out.b0;have fxwr:=GPwr.out.x2;have fywr:=GPwr.out.y2;obtain⟨U,hU⟩:∃U,x.2=U:=⟨_,rfl⟩;obtain⟨V,hV⟩:∃V,y.2=V:=⟨_,rfl⟩;rw[hU]at hstep fxwr;rw[hV]at hstep fywr;have HU:=hdz hU;have HV:=hdz hV;have hzv:(ByteArray.mk V.toArray).size=V.length:=by simp[ByteArray.size]
    have cP:Hid (∀W l,outAt W (w9.heap.size+1+1) l->l.length<1000000000->Calls Tryz.prog 190 #[.string ⟨U.toArray⟩,.pointer (some ⟨w9.heap.size+1+1,0,none⟩)] W fun e w'=>(∃v,e=.returned v)/\outAt w' (w9.heap.size+1+1) (l++putO U)/\Below (w9.heap.size+1+1) W w'):=fun W l h hl=>Jhx _ l U W h hl;have cK:Hid (∀W l,outAt W (w9.heap.size+1+1) l->l.length<1000000000->Calls Tryz.prog 189 #[.int .i64 (V.length:Int),.pointer (some ⟨w9.heap.size+1+1,0,none⟩)] W fun e w'=>(∃v,e=.returned v)/\outAt w' (w9.heap.size+1+1) (l++JbU V.length)/\Below (w9.heap.size+1+1) W w'):=fun W l h hl=>Jer _ l V.length W h hl;have HSTEP:Hid (outJ true x y (j+1)=(L++putO U)++JbU V.length):=by rw[List.append_assoc];exact hstep
    have hpk:(putO U).length<=1/\(JbU V.length).length<=1:=⟨by unfold putO;split<;>simp,by unfold JbU;split<;>simp⟩;have HL0:Hid (L.length<1000000000):=show L.length<1000000000 by omega
    have HL1:Hid ((L++putO U).length<1000000000):=show(L++putO U).length<1000000000 by rw[List.length_append];omega
    have hNn:=HN.out;have hjn:(j:Int)<N+1:=by omega
    have hjd:(j:Int)=N:=by omega
    clear hNn;subst hjd;have hj9:(j:Int)<10000000:=by omega
    clear hL hstep hU hV hpk hjk hlen hj hj2
    go_wp2_with (first
     | (have _:=HO1;go_at_call 189;refine(cK.out _ _ HO1.out HL1.out).mono ?_;rintro e w2 ⟨⟨v2,rfl⟩,ho2,hb2⟩;have HO2:=hdz ho2;have HB2:=hdz (HB1.out.trans hb2);have GPw2:Hid (gapsAt w2 w9.heap.size gx1 gx2 gy1 gy2 j x y):=JaF HGP.out HB2.out (nlr _);have fa0w2:=GPw2.out.a0;have fb0w2:=GPw2.out.b0;have fxw2:=GPw2.out.x2;rw[HU.out]at fxw2;have fyw2:=GPw2.out.y2;rw[HV.out]at fyw2;clear ho2 hb2)
     | (go_at_call 190;refine(cP.out _ _ HOR.out HL0.out).mono ?_;rintro e w1 ⟨⟨v1,rfl⟩,ho1,hb1⟩;have HO1:=hdz ho1;have HB1:=hdz (HBR.out.trans hb1);have GPw1:Hid (gapsAt w1 w9.heap.size gx1 gx2 gy1 gy2 j x y):=JaF HGP.out HB1.out (nlr _);have fa0w1:=GPw1.out.a0;have fb0w1:=GPw1.out.b0;have fxw1:=GPw1.out.x2;rw[HU.out]at fxw1;have fyw1:=GPw1.out.y2;rw[HV.out]at fyw1;clear ho1 hb1))
    go_roundg 0
    case measure=>omega
    case rel=>exact⟨j+1,by go_num,by omega,by rw[HSTEP.out];exact HO2.out,HB2.out⟩
  . obtain ⟨⟨u,d⟩,hxj⟩:∃z,x.1[j]?=some z:=⟨_,lgg (by rw[HXL.out];exact hj2)⟩
    obtain⟨⟨v,e⟩,hyj⟩:∃z,y.1[j]?=some z:=⟨_,lgg (by rw[HYL.out];exact hj2)⟩;have HXJ:=hdz hxj;have HYJ:=hdz hyj;have hstep:outJ true x y (j+1)=outJ true x y j++((putO u++JbU v.length)++Jg7 e d):=Jlx (first:=true) (HXL.out.trans HYL.out.symm) (by rw[HXL.out];exact hj2) hxj hyj;obtain⟨L,hL⟩:∃L,outJ true x y j=L:=⟨_,rfl⟩;rw[hL]at HOR hlen hstep;have GPwr:Hid (gapsAt wr w9.heap.size gx1 gx2 gy1 gy2 n x y):=JaF HGP.out HBR.out (nlr _);have fa0wr:=GPwr.out.a0;have fa1wr:=GPwr.out.a1;have fb0wr:=GPwr.out.b0;have fb1wr:=GPwr.out.b1;have fxwr:=(GPwr.out.x1 _ _ _ HXJ.out).1;have fxdwr:=(GPwr.out.x1 _ _ _ HXJ.out).2;have fywr:=(GPwr.out.y1 _ _ _ HYJ.out).1;have fydwr:=(GPwr.out.y1 _ _ _ HYJ.out).2;have hzv:(ByteArray.mk v.toArray).size=v.length:=by simp[ByteArray.size]
    have cP:Hid (∀W l,outAt W (w9.heap.size+1+1) l->l.length<1000000000->Calls Tryz.prog 190 #[.string ⟨u.toArray⟩,.pointer (some ⟨w9.heap.size+1+1,0,none⟩)] W fun e w'=>(∃v,e=.returned v)/\outAt w' (w9.heap.size+1+1) (l++putO u)/\Below (w9.heap.size+1+1) W w'):=fun W l h hl=>Jhx _ l u W h hl;have cK:Hid (∀W l,outAt W (w9.heap.size+1+1) l->l.length<1000000000->Calls Tryz.prog 189 #[.int .i64 (v.length:Int),.pointer (some ⟨w9.heap.size+1+1,0,none⟩)] W fun e w'=>(∃v,e=.returned v)/\outAt w' (w9.heap.size+1+1) (l++JbU v.length)/\Below (w9.heap.size+1+1) W w'):=fun W l h hl=>Jer _ l v.length W h hl;have cU:Hid (∀W l,outAt W (w9.heap.size+1+1) l->l.length<1000000000->Calls Tryz.prog 189 #[.int .i64 1,.pointer (some ⟨w9.heap.size+1+1,0,none⟩)] W fun e w'=>(∃v,e=.returned v)/\outAt w' (w9.heap.size+1+1) (l++[⟨1,0,[]⟩])/\Below (w9.heap.size+1+1) W w'):=fun W l h hl=>Jer _ l 1 W h hl;have HSTEP:Hid (outJ true x y (j+1)=((L++putO u)++JbU v.length)++Jg7 e d):=by rw[List.append_assoc L,List.append_assoc L];exact hstep
    have hpk:(putO u).length<=1/\(JbU v.length).length<=1:=⟨by unfold putO;split<;>simp,by unfold JbU;split<;>simp⟩;have HL0:Hid (L.length<1000000000):=show L.length<1000000000 by omega
    have HL1:Hid ((L++putO u).length<1000000000):=show(L++putO u).length<1000000000 by rw[List.length_append];omega
    have HL2':((L++putO u)++JbU v.length).length<100000000:=by rw[List.length_append,List.length_append];omega
    obtain⟨L2,hL2⟩:∃l,(L++putO u)++JbU v.length=l:=⟨_,rfl⟩;rw[hL2]at HSTEP HL2';have HL2:=hdz HL2';have HE2:=hdz hL2;clear HL2' hL2;have hjn2:(j:Int)<(n:Int):=by omega
    have hNn:=HN.out;have hjn:(j:Int)<N+1:=by omega
    have hjd:((j:Int)==N)=false:=beq_eq_false_iff_ne.2 (by omega);clear hNn;have hj9:(j:Int)<10000000:=by omega
    obtain⟨k,rfl⟩:∃k,gk=k+1:=⟨gk - 1,by omega⟩;have HJK:=hdz hjk;clear hL hstep hpk hjk hlen hj hj2 hxj hyj
    cases e with
    | true =>
     go_wp2_with (first
      | (have _:=HO1;go_at_call 189;refine(cK.out _ _ HO1.out HL1.out).mono ?_;rintro e w2 ⟨⟨v2,rfl⟩,ho2,hb2⟩;have HO2:Hid (outAt w2 (w9.heap.size+1+1) L2):=(by rw[←HE2.out];exact ho2);have HB2:=hdz (HB1.out.trans hb2);have GPw2:Hid (gapsAt w2 w9.heap.size gx1 gx2 gy1 gy2 n x y):=JaF HGP.out HB2.out (nlr _);have fa0w2:=GPw2.out.a0;have fa1w2:=GPw2.out.a1;have fb0w2:=GPw2.out.b0;have fb1w2:=GPw2.out.b1;have fxw2:=(GPw2.out.x1 _ _ _ HXJ.out).1;have fxdw2:=(GPw2.out.x1 _ _ _ HXJ.out).2;have fyw2:=(GPw2.out.y1 _ _ _ HYJ.out).1;have fydw2:=(GPw2.out.y1 _ _ _ HYJ.out).2;clear ho2 hb2)
      | (go_at_call 190;refine(cP.out _ _ HOR.out HL0.out).mono ?_;rintro e w1 ⟨⟨v1,rfl⟩,ho1,hb1⟩;have HO1:=hdz ho1;have HB1:=hdz (HBR.out.trans hb1);have GPw1:Hid (gapsAt w1 w9.heap.size gx1 gx2 gy1 gy2 n x y):=JaF HGP.out HB1.out (nlr _);have fa0w1:=GPw1.out.a0;have fa1w1:=GPw1.out.a1;have fb0w1:=GPw1.out.b0;have fb1w1:=GPw1.out.b1;have fxw1:=(GPw1.out.x1 _ _ _ HXJ.out).1;have fxdw1:=(GPw1.out.x1 _ _ _ HXJ.out).2;have fyw1:=(GPw1.out.y1 _ _ _ HYJ.out).1;have fydw1:=(GPw1.out.y1 _ _ _ HYJ.out).2;clear ho1 hb1))
     go_roundg k
     case measure=>omega
     case rel=>exact⟨j+1,by go_num,by have:=HJK.out;omega,by rw[HSTEP.out];exact(List.append_nil _).symm ▸ HO2.out,HB2.out⟩
    | false =>
     cases d with
     | false =>
      go_wp2_with (first
       | (have _:=HO2;go_at_call 189;refine(cU.out _ _ HO2.out (Nat.lt_trans HL2.out (by decide))).mono ?_;rintro e w3 ⟨⟨v3,rfl⟩,ho3,hb3⟩)
       | (have _:=HO1;go_at_call 189;refine(cK.out _ _ HO1.out HL1.out).mono ?_;rintro e w2 ⟨⟨v2,rfl⟩,ho2,hb2⟩;have HO2:Hid (outAt w2 (w9.heap.size+1+1) L2):=(by rw[←HE2.out];exact ho2);have HB2:=hdz (HB1.out.trans hb2);have GPw2:Hid (gapsAt w2 w9.heap.size gx1 gx2 gy1 gy2 n x y):=JaF HGP.out HB2.out (nlr _);have fa0w2:=GPw2.out.a0;have fa1w2:=GPw2.out.a1;have fb0w2:=GPw2.out.b0;have fb1w2:=GPw2.out.b1;have fxw2:=(GPw2.out.x1 _ _ _ HXJ.out).1;have fxdw2:=(GPw2.out.x1 _ _ _ HXJ.out).2;have fyw2:=(GPw2.out.y1 _ _ _ HYJ.out).1;have fydw2:=(GPw2.out.y1 _ _ _ HYJ.out).2;clear ho2 hb2)
       | (go_at_call 190;refine(cP.out _ _ HOR.out HL0.out).mono ?_;rintro e w1 ⟨⟨v1,rfl⟩,ho1,hb1⟩;have HO1:=hdz ho1;have HB1:=hdz (HBR.out.trans hb1);have GPw1:Hid (gapsAt w1 w9.heap.size gx1 gx2 gy1 gy2 n x y):=JaF HGP.out HB1.out (nlr _);have fa0w1:=GPw1.out.a0;have fa1w1:=GPw1.out.a1;have fb0w1:=GPw1.out.b0;have fb1w1:=GPw1.out.b1;have fxw1:=(GPw1.out.x1 _ _ _ HXJ.out).1;have fxdw1:=(GPw1.out.x1 _ _ _ HXJ.out).2;have fyw1:=(GPw1.out.y1 _ _ _ HYJ.out).1;have fydw1:=(GPw1.out.y1 _ _ _ HYJ.out).2;clear ho1 hb1))
      go_roundg k
      case measure=>omega
      case rel=>exact⟨j+1,by go_num,by have:=HJK.out;omega,by rw[HSTEP.out];exact ho3,HB2.out.trans hb3⟩
     | true =>
      go_upto_region 22 with (first
       | (have _:=HO1;go_at_call 189;refine(cK.out _ _ HO1.out HL1.out).mono ?_;rintro e w2 ⟨⟨v2,rfl⟩,ho2,hb2⟩;have HO2:Hid (outAt w2 (w9.heap.size+1+1) L2):=(by rw[←HE2.out];exact ho2);have HB2:=hdz (HB1.out.trans hb2);have GPw2:Hid (gapsAt w2 w9.heap.size gx1 gx2 gy1 gy2 n x y):=JaF HGP.out HB2.out (nlr _);have fa0w2:=GPw2.out.a0;have fa1w2:=GPw2.out.a1;have fb0w2:=GPw2.out.b0;have fb1w2:=GPw2.out.b1;have fxw2:=(GPw2.out.x1 _ _ _ HXJ.out).1;have fxdw2:=(GPw2.out.x1 _ _ _ HXJ.out).2;have fyw2:=(GPw2.out.y1 _ _ _ HYJ.out).1;have fydw2:=(GPw2.out.y1 _ _ _ HYJ.out).2;clear ho2 hb2;have ho2':=HO2.out;obtain⟨⟨pq,cq,kq1,kq2⟩,kq3⟩:=ho2';have HRW:=hdz kq2;have HCQ:=hdz kq1;have HQ2:=hdz (Jge HO2.out);have HQ3:=hdz kq3;clear kq1 kq2 kq3)
       | (go_at_call 190;refine(cP.out _ _ HOR.out HL0.out).mono ?_;rintro e w1 ⟨⟨v1,rfl⟩,ho1,hb1⟩;have HO1:=hdz ho1;have HB1:=hdz (HBR.out.trans hb1);have GPw1:Hid (gapsAt w1 w9.heap.size gx1 gx2 gy1 gy2 n x y):=JaF HGP.out HB1.out (nlr _);have fa0w1:=GPw1.out.a0;have fa1w1:=GPw1.out.a1;have fb0w1:=GPw1.out.b0;have fb1w1:=GPw1.out.b1;have fxw1:=(GPw1.out.x1 _ _ _ HXJ.out).1;have fxdw1:=(GPw1.out.x1 _ _ _ HXJ.out).2;have fyw1:=(GPw1.out.y1 _ _ _ HYJ.out).1;have fydw1:=(GPw1.out.y1 _ _ _ HYJ.out).2;clear ho1 hb1))
      obtain⟨i0,hi,hz0,hz1,hz2⟩:=info_parts Jbf;have kq1:=HCQ.out;have kq3:=HQ3.out;have hq2:=HQ2.out
      go_wp2_with (have _:=HO2;at_builtin;refine wpList_append_own _ rfl _ _ 23 rfl (w9.heap.size+1+1+1) 50 i0 (.agg #[.int .i64 0,.int .i64 0,.string ⟨#[]⟩]) 3 32 Tryz.underlying23 hi hz0 hz1 hz2 rfl (by decide) _ _ _ rfl (HRW.out.alloc _) ⟨w2.heap.size,0,none⟩ 1 1 (Ja6 ⟨0,1,[]⟩) rfl rfl (JaW _ _ _) (Ja4 _) (by have:=HL2.out;unfold maxLen;omega) (by have:=HL2.out;omega) (by first | omega | (simp;omega)) ?_)
      intro v3 w3 hown3 hg3 _;have P3:=Jfu (q:=⟨0,1,[]⟩) HO2.out HCQ.out hown3 hg3;obtain⟨p3,q3,hv3⟩:=Jae hown3;rw[hv3]at P3 hown3 ⊢;obtain⟨G3,B3,r1,r2⟩:=P3;have HG3:=hdz G3;have HB3:=hdz B3;clear G3 B3 hown3 hg3 hv3;go_wp2
      go_roundg k
      case measure=>omega
      case rel=>exact⟨j+1,by go_num,by have:=HJK.out;omega,by rw[HSTEP.out];exact HG3.out,HB2.out.trans HB3.out⟩
theorem JhP(v1 v2:Value)(a b:List Pt)(w:World)(h1:opAt w v1 a)(h2:opAt w v2 b)(w1:∀p∈a,wfP p)(w2:∀p∈b,wfP p)(s1:∀p∈a,p.put.length<100000000)(s2:∀p∈b,p.put.length<100000000)(f1:fineP a)(f2:fineP b)(he:JbG a b=0)(hl:(Jar b).1=(Jar a).1) :
    Calls Tryz.prog 125 #[v1,v2,.bool false] w fun e w'=>∃v',e=.returned (.tuple #[v',.int .i64 0])/\opN w.heap.size w' v' (Jac (outJ false (Jah (Jac a)) (Jah (Jac b)) ((Jah (Jac a)).1.length+1)))/\Below w.heap.size w w':=by
 have cB:Hid _:=JdK v1 v2 a b w h1 h2 w1 w2 s1 s2 f1.len f2.len;rw[he]at cB;have cL1:Hid (∀wx,Below w.heap.size w wx->Calls Tryz.prog 184 #[v1] wx fun e w'=>e=.returned (.tuple #[.int .i64 (Jar a).1,.int .i64 (Jar a).2])/\Below wx.heap.size wx w'):=fun wx hb=>JbD v1 a wx (Ja3 h1 hb) f1.len;have cL2:Hid (∀wx,Below w.heap.size w wx->Calls Tryz.prog 184 #[v2] wx fun e w'=>e=.returned (.tuple #[.int .i64 (Jar b).1,.int .i64 (Jar b).2])/\Below wx.heap.size wx w'):=fun wx hb=>JbD v2 b wx (Ja3 h2 hb) f2.len;obtain⟨n1,n2,n3,n4⟩:=JaY f1;obtain⟨m1,m2,m3,m4⟩:=JaY f2;have sn1:=Jak fun p hp=>(n1 p hp).1;have sm1:=Jak fun p hp=>(m1 p hp).1;have hwn:wts (Jac a)<10000000:=by rw[JcL a (Jak f1.one)];have:=f1.w;omega
 have hwm:wts (Jac b)<10000000:=by rw[JcL b (Jak f2.one)];have:=f2.w;omega
 have hln:(Jac a).length<10000000:=by
  have:=Jeo _ fun p hp=>(n1 p hp).1;have key:∀(l:List Pt),(∀p∈l,oneP p)->l.length<=Jao l:=by
   intro l
   induction l with
   | nil=>intro _;simp
   | cons p l ih=>intro h;have h1:=JaE (h p (by simp));have h2:=ih fun q hq=>h q (by simp[hq]);rw[Jay,List.length_cons];omega
  have:=key _ fun p hp=>(n1 p hp).1;omega
 have hlm:(Jac b).length<10000000:=by
  have key:∀(l:List Pt),(∀p∈l,oneP p)->l.length<=Jao l:=by
   intro l
   induction l with
   | nil=>intro _;simp
   | cons p l ih=>intro h;have h1:=JaE (h p (by simp));have h2:=ih fun q hq=>h q (by simp[hq]);rw[Jay,List.length_cons];omega
  have:=key _ fun p hp=>(m1 p hp).1;omega
 have hA1:(Jar a).1=((Jah (Jac a)).1.length:Int):=by
  rw[(JaZ f1).1,←n3,←JbJ _ sn1,JbB];rfl
 have hB1:(Jar b).1=((Jah (Jac b)).1.length:Int):=by
  rw[(JaZ f2).1,←m3,←JbJ _ sm1,JbB];rfl
 have hnn:(Jah (Jac b)).1.length=(Jah (Jac a)).1.length:=by omega
 have hn9:(Jah (Jac a)).1.length<3000000:=by
  have h8:=(Jcx (Jac a) sn1 (by omega)).2.2.1;rw[JcL a (Jak f1.one)]at h8;have:=f1.w;omega
 have cS1:Hid (∀wx,Below w.heap.size w wx->_):=fun wx (hb:Below w.heap.size w wx)=>JcU v1 a wx (Ja3 h1 hb) (Jak f1.one) (by have:=f1.w;omega) f1.len;have cS3:Hid (∀wx,Below w.heap.size w wx->_):=fun wx (hb:Below w.heap.size w wx)=>JcU v2 b wx (Ja3 h2 hb) (Jak f2.one) (by have:=f2.w;omega) f2.len;have cS2:Hid (∀(v':Value) wx,opAt wx v' (Jac a)->_):=fun v' wx (ho:opAt wx v' (Jac a))=>Je0 v' (Jac a) wx ho sn1 hwn hln _ rfl;have cS4:Hid (∀(v':Value) wx,opAt wx v' (Jac b)->_):=fun v' wx (ho:opAt wx v' (Jac b))=>Je0 v' (Jac b) wx ho sm1 hwm hlm _ hnn;have hSm:∀p∈outJ false (Jah (Jac a)) (Jah (Jac b)) ((Jah (Jac a)).1.length+1),Jbc p:=Jja _ _ _ _;have hWt:wts (outJ false (Jah (Jac a)) (Jah (Jac b)) ((Jah (Jac a)).1.length+1))<10000000:=by
  have e1:=JcH (Jac a) sn1;have e2:=JcH (Jac b) sm1;have e3:=JnG false (Jah (Jac a)) (Jah (Jac b)) ((Jah (Jac a)).1.length+1);have e4:=JcL a (Jak f1.one);have e5:=JcL b (Jak f2.one);have e6:=f1.w;have e7:=f2.w;have e8:=(Jcx (Jac a) sn1 (by omega)).2.2.1;omega
 obtain⟨x,hx⟩:∃x,Jah (Jac a)=x:=⟨_,rfl⟩;obtain⟨y,hy⟩:∃y,Jah (Jac b)=y:=⟨_,rfl⟩;rw[hx]at hA1 hnn hn9 cS2 hSm hWt ⊢;rw[hy]at hB1 hnn cS4 hSm hWt ⊢;rw[hx]at cS4;obtain⟨n,hn⟩:∃n,x.1.length=n:=⟨_,rfl⟩;rw[hn]at hA1 hnn hn9 cS2 cS4 hSm hWt ⊢;rw[hl]at cL2;have hN:(Jar a).1=(n:Int):=hA1;generalize (Jar a).1=N at cL1 cL2 hN;have HN:=hdz hN;have hN1:0<=N:=by omega
 have hN2:N<3000000:=by omega
 clear hN;have HXL:=hdz hn;have HYL:=hdz hnn;have HSm:=hdz hSm;have HWt:=hdz hWt;clear hl hA1;generalize (Jar a).2=A2 at *;generalize (Jar b).2=B2 at *;obtain⟨p1,c1,rfl,_⟩:=h1;obtain⟨p2,c2,rfl,_⟩:=h2;clear w1 w2 s1 s2 f1 f2 he hB1 hnn hn hSm hWt n1 n2 n3 n4 m1 m2 m3 m4 sn1 sm1 hwn hwm hln hlm hx hy;obtain⟨na,hna⟩:∃l,Jac a=l:=⟨_,rfl⟩;obtain⟨nb,hnb⟩:∃l,Jac b=l:=⟨_,rfl⟩;rw[hna]at cS1 cS2;rw[hnb]at cS3 cS4;clear hna hnb;obtain⟨LF,hLF⟩:∃l,outJ false x y (n+1)=l:=⟨_,rfl⟩;rw[hLF]at HSm HWt ⊢;have HLF:=hdz hLF;clear hLF
 go_enter Tryz.func125,Tryz.ntmps125
 go_wp2_with (first
  | (have _:=HO6;go_at_call 188;refine(cS4.out _ _ (JeF HO6.out)).mono ?_;rintro e w9 ⟨gy1,gy2,rfl,o1,o2,hb⟩;have HY1:=hdz o1;have HY2:=hdz o2;have HB89:=hdz hb;clear o1 o2 hb)
  | (have _:=HG7;go_at_call 185;refine Calls.mono HG7.out ?_;rintro e w8 ⟨v8,rfl,o8,hb8⟩;have HO6:=hdz o8;have HB8:=hdz (HB7.out.trans (hb8.mono HB7.out.size));have HB68:=hdz (HB67.out.trans (hb8.mono HB67.out.size));obtain⟨p8,c8,rfl⟩:=Jae o8;clear o8 hb8)
  | (have _:=HX1;go_at_call 188;refine(cS3.out _ HB6.out).mono ?_;rintro e w7 ⟨g7,rfl,hb7,hc7⟩;have HG7:=hdz hc7;have HB7:=hdz (HB6.out.trans (hb7.mono HB6.out.size));have HB67:=hdz hb7;clear hb7 hc7)
  | (have _:=HO5;go_at_call 188;refine(cS2.out _ _ (JeF HO5.out)).mono ?_;rintro e w6 ⟨gx1,gx2,rfl,o1,o2,hb⟩;have HX1:=hdz o1;have HX2:=hdz o2;have HB6:=hdz (HB5.out.trans (hb.mono HB5.out.size));clear o1 o2 hb)
  | (have _:=HG4;go_at_call 185;refine Calls.mono HG4.out ?_;rintro e w5 ⟨v5,rfl,o5,hb5⟩;have HO5:=hdz o5;have HB5:=hdz (HB4.out.trans (hb5.mono HB4.out.size));obtain⟨p5,c5,rfl⟩:=Jae o5;clear o5 hb5)
  | (have _:=HB3;go_at_call 188;refine(cS1.out _ HB3.out).mono ?_;rintro e w4 ⟨g4,rfl,hb4,hc4⟩;have HG4:=hdz hc4;have HB4:=hdz (HB3.out.trans (hb4.mono HB3.out.size));clear hb4 hc4)
  | (have _:=HB2;go_at_call 184;refine(cL2.out _ HB2.out).mono ?_;rintro e w3 ⟨rfl,hb3⟩;have HB3:=hdz (HB2.out.trans (hb3.mono HB2.out.size));clear hb3)
  | (have _:=HB1;go_at_call 184;refine(cL1.out _ HB1.out).mono ?_;rintro e w2 ⟨rfl,hb2⟩;have HB2:=hdz (HB1.out.trans (hb2.mono HB1.out.size));clear hb2)
  | (go_at_call 183;refine Calls.mono cB.out ?_;rintro e w1 ⟨rfl,hb1⟩;have HB1:=hdz hb1;clear hb1))
 obtain⟨W0,hW0⟩:∃W0,W0=(((w9.alloc (.cells #[.slice (some ⟨gx1,0,none⟩) (n+1) (n+1),.slice (some ⟨gx2,0,none⟩) n n] 292)).alloc (.cells #[.slice (some ⟨gy1,0,none⟩) (n+1) (n+1),.slice (some ⟨gy2,0,none⟩) n n] 292)).alloc (.cells #[.slice none 0 0] 23)):=⟨_,rfl⟩;rw[←hW0];have hb90:Below w9.heap.size w9 W0:=by rw[hW0];exact(((brf _ _).alloc (nlr _) _).alloc (by simp) _).alloc (by simp;omega) _
 have hs0:W0.heap.size=w9.heap.size+1+1+1:=by rw[hW0];simp
 have hb69:Below w6.heap.size w6 W0:=(HB68.out.trans (HB89.out.mono HB68.out.size)).trans (hb90.mono (Nat.le_trans HB68.out.size HB89.out.size));have hb80:Below w9.heap.size w9 W0:=hb90
 have HGP:Hid (gapsAt W0 w9.heap.size gx1 gx2 gy1 gy2 n x y):=JkY HXL.out HYL.out HX1.out HX2.out HY1.out HY2.out hb69 hb90 (Nat.le_trans HB68.out.size HB89.out.size) (nlr _)
  (by rw[hW0];simp[go_sem]) (by rw[hW0];simp[go_sem]) (by rw[hW0];simp[go_sem]) (by rw[hW0];simp[go_sem])
 have HBW:Hid (Below w.heap.size w W0):=(HB8.out.trans (HB89.out.mono HB8.out.size)).trans (hb90.mono (Nat.le_trans HB8.out.size HB89.out.size));have HSZ:=hdz (Nat.le_trans HB8.out.size HB89.out.size)
 have hst:trR false x y n (w9.heap.size+1+1) W0 (n+1) (.int .i64 0) W0:=by
  refine⟨0,rfl,by omega,⟨⟨none,0,?_,?_⟩,?_⟩,.refl _ _⟩
  . have e:outJ false x y 0=[]:=by simp[outJ]
    rw[e,hW0];simp[go_sem]
  . have e:outJ false x y 0=[]:=by simp[outJ]
    rw[e];exact World.ownsRow_nil _ _ _ _
  . rw[hW0];simp[go_sem]
 have HST:=hdz hst;clear hst hW0 hb90 hs0 hb69 hb80 HB1 HB2 HB3 HG4 HB4 HO5 HB5 HX1 HX2 HB6 HG7 HB7 HB67 HO6 HB8 HB68 HY1 HY2 HB89 cB cL1 cL2 cS1 cS2 cS3 cS4
 go_loopg [50] (n+1) (fun k i wr=>trR false x y n (w9.heap.size+1+1) W0 k i wr)
 case atStart=>exact HST.out
 case round =>
  obtain⟨j,rfl,hjk,ho,hb⟩:=hrel;have HOR:=hdz ho;have HBR:=hdz hb;have hlen:=JnH false x y j;clear HST ho hb
  rcases Nat.lt_or_ge n j with hj|hj
  . obtain rfl:gk=0:=by omega
    obtain rfl:j=n+1:=by omega
    rw[HLF.out]at HOR hlen;have ho:=HOR.out;obtain⟨⟨pL,cL,k1,k2⟩,k3⟩:=ho;have CS:Hid _:=JcU _ LF wr (JeF k2) HSm.out HWt.out (by omega);have hNn:=HN.out;have hjn:¬(((n+1:Nat):Int)<N+1):=by omega
    clear hj hjk hlen k2 hNn
    go_wp2_with (first
     | (go_at_call 188;refine Calls.mono CS.out ?_;rintro e w2 ⟨g2,rfl,hb2,hc2⟩;have HC2:=hdz hc2;have HB2:=hdz hb2;clear hb2 hc2)
     | (have _:=HC2;go_at_call 185;refine Calls.mono HC2.out ?_;rintro e w3 ⟨v3,rfl,o3,hb3⟩))
    obtain⟨p3,c3,rfl⟩:=Jae o3
    go_ret2
    have hB:=HBW.out.trans (HBR.out.mono (show w.heap.size<=w9.heap.size+1+1 by have:=HSZ.out;omega));exact⟨_,rfl,JeE (Nat.le_trans hB.size HB2.out.size) o3,(hB.trans (HB2.out.mono hB.size)).trans (hb3.mono (Nat.le_trans hB.size HB2.out.size))⟩
  rcases Nat.lt_or_ge j n with hj2|hj2
  rotate_left
  . obtain rfl:j=n:=by omega
    obtain rfl:gk=1:=by omega
    have hstep:outJ false x y (j+1)=outJ false x y j++(JbU y.2.length++putO x.2):=by
     have:=Jly (first:=false) (HXL.out.trans HYL.out.symm);rw[HXL.out]at this;exact this
    obtain⟨L,hL⟩:∃L,outJ false x y j=L:=⟨_,rfl⟩;rw[hL]at HOR hlen hstep;have GPwr:Hid (gapsAt wr w9.heap.size gx1 gx2 gy1 gy2 j x y):=JaF HGP.out HBR.out (nlr _);have fa0wr:=GPwr.out.a0;have fb0wr:=GPwr.out.b0;have fxwr:=GPwr.out.x2;have fywr:=GPwr.out.y2;obtain⟨U,hU⟩:∃U,x.2=U:=⟨_,rfl⟩;obtain⟨V,hV⟩:∃V,y.2=V:=⟨_,rfl⟩;rw[hU]at hstep fxwr;rw[hV]at hstep fywr;have HU:=hdz hU;have HV:=hdz hV;have hzv:(ByteArray.mk V.toArray).size=V.length:=by simp[ByteArray.size]
    have cP:Hid (∀W l,outAt W (w9.heap.size+1+1) l->l.length<1000000000->Calls Tryz.prog 190 #[.string ⟨U.toArray⟩,.pointer (some ⟨w9.heap.size+1+1,0,none⟩)] W fun e w'=>(∃v,e=.returned v)/\outAt w' (w9.heap.size+1+1) (l++putO U)/\Below (w9.heap.size+1+1) W w'):=fun W l h hl=>Jhx _ l U W h hl;have cK:Hid (∀W l,outAt W (w9.heap.size+1+1) l->l.length<1000000000->Calls Tryz.prog 189 #[.int .i64 (V.length:Int),.pointer (some ⟨w9.heap.size+1+1,0,none⟩)] W fun e w'=>(∃v,e=.returned v)/\outAt w' (w9.heap.size+1+1) (l++JbU V.length)/\Below (w9.heap.size+1+1) W w'):=fun W l h hl=>Jer _ l V.length W h hl;have HSTEP:Hid (outJ false x y (j+1)=(L++JbU V.length)++putO U):=by rw[List.append_assoc];exact hstep
    have hpk:(putO U).length<=1/\(JbU V.length).length<=1:=⟨by unfold putO;split<;>simp,by unfold JbU;split<;>simp⟩;have HL0:Hid (L.length<1000000000):=show L.length<1000000000 by omega
    have HL1:Hid ((L++JbU V.length).length<1000000000):=show(L++JbU V.length).length<1000000000 by rw[List.length_append];omega
    have hNn:=HN.out;have hjn:(j:Int)<N+1:=by omega
    have hjd:(j:Int)=N:=by omega
    clear hNn;subst hjd;have hj9:(j:Int)<10000000:=by omega
    clear hL hstep hU hV hpk hjk hlen hj hj2
    go_wp2_with (first
     | (have _:=HO1;go_at_call 190;refine(cP.out _ _ HO1.out HL1.out).mono ?_;rintro e w2 ⟨⟨v2,rfl⟩,ho2,hb2⟩;have HO2:=hdz ho2;have HB2:=hdz (HB1.out.trans hb2);have GPw2:Hid (gapsAt w2 w9.heap.size gx1 gx2 gy1 gy2 j x y):=JaF HGP.out HB2.out (nlr _);have fa0w2:=GPw2.out.a0;have fb0w2:=GPw2.out.b0;have fxw2:=GPw2.out.x2;rw[HU.out]at fxw2;have fyw2:=GPw2.out.y2;rw[HV.out]at fyw2;clear ho2 hb2)
     | (go_at_call 189;refine(cK.out _ _ HOR.out HL0.out).mono ?_;rintro e w1 ⟨⟨v1,rfl⟩,ho1,hb1⟩;have HO1:=hdz ho1;have HB1:=hdz (HBR.out.trans hb1);have GPw1:Hid (gapsAt w1 w9.heap.size gx1 gx2 gy1 gy2 j x y):=JaF HGP.out HB1.out (nlr _);have fa0w1:=GPw1.out.a0;have fb0w1:=GPw1.out.b0;have fxw1:=GPw1.out.x2;rw[HU.out]at fxw1;have fyw1:=GPw1.out.y2;rw[HV.out]at fyw1;clear ho1 hb1))
    go_roundg 0
    case measure=>omega
    case rel=>exact⟨j+1,by go_num,by omega,by rw[HSTEP.out];exact HO2.out,HB2.out⟩
  . obtain ⟨⟨u,d⟩,hxj⟩:∃z,x.1[j]?=some z:=⟨_,lgg (by rw[HXL.out];exact hj2)⟩
    obtain⟨⟨v,e⟩,hyj⟩:∃z,y.1[j]?=some z:=⟨_,lgg (by rw[HYL.out];exact hj2)⟩;have HXJ:=hdz hxj;have HYJ:=hdz hyj;have hstep:outJ false x y (j+1)=outJ false x y j++((JbU v.length++putO u)++Jg7 e d):=Jlx (first:=false) (HXL.out.trans HYL.out.symm) (by rw[HXL.out];exact hj2) hxj hyj;obtain⟨L,hL⟩:∃L,outJ false x y j=L:=⟨_,rfl⟩;rw[hL]at HOR hlen hstep;have GPwr:Hid (gapsAt wr w9.heap.size gx1 gx2 gy1 gy2 n x y):=JaF HGP.out HBR.out (nlr _);have fa0wr:=GPwr.out.a0;have fa1wr:=GPwr.out.a1;have fb0wr:=GPwr.out.b0;have fb1wr:=GPwr.out.b1;have fxwr:=(GPwr.out.x1 _ _ _ HXJ.out).1;have fxdwr:=(GPwr.out.x1 _ _ _ HXJ.out).2;have fywr:=(GPwr.out.y1 _ _ _ HYJ.out).1;have fydwr:=(GPwr.out.y1 _ _ _ HYJ.out).2;have hzv:(ByteArray.mk v.toArray).size=v.length:=by simp[ByteArray.size]
    have cP:Hid (∀W l,outAt W (w9.heap.size+1+1) l->l.length<1000000000->Calls Tryz.prog 190 #[.string ⟨u.toArray⟩,.pointer (some ⟨w9.heap.size+1+1,0,none⟩)] W fun e w'=>(∃v,e=.returned v)/\outAt w' (w9.heap.size+1+1) (l++putO u)/\Below (w9.heap.size+1+1) W w'):=fun W l h hl=>Jhx _ l u W h hl;have cK:Hid (∀W l,outAt W (w9.heap.size+1+1) l->l.length<1000000000->Calls Tryz.prog 189 #[.int .i64 (v.length:Int),.pointer (some ⟨w9.heap.size+1+1,0,none⟩)] W fun e w'=>(∃v,e=.returned v)/\outAt w' (w9.heap.size+1+1) (l++JbU v.length)/\Below (w9.heap.size+1+1) W w'):=fun W l h hl=>Jer _ l v.length W h hl;have cU:Hid (∀W l,outAt W (w9.heap.size+1+1) l->l.length<1000000000->Calls Tryz.prog 189 #[.int .i64 1,.pointer (some ⟨w9.heap.size+1+1,0,none⟩)] W fun e w'=>(∃v,e=.returned v)/\outAt w' (w9.heap.size+1+1) (l++[⟨1,0,[]⟩])/\Below (w9.heap.size+1+1) W w'):=fun W l h hl=>Jer _ l 1 W h hl;have HSTEP:Hid (outJ false x y (j+1)=((L++JbU v.length)++putO u)++Jg7 e d):=by rw[List.append_assoc L,List.append_assoc L];exact hstep
    have hpk:(putO u).length<=1/\(JbU v.length).length<=1:=⟨by unfold putO;split<;>simp,by unfold JbU;split<;>simp⟩;have HL0:Hid (L.length<1000000000):=show L.length<1000000000 by omega
    have HL1:Hid ((L++JbU v.length).length<1000000000):=show(L++JbU v.length).length<1000000000 by rw[List.length_append];omega
    have HL2':((L++JbU v.length)++putO u).length<100000000:=by rw[List.length_append,List.length_append];omega
    obtain⟨L2,hL2⟩:∃l,(L++JbU v.length)++putO u=l:=⟨_,rfl⟩;rw[hL2]at HSTEP HL2';have HL2:=hdz HL2';have HE2:=hdz hL2;clear HL2' hL2;have hjn2:(j:Int)<(n:Int):=by omega
    have hNn:=HN.out;have hjn:(j:Int)<N+1:=by omega
    have hjd:((j:Int)==N)=false:=beq_eq_false_iff_ne.2 (by omega);clear hNn;have hj9:(j:Int)<10000000:=by omega
    obtain⟨k,rfl⟩:∃k,gk=k+1:=⟨gk - 1,by omega⟩;have HJK:=hdz hjk;clear hL hstep hpk hjk hlen hj hj2 hxj hyj
    cases e with
    | true =>
     go_wp2_with (first
      | (have _:=HO1;go_at_call 190;refine(cP.out _ _ HO1.out HL1.out).mono ?_;rintro e w2 ⟨⟨v2,rfl⟩,ho2,hb2⟩;have HO2:Hid (outAt w2 (w9.heap.size+1+1) L2):=(by rw[←HE2.out];exact ho2);have HB2:=hdz (HB1.out.trans hb2);have GPw2:Hid (gapsAt w2 w9.heap.size gx1 gx2 gy1 gy2 n x y):=JaF HGP.out HB2.out (nlr _);have fa0w2:=GPw2.out.a0;have fa1w2:=GPw2.out.a1;have fb0w2:=GPw2.out.b0;have fb1w2:=GPw2.out.b1;have fxw2:=(GPw2.out.x1 _ _ _ HXJ.out).1;have fxdw2:=(GPw2.out.x1 _ _ _ HXJ.out).2;have fyw2:=(GPw2.out.y1 _ _ _ HYJ.out).1;have fydw2:=(GPw2.out.y1 _ _ _ HYJ.out).2;clear ho2 hb2)
      | (go_at_call 189;refine(cK.out _ _ HOR.out HL0.out).mono ?_;rintro e w1 ⟨⟨v1,rfl⟩,ho1,hb1⟩;have HO1:=hdz ho1;have HB1:=hdz (HBR.out.trans hb1);have GPw1:Hid (gapsAt w1 w9.heap.size gx1 gx2 gy1 gy2 n x y):=JaF HGP.out HB1.out (nlr _);have fa0w1:=GPw1.out.a0;have fa1w1:=GPw1.out.a1;have fb0w1:=GPw1.out.b0;have fb1w1:=GPw1.out.b1;have fxw1:=(GPw1.out.x1 _ _ _ HXJ.out).1;have fxdw1:=(GPw1.out.x1 _ _ _ HXJ.out).2;have fyw1:=(GPw1.out.y1 _ _ _ HYJ.out).1;have fydw1:=(GPw1.out.y1 _ _ _ HYJ.out).2;clear ho1 hb1))
     go_roundg k
     case measure=>omega
     case rel=>exact⟨j+1,by go_num,by have:=HJK.out;omega,by rw[HSTEP.out];exact(List.append_nil _).symm ▸ HO2.out,HB2.out⟩
    | false =>
     cases d with
     | false =>
      go_wp2_with (first
       | (have _:=HO2;go_at_call 189;refine(cU.out _ _ HO2.out (Nat.lt_trans HL2.out (by decide))).mono ?_;rintro e w3 ⟨⟨v3,rfl⟩,ho3,hb3⟩)
       | (have _:=HO1;go_at_call 190;refine(cP.out _ _ HO1.out HL1.out).mono ?_;rintro e w2 ⟨⟨v2,rfl⟩,ho2,hb2⟩;have HO2:Hid (outAt w2 (w9.heap.size+1+1) L2):=(by rw[←HE2.out];exact ho2);have HB2:=hdz (HB1.out.trans hb2);have GPw2:Hid (gapsAt w2 w9.heap.size gx1 gx2 gy1 gy2 n x y):=JaF HGP.out HB2.out (nlr _);have fa0w2:=GPw2.out.a0;have fa1w2:=GPw2.out.a1;have fb0w2:=GPw2.out.b0;have fb1w2:=GPw2.out.b1;have fxw2:=(GPw2.out.x1 _ _ _ HXJ.out).1;have fxdw2:=(GPw2.out.x1 _ _ _ HXJ.out).2;have fyw2:=(GPw2.out.y1 _ _ _ HYJ.out).1;have fydw2:=(GPw2.out.y1 _ _ _ HYJ.out).2;clear ho2 hb2)
       | (go_at_call 189;refine(cK.out _ _ HOR.out HL0.out).mono ?_;rintro e w1 ⟨⟨v1,rfl⟩,ho1,hb1⟩;have HO1:=hdz ho1;have HB1:=hdz (HBR.out.trans hb1);have GPw1:Hid (gapsAt w1 w9.heap.size gx1 gx2 gy1 gy2 n x y):=JaF HGP.out HB1.out (nlr _);have fa0w1:=GPw1.out.a0;have fa1w1:=GPw1.out.a1;have fb0w1:=GPw1.out.b0;have fb1w1:=GPw1.out.b1;have fxw1:=(GPw1.out.x1 _ _ _ HXJ.out).1;have fxdw1:=(GPw1.out.x1 _ _ _ HXJ.out).2;have fyw1:=(GPw1.out.y1 _ _ _ HYJ.out).1;have fydw1:=(GPw1.out.y1 _ _ _ HYJ.out).2;clear ho1 hb1))
      go_roundg k
      case measure=>omega
      case rel=>exact⟨j+1,by go_num,by have:=HJK.out;omega,by rw[HSTEP.out];exact ho3,HB2.out.trans hb3⟩
     | true =>
      go_upto_region 22 with (first
       | (have _:=HO1;go_at_call 190;refine(cP.out _ _ HO1.out HL1.out).mono ?_;rintro e w2 ⟨⟨v2,rfl⟩,ho2,hb2⟩;have HO2:Hid (outAt w2 (w9.heap.size+1+1) L2):=(by rw[←HE2.out];exact ho2);have HB2:=hdz (HB1.out.trans hb2);have GPw2:Hid (gapsAt w2 w9.heap.size gx1 gx2 gy1 gy2 n x y):=JaF HGP.out HB2.out (nlr _);have fa0w2:=GPw2.out.a0;have fa1w2:=GPw2.out.a1;have fb0w2:=GPw2.out.b0;have fb1w2:=GPw2.out.b1;have fxw2:=(GPw2.out.x1 _ _ _ HXJ.out).1;have fxdw2:=(GPw2.out.x1 _ _ _ HXJ.out).2;have fyw2:=(GPw2.out.y1 _ _ _ HYJ.out).1;have fydw2:=(GPw2.out.y1 _ _ _ HYJ.out).2;clear ho2 hb2;have ho2':=HO2.out;obtain⟨⟨pq,cq,kq1,kq2⟩,kq3⟩:=ho2';have HRW:=hdz kq2;have HCQ:=hdz kq1;have HQ2:=hdz (Jge HO2.out);have HQ3:=hdz kq3;clear kq1 kq2 kq3)
       | (go_at_call 189;refine(cK.out _ _ HOR.out HL0.out).mono ?_;rintro e w1 ⟨⟨v1,rfl⟩,ho1,hb1⟩;have HO1:=hdz ho1;have HB1:=hdz (HBR.out.trans hb1);have GPw1:Hid (gapsAt w1 w9.heap.size gx1 gx2 gy1 gy2 n x y):=JaF HGP.out HB1.out (nlr _);have fa0w1:=GPw1.out.a0;have fa1w1:=GPw1.out.a1;have fb0w1:=GPw1.out.b0;have fb1w1:=GPw1.out.b1;have fxw1:=(GPw1.out.x1 _ _ _ HXJ.out).1;have fxdw1:=(GPw1.out.x1 _ _ _ HXJ.out).2;have fyw1:=(GPw1.out.y1 _ _ _ HYJ.out).1;have fydw1:=(GPw1.out.y1 _ _ _ HYJ.out).2;clear ho1 hb1))
      obtain⟨i0,hi,hz0,hz1,hz2⟩:=info_parts Jbf;have kq1:=HCQ.out;have kq3:=HQ3.out;have hq2:=HQ2.out
      go_wp2_with (have _:=HO2;at_builtin;refine wpList_append_own _ rfl _ _ 23 rfl (w9.heap.size+1+1+1) 50 i0 (.agg #[.int .i64 0,.int .i64 0,.string ⟨#[]⟩]) 3 32 Tryz.underlying23 hi hz0 hz1 hz2 rfl (by decide) _ _ _ rfl (HRW.out.alloc _) ⟨w2.heap.size,0,none⟩ 1 1 (Ja6 ⟨0,1,[]⟩) rfl rfl (JaW _ _ _) (Ja4 _) (by have:=HL2.out;unfold maxLen;omega) (by have:=HL2.out;omega) (by first | omega | (simp;omega)) ?_)
      intro v3 w3 hown3 hg3 _;have P3:=Jfu (q:=⟨0,1,[]⟩) HO2.out HCQ.out hown3 hg3;obtain⟨p3,q3,hv3⟩:=Jae hown3;rw[hv3]at P3 hown3 ⊢;obtain⟨G3,B3,r1,r2⟩:=P3;have HG3:=hdz G3;have HB3:=hdz B3;clear G3 B3 hown3 hg3 hv3;go_wp2
      go_roundg k
      case measure=>omega
      case rel=>exact⟨j+1,by go_num,by have:=HJK.out;omega,by rw[HSTEP.out];exact HG3.out,HB2.out.trans HB3.out⟩
theorem JoU{a b:List Pt}(f1:fineP a)(f2:fineP b)(hl:(Jar b).1=(Jar a).1):Jea (Jac a)=Jea (Jac b):=by
 have h1:=JbJ _ (Jak fun p hp=>((JaY f1).1 p hp).1);have h2:=JbJ _ (Jak fun p hp=>((JaY f2).1 p hp).1);have h3:=(JaY f1).2.2.1;have h4:=(JaY f2).2.2.1;have h5:=(JaZ f1).1;have h6:=(JaZ f2).1;omega
theorem JrJ(F:Bool){a b:List Pt}(f1:fineP a)(f2:fineP b)(hl:(Jar b).1=(Jar a).1):Jac (outJ F (Jah (Jac a)) (Jah (Jac b)) ((Jah (Jac a)).1.length+1))=Jaq (Jaw F a b):=by
 have hU:=JoU f1 f2 hl;have o1:∀p∈Jac a,oneP p:=fun p hp=>((JaY f1).1 p hp).1;have o2:∀p∈Jac b,oneP p:=fun p hp=>((JaY f2).1 p hp).1;have hz:(Jah (Jac a)).1.length=(Jah (Jac b)).1.length:=by rw[JbB,JbB];exact hU
 have e1:outJ F (Jah (Jac a)) (Jah (Jac b)) ((Jah (Jac a)).1.length+1)=((Jah (Jac a)).1.zip (Jah (Jac b)).1).flatMap (gapO F)++Jgc F (Jah (Jac a)).2 (Jah (Jac b)).2:=by
  unfold outJ;rw[if_pos (by omega),List.take_of_length_le (by rw[List.length_zip];omega)]
 rw[e1];unfold Jac Jaw
 congr 1
 have e2:=JnE F (Jah (Jac a)).1 (Jah (Jac b)).1 (Jah (Jac a)).2 (Jah (Jac b)).2 nst0 hz;unfold Jac at e2;rw[e2]
 cases F with
 | true =>
  rw[if_pos rfl];have e3:=JiK (Jao (Jac a)+Jao (Jac b)) (Jac a) (Jac b) nst0 o1 o2 hU (nlr _);rw[←JbB,←JbB]at e3;exact e3.symm
 | false =>
  rw[if_neg (by decide)];have e3:=Jh7 (Jao (Jac b)+Jao (Jac a)) (Jac a) (Jac b) nst0 o1 o2 hU (by omega);rw[←JbB,←JbB]at e3;exact e3.symm
theorem JjM(v1 v2:Value)(first:Bool)(a b:List Pt)(w:World)(h1:opAt w v1 a)(h2:opAt w v2 b)(w1:∀p∈a,wfP p)(w2:∀p∈b,wfP p)(s1:∀p∈a,p.put.length<100000000)(s2:∀p∈b,p.put.length<100000000)(l1:a.length<10000000)(l2:b.length<10000000)(hf:JbG a b=0->fineP a/\fineP b) :
    Calls Tryz.prog 125 #[v1,v2,.bool first] w fun e w'=>∃v',e=.returned (.tuple #[v',.int .i64 (Ji8 a b)])/\opN w.heap.size w' v' (if Ji8 a b=0 then Jaq (Jaw first a b) else [])/\Below w.heap.size w w':=by
 have none:∀w',opN w.heap.size w' (.slice none 0 0) []:=JbS _;unfold Ji8
 by_cases he:JbG a b=0
 . obtain ⟨f1,f2⟩:=hf he
   rw[if_pos he]
   by_cases hl:(Jar b).1=(Jar a).1
   . rw[if_pos hl,if_pos rfl,←JrJ first f1 f2 hl]
     cases first with
     | true=>exact JiB v1 v2 a b w h1 h2 w1 w2 s1 s2 f1 f2 he hl
     | false=>exact JhP v1 v2 a b w h1 h2 w1 w2 s1 s2 f1 f2 he hl
   . rw[if_neg hl,if_neg (by decide)]
     exact(Jlc v1 v2 first a b w h1 h2 w1 w2 s1 s2 l1 l2 he hl).mono fun e w' h=>⟨_,h.1,none w',h.2⟩
 . rw[if_neg he,if_neg he]
   exact(Jld v1 v2 first a b w h1 h2 w1 w2 s1 s2 l1 l2 he).mono fun e w' h=>⟨_,h.1,none w',h.2⟩
theorem JqX{ps:List Pt}(h:fewB ps=true):ps.length<=100/\∀p∈ps,p.put.length<=300:=by
 unfold fewB at h;rw[Bool.and_eq_true]at h;refine⟨of_decide_eq_true h.1,fun p hp=>?_⟩;have h2:=List.all_eq_true.1 h.2 p hp;unfold fewP at h2;simp only[Bool.not_eq_true',Bool.or_eq_false_iff,decide_eq_false_iff_not]at h2;omega
theorem Js5(v:Value)(ps:List Pt)(w:World)(hr:opAt w v ps):Calls Tryz.prog 31 #[v] w fun e w'=>e=.returned (.bool (fewB ps))/\Below w.heap.size w w':=by
 by_cases hl:ps.length<10000000
 . exact few_any v ps w hr hl
 . obtain⟨p,c,rfl,r1,r2,r3⟩:=hr
   have hb:fewB ps=false:=by unfold fewB;rw[decide_eq_false (by omega)];rfl
   rw[hb];unfold maxLen at r2;have hm':(100:Int)<(ps.length:Int):=by omega
   clear r3
   go_enter Tryz.func31,Tryz.ntmps31
   go_wp2;go_ret;exact⟨rfl,brf _ _⟩
end
section
open Go.RowKit
theorem JfG(s:ByteArray)(rs:List Nat)(hr:∀r∈rs,Jas r)(he:encs rs=s.data.toList)(hs:s.size<100000000)(w:World) :
    Calls Tryz.prog 12 #[.string s] w fun e w'=>e=.returned (.tuple #[cntV rs,.agg #[.int .i64 0,.int .i64 (-1)]])/\Below w.heap.size w w':=by
 have hsc:=JbT rs hr;rw[he]at hsc;have hro:Jam s.data.toList=rs:=by
  unfold Jam;rw[hsc];simp[wide,List.map_map,Function.comp_def]
 refine(JeB s hs w (by rw[hsc])).mono fun e w' h=>⟨?_,h.1⟩;rw[h.2,hro];have h1:(s.size:Int)=C1 rs:=by rw[Jcf,he,←Lib.size_eq]
 have h2:((JbA rs).length:Int)=C2 rs:=by unfold C2;rw[JkL]
 have h4:(Lib.countByte s.data.toList 10:Int)=C4 rs:=by unfold C4;rw[JkK hr,he]
 unfold cnt cntV;rw[h1,h2,h4];rfl
end
section
open Go.RowKit
open Go.Maps (Keyed int_keyed keyOf_int_mk)
theorem Jgk:Keyed Tryz.prog 3:=int_keyed Tryz.underlying3
theorem JrD(w:World):(zeroValue 3).run Tryz.prog w=.ok (.int .i64 0) w:=by kernel_rfl
def inC (u a b c:Int):Int:=if u=1 then a else if u=2 then b else if u=3 then c else 0
theorem at_in(u a b c:Int):(((((DataW.map (H:=Unit) []).put (.int .i64 1) (.lit (.int .i64 a))).put (.int .i64 2) (.lit (.int .i64 b))).put (.int .i64 3) (.lit (.int .i64 c))).atKey (.int .i64 u) (.lit (.int .i64 0)))=.lit (.int .i64 (inC u a b c)):=by
 simp[DataW.put,DataW.insert,DataW.atKey,Lit.sameKey,Lit.before,inC]
 by_cases h1:u=1
 . subst h1;rfl
 by_cases h2:u=2
 . subst h2;rfl
 by_cases h3:u=3
 . subst h3;rfl
 simp[List.find?,h1,h2,h3,Ne.symm h1,Ne.symm h2,Ne.symm h3]
theorem Jo6(a1 a2 a3 a4 u:Int)(v1:(Lit.int .i64 a1).wf=true)(v2:(Lit.int .i64 a2).wf=true)(v3:(Lit.int .i64 a3).wf=true)(vu:(Lit.int .i64 u).wf=true)(w:World) :
    Calls Tryz.prog 34 #[.agg #[.int .i64 a1,.int .i64 a2,.int .i64 a3,.int .i64 a4],.int .i64 u] w
     fun e w'=>e=.returned (.int .i64 (inC u a1 a2 a3))/\Below w.heap.size w w':=by
 have wf1:(Lit.int .i64 1).wf=true:=by decide
 have wf2:(Lit.int .i64 2).wf=true:=by decide
 have wf3:(Lit.int .i64 3).wf=true:=by decide
 have hb0:Below (w.heap.size+1) (w.alloc (.cells #[.int .i64 a1,.int .i64 a2,.int .i64 a3,.int .i64 a4] 25)) ((w.alloc (.cells #[.int .i64 a1,.int .i64 a2,.int .i64 a3,.int .i64 a4] 25)).alloc (.map #[] 0)) :=
  (brf _ _).alloc (by simp) _
 have h0:=World.ownsMap_made (H:=Unit) (w.alloc (.cells #[.int .i64 a1,.int .i64 a2,.int .i64 a3,.int .i64 a4] 25)) Tryz.prog 3 (plainElem Tryz.prog 3);rw[wsa]at h0;obtain⟨w1,r1,h1,g1⟩:=h0.update Jgk Tryz.underlying193 (by unfold maxLen;omega) (keyOf_int_mk Tryz.underlying3 wf1) (plainElem_int Tryz.underlying3 v1);have hb1:=hb0.grown g1 (by simp) (by intro k hk;cases hk;omega);obtain⟨w2,r2,h2,g2⟩:=h1.update Jgk Tryz.underlying193 (by unfold maxLen;omega) (keyOf_int_mk Tryz.underlying3 wf2) (plainElem_int Tryz.underlying3 v2);have hb2:=hb1.grown g2 (by have:=hb1.size;simp at this;omega) (by intro k hk;cases hk;omega);obtain⟨w3,r3,h3,g3⟩:=h2.update Jgk Tryz.underlying193 (by unfold maxLen;omega) (keyOf_int_mk Tryz.underlying3 wf3) (plainElem_int Tryz.underlying3 v3);have hb3:=hb2.grown g3 (by have:=hb2.size;simp at this;omega) (by intro k hk;cases hk;omega);obtain⟨c,r4,h4,_⟩:=h3.lookup_int Jgk Tryz.underlying193 Tryz.underlying3 (JrD _) (keyOf_int_mk Tryz.underlying3 vu);rw[at_in]at h4;injection h4 with h4;injection h4 with _ h4;have c1:w1.cell? ⟨w.heap.size,1,none⟩=some (.int .i64 a2):=by rw[hb1.cell (p:=⟨w.heap.size,1,none⟩) (by simp)];simp[go_sem]
 have c2:w2.cell? ⟨w.heap.size,2,none⟩=some (.int .i64 a3):=by rw[hb2.cell (p:=⟨w.heap.size,2,none⟩) (by simp)];simp[go_sem]
 have hb:Below w.heap.size w w3:=(((brf _ w).alloc (nlr _) _)).trans (hb3.mono (by omega));clear hb0 hb1 hb2 hb3 h0 h1 h2 h3 g1 g2 g3;subst h4;have hmm:=@run_makeMap Tryz.prog
 go_enter Tryz.func34,Tryz.ntmps34
 go_wp2;go_ret;exact⟨rfl,hb⟩
theorem Jhu{n:Int}(h0: -9223372036854775808<=n)(h1:n<9223372036854775808):(Lit.int .i64 n).wf=true:=by
 simp[Lit.wf,IntKind.min,IntKind.max,IntKind.signed,IntKind.bits];omega
theorem JeV(u:Int)(rs:List Nat)(hu0: -9223372036854775808<=u)(hu1:u<9223372036854775808)(hz:C1 rs<=100000000)(w:World) :
    Calls Tryz.prog 34 #[cntV rs,.int .i64 u] w fun e w'=>e=.returned (.int .i64 (by_ u rs))/\Below w.heap.size w w':=by
 have h1:=JdY rs;have h2:=Jmm rs;have h3:=JiG rs;exact Jo6 (C1 rs) (C2 rs) (C3 rs) (C4 rs) u (Jhu (by omega) (by omega)) (Jhu (by omega) (by omega)) (Jhu (by omega) (by omega)) (Jhu hu0 hu1) w
theorem Js9{rs:List Nat}(hr:∀r∈rs,Jas r){i:Nat}(hi:i<=rs.length):edge rs i=[.int .i64 (C1 (rs.take i)),.int .i64 (C2 (rs.take i)),.int .i64 (C3 (rs.take i)),.int .i64 (C4 (rs.take i))]:=by
 have h1:Jna rs i=C1 (rs.take i):=by unfold Jna;rw[Jcf]
 have h2:Jrf rs i=C2 (rs.take i):=by unfold Jrf C2;rw[JkL]
 have h3:C3 (rs.take i)=(i:Int):=by show((rs.take i).length:Int)=_;rw[List.length_take];omega
 have h4:Jre rs i=C4 (rs.take i):=by unfold Jre C4;rw[JkK fun r h=>hr r (List.mem_of_mem_take h)]
 unfold edge;rw[h1,h2,h3,h4]
end
section
open Go.RowKit
attribute [local go_sem] Oper.semAt_some
theorem Jef(u:Int):inB u 1 3=true↔Jaz u:=by
 unfold inB Jaz;rw[decide_eq_true_iff];constructor
 . intro h;omega
 . intro h;omega
theorem Jli(s:ByteArray)(rs:List Nat)(u a:Int)(hr:∀r∈rs,Jas r)(he:encs rs=s.data.toList)(hs:s.size<1000000)(hu:Jaz u)(h0:0<=a)(h1:a<=by_ u rs)(w:World) :
    Calls Tryz.prog 87 #[.string s,.int .i64 u,.int .i64 a] w fun e w'=>e=.returned (.tuple #[cntV (if JaM rs u a then upTo rs u a else []),.int .i64 (if JaM rs u a then 0 else 10)])/\Below w.heap.size w w':=by
 have hC1:C1 rs=s.size:=by rw[Jcf,he,←Lib.size_eq]
 have hru:inB u 1 3=true:=(Jef u).2 hu;have hra:inB a 0 (by_ u rs)=true:=decide_eq_true ⟨h0,h1⟩;have hu0: -9223372036854775808<=u/\u<9223372036854775808:=by unfold Jaz at hu;omega
 have cI1:=fun wx=>JfA u 1 3 wx;rw[hru]at cI1;have cI2:=fun wx=>JfA a 0 (by_ u rs) wx;rw[hra]at cI2;have cC:Hid (∀wx,Calls Tryz.prog 12 #[.string s] wx fun e w'=>e=.returned (.tuple #[cntV rs,.agg #[.int .i64 0,.int .i64 (-1)]])/\Below wx.heap.size wx w'):=fun wx=>JfG s rs hr he (by omega) wx;have cN:Hid (∀wx,Calls Tryz.prog 34 #[cntV rs,.int .i64 u] wx fun e w'=>e=.returned (.int .i64 (by_ u rs))/\Below wx.heap.size wx w'):=fun wx=>JeV u rs hu0.1 hu0.2 (by omega) wx;have hsc:=JbT rs hr;rw[he]at hsc;have hro:Jam s.data.toList=rs:=by
  unfold Jam;rw[hsc];simp[wide,List.map_map,Function.comp_def]
 have cE:Hid (∀wx,Calls Tryz.prog 154 #[.string s] wx fun e w'=>∃v,e=.returned v/\w'.ownsRow wx.heap.size 25 4 v (rs.length+1) (JfK rs (rs.length+1))/\Below wx.heap.size wx w'):=fun wx=>by
  have:=Jle s (by omega) wx (by rw[hsc]);rw[hro]at this;exact this
 obtain⟨e1,e2⟩:=JdA hu h1;have HE1:=hdz e1;have HE2:=hdz e2;have HR:=hdz hr;have cT:Hid (∀i wx,Calls Tryz.prog 34 #[cntV (rs.take i),.int .i64 u] wx fun e w'=>e=.returned (.int .i64 (by_ u (rs.take i)))/\Below wx.heap.size wx w'):=fun i wx=>JeV u (rs.take i) hu0.1 hu0.2 (by
  have e:C1 rs=C1 (rs.take i)+C1 (rs.drop i):=by rw[←Jcg,List.take_append_drop]
  have:=JdY (rs.drop i)
  omega) wx
 have hrl:rs.length<1000000:=by have:=JiG rs;unfold C3 at this;omega
 have hb0:Below w.heap.size w (w.alloc (.cells #[.int .i64 0,.int .i64 0,.int .i64 0,.int .i64 0] 25)):=(brf _ w).alloc (nlr _) _;have HB0:=hdz hb0;have HK0:=hdz (Jc6 w 0 0 0 0 25);obtain⟨Bu,hBu⟩:∃Bu,by_ u rs=Bu:=⟨_,rfl⟩;rw[hBu]at cI2 cN;obtain⟨XA,hXA⟩:∃XA,(if JaM rs u a then upTo rs u a else [])=XA:=⟨_,rfl⟩;obtain⟨EA,hEA⟩:∃EA:Int,(if JaM rs u a then 0 else 10)=EA:=⟨_,rfl⟩;have HXA:=hdz hXA;have HEA:=hdz hEA;rw[hXA,hEA];clear hXA hEA;unfold cntV at cC cN cT;clear hr he hs hu h0 h1 hC1 hru hra hu0 hsc hro e1 e2 hb0 hBu
 go_enter Tryz.func87,Tryz.ntmps87
 go_wp2_with (first
  | (have _:=HB2;go_at_call 85;refine(cI2 _).mono ?_;rintro e w1 ⟨rfl,hw1⟩;obtain rfl:=hw1.symm)
  | (go_at_call 85;refine(cI1 _).mono ?_;rintro e w1 ⟨rfl,hw1⟩;obtain rfl:=hw1.symm)
  | (go_at_call 12;refine(cC.out _).mono ?_;rintro e w1 ⟨rfl,hb1⟩;have HB1:=hdz (HB0.out.trans (hb1.mono HB0.out.size));have HK1:=hdz (JaB HK0.out hb1);have hbx:=(brf w1.heap.size w1).alloc (nlr _) (.cells #[.int .i64 (C1 rs),.int .i64 (C2 rs),.int .i64 (C3 rs),.int .i64 (C4 rs)] 25);have hby:=hbx.alloc hbx.size (.cells #[.int .i64 0,.int .i64 (-1)] 28);have HBY:=hdz hby;clear hb1 hbx hby)
  | (go_at_call 34;refine(cN.out _).mono ?_;rintro e w2 ⟨rfl,hb2⟩;have HB2:=hdz (HB1.out.trans ((HBY.out.trans (hb2.mono HBY.out.size)).mono HB1.out.size));have HK2:=hdz (JaB HK1.out (HBY.out.trans (hb2.mono HBY.out.size)));clear hb2)
  | (go_at_call 154;refine(cE.out _).mono ?_;rintro e w3 ⟨v3,rfl,ho3,hb3⟩;obtain⟨g,c3,rfl,hg1,hg2⟩:=own_pos ho3 (Nat.succ_pos _);have HO3:=hdz ho3;have HB3:=hdz (HB2.out.trans (hb3.mono HB2.out.size));have HK3:=hdz (JaB HK2.out hb3);clear ho3 hb3))
 clear cI1 cI2 cC cN cE HB0 HB1 HBY HB2 HK0 HK1 HK2
 go_loopw [31] (fun i wr=>∃k:Nat,i=.int .i64 k/\k<=rs.length+1/\(∀j,j<k->by_ u (rs.take j)≠a)/\Below w3.heap.size w3 wr) (fun i _=>rs.length+1 - (intOf i).toNat)
 case atStart=>exact⟨0,rfl,Nat.zero_le _,fun j hj=>absurd hj (Nat.not_lt_zero _),brf _ _⟩
 case round =>
  obtain⟨k,rfl,hk,hno,hbw⟩:=hrel;have HNO:=hdz hno;have HBW:=hdz hbw;have hKr:=JaB HK3.out hbw;have HKR:=hdz hKr;have HWR:Hid (Below w.heap.size w wr):=HB3.out.trans (hbw.mono HB3.out.size);clear hno hKr
  by_cases hlt:k<rs.length+1
  . have hkl : (k:Int)<(rs.length:Int)+1:=by omega
    have hown:=JaR HO3.out hbw;have hec:=Js9 HR.out (i:=k) (by omega);have g0:wr.cell? ⟨g,k*4,none⟩=some (.int .i64 (C1 (rs.take k))):=Jgr hown k 0 hlt (by omega) (by rw[hec];rfl);have g1:wr.cell? ⟨g,k*4+1,none⟩=some (.int .i64 (C2 (rs.take k))):=Jgr hown k 1 hlt (by omega) (by rw[hec];rfl);have g2:wr.cell? ⟨g,k*4+2,none⟩=some (.int .i64 (C3 (rs.take k))):=Jgr hown k 2 hlt (by omega) (by rw[hec];rfl);have g3:wr.cell? ⟨g,k*4+3,none⟩=some (.int .i64 (C4 (rs.take k))):=Jgr hown k 3 hlt (by omega) (by rw[hec];rfl);have hbx:Below wr.heap.size wr (wr.alloc (.cells #[.int .i64 (C1 (rs.take k)),.int .i64 (C2 (rs.take k)),.int .i64 (C3 (rs.take k)),.int .i64 (C4 (rs.take k))] 25)):=(brf _ _).alloc (nlr _) _;have HBX:=hdz hbx;have HCX:Hid (counted (wr.alloc (.cells #[.int .i64 (C1 (rs.take k)),.int .i64 (C2 (rs.take k)),.int .i64 (C3 (rs.take k)),.int .i64 (C4 (rs.take k))] 25)) wr.heap.size (C1 (rs.take k)) (C2 (rs.take k)) (C3 (rs.take k)) (C4 (rs.take k))):=Jc6 wr _ _ _ _ _;have cK:=fun wx=>cT.out k wx;have CK:=hdz cK
    by_cases heq:by_ u (rs.take k)=a
    . have HEQ : Hid (JaM rs u a=true/\upTo rs u a=rs.take k):=by
        show JaM rs u a=true/\upTo rs u a=rs.take k
        cases hE:JaM rs u a with
        | false=>exact absurd heq (HE2.out hE k (by omega))
        | true =>
         obtain⟨j,j1,j2,j3,j4⟩:=HE1.out hE
         have : j=k:=by
          by_cases h1:j<k
          . exact absurd j3 (HNO.out j h1)
          . by_cases h2:k<j
            . exact absurd heq (j4 k h2)
            . omega
         subst this;exact⟨rfl,j2⟩
      rw[heq]at CK;clear hown hec hbx cK heq hbw HNO
      go_wp2_with (go_at_call 34;refine(CK.out _).mono ?_;rintro e w5 ⟨rfl,hb5⟩;have hg:=HBX.out.trans (hb5.mono HBX.out.size);have HB5:=hdz (HWR.out.trans (hg.mono HWR.out.size));have HK5:=hdz (JaB HKR.out hg);have hC5:=JaB HCX.out hb5;obtain⟨⟨m0,m1,m2,m3⟩,_⟩:=hC5;obtain⟨⟨z0,z1,z2,z3⟩,y0,y1,y2,y3⟩:=JaB HKR.out hg;clear hb5 hg)
      have hset:=JdT (m1:=C1 (rs.take k)) (m2:=C2 (rs.take k)) (m3:=C3 (rs.take k)) (m4:=C4 (rs.take k)) HK5.out;obtain⟨⟨s0,s1,s2,s3⟩,_⟩:=hset;refine bodyPost_ret (v:=.tuple #[.agg #[.int .i64 (C1 (rs.take k)),.int .i64 (C2 (rs.take k)),.int .i64 (C3 (rs.take k)),.int .i64 (C4 (rs.take k))],.int .i64 0]) (by simp[results,Tryz.results87,go_sem,s0,s1,s2,s3]) rfl ⟨?_,JgR HB5.out (nlr _) _ _ _ _⟩;rw[←HXA.out,←HEA.out,HEQ.out.1,HEQ.out.2];rfl
    . have hne:(by_ u (rs.take k)==a)=false:=beq_eq_false_iff_ne.2 heq
      have HNE:=hdz heq;obtain⟨bx,hbxe⟩:∃bx,by_ u (rs.take k)=bx:=⟨_,rfl⟩;rw[hbxe]at CK hne;clear hown hec hbx cK heq hbw hbxe
      go_wp2_with (go_at_call 34;refine(CK.out _).mono ?_;rintro e w5 ⟨rfl,hb5⟩;have hg:=HBX.out.trans (hb5.mono HBX.out.size);have HB5:=hdz (HBW.out.trans (hg.mono HBW.out.size));clear hb5 hg)
      go_roundw
      case rel =>
       refine⟨k+1,by go_num,by omega,fun j hj=>?_,HB5.out⟩
       by_cases h1:j=k
       . subst h1;exact HNE.out
       . exact HNO.out j (by omega)
      case measure=>simp[intOf];omega
  . obtain rfl:k=rs.length+1:=by omega
    have hkl:¬((rs.length+1:Nat):Int)<(rs.length:Int)+1:=by omega
    have HEQ:Hid (JaM rs u a=false):=by
     show JaM rs u a=false
     cases hE:JaM rs u a with
     | false=>rfl
     | true =>
      obtain⟨j,j1,j2,j3,j4⟩:=HE1.out hE;exact absurd j3 (HNO.out j (by omega))
    clear hbw HNO;obtain⟨⟨z0,z1,z2,z3⟩,y0,y1,y2,y3⟩:=HKR.out;go_wp2;have hset:=JdT (m1:=0) (m2:=0) (m3:=0) (m4:=0) HKR.out;obtain⟨⟨s0,s1,s2,s3⟩,_⟩:=hset;refine bodyPost_ret (v:=.tuple #[.agg #[.int .i64 0,.int .i64 0,.int .i64 0,.int .i64 0],.int .i64 10]) (by simp[results,Tryz.results87,go_sem,s0,s1,s2,s3]) rfl ⟨?_,JgR HWR.out (nlr _) _ _ _ _⟩;rw[←HXA.out,←HEA.out,HEQ.out];rfl
variable {w : World}{β : Nat}{K D : Int}{U : List UInt8}
structure Pcell (w:World) (β:Nat) (K D:Int) (U:List UInt8):Prop where
 c0:w.cell? ⟨β,0,none⟩=some (.int .i64 K)
 c1:w.cell? ⟨β,1,none⟩=some (.int .i64 D)
 c2:w.cell? ⟨β,2,none⟩=some (.string ⟨U.toArray⟩)
 f0:w.frozen? ⟨β,0,none⟩=false
 f1:w.frozen? ⟨β,1,none⟩=false
theorem Pcell.below{w':World}(h:Pcell w β K D U)(hb:Below w.heap.size w w'):Pcell w' β K D U:=by
 have l:=blt w _ h.c0;exact⟨Jb9 hb h.c0,Jb9 hb h.c1,Jb9 hb h.c2,(hb.frozen (p:=⟨β,0,none⟩) l).trans h.f0,(hb.frozen (p:=⟨β,1,none⟩) l).trans h.f1⟩
theorem Jla(s:ByteArray)(u v:Int)(val:Value)(hu:¬(Jaz u/\Jaz v))(w:World) :
    Calls Tryz.prog 14 #[.string s,.int .i64 u,.int .i64 v,val] w fun e w'=>e=.returned (.tuple #[.slice none 0 0,.int .i64 1])/\Below w.heap.size w w':=by
 have cU:=fun wx=>JfA u 1 3 wx;have cV:=fun wx=>JfA v 1 3 wx
 by_cases h1:Jaz u
 . have h2:¬Jaz v:=fun h=>hu ⟨h1,h⟩
   rw[(Jef u).2 h1]at cU;rw[Bool.eq_false_iff.2 fun e=>h2 ((Jef v).1 e)]at cV;have CU:=hdz cU;have CV:=hdz cV;clear hu h1 h2 cU cV
   go_enter Tryz.func14,Tryz.ntmps14
   go_wp2_with (first
    | (have _:=hfirst;go_at_call 85;refine(CV.out _).mono ?_;rintro e w1 ⟨rfl,hw1⟩;obtain rfl:=hw1.symm)
    | (go_at_call 85;refine(CU.out _).mono ?_;rintro e w1 ⟨rfl,hw1⟩;obtain rfl:=hw1.symm;have hfirst:=trivial))
   go_ret2
   exact⟨rfl,brf _ _⟩
 . rw [Bool.eq_false_iff.2 fun e=>h1 ((Jef u).1 e)]at cU
   have CU:=hdz cU;clear hu h1 cU cV
   go_enter Tryz.func14,Tryz.ntmps14
   go_wp2_with (go_at_call 85;refine(CU.out _).mono ?_;rintro e w1 ⟨rfl,hw1⟩;obtain rfl:=hw1.symm)
   go_ret2
   exact⟨rfl,brf _ _⟩
theorem Jm1(s:ByteArray)(rs:List Nat)(u v:Int)(qs:List Pt)(val:Value)(w:World)(hr:∀r∈rs,Jas r)(he:encs rs=s.data.toList)(hs:s.size<1000000)(hu:Jaz u)(hv:Jaz v)(ho:opAt w val qs)(hwf:∀q∈qs,wfP q)(hsm:∀q∈qs,q.put.length<100000000)(hl:qs.length<=1000)(hc:chkE qs (by_ u rs)≠0) :
    Calls Tryz.prog 14 #[.string s,.int .i64 u,.int .i64 v,val] w fun e w'=>e=.returned (.tuple #[.slice none 0 0,.int .i64 (chkE qs (by_ u rs))])/\Below w.heap.size w w':=by
 have hC1:C1 rs=s.size:=by rw[Jcf,he,←Lib.size_eq]
 have hu0: -9223372036854775808<=u/\u<9223372036854775808:=by unfold Jaz at hu;omega
 have hub:by_ u rs<=3000000:=by
  have h2:=Jmm rs;have h3:=JiG rs;unfold by_;split<;>(try split)<;>(try split)<;>omega
 have hup:=Jdl u rs;have cU:=fun wx=>JfA u 1 3 wx;have cV:=fun wx=>JfA v 1 3 wx;rw[(Jef u).2 hu]at cU;rw[(Jef v).2 hv]at cV;have CU:=hdz cU;have CV:=hdz cV;have cC:Hid (∀wx,Calls Tryz.prog 12 #[.string s] wx fun e w'=>e=.returned (.tuple #[cntV rs,.agg #[.int .i64 0,.int .i64 (-1)]])/\Below wx.heap.size wx w'):=fun wx=>JfG s rs hr he (by omega) wx;have cN:Hid (∀wx,Calls Tryz.prog 34 #[cntV rs,.int .i64 u] wx fun e w'=>e=.returned (.int .i64 (by_ u rs))/\Below wx.heap.size wx w'):=fun wx=>JeV u rs hu0.1 hu0.2 (by omega) wx;have cK:Hid (∀wx,Below w.heap.size w wx->Calls Tryz.prog 86 #[val,.int .i64 (by_ u rs)] wx fun e w'=>e=.returned (.int .i64 (chkE qs (by_ u rs)))/\Below wx.heap.size wx w'):=fun wx hb=>Jc9 val qs (by_ u rs) wx (JaK ho hb (nlr _)) hwf hsm (by omega) (by omega);obtain⟨p,c,rfl,_⟩:=ho;obtain⟨E,hE⟩:∃E,chkE qs (by_ u rs)=E:=⟨_,rfl⟩;rw[hE]at cK hc ⊢;have hne:(E==0)=false:=beq_eq_false_iff_ne.2 hc;obtain⟨Bu,hBu⟩:∃Bu,by_ u rs=Bu:=⟨_,rfl⟩;rw[hBu]at cN cK;unfold cntV at cC cN;clear cU cV hr he hs hu hv hwf hsm hC1 hu0 hub hup hE hBu
 go_enter Tryz.func14,Tryz.ntmps14
 go_wp2_with (first
  | (have _:=hfirst;go_at_call 85;refine(CV.out _).mono ?_;rintro e w1 ⟨rfl,hw1⟩;obtain rfl:=hw1.symm)
  | (go_at_call 85;refine(CU.out _).mono ?_;rintro e w1 ⟨rfl,hw1⟩;obtain rfl:=hw1.symm;have hfirst:=trivial)
  | (go_at_call 12;refine(cC.out _).mono ?_;rintro e w1 ⟨rfl,hb1⟩;have hbx:=(brf w1.heap.size w1).alloc (nlr _) (.cells #[.int .i64 (C1 rs),.int .i64 (C2 rs),.int .i64 (C3 rs),.int .i64 (C4 rs)] 25);have hby:=hbx.alloc hbx.size (.cells #[.int .i64 0,.int .i64 (-1)] 28);have HB1:=hdz (hb1.trans (hby.mono hb1.size));clear hb1 hbx hby)
  | (go_at_call 34;refine(cN.out _).mono ?_;rintro e w2 ⟨rfl,hb2⟩;have HB2:=hdz (HB1.out.trans (hb2.mono HB1.out.size));clear hb2)
  | (go_at_call 86;refine(cK.out _ HB2.out).mono ?_;rintro e w3 ⟨rfl,hb3⟩;have HB3:=hdz (HB2.out.trans (hb3.mono HB2.out.size));clear hb3))
 go_ret2
 exact⟨rfl,HB3.out⟩
theorem Jlv{B e size n b o:Nat}{v:Value}{xs:List Value}(h:w.ownsRow B e size v n xs)(hb:∀j,v.ownBlock=some j->j<b)(u:Value):(w.setCell ⟨b,o,none⟩ u).ownsRow B e size v n xs:=by
 obtain⟨h0,hrow⟩:=h;refine⟨h0,?_⟩
 rcases hrow with hn|⟨g,cap,cur,rfl,hg,hgg,rest⟩
 . exact .inl hn
 . exact .inr ⟨g,cap,cur,rfl,hg,(Below.heap_setCell _ _ _ _ (by show g≠b;have:=hb g rfl;omega)).trans hgg,rest⟩
theorem pset0(h:Pcell w β K D U)(M:Int):Pcell (w.setCell ⟨β,0,none⟩ (.int .i64 M)) β M D U:=by
 obtain⟨h0,h1,h2,h3,h4⟩:=h;refine⟨?_,?_,?_,?_,?_⟩<;>simp[go_sem,h0,h1,h2,h3,h4]
theorem pset1(h:Pcell w β K D U)(M:Int):Pcell (w.setCell ⟨β,1,none⟩ (.int .i64 M)) β K M U:=by
 obtain⟨h0,h1,h2,h3,h4⟩:=h;refine⟨?_,?_,?_,?_,?_⟩<;>simp[go_sem,h0,h1,h2,h3,h4]
theorem JjL(s:ByteArray)(rs:List Nat)(u v:Int)(qs:List Pt)(val:Value)(w:World)(hr:∀r∈rs,Jas r)(he:encs rs=s.data.toList)(hs:s.size<1000000)(hu:Jaz u)(hv:Jaz v)(ho:opAt w val qs)(hwf:∀q∈qs,wfP q)(hsm:∀q∈qs,q.put.length<100000000)(hl:qs.length<=1000)(hc:chkE qs (by_ u rs)=0) :
    Calls Tryz.prog 14 #[.string s,.int .i64 u,.int .i64 v,val] w fun e w'=>∃v',e=.returned (.tuple #[v',.int .i64 (Ji6 rs u v qs)])/\opN w.heap.size w' v' (Ji7 rs u v qs)/\Below w.heap.size w w':=by
 obtain⟨hp1,hp2,hp3⟩:=JcC hc;have hC1:C1 rs=s.size:=by rw[Jcf,he,←Lib.size_eq]
 have hu0: -9223372036854775808<=u/\u<9223372036854775808:=by unfold Jaz at hu;omega
 have hv0: -9223372036854775808<=v/\v<9223372036854775808:=by unfold Jaz at hv;omega
 have hub:∀x:Int,by_ x rs<=3000000:=fun x=>by
  have h2:=Jmm rs;have h3:=JiG rs;have h1:=JdY rs;unfold by_;split<;>(try split)<;>(try split)<;>omega
 have hup:=Jdl u rs;have cU:=fun wx=>JfA u 1 3 wx;have cV:=fun wx=>JfA v 1 3 wx;rw[(Jef u).2 hu]at cU;rw[(Jef v).2 hv]at cV;have CU:=hdz cU;have CV:=hdz cV;have cC:Hid (∀wx,Calls Tryz.prog 12 #[.string s] wx fun e w'=>e=.returned (.tuple #[cntV rs,.agg #[.int .i64 0,.int .i64 (-1)]])/\Below wx.heap.size wx w'):=fun wx=>JfG s rs hr he (by omega) wx;have cN:Hid (∀wx,Calls Tryz.prog 34 #[cntV rs,.int .i64 u] wx fun e w'=>e=.returned (.int .i64 (by_ u rs))/\Below wx.heap.size wx w'):=fun wx=>JeV u rs hu0.1 hu0.2 (by omega) wx;have hub1:=hub u;have cK:Hid (∀wx,Below w.heap.size w wx->Calls Tryz.prog 86 #[val,.int .i64 (by_ u rs)] wx fun e w'=>e=.returned (.int .i64 0)/\Below wx.heap.size wx w'):=fun wx hb=>by
  have:=Jc9 val qs (by_ u rs) wx (JaK ho hb (nlr _)) hwf hsm (by omega) (by omega);rw[hc]at this;exact this
 have CAH:Hid (∀a wx,0<=a->a<=by_ u rs->Calls Tryz.prog 87 #[.string s,.int .i64 u,.int .i64 a] wx fun e w'=>e=.returned (.tuple #[cntV (if JaM rs u a then upTo rs u a else []),.int .i64 (if JaM rs u a then 0 else 10)])/\Below wx.heap.size wx w'):=fun a wx h0 h1=>Jli s rs u a hr he hs hu h0 h1 wx;have CIH:Hid (∀X wx,C1 X<=100000000->Calls Tryz.prog 34 #[cntV X,.int .i64 v] wx fun e w'=>e=.returned (.int .i64 (by_ v X))/\Below wx.heap.size wx w'):=fun X wx h=>JeV v X hv0.1 hv0.2 h wx;have HP1:=hdz hp1;have HP2:=hdz hp2;have HP3:=hdz hp3;have HUB:=hdz hub;have HC1:Hid (C1 rs<=3000000):=by show C1 rs<=3000000;omega
 have HOP:=hdz ho;obtain⟨p,c,rfl,r1,r2,r3⟩:=ho;obtain⟨n,hn⟩:∃n,qs.length=n:=⟨_,rfl⟩;have HN:=hdz hn;rw[hn]at r1 hl cK ⊢;obtain⟨i0,hi,hz0,hz1,hz2⟩:=info_parts Jbf;obtain⟨RL,hRL⟩:∃RL:Int,by_ u rs=RL:=⟨_,rfl⟩;rw[hRL]at cN cK hub1 hup;have HRL:=hdz hRL;unfold cntV at cC cN;unfold maxLen at r2;clear cU cV hr he hs hu hv hwf hsm hC1 hu0 hv0 hub hp1 hp2 hp3 hc hn r3 hRL
 go_enter Tryz.func14,Tryz.ntmps14
 go_wp2_with (first
  | (have _:=hfirst;go_at_call 85;refine(CV.out _).mono ?_;rintro e w1 ⟨rfl,hw1⟩;obtain rfl:=hw1.symm)
  | (go_at_call 85;refine(CU.out _).mono ?_;rintro e w1 ⟨rfl,hw1⟩;obtain rfl:=hw1.symm;have hfirst:=trivial)
  | (go_at_call 12;refine(cC.out _).mono ?_;rintro e w1 ⟨rfl,hb1⟩;have hbx:=(brf w1.heap.size w1).alloc (nlr _) (.cells #[.int .i64 (C1 rs),.int .i64 (C2 rs),.int .i64 (C3 rs),.int .i64 (C4 rs)] 25);have hby:=hbx.alloc hbx.size (.cells #[.int .i64 0,.int .i64 (-1)] 28);have HB1:=hdz (hb1.trans (hby.mono hb1.size));clear hb1 hbx hby)
  | (go_at_call 34;refine(cN.out _).mono ?_;rintro e w2 ⟨rfl,hb2⟩;have HB2:=hdz (HB1.out.trans (hb2.mono HB1.out.size));clear hb2)
  | (go_at_call 86;refine(cK.out _ HB2.out).mono ?_;rintro e w3 ⟨rfl,hb3⟩;have HB3:=hdz (HB2.out.trans (hb3.mono HB2.out.size));clear hb3))
 clear HB1 HB2 CU CV cC cN cK
 go_loopw [13,14,15,43] (fun v13 v14 v15 i wr=>∃k:Nat,i=.int .i64 k/\v14=.int .i64 (Jag (qs.take k))/\v15=.int .i64 (by_ v (upTo rs u (Jag (qs.take k))))/\∃L:List Pt,L.length=k/\JdZ rs u v 0 qs=(L++(JdZ rs u v (Jag (qs.take k)) (qs.drop k)).1,(JdZ rs u v (Jag (qs.take k)) (qs.drop k)).2)/\k<=n/\wr.ownsRow w.heap.size 50 3 v13 k (JaD L)/\Below w.heap.size w wr) (fun _ _ _ i _=>n - (intOf i).toNat)
 case atStart =>
  have e1:Jag (qs.take 0)=0:=by simp[Jag]
  refine⟨0,rfl,by rw[e1],by rw[e1,Jh5,Jiu],[],rfl,by rw[e1];rfl,Nat.zero_le _,World.ownsRow_nil _ _ _ _,HB3.out⟩
 case round =>
  obtain⟨k,rfl,rfl,rfl,L,hLk,htz,hk,hown,hbw'⟩:=hrel;obtain⟨pv,cv,rfl⟩:=Jae hown;clear HB3
  by_cases hlt:k<n
  . have hkr:k<qs.length:=by rw[HN.out];exact hlt
    have hne:qs≠[]:=by intro e;rw[e]at hkr;exact absurd hkr (Nat.not_lt_zero _)
    obtain⟨p0,c0,hvv,_,_,hcell⟩:=HOP.out;obtain⟨b0,o,rfl,hb0,hcell⟩:=hcell hne;obtain⟨f0,f1,f2⟩:=hcell k qs[k] (lgg hkr);have g0:=(hbw'.cell (p:=⟨b0,o+k*3,none⟩) hb0).trans f0;have g1:=(hbw'.cell (p:=⟨b0,o+k*3+1,none⟩) hb0).trans f1;have g2:=(hbw'.cell (p:=⟨b0,o+k*3+2,none⟩) hb0).trans f2;obtain rfl:p=some ⟨b0,o,none⟩:=by injection hvv
    clear hvv hcell f0 f1 f2 hne;have hqm:qs[k]∈qs:=List.getElem_mem _;have hob:=(HP1.out _ hqm).1;have hts:qs.take (k+1)=qs.take k++[qs[k]]:=List.take_succ_eq_append_getElem hkr;have hA1':Jag (qs.take (k+1))=Jag (qs.take k)+lenP qs[k]:=by rw[hts,Jby];simp[Jag]
    have hA0:0<=Jag (qs.take k):=JfE fun q hq=>HP3.out q (List.mem_of_mem_take hq);have hAN:Jag (qs.take (k+1))<=RL:=by
     have e2:Jag qs=Jag (qs.take (k+1))+Jag (qs.drop (k+1)):=by rw[←Jby,List.take_append_drop]
     have:=JfE fun q hq=>HP3.out q (List.mem_of_mem_drop (i:=k+1) hq);have:=HP2.out;have:=HRL.out;omega
    have hdk:qs.drop k=qs[k] :: qs.drop (k+1):=List.drop_eq_getElem_cons hkr;rw[hdk]at htz;generalize qs[k]=q at *;obtain⟨K,D,U⟩:=q;obtain⟨A,hA⟩:∃A,Jag (qs.take k)=A:=⟨_,rfl⟩;rw[hA]at hA1' hA0 htz ⊢;have hld:lenP ⟨K,D,U⟩=K+D:=rfl;rw[hld]at hA1';have hsnd:=(Jce hob).1;obtain⟨s1,s2⟩:=hsnd;have s1:0<=K:=s1;have s2:0<=D:=s2;have hRLe:=HRL.out;have hw0:IntKind.i64.wrap (K+D)=K+D:=by rw[IntKind.wrap_i64];omega
    have hw3:IntKind.i64.wrap (A+(K+D))=A+(K+D):=by rw[IntKind.wrap_i64];omega
    have hj:(k:Int)<(n:Int):=by omega
    have HOP':Hid ((wr.alloc (.cells #[.int .i64 K,.int .i64 D,.string ⟨U.toArray⟩] 50)).ownsRow w.heap.size 50 3 (.slice pv k cv) k (JaD L)):=hown.alloc _;have HLT:Hid (∀j,(Value.slice pv k cv).ownBlock=some j->j<wr.heap.size):=fun j hj=>(hown.lt j hj).2;have HBP:Hid (Below w.heap.size w (wr.alloc (.cells #[.int .i64 K,.int .i64 D,.string ⟨U.toArray⟩] 50))):=hbw'.alloc hbw'.size _;have hwlt:=hbw'.size;have hltw:wr.heap.size<(wr.alloc (.cells #[.int .i64 K,.int .i64 D,.string ⟨U.toArray⟩] 50)).heap.size:=by simp
    have x0:(wr.alloc (.cells #[.int .i64 K,.int .i64 D,.string ⟨U.toArray⟩] 50)).cell? ⟨wr.heap.size,0,none⟩=some (.int .i64 K):=by simp[go_sem]
    have x1:(wr.alloc (.cells #[.int .i64 K,.int .i64 D,.string ⟨U.toArray⟩] 50)).cell? ⟨wr.heap.size,1,none⟩=some (.int .i64 D):=by simp[go_sem]
    have x2:(wr.alloc (.cells #[.int .i64 K,.int .i64 D,.string ⟨U.toArray⟩] 50)).cell? ⟨wr.heap.size,2,none⟩=some (.string ⟨U.toArray⟩):=by simp[go_sem]
    have xf:(wr.alloc (.cells #[.int .i64 K,.int .i64 D,.string ⟨U.toArray⟩] 50)).frozen? ⟨wr.heap.size,0,none⟩=false:=by simp[go_sem]
    have xg:(wr.alloc (.cells #[.int .i64 K,.int .i64 D,.string ⟨U.toArray⟩] 50)).frozen? ⟨wr.heap.size,1,none⟩=false:=by simp[go_sem]
    have cA:=CAH.out (A+(K+D)) (wr.alloc (.cells #[.int .i64 K,.int .i64 D,.string ⟨U.toArray⟩] 50)) (by omega) (by omega);obtain⟨h,hh⟩:∃h,by_ v (upTo rs u A)=h:=⟨_,rfl⟩
    by_cases hed:JaM rs u (A+(K+D))=true
    . rw [if_pos hed,if_pos hed]at cA
      rw[JdZ,if_pos (by rw[hld];exact hed)]at htz;have hXle1:=JpD (v:=1) rs (u:=u) (a:=A+(K+D)) (by omega);have hXle:=JpD (v:=v) rs (u:=u) (a:=A+(K+D)) (by omega);have hmono:=JpC (u:=u) (v:=v) rs (a:=A) (b:=A+(K+D)) (by omega) (by omega);have hp0:=Jdl v (upTo rs u A);have hHU:=HUB.out v;have hHC:=HC1.out;have hby1:∀y,by_ 1 y=C1 y:=fun _=>rfl;rw[hby1,hby1]at hXle1;rw[hld]at htz;obtain⟨X,hX⟩:∃X,upTo rs u (A+(K+D))=X:=⟨_,rfl⟩;rw[hX]at cA htz hXle hXle1 hmono;have cI:=fun wx=>CIH.out X wx (by omega);obtain⟨XV,hXV⟩:∃XV,by_ v X=XV:=⟨_,rfl⟩;rw[hXV]at cI htz hXle hmono;rw[hh]at htz hmono hp0 ⊢;obtain⟨M,hM⟩:∃M,XV - h=M:=⟨_,rfl⟩;rw[hM]at htz;have hwM:IntKind.i64.wrap (XV - h)=M:=by rw[IntKind.wrap_i64];omega
      have HTK0:Hid (JdZ rs u v 0 qs=((L++[JcQ M ⟨K,D,U⟩])++(JdZ rs u v (Jag (qs.take (k+1))) (qs.drop (k+1))).1,(JdZ rs u v (Jag (qs.take (k+1))) (qs.drop (k+1))).2)):=by
       show JdZ rs u v 0 qs=_;rw[htz,hA1'];simp
      have HA1:=hdz hA1';have HXV:Hid (by_ v (upTo rs u (A+(K+D)))=XV):=by show by_ v (upTo rs u (A+(K+D)))=XV;rw[hX,hXV]
      have HLL:=hdz hLk;unfold cntV at cA cI;have CA:=hdz cA;have CI:=hdz cI;have HOPX:=HOP';clear hown hbw' htz hA1' hAN hts hqm hkr hXle hXle1 hmono hp0 hHU hHC hby1 hX hXV hh hM hed cA cI hRLe hLk hdk hA HOP;have HOP:=HOP'
      rcases JcV hob with ⟨o1,o2,o3⟩|⟨o1,o2,o3⟩|⟨o1,o2,o3⟩
      . replace o1:0<K:=o1
        replace o2:D=0:=o2
        replace o3:U=[]:=o3
        have hUe:U.isEmpty=true:=by rw[o3];rfl
        have HTK:=HTK0;have e1:JcQ M ⟨K,D,U⟩=⟨M,D,U⟩:=by unfold JcQ;rw[if_pos o1];show(⟨M,0,[]⟩:Pt)=⟨M,D,U⟩;rw[o2,o3]
        rw[e1]at HTK;clear e1 HTK0 o2 o3 s2 hob
        go_wp2_with (first
         | (go_at_call 87;refine Calls.mono CA.out ?_;rintro e w5 ⟨rfl,hb5⟩;have HB5:=hdz (HBP.out.trans (hb5.mono HBP.out.size));have HO5:=hdz (JaR HOP'.out hb5);have y0:=Jb9 hb5 x0;have y1:=Jb9 hb5 x1;have y2:=Jb9 hb5 x2;have yf:=(hb5.frozen (p:=⟨wr.heap.size,0,none⟩) hltw).trans xf;have yg:=(hb5.frozen (p:=⟨wr.heap.size,1,none⟩) hltw).trans xg;have hba:Below w5.heap.size w5 (w5.alloc (.cells #[.int .i64 (C1 X),.int .i64 (C2 X),.int .i64 (C3 X),.int .i64 (C4 X)] 25)):=(brf _ _).alloc (nlr _) _;have HBA:=hdz hba;have z0:=Jb9 hba y0;have z1:=Jb9 hba y1;have z2:=Jb9 hba y2;have hlt5:wr.heap.size<w5.heap.size:=Nat.lt_of_lt_of_le hltw hb5.size;have HB6:Hid (Below w.heap.size w (w5.alloc (.cells #[.int .i64 (C1 X),.int .i64 (C2 X),.int .i64 (C3 X),.int .i64 (C4 X)] 25))):=HB5.out.alloc HB5.out.size _;have HO6:Hid ((w5.alloc (.cells #[.int .i64 (C1 X),.int .i64 (C2 X),.int .i64 (C3 X),.int .i64 (C4 X)] 25)).ownsRow w.heap.size 50 3 (.slice pv k cv) k (JaD L)):=HO5.out.alloc _;have HCX:Hid (counted (w5.alloc (.cells #[.int .i64 (C1 X),.int .i64 (C2 X),.int .i64 (C3 X),.int .i64 (C4 X)] 25)) w5.heap.size (C1 X) (C2 X) (C3 X) (C4 X)):=Jc6 w5 _ _ _ _ _;have HY0:Hid (Pcell w5 wr.heap.size K D U):=⟨y0,y1,y2,yf,yg⟩;clear hb5)
         | (have _:=HM7;go_at_call 34;refine(CI.out _).mono ?_;rintro e w8 ⟨rfl,hb8⟩;have HB7s:Below w.heap.size w (w7.setCell ⟨wr.heap.size,0,none⟩ (.int .i64 M)):=HB7.out.setCell (p:=⟨wr.heap.size,0,none⟩) hwlt _;have HB8:=hdz (HB7s.trans (hb8.mono HB7s.size));have HO8:Hid (w8.ownsRow w.heap.size 50 3 (.slice pv k cv) k (JaD L)):=JaR (Jlv HO7.out HLT.out _) hb8;obtain⟨q0,q1,q2,q3,q4⟩:=(pset0 HP7.out M).below hb8;have hs8:=HB8.out.size;clear hb8 HB7s)
         | (go_at_call 34;refine(CI.out _).mono ?_;rintro e w7 ⟨rfl,hb7⟩;have HB7:=hdz (HB6.out.trans (hb7.mono HB6.out.size));have HO7:=hdz (JaR HO6.out hb7);have HP7:=hdz ((HY0.out.below HBA.out).below hb7);obtain⟨n0,n1,n2,n3,n4⟩:=(HY0.out.below HBA.out).below hb7;have hc7:=JaB HCX.out hb7;obtain⟨⟨c0',c1',c2',c3'⟩,_⟩:=hc7;have HM7:=trivial;clear hb7)
         | (at_builtin;refine wpList_append_own _ rfl _ _ 23 rfl w.heap.size 50 i0 (.agg #[.int .i64 0,.int .i64 0,.string ⟨#[]⟩]) 3 32 Tryz.underlying23 hi hz0 hz1 hz2 rfl (by decide) _ _ _ rfl (HO8.out.alloc _) ⟨w8.heap.size,0,none⟩ 1 1 (Ja6 ⟨M,D,U⟩) rfl rfl (Jfy _ _ (by first | rfl | simp) _ _) (Ja4 _) (by unfold maxLen;omega) (by omega) (by first | omega | (simp;omega)) ?_))
        intro v' w' hown' hg' _;obtain⟨p',c',rfl⟩:=Jae hown';have HB9:Hid (Below w.heap.size w w'):=(HB8.out.alloc HB8.out.size _).grown hg' (by simp;omega) fun k hk=>(HO8.out.lt k hk).1;have HO9:=hdz hown';clear hown' hg';go_wp2
        go_roundw
        case rel =>
         refine⟨k+1,by go_num,HA1.out.symm ▸ rfl,by first | rfl | (rw[HA1.out,HXV.out]),L++[⟨M,D,U⟩],by rw[List.length_append,HLL.out];rfl,HTK.out,by have:=HN.out;omega,?_,HB9.out⟩;rw[Jb3];exact HO9.out
        case measure=>simp[intOf];omega
      . replace o1:K=0:=o1
        replace o2:0<D:=o2
        replace o3:U=[]:=o3
        have hUe:U.isEmpty=true:=by rw[o3];rfl
        have HTK:=HTK0;have hK0:¬0<K:=by omega
        have e1:JcQ M ⟨K,D,U⟩=⟨K,M,U⟩:=by unfold JcQ;rw[if_neg (show ¬0<(⟨K,D,U⟩:Pt).keep from hK0),if_pos o2];show(⟨0,M,[]⟩:Pt)=⟨K,M,U⟩;rw[o1,o3]
        rw[e1]at HTK;clear e1 HTK0 o1 o3 s1 hob
        go_wp2_with (first
         | (go_at_call 87;refine Calls.mono CA.out ?_;rintro e w5 ⟨rfl,hb5⟩;have HB5:=hdz (HBP.out.trans (hb5.mono HBP.out.size));have HO5:=hdz (JaR HOP'.out hb5);have y0:=Jb9 hb5 x0;have y1:=Jb9 hb5 x1;have y2:=Jb9 hb5 x2;have yf:=(hb5.frozen (p:=⟨wr.heap.size,0,none⟩) hltw).trans xf;have yg:=(hb5.frozen (p:=⟨wr.heap.size,1,none⟩) hltw).trans xg;have hba:Below w5.heap.size w5 (w5.alloc (.cells #[.int .i64 (C1 X),.int .i64 (C2 X),.int .i64 (C3 X),.int .i64 (C4 X)] 25)):=(brf _ _).alloc (nlr _) _;have HBA:=hdz hba;have z0:=Jb9 hba y0;have z1:=Jb9 hba y1;have z2:=Jb9 hba y2;have hlt5:wr.heap.size<w5.heap.size:=Nat.lt_of_lt_of_le hltw hb5.size;have HB6:Hid (Below w.heap.size w (w5.alloc (.cells #[.int .i64 (C1 X),.int .i64 (C2 X),.int .i64 (C3 X),.int .i64 (C4 X)] 25))):=HB5.out.alloc HB5.out.size _;have HO6:Hid ((w5.alloc (.cells #[.int .i64 (C1 X),.int .i64 (C2 X),.int .i64 (C3 X),.int .i64 (C4 X)] 25)).ownsRow w.heap.size 50 3 (.slice pv k cv) k (JaD L)):=HO5.out.alloc _;have HCX:Hid (counted (w5.alloc (.cells #[.int .i64 (C1 X),.int .i64 (C2 X),.int .i64 (C3 X),.int .i64 (C4 X)] 25)) w5.heap.size (C1 X) (C2 X) (C3 X) (C4 X)):=Jc6 w5 _ _ _ _ _;have HY0:Hid (Pcell w5 wr.heap.size K D U):=⟨y0,y1,y2,yf,yg⟩;clear hb5)
         | (have _:=HM7;go_at_call 34;refine(CI.out _).mono ?_;rintro e w8 ⟨rfl,hb8⟩;have HB7s:Below w.heap.size w (w7.setCell ⟨wr.heap.size,1,none⟩ (.int .i64 M)):=HB7.out.setCell (p:=⟨wr.heap.size,1,none⟩) hwlt _;have HB8:=hdz (HB7s.trans (hb8.mono HB7s.size));have HO8:Hid (w8.ownsRow w.heap.size 50 3 (.slice pv k cv) k (JaD L)):=JaR (Jlv HO7.out HLT.out _) hb8;obtain⟨q0,q1,q2,q3,q4⟩:=(pset1 HP7.out M).below hb8;have hs8:=HB8.out.size;clear hb8 HB7s)
         | (go_at_call 34;refine(CI.out _).mono ?_;rintro e w7 ⟨rfl,hb7⟩;have HB7:=hdz (HB6.out.trans (hb7.mono HB6.out.size));have HO7:=hdz (JaR HO6.out hb7);have HP7:=hdz ((HY0.out.below HBA.out).below hb7);obtain⟨n0,n1,n2,n3,n4⟩:=(HY0.out.below HBA.out).below hb7;have hc7:=JaB HCX.out hb7;obtain⟨⟨c0',c1',c2',c3'⟩,_⟩:=hc7;have HM7:=trivial;clear hb7)
         | (at_builtin;refine wpList_append_own _ rfl _ _ 23 rfl w.heap.size 50 i0 (.agg #[.int .i64 0,.int .i64 0,.string ⟨#[]⟩]) 3 32 Tryz.underlying23 hi hz0 hz1 hz2 rfl (by decide) _ _ _ rfl (HO8.out.alloc _) ⟨w8.heap.size,0,none⟩ 1 1 (Ja6 ⟨K,M,U⟩) rfl rfl (Jfy _ _ (by first | rfl | simp) _ _) (Ja4 _) (by unfold maxLen;omega) (by omega) (by first | omega | (simp;omega)) ?_))
        intro v' w' hown' hg' _;obtain⟨p',c',rfl⟩:=Jae hown';have HB9:Hid (Below w.heap.size w w'):=(HB8.out.alloc HB8.out.size _).grown hg' (by simp;omega) fun k hk=>(HO8.out.lt k hk).1;have HO9:=hdz hown';clear hown' hg';go_wp2
        go_roundw
        case rel =>
         refine⟨k+1,by go_num,HA1.out.symm ▸ rfl,by first | rfl | (rw[HA1.out,HXV.out]),L++[⟨K,M,U⟩],by rw[List.length_append,HLL.out];rfl,HTK.out,by have:=HN.out;omega,?_,HB9.out⟩;rw[Jb3];exact HO9.out
        case measure=>simp[intOf];omega
      . replace o1:K=0:=o1
        replace o2:D=0:=o2
        have hUe:U.isEmpty=false:=by cases U with | nil=>exact absurd rfl o3 | cons x U=>rfl
        have HTK:=HTK0;have e1:JcQ M ⟨K,D,U⟩=⟨K,D,U⟩:=by unfold JcQ;rw[if_neg (show ¬0<(⟨K,D,U⟩:Pt).keep by show ¬0<K;omega),if_neg (show ¬0<(⟨K,D,U⟩:Pt).drop by show ¬0<D;omega)];show(⟨0,0,U⟩:Pt)=⟨K,D,U⟩;rw[o1,o2]
        rw[e1]at HTK;clear e1 HTK0 o1 o2 s1 s2 hob
        go_wp2_with (first
         | (go_at_call 87;refine Calls.mono CA.out ?_;rintro e w5 ⟨rfl,hb5⟩;have HB5:=hdz (HBP.out.trans (hb5.mono HBP.out.size));have HO5:=hdz (JaR HOP'.out hb5);have y0:=Jb9 hb5 x0;have y1:=Jb9 hb5 x1;have y2:=Jb9 hb5 x2;have yf:=(hb5.frozen (p:=⟨wr.heap.size,0,none⟩) hltw).trans xf;have yg:=(hb5.frozen (p:=⟨wr.heap.size,1,none⟩) hltw).trans xg;have hba:Below w5.heap.size w5 (w5.alloc (.cells #[.int .i64 (C1 X),.int .i64 (C2 X),.int .i64 (C3 X),.int .i64 (C4 X)] 25)):=(brf _ _).alloc (nlr _) _;have HBA:=hdz hba;have z0:=Jb9 hba y0;have z1:=Jb9 hba y1;have z2:=Jb9 hba y2;have hlt5:wr.heap.size<w5.heap.size:=Nat.lt_of_lt_of_le hltw hb5.size;have HB6:Hid (Below w.heap.size w (w5.alloc (.cells #[.int .i64 (C1 X),.int .i64 (C2 X),.int .i64 (C3 X),.int .i64 (C4 X)] 25))):=HB5.out.alloc HB5.out.size _;have HO6:Hid ((w5.alloc (.cells #[.int .i64 (C1 X),.int .i64 (C2 X),.int .i64 (C3 X),.int .i64 (C4 X)] 25)).ownsRow w.heap.size 50 3 (.slice pv k cv) k (JaD L)):=HO5.out.alloc _;have HCX:Hid (counted (w5.alloc (.cells #[.int .i64 (C1 X),.int .i64 (C2 X),.int .i64 (C3 X),.int .i64 (C4 X)] 25)) w5.heap.size (C1 X) (C2 X) (C3 X) (C4 X)):=Jc6 w5 _ _ _ _ _;have HY0:Hid (Pcell w5 wr.heap.size K D U):=⟨y0,y1,y2,yf,yg⟩;clear hb5)
         | (go_at_call 34;refine(CI.out _).mono ?_;rintro e w8 ⟨rfl,hb8⟩;have HB8:=hdz (HB6.out.trans (hb8.mono HB6.out.size));have HO8:=hdz (JaR HO6.out hb8);have q0:=Jb9 hb8 z0;have q1:=Jb9 hb8 z1;have q2:=Jb9 hb8 z2;have hs8:=HB8.out.size;clear hb8)
         | (at_builtin;refine wpList_append_own _ rfl _ _ 23 rfl w.heap.size 50 i0 (.agg #[.int .i64 0,.int .i64 0,.string ⟨#[]⟩]) 3 32 Tryz.underlying23 hi hz0 hz1 hz2 rfl (by decide) _ _ _ rfl (HO8.out.alloc _) ⟨w8.heap.size,0,none⟩ 1 1 (Ja6 ⟨K,D,U⟩) rfl rfl (Jfy _ _ (by first | rfl | simp) _ _) (Ja4 _) (by unfold maxLen;omega) (by omega) (by first | omega | (simp;omega)) ?_))
        intro v' w' hown' hg' _;obtain⟨p',c',rfl⟩:=Jae hown';have HB9:Hid (Below w.heap.size w w'):=(HB8.out.alloc HB8.out.size _).grown hg' (by simp;omega) fun k hk=>(HO8.out.lt k hk).1;have HO9:=hdz hown';clear hown' hg';go_wp2
        go_roundw
        case rel =>
         refine⟨k+1,by go_num,HA1.out.symm ▸ rfl,by first | rfl | (rw[HA1.out,HXV.out]),L++[⟨K,D,U⟩],by rw[List.length_append,HLL.out];rfl,HTK.out,by have:=HN.out;omega,?_,HB9.out⟩;rw[Jb3];exact HO9.out
        case measure=>simp[intOf];omega
    . have hed:JaM rs u (A+(K+D))=false:=Bool.eq_false_iff.2 hed
      rw[if_neg (by rw[hed];decide),if_neg (by rw[hed];decide)]at cA;rw[JdZ,if_neg (by rw[hld,hed];decide)]at htz;have e2:(JdZ rs u v 0 qs).2=false:=by rw[htz]
      have HRX:Hid (Ji6 rs u v qs=10/\Ji7 rs u v qs=[]):=by
       show Ji6 rs u v qs=10/\Ji7 rs u v qs=[];unfold Ji6 Ji7;rw[e2];exact⟨rfl,rfl⟩
      rw[hh];unfold cntV at cA;have CA:=hdz cA;clear hown hbw' htz hA1' hAN hts hqm hkr hh hed cA hRLe hLk hdk hA e2 hob
      go_wp2_with (go_at_call 87;refine Calls.mono CA.out ?_;rintro e w5 ⟨rfl,hb5⟩;have HB5:=hdz (HBP.out.trans (hb5.mono HBP.out.size));have HB6:Hid (Below w.heap.size w (w5.alloc (.cells #[.int .i64 (C1 []),.int .i64 (C2 []),.int .i64 (C3 []),.int .i64 (C4 [])] 25))):=HB5.out.alloc HB5.out.size _;clear hb5)
      go_ret2
      refine⟨.slice none 0 0,?_,?_,HB6.out⟩
      . rw[HRX.out.1];rfl
      . rw[HRX.out.2];exact JbS _ _
  . obtain rfl:k=n:=by omega
    have e:qs.drop k=[]:=List.drop_of_length_le (by rw[HN.out];exact nlr _);rw[e]at htz;have htz2:JdZ rs u v 0 qs=(L,true):=by rw[htz];simp[JdZ]
    have HRX:Hid (Ji6 rs u v qs=0/\Ji7 rs u v qs=L):=by
     show Ji6 rs u v qs=0/\Ji7 rs u v qs=L;unfold Ji6 Ji7;rw[htz2];exact⟨rfl,rfl⟩
    have HB:=hdz hbw';have hop:opN w.heap.size wr (.slice pv k cv) L:=by
     have:=hown;rw[←hLk]at this ⊢;exact JeE (nlr _) this
    have HOPW:=hdz hop;clear hop hown e hbw' htz htz2 hLk;go_wp2
    go_ret2
    refine⟨.slice pv k cv,?_,?_,HB.out⟩
    . rw[HRX.out.1];rfl
    . rw[HRX.out.2];exact HOPW.out
end
section
open Go.RowKit
attribute [local go_sem] Oper.semAt_some
def uB (u:Int):Bool:=decide (u=1\/u=2\/u=3)
theorem JgZ(u:Int):uB u=true↔Jaz u:=by unfold uB Jaz;exact decide_eq_true_iff
def tzE (rs:List Nat) (u v:Int) (qs:List Pt):Int:=if (uB u && uB v)=true then (if chkE qs (by_ u rs)=0 then Ji6 rs u v qs else chkE qs (by_ u rs)) else 1
def tzO (rs:List Nat) (u v:Int) (qs:List Pt):List Pt:=if (uB u && uB v)=true then (if chkE qs (by_ u rs)=0 then Ji7 rs u v qs else []) else []
theorem Jkv(rs:List Nat)(h:C1 rs<=1000000)(x:Int):by_ x rs<=3000000:=by
 have h2:=Jmm rs;have h3:=JiG rs;have h1:=JdY rs;unfold by_;split<;>(try split)<;>(try split)<;>omega
theorem Joz(u:Nat)(hu:unitN u)(rs:List Nat)(hR:∀r∈rs,Jas r)(hz:C1 rs<=8000)(w:World)(hT:Lib.Utf8Tabs 2 3 w):Calls Tryz.prog 25 #[.int .i64 (u:Int),.string (Ja1 rs)] w fun e w'=>∃b,e=.returned (.tuple #[.pointer (some ⟨b,0,none⟩),.nilIface])/\Jbr w' b u rs/\w.heap.size<=b/\Below w.heap.size w w':=by
 rcases hu with rfl|rfl|rfl
 . exact Jmy rs hR hz w hT
 . exact Jmx rs hR hz w hT
 . exact Jmw rs hR hz w hT
theorem sh_fine{u:Int}(hu:Jaz u){rs:List Nat}{q:List Pt}(hR:∀r∈rs,Jas r)(h:tzE rs u 1 q=0) :
    good (tzO rs u 1 q) (encs rs)/\Jaa (tzO rs u 1 q) (encs rs)=encs (JaL u rs q)/\(∀r∈JaL u rs q,Jas r)/\shE u rs q=(if C1 (JaL u rs q)<=8000 then 0 else 12)/\shR u rs q=(if C1 (JaL u rs q)<=8000 then JaL u rs q else rs)/\chkE q (by_ u rs)=0/\okZ u rs q=true/\tzO rs u 1 q=inZ u 1 rs q:=by
 have h1:(uB u && uB 1)=true:=by rw[(JgZ u).2 hu,(JgZ 1).2 (.inl rfl)];rfl
 unfold tzE at h;unfold tzO;rw[h1,if_pos rfl]at h ⊢;have hc:chkE q (by_ u rs)=0:=by
  by_cases hc:chkE q (by_ u rs)=0
  . exact hc
  . rw[if_neg hc]at h;exact absurd h hc
 rw[if_pos hc]at h ⊢;obtain⟨hp1,h2,h3⟩:=JcC hc;obtain⟨t1,t2⟩:=JpG hu 1 q rs h3 (Int.le_of_eq h2);have ho:okZ u rs q=true:=by
  rw[t1]at h
  cases e:okZ u rs q with
  | true=>rfl
  | false=>rw[e]at h;cases h
 rw[t2,ho,if_pos rfl];obtain⟨il,ia⟩:=JqH hu q rs hp1 h2 hR ho;have hE:shE u rs q=(if C1 (JaL u rs q)<=8000 then 0 else 12):=by
  unfold shE plE;rw[if_pos hc,if_pos ho]
 refine⟨il.good,ia,Jjr hu q rs h3 (Int.le_of_eq h2) ho hR,hE,?_,hc,rfl,rfl⟩;unfold shR;rw[hE]
 by_cases h8:C1 (JaL u rs q)<=8000
 . rw[if_pos h8,if_pos rfl,if_pos h8]
 . rw[if_neg h8,if_neg (by decide),if_neg h8]
theorem JmP{u:Int}:∀(qs:List Pt)(R:List Nat),(∀q∈qs,oneB q=true)->Jal (inZ u 1 R qs)=Jal qs
 | [],_,_=>rfl
 | q :: qs,R,h=>by
  have ih:=JmP (u:=u) qs (Jbq u R (lenP q)) fun x hx=>h x (by simp[hx]);have e:∀(p:Pt) (l:List Pt),Jal (p :: l)=p.put.length+Jal l:=fun p l=>by simp[Jal]
  rw[inZ,e,e,ih,Jj7 (h q (by simp))]
theorem JjR:∀(qs:List Pt),(∀q∈qs,q.put.length<=300)->Jal qs<=300*qs.length
 | [],_=>by simp[Jal]
 | q :: qs,h=>by
  have ih:=JjR qs fun x hx=>h x (by simp[hx]);have:=h q (by simp);have e:Jal (q :: qs)=q.put.length+Jal qs:=by simp[Jal]
  rw[e,List.length_cons];omega
def isDoc (s:List UInt8):Prop:=(scan s).2=true/\s.length<=1500
theorem field2c(a b c d:Int)(w:World):(Instr.field 25 (.agg #[.int .i64 a,.int .i64 b,.int .i64 c,.int .i64 d]) 2).run Tryz.prog w=.ok (.int .i64 c) w:=by kernel_rfl
attribute [local go_sem] field2c
structure told (x:List Pt) (s:List UInt8):Prop where
 good:good x s
 doc:isDoc s
 len:x.length<=61
 puts:Jal x<=9150
end
section
theorem put_cut(u:List UInt8)(j:Nat)(hj:j+1<=u.length)(ps:List Pt)(r:List UInt8)(h:Left (⟨0,0,u⟩ :: ps) r)(hv:V (u.take (j+1))) :
    (cutP ⟨0,0,u⟩ ((j:Int)+1)).1=⟨0,0,u.take (j+1)⟩/\Left ((cutP ⟨0,0,u⟩ ((j:Int)+1)).2++ps) r/\Jaa (⟨0,0,u⟩ :: ps) r=u.take (j+1)++Jaa ((cutP ⟨0,0,u⟩ ((j:Int)+1)).2++ps) r/\Jao ((cutP ⟨0,0,u⟩ ((j:Int)+1)).2++ps)+(j+1)=Jao (⟨0,0,u⟩ :: ps):=by
 obtain⟨hl,hV⟩:=JeJ h;have h2:((j:Int)+1).toNat=j+1:=by omega
 have hw:Jao (⟨0,0,u⟩ :: ps)=u.length+Jao ps:=by rw[Jay,JeI];omega
 rw[hw,Jc2]
 by_cases e:u.length=j+1
 . have e1:cutP ⟨0,0,u⟩ ((j:Int)+1)=(⟨0,0,u⟩,[]):=by unfold cutP;rw[if_pos (by rw[JeI];omega)]
   rw[e1,List.take_of_length_le (by omega)];exact⟨rfl,hl,rfl,by show Jao ps+(j+1)=_;omega⟩
 . have e1:cutP ⟨0,0,u⟩ ((j:Int)+1)=(⟨0,0,u.take (j+1)⟩,[⟨0,0,u.drop (j+1)⟩]):=by
     unfold cutP;rw[if_neg (by rw[JeI];omega),if_neg (show ¬0<(⟨0,0,u⟩:Pt).keep from Int.lt_irrefl 0),if_neg (show ¬0<(⟨0,0,u⟩:Pt).drop from Int.lt_irrefl 0),h2]
   have e2:u=u.take (j+1)++u.drop (j+1):=(List.take_append_drop _ _).symm;have h3:V (u.drop (j+1)):=Jt7 hV hv;have h4:u.drop (j+1)≠[]:=fun e'=>by have:=congrArg List.length e';rw[List.length_drop]at this;simp at this;omega
   rw[e1];refine⟨rfl,⟨?_,?_,h3,?_,?_⟩,?_,?_⟩
   . intro p hp
     rcases List.mem_cons.1 hp with rfl|hp
     . exact .inr (.inr ⟨rfl,rfl,h4⟩)
     . exact hl.one p hp
   . have:=hl.long
     simp only[List.cons_append,List.nil_append];rw[Jbo];show(0:Int)+0+_=_;omega
   . show V (r.take 0);rw[List.take_zero];exact Jdz
   . exact hl.al
   . show u++Jaa ps r=u.take (j+1)++Jaa (⟨0,0,u.drop (j+1)⟩ :: ps) r
     rw[Jc2,←List.append_assoc,←e2]
   . show Jao (⟨0,0,u.drop (j+1)⟩ :: ps)+(j+1)=_
     rw[Jay,JeI,List.length_drop];omega
theorem Jfc(d:Bool)(n:Nat):Ja8 (Jat d (n+1))=d:=by
 have h0:(0:Int)<((n:Int)+1):=by omega
 cases d<;>simp[Ja8,Jat,h0]
theorem Jgl(d:Bool)(n:Nat):Jb0 (Jat d (n+1)) = !d:=by
 have h0:(0:Int)<((n:Int)+1):=by omega
 cases d<;>simp[Jb0,Jat,h0]
theorem comp_st:∀(f:Nat)(A B:List Pt)(r T D o:List UInt8)(s:NSt),Left A r->Left B (Jaa A r)->Jao A+Jao B<=f->St T D r o s ->
    St T T [] (o++Jaa B (Jaa A r)) (runS Jbv (Ja5 Ja8 Jaf f A B) s):=by
 have base:∀(T D o:List UInt8) (s:NSt) (g:Nat),St T D [] o s->St T T [] (o++Jaa [] (Jaa [] [])) (runS Jbv (Ja5 Ja8 Jaf g [] []) s):=by
  intro T D o s g h;have e:Ja5 Ja8 Jaf g [] []=[]:=by cases g<;>rfl
  rw[e];exact h.full.none
 have nil_of:∀{l:List Pt} {r:List UInt8},Left l r->Jao l=0->l=[]:=by
  intro l r h hw
  cases l with
  | nil=>rfl
  | cons p l=>have:=Jcv (h.one p (by simp)) l;omega
 intro f
 induction f with
 | zero =>
  intro A B r T D o s hA hB hw h;obtain rfl:=nil_of hA (by omega);obtain rfl:=nil_of hB (by omega);obtain rfl:=Jdv hA;exact base T D o s 0 h
 | succ f ih =>
  intro A B r T D o s hA hB hw h;have stepB:∀(v:List UInt8) (B':List Pt),v≠[]->B=⟨0,0,v⟩ :: B'->Ja5 Ja8 Jaf (f+1) A B=(noP,⟨0,0,v⟩) :: Ja5 Ja8 Jaf f A B'->St T T [] (o++Jaa B (Jaa A r)) (runS Jbv (Ja5 Ja8 Jaf (f+1) A B) s):=by
   intro v B' hv e es;subst e;obtain⟨hB',hV⟩:=JeJ hB;have hw':=Jcv (hB.one ⟨0,0,v⟩ (by simp)) B';rw[es,JdJ,Jc2,←List.append_assoc];refine ih A B' r T D (o++v) _ hA hB' (by omega) ?_;have e:Jbv (noP,⟨0,0,v⟩)=[⟨0,0,v⟩]:=by simp[Jbv,Ja8,Jb0,Jaf,noP,hv]
   rw[e];exact h.put hV
  cases A with
  | nil =>
   obtain rfl:=Jdv hA
   cases B with
   | nil=>exact base T D o s (f+1) h
   | cons q B' =>
    rcases Jbi (hB.one q (by simp)) with ⟨v,hv,rfl⟩|⟨e,k,rfl⟩
    . exact stepB v B' hv rfl (by
        have h2:=Jcd hv
        simp only[Ja5,h2,if_true])
    . exact absurd hB Jdf
  | cons p A' =>
   rcases Jbi (hA.one p (by simp)) with ⟨u,hu,rfl⟩|⟨d,m,rfl⟩
   . have hdu : Ja8 ⟨0,0,u⟩=false:=by simp[Ja8]
     cases B with
     | nil =>
      have:=Jdv hB;rw[Jc2]at this;simp[hu]at this
     | cons q B' =>
      rcases Jbi (hB.one q (by simp)) with ⟨v,hv,rfl⟩|⟨e,k,rfl⟩
      . exact stepB v B' hv rfl (by
          have h2:=Jcd hv
          simp only[Ja5,hdu,h2,Bool.false_eq_true,if_false,if_true])
      . obtain ⟨m,hm⟩:∃m,u.length=m+1:=⟨u.length - 1,by have:=List.length_pos_iff.2 hu;omega⟩
        have hmin:min (Jad ⟨0,0,u⟩) (Jad (Jat e (k+1)))=((min m k:Nat):Int)+1:=by rw[JeI,JbF];omega
        obtain⟨j,hj⟩:∃j,min m k=j:=⟨_,rfl⟩;rw[hj]at hmin;have hj1:j<=m:=by omega
        have hj2:j<=k:=by omega
        have huv:=(JeJ hA).2;have hmid:=Jc2 u A' r
        have hv:V (u.take (j+1)):=by
         have v2:=(JbK hB).2.2.1;rw[Jb4,hmid]at v2
         by_cases hc:m<=k
         . rw[List.take_of_length_le (by omega)];exact huv
         . obtain rfl:k=j:=by omega
           have e2:((k+1:Nat):Int).toNat=k+1:=by omega
           rw[e2,List.take_append_of_le_length (by omega)]at v2;exact v2
        obtain⟨c1,lA,aA,wA⟩:=put_cut u j (by omega) A' r hA hv;have hx:(u.take (j+1)).length=j+1:=by rw[List.length_take];omega
        have hvm:V ((Jaa (⟨0,0,u⟩ :: A') r).take (j+1)):=by rw[aA,List.take_left' hx];exact hv
        obtain⟨lB,aB,_⟩:=Je5 e k j hj2 B' _ hB hvm;rw[aB];rw[aA,List.drop_left' hx,List.take_left' hx]at *;have wB:=Jcy e k j hj2;have es:Ja5 Ja8 Jaf (f+1) (⟨0,0,u⟩ :: A') (Jat e (k+1) :: B')=(⟨0,0,u.take (j+1)⟩,Jat e (j+1)) :: Ja5 Ja8 Jaf f ((cutP ⟨0,0,u⟩ ((j:Int)+1)).2++A') ((cutP (Jat e (k+1)) ((j:Int)+1)).2++B'):=by
         have h2:=Jbk e (k+1);simp only[Ja5,hdu,h2,hmin,c1,(Jdy e k j hj2).1,Bool.false_eq_true,if_false]
        have hw2:Jao ((cutP ⟨0,0,u⟩ ((j:Int)+1)).2++A')+Jao ((cutP (Jat e (k+1)) ((j:Int)+1)).2++B')<=f:=by
         rw[Jba (cutP (Jat e (k+1)) ((j:Int)+1)).2,wB];rw[Jay (Jat e (k+1)),JbF]at hw;omega
        rw[es,JdJ,←List.append_assoc];refine ih _ _ r T D _ _ lA lB hw2 ?_;have hune:u.take (j+1)≠[]:=fun e'=>by rw[e']at hx;simp at hx
        cases e with
        | true =>
         have ec:Jbv (⟨0,0,u.take (j+1)⟩,Jat true (j+1))=[]:=by
          have h1:=Jgl true j;have h2:=Jbk true (j+1);simp[Jbv,Ja8,h2,Jb0];simp[Jat]
         rw[ec,if_pos rfl];exact h.none
        | false =>
         have ec:Jbv (⟨0,0,u.take (j+1)⟩,Jat false (j+1))=[⟨0,0,u.take (j+1)⟩]:=by
          have h1:=Jgl false j;simp[Jbv,h1]
         rw[ec,if_neg (by decide)];exact h.put hv
   . cases d with
     | true =>
      obtain⟨lA,_,hv,hlen⟩:=JbK hA;rw[Jb4]at lA hv hlen;have e2:((m+1:Nat):Int).toNat=m+1:=by omega
      rw[e2]at lA hv hlen;have hap:Jaa (Jat true (m+1) :: A') r=Jaa A' (r.drop (m+1)):=by rw[JcD];simp
      rw[hap]at hB ⊢;have hw':=Jcv (hA.one (Jat true (m+1)) (by simp)) A';have es:Ja5 Ja8 Jaf (f+1) (Jat true (m+1) :: A') B=(Jat true (m+1),noP) :: Ja5 Ja8 Jaf f A' B:=by
       have h1:=Jfc true m
       cases B<;>simp only[Ja5,h1,if_true]
      have ec:Jbv (Jat true (m+1),noP)=[Jat true (m+1)]:=by
       have h1:=Jfc true m;simp[Jbv,h1]
      rw[es,JdJ,ec];refine ih A' B (r.drop (m+1)) T (D++r.take (m+1)) o _ lA hB (by omega) ?_;have h':St T D (r.take (m+1)++r.drop (m+1)) o s:=by rw[List.take_append_drop];exact h
      have:=h'.unit hv true (m+1) (by rw[List.length_take];omega);rw[if_pos rfl,List.append_nil]at this;exact this
     | false =>
      cases B with
      | nil =>
       have:=Jdv hB;rw[JcD]at this;have hlen:=(JbK hA).2.2.2;rw[Jb4]at hlen;have:=congrArg List.length this;rw[if_neg (by decide),List.length_append,List.length_take,List.length_nil]at this;omega
      | cons q B' =>
       rcases Jbi (hB.one q (by simp)) with ⟨v,hv,rfl⟩|⟨e,k,rfl⟩
       . exact stepB v B' hv rfl (by
           have h1:=Jfc false m;have h2:=Jcd hv
           simp only[Ja5,h1,h2,Bool.false_eq_true,if_false,if_true])
       . have hmin:min (Jad (Jat false (m+1))) (Jad (Jat e (k+1)))=((min m k:Nat):Int)+1:=by rw[JbF,JbF];omega
         obtain⟨j,hj⟩:∃j,min m k=j:=⟨_,rfl⟩;rw[hj]at hmin;have hj1:j<=m:=by omega
         have hj2:j<=k:=by omega
         have hlenA:=(JbK hA).2.2.2;rw[Jb4]at hlenA
         have hv:V (r.take (j+1)):=by
          have v1:=(JbK hA).2.2.1;have v2:=(JbK hB).2.2.1;rw[Jb4]at v1 v2
          by_cases hc:m<=k
          . obtain rfl:m=j:=by omega
            exact v1
          . obtain rfl:k=j:=by omega
            have e2:((k+1:Nat):Int).toNat=k+1:=by omega
            rw[e2,JcD,if_neg (by decide),List.take_append_of_le_length (by rw[List.length_take];omega),List.take_take,show min (k+1) (m+1)=k+1 by omega]at v2;exact v2
         obtain⟨lA,aA,hlen⟩:=Je5 false m j hj1 A' r hA hv;rw[if_neg (by decide)]at aA;have hx:(r.take (j+1)).length=j+1:=by rw[List.length_take];omega
         have hvm:V ((Jaa (Jat false (m+1) :: A') r).take (j+1)):=by rw[aA,List.take_left' hx];exact hv
         obtain⟨lB,aB,_⟩:=Je5 e k j hj2 B' _ hB hvm;rw[aB];rw[aA,List.drop_left' hx,List.take_left' hx]at *;have wA:=Jcy false m j hj1;have wB:=Jcy e k j hj2;have es:Ja5 Ja8 Jaf (f+1) (Jat false (m+1) :: A') (Jat e (k+1) :: B')=(Jat false (j+1),Jat e (j+1)) :: Ja5 Ja8 Jaf f ((cutP (Jat false (m+1)) ((j:Int)+1)).2++A') ((cutP (Jat e (k+1)) ((j:Int)+1)).2++B'):=by
          have h1:=Jfc false m;have h2:=Jbk e (k+1);simp only[Ja5,h1,h2,hmin,(Jdy false m j hj1).1,(Jdy e k j hj2).1,Bool.false_eq_true,if_false]
         have hw2:Jao ((cutP (Jat false (m+1)) ((j:Int)+1)).2++A')+Jao ((cutP (Jat e (k+1)) ((j:Int)+1)).2++B')<=f:=by
          rw[Jba,Jba,wA,wB];rw[Jay,Jay,JbF,JbF]at hw;omega
         rw[es,JdJ,←List.append_assoc];refine ih _ _ (r.drop (j+1)) T (D++r.take (j+1)) _ _ lA lB hw2 ?_;have ec:Jbv (Jat false (j+1),Jat e (j+1))=[Jat e (j+1)]:=by
          have h1:=Jgl e j;have h2:=Jgl false j;have h3:=Jfc false j
          cases e<;>simp[Jbv,h1,h2,h3]
         rw[ec];have h':St T D (r.take (j+1)++r.drop (j+1)) o s:=by rw[List.take_append_drop];exact h
         exact h'.unit hv e (j+1) hx
theorem JqM{a b:List Pt}{t:List UInt8}(ha:good a t)(hb:good b (Jaa a t)) :
    good (Jaq (JdU a b)) t/\Jaa (Jaq (JdU a b)) t=Jaa b (Jaa a t):=by
 have na:=ha.norm;have nb:=hb.norm;have la:Left (Jac a) t:=⟨na.one,na.long,na.al⟩;have ea:=JgS ha.one t;have eb:=JgS hb.one (Jaa a t);have lb:Left (Jac b) (Jaa (Jac a) t):=by rw[ea];exact⟨nb.one,nb.long,nb.al⟩
 have:=(comp_st _ (Jac a) (Jac b) t t [] [] nst0 la lb (nlr _) (St0 t)).good;rw[List.nil_append,ea,eb]at this;exact this
end
end Go.Proofs.YtedgnlgjmnccgabGreatDoor
