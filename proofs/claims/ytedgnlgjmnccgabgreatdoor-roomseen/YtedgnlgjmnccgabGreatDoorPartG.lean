/-
  A part of the texts that the proof uses.
-/
import Derived.Test.YtedgnlgjmnccgabGreatDoorPartB
import Derived.Test.YtedgnlgjmnccgabGreatDoorRows
import Derived.Deep.Slices
import Derived.Deep.Strs
import Derived.ChangeSame
import Derived.OpenShut
import Derived.Test.YtedgnlgjmnccgabGreatDoorPartA
import Derived.Deep.RegionWith
import Derived.Deep.QuietTactic
import Derived.BigQuiet
import Derived.Shelf.Strings.Builder1
import Derived.Shelf.Strings.Builder2
import Derived.Shelf.Small.Utf8
import Derived.Shelf.Strings.BuilderF
import Derived.Shelf.Strings.BuilderK
import Derived.Shelf.Utf8.AppendRunePlain
import Derived.Shelf.Utf8.RuneCount
import Derived.Shelf.Strings.Builder2Cap
import Derived.Shelf.LaysM
import Derived.Shelf.Strconv.Clone
import Derived.Shelf.Strings.Search1
import Derived.Shelf.Strings.Search2
import Derived.Shelf.Strings.Search3
import Derived.Shelf.Strings.Cut
import Derived.Shelf.Strings.Count
import Derived.Shelf.Strings.Shaped
import Derived.Shelf.Strings.RuneCount
import Derived.Shelf.Unicode.DecodeSlow
import Derived.Shelf.Unicode.DecodeAny
import Derived.Shelf.Strings.BuilderCap
import Derived.Test.YtedgnlgjmnccgabGreatDoorProg
import Derived.RangeFuncRecord
import Derived.Maps.OwnOps
import Derived.Test.YtedgnlgjmnccgabGreatDoorPartC
import Derived.Test.YtedgnlgjmnccgabGreatDoorPartF
import Derived.Laws.EntriesVeiled
import Derived.Deep.LoopGhost
import Derived.Deep.Cut
import Derived.Test.YtedgnlgjmnccgabGreatDoorPartE
import Derived.Maps.OwnSet
import Derived.Maps.Views
set_option maxRecDepth 100000
set_option maxHeartbeats 40000000
set_option linter.unusedVariables false
namespace Go.Proofs.YtedgnlgjmnccgabGreatDoor
section
open Go.RowKit Go.Deep Go.ChangeShapes Go.WideShapes
def Jm8 (p:Pt):Prop:=-9223372036854775808<=p.keep/\p.keep<9223372036854775808/\-9223372036854775808<=p.drop/\p.drop<9223372036854775808
theorem JpQ{H:Type}{d:DataW H}{l:List (DataW H)}(h:d∈l):Rows.uptoBulk d<=Rows.uptoBulkAll l:=by
 induction l with
 | nil=>cases h
 | cons x r ih =>
  simp only[Rows.uptoBulkAll]
  rcases List.mem_cons.1 h with e|e
  . subst e;omega
  . have:=ih e;omega
theorem JkY:Tryz.prog.cellsOf 50=3:=by kernel_rfl
theorem Jmp:Tryz.prog.cellsOf 3=1:=by kernel_rfl
theorem Jmo:Tryz.prog.cellsOf 9=1:=by kernel_rfl
theorem Jpg{H:Type}{enc:TypeId×Value->H}{W:World}{base:Nat}{sp:Nat->Bool}{held:Bool}{n:Nat}{a:Addr}{cs:List Value}{y:DataW H×List MemPlace}
    (h1:W.cells? base a 3=some cs) (h2:DataW.trod enc Tryz.prog W base sp held n 50 cs=some y) :
    ∃ q:Pt,a.spot=none/\W.cell? ⟨a.block,a.off,none⟩=some (.int .i64 q.keep)/\W.cell? ⟨a.block,a.off+1,none⟩=some (.int .i64 q.drop)/\W.cell? ⟨a.block,a.off+2,none⟩=some (.string ⟨q.put.toArray⟩)/\Jm8 q/\q.put.length<=maxLen /\
     y.1=.agg [.lit (.int .i64 q.keep),.lit (.int .i64 q.drop),.lit (.string q.put)]:=by
 obtain⟨_,hlen,hcell⟩:=World.cells?_some h1;obtain⟨y0,y1,y2,m,rfl,_,t0,t1,t2⟩:=trod_struct3 Tryz.underlying50 h2;rw[Jmp]at t0 t1;rw[Jmo]at t2
 match cs,hlen with
 | [c0,c1,c2],_ =>
  simp only[List.drop_zero,List.take_succ_cons,List.take_zero,List.drop_succ_cons]at t0 t1 t2;obtain⟨K,e0,rfl,w0⟩:=DataW.trod_int Tryz.underlying3 t0;obtain⟨D,e1,rfl,w1⟩:=DataW.trod_int Tryz.underlying3 t1;obtain⟨s,e2,rfl,w2⟩:=DataW.trod_string Tryz.underlying9 t2;simp only[List.cons.injEq,and_true]at e0 e1 e2;subst e0 e1 e2;obtain⟨b,o,spot⟩:=a;have k0:=hcell 0 (by omega);have k1:=hcell 1 (by omega);have k2:=hcell 2 (by omega);have hspot:spot=none:=by simpa[Addr.add] using World.cell?_spot (show W.cell? ((⟨b,o,spot⟩:Addr).add 0)=some (.int .i64 K) from k0)
  subst hspot;rw[Addr.add_lit]at k0 k1 k2;have hw0:=bounds_i64 w0;have hw1:=bounds_i64 w1;have es:(ByteArray.mk s.data.toList.toArray)=s:=by cases s;simp
  refine⟨⟨K,D,s.data.toList⟩,rfl,k0,k1,by rw[es];exact k2,⟨hw0.1,by show K<_;omega,hw1.1,by show D<_;omega⟩,?_,rfl⟩;rw[Lib.size_eq]at w2;exact w2
theorem open_op{H:Type}{enc:TypeId×Value->H}{W:World}{base:Nat}{sp:Nat->Bool}{held:Bool}{fuel:Nat}{v:Value}{x:DataW H×List MemPlace}
    (h:DataW.trod enc Tryz.prog W base sp held fuel 23 [v]=some x) :
    ∃ps,opAt W v ps/\(∀p∈ps,Jm8 p/\p.put.length<=maxLen)/\(∀p∈ps,p.put.length<=Rows.uptoBulk x.1)/\ps.length<=maxLen:=by
 rcases open_slice Tryz.underlying23 h with ⟨hcs,_⟩|⟨a,len,cap,m,n,D,Pl,hcs,hb,hl,hm,hmm,rfl,hx⟩
 . simp only[List.cons.injEq,and_true]at hcs
   subst hcs;exact⟨[],⟨none,0,rfl,nlr _,Nat.zero_le _,fun h=>absurd rfl h⟩,by simp,by simp,Nat.zero_le _⟩
 . simp only [List.cons.injEq,and_true]at hcs
   subst hcs;have hlm:len<=m:=by rw[hmm];split<;>omega
   haveI:Inhabited Pt:=⟨⟨0,0,[]⟩⟩
   obtain ⟨f,hf⟩:=choose_lt (α:=Pt) (n:=len) (p:=fun i q=>(a.add (i*3)).spot=none/\W.cell? ⟨(a.add (i*3)).block,(a.add (i*3)).off,none⟩=some (.int .i64 q.keep)/\W.cell? ⟨(a.add (i*3)).block,(a.add (i*3)).off+1,none⟩=some (.int .i64 q.drop)/\W.cell? ⟨(a.add (i*3)).block,(a.add (i*3)).off+2,none⟩=some (.string ⟨q.put.toArray⟩)/\Jm8 q/\q.put.length<=maxLen /\
       D i=.agg [.lit (.int .i64 q.keep),.lit (.int .i64 q.drop),.lit (.string q.put)]) (fun i hi=>by
    obtain⟨cs,h1,h2⟩:=hx i (by omega);rw[JkY]at h1;obtain⟨q,hq⟩:=Jpg h1 h2
    exact⟨q,hq⟩)
   have hlen:((List.range len).map f).length=len:=by simp
   refine⟨(List.range len).map f,⟨some a,cap,by rw[hlen],by rw[hlen];exact hl,hm,fun hne=>?_⟩,?_,?_,by rw[hlen];omega⟩
   . have hpos:0<len:=by
       cases len with
       | zero=>exact absurd rfl hne
       | succ n=>exact Nat.succ_pos n
     obtain⟨b,o,spot⟩:=a;have hs0:=(hf 0 hpos).1;have hspot:spot=none:=by simpa[Addr.add] using hs0
     subst hspot;refine⟨b,o,rfl,?_,fun i q hi=>?_⟩
     . have:=blt W _ (hf 0 hpos).2.1
       rw[Addr.add_lit]at this;exact this
     . have hil:i<len:=by have:=(llt hi);rw[hlen]at this;exact this
       have e:q=f i:=by
        rw[List.getElem?_map,List.getElem?_range hil]at hi;exact(osi hi).symm
       subst e;obtain⟨_,k0,k1,k2,_⟩:=hf i hil;rw[Addr.add_lit]at k0 k1 k2;exact⟨k0,k1,k2⟩
   . intro p hp
     obtain⟨i,hi,rfl⟩:=List.mem_map.1 hp;have:=hf i (List.mem_range.1 hi);exact⟨this.2.2.2.2.1,this.2.2.2.2.2.1⟩
   . intro p hp
     obtain⟨i,hi,rfl⟩:=List.mem_map.1 hp;have hd:=(hf i (List.mem_range.1 hi)).2.2.2.2.2.2;have h1:Rows.uptoBulk (D i)<=Rows.uptoBulkAll ((List.range len).map D):=JpQ (List.mem_map.2 ⟨i,hi,rfl⟩);rw[hd]at h1;simp only[Rows.uptoBulk,Rows.uptoBulkAll]at h1 ⊢;omega
def JoE (q:List Pt):Prop:=∀p∈q,p.put.length<=300->wfP p
theorem JnT:Tryz.prog.cellsOf 23=1:=by kernel_rfl
theorem Jqv{q:List Pt}(h:∀p∈q,Jm8 p/\p.put.length<=maxLen):JoE q:=fun p hp hs=>by
 obtain⟨⟨r1,r2,r3,r4⟩,_⟩:=h p hp;exact⟨r1,r2,r3,r4,by omega⟩
end
section
open Go.RowKit
attribute [local go_sem] Oper.semAt_some
structure Pcell (w:World) (β:Nat) (K D:Int) (U:List UInt8):Prop where
 c0:w.cell? ⟨β,0,none⟩=some (.int .i64 K)
 c1:w.cell? ⟨β,1,none⟩=some (.int .i64 D)
 c2:w.cell? ⟨β,2,none⟩=some (.string ⟨U.toArray⟩)
 f0:w.frozen? ⟨β,0,none⟩=false
 f1:w.frozen? ⟨β,1,none⟩=false
theorem Pcell.below{w w':World}{β:Nat}{K D:Int}{U:List UInt8}(h:Pcell w β K D U)(hb:Below w.heap.size w w'):Pcell w' β K D U:=by
 have l:=blt w _ h.c0;exact⟨Jav hb h.c0,Jav hb h.c1,Jav hb h.c2,(hb.frozen (p:=⟨β,0,none⟩) l).trans h.f0,(hb.frozen (p:=⟨β,1,none⟩) l).trans h.f1⟩
def uB (u:Int):Bool:=decide (u=1\/u=2\/u=3)
theorem Jmx(u:Int):uB u=true↔Ja3 u:=by unfold uB Ja3;exact decide_eq_true_iff
def tzE (rs:List Nat) (u v:Int) (qs:List Pt):Int:=if (uB u && uB v)=true then (if chkE qs (by_ u rs)=0 then turnX rs u v qs else chkE qs (by_ u rs)) else 1
def tzO (rs:List Nat) (u v:Int) (qs:List Pt):List Pt:=if (uB u && uB v)=true then (if chkE qs (by_ u rs)=0 then turnO rs u v qs else []) else []
theorem JjG(rs:List Nat)(h:C1 rs<=1000000)(x:Int):by_ x rs<=3000000:=by
 have h2:=Jqg rs;have h3:=Jok rs;have h1:=JdM rs;unfold by_;split<;>(try split)<;>(try split)<;>omega
theorem JoI(b u:Nat)(hu:Joq u)(rs:List Nat)(w:World)(h:JaW w b u rs):Calls Tryz.prog 33 #[.pointer (some ⟨b,0,none⟩)] w fun e w'=>e=.returned (.int .i64 (by_ (u:Int) rs))/\w'=w:=by
 rcases hu with rfl|rfl|rfl
 . exact Jiz b rs w h
 . exact Jiy b rs w h
 . exact Jix b rs w h
theorem Jiw(u:Nat)(hu:Joq u)(rs:List Nat)(hR:∀r∈rs,Jaw r)(hz:C1 rs<=8000)(w:World)(hT:Lib.Utf8Tabs 2 3 w):Calls Tryz.prog 25 #[.int .i64 (u:Int),.string (Jao rs)] w fun e w'=>∃b,e=.returned (.tuple #[.pointer (some ⟨b,0,none⟩),.nilIface])/\JaW w' b u rs/\w.heap.size<=b/\Below w.heap.size w w':=by
 rcases hu with rfl|rfl|rfl
 . exact Jl4 rs hR hz w hT
 . exact Jl3 rs hR hz w hT
 . exact Jl2 rs hR hz w hT
theorem sh_fine{u:Int}(hu:Ja3 u){rs:List Nat}{q:List Pt}(hR:∀r∈rs,Jaw r)(h:tzE rs u 1 q=0) :
    good (tzO rs u 1 q) (encs rs)/\Jab (tzO rs u 1 q) (encs rs)=encs (Ja4 u rs q)/\(∀r∈Ja4 u rs q,Jaw r)/\shE u rs q=(if C1 (Ja4 u rs q)<=8000 then 0 else 12)/\shR u rs q=(if C1 (Ja4 u rs q)<=8000 then Ja4 u rs q else rs)/\chkE q (by_ u rs)=0/\okZ u rs q=true/\tzO rs u 1 q=inZ u 1 rs q:=by
 have h1:(uB u && uB 1)=true:=by rw[(Jmx u).2 hu,(Jmx 1).2 (.inl rfl)];rfl
 unfold tzE at h;unfold tzO;rw[h1,if_pos rfl]at h ⊢;have hc:chkE q (by_ u rs)=0:=by
  by_cases hc:chkE q (by_ u rs)=0
  . exact hc
  . rw[if_neg hc]at h;exact absurd h hc
 rw[if_pos hc]at h ⊢;obtain⟨hp1,h2,h3⟩:=JbZ hc;obtain⟨t1,t2⟩:=Jot hu 1 q rs h3 (Int.le_of_eq h2);have ho:okZ u rs q=true:=by
  rw[t1]at h
  cases e:okZ u rs q with
  | true=>rfl
  | false=>rw[e]at h;cases h
 rw[t2,ho,if_pos rfl];obtain⟨il,ia⟩:=Jp0 hu q rs hp1 h2 hR ho;have hE:shE u rs q=(if C1 (Ja4 u rs q)<=8000 then 0 else 12):=by
  unfold shE plE;rw[if_pos hc,if_pos ho]
 refine⟨il.good,ia,JiN hu q rs h3 (Int.le_of_eq h2) ho hR,hE,?_,hc,rfl,rfl⟩;unfold shR;rw[hE]
 by_cases h8:C1 (Ja4 u rs q)<=8000
 . rw[if_pos h8,if_pos rfl,if_pos h8]
 . rw[if_neg h8,if_neg (by decide),if_neg h8]
theorem Jpz{u:Int}:∀(qs:List Pt)(R:List Nat),(∀q∈qs,oneB q=true)->Jan (inZ u 1 R qs)=Jan qs
 | [],_,_=>rfl
 | q :: qs,R,h=>by
  have ih:=Jpz (u:=u) qs (Jbb u R (lenP q)) fun x hx=>h x (by simp[hx])
  have e:∀(p:Pt) (l:List Pt),Jan (p :: l)=p.put.length+Jan l:=fun p l=>by simp[Jan]
  rw[inZ,e,e,ih,Jji (h q (by simp))]
theorem Jm9:∀(qs:List Pt),(∀q∈qs,q.put.length<=300)->Jan qs<=300*qs.length
 | [],_=>by simp[Jan]
 | q :: qs,h=>by
  have ih:=Jm9 qs fun x hx=>h x (by simp[hx])
  have:=h q (by simp);have e:Jan (q :: qs)=q.put.length+Jan qs:=by simp[Jan]
  rw[e,List.length_cons];omega
def isDoc (s:List UInt8):Prop:=(scan s).2=true/\s.length<=1500
theorem field2c(a b c d:Int)(w:World):(Instr.field 25 (.agg #[.int .i64 a,.int .i64 b,.int .i64 c,.int .i64 d]) 2).run Tryz.prog w=.ok (.int .i64 c) w:=by kernel_rfl
attribute [local go_sem] field2c
structure told (x:List Pt) (s:List UInt8):Prop where
 good:good x s
 doc:isDoc s
 len:x.length<=61
 puts:Jan x<=9150
end
section
theorem put_cut(u:List UInt8)(j:Nat)(hj:j+1<=u.length)(ps:List Pt)(r:List UInt8)(h:Left (⟨0,0,u⟩ :: ps) r)(hv:V (u.take (j+1))) :
    (cutP ⟨0,0,u⟩ ((j:Int)+1)).1=⟨0,0,u.take (j+1)⟩/\Left ((cutP ⟨0,0,u⟩ ((j:Int)+1)).2++ps) r/\Jab (⟨0,0,u⟩ :: ps) r=u.take (j+1)++Jab ((cutP ⟨0,0,u⟩ ((j:Int)+1)).2++ps) r/\Jai ((cutP ⟨0,0,u⟩ ((j:Int)+1)).2++ps)+(j+1)=Jai (⟨0,0,u⟩ :: ps):=by
 obtain⟨hl,hV⟩:=Jep h;have h2:((j:Int)+1).toNat=j+1:=by omega
 have hw:Jai (⟨0,0,u⟩ :: ps)=u.length+Jai ps:=by rw[Ja7,Jh0];omega
 rw[hw,Jc3]
 by_cases e:u.length=j+1
 . have e1:cutP ⟨0,0,u⟩ ((j:Int)+1)=(⟨0,0,u⟩,[]):=by unfold cutP;rw[if_pos (by rw[Jh0];omega)]
   rw[e1,List.take_of_length_le (by omega)];exact⟨rfl,hl,rfl,by show Jai ps+(j+1)=_;omega⟩
 . have e1:cutP ⟨0,0,u⟩ ((j:Int)+1)=(⟨0,0,u.take (j+1)⟩,[⟨0,0,u.drop (j+1)⟩]):=by
     unfold cutP;rw[if_neg (by rw[Jh0];omega),if_neg (show ¬0<(⟨0,0,u⟩:Pt).keep from Int.lt_irrefl 0),if_neg (show ¬0<(⟨0,0,u⟩:Pt).drop from Int.lt_irrefl 0),h2]
   have e2:u=u.take (j+1)++u.drop (j+1):=(List.take_append_drop _ _).symm;have h3:V (u.drop (j+1)):=JrW hV hv;have h4:u.drop (j+1)≠[]:=fun e'=>by have:=congrArg List.length e';rw[List.length_drop]at this;simp at this;omega
   rw[e1];refine⟨rfl,⟨?_,?_,h3,?_,?_⟩,?_,?_⟩
   . intro p hp
     rcases List.mem_cons.1 hp with rfl|hp
     . exact .inr (.inr ⟨rfl,rfl,h4⟩)
     . exact hl.one p hp
   . have:=hl.long
     simp only[List.cons_append,List.nil_append];rw[Jbt];show(0:Int)+0+_=_;omega
   . show V (r.take 0);rw[List.take_zero];exact Jdk
   . exact hl.al
   . show u++Jab ps r=u.take (j+1)++Jab (⟨0,0,u.drop (j+1)⟩ :: ps) r
     rw[Jc3,←List.append_assoc,←e2]
   . show Jai (⟨0,0,u.drop (j+1)⟩ :: ps)+(j+1)=_
     rw[Ja7,Jh0,List.length_drop];omega
theorem JeE(d:Bool)(n:Nat):JaE (Jam d (n+1))=d:=by
 have h0:(0:Int)<((n:Int)+1):=by omega
 cases d<;>simp[JaE,Jam,h0]
theorem JfC(d:Bool)(n:Nat):JbG (Jam d (n+1)) = !d:=by
 have h0:(0:Int)<((n:Int)+1):=by omega
 cases d<;>simp[JbG,Jam,h0]
theorem comp_st:∀(f:Nat)(A B:List Pt)(r T D o:List UInt8)(s:NSt),Left A r->Left B (Jab A r)->Jai A+Jai B<=f->St T D r o s ->
    St T T [] (o++Jab B (Jab A r)) (runS JbI (Ja8 JaE Jaa f A B) s):=by
 have base:∀(T D o:List UInt8) (s:NSt) (g:Nat),St T D [] o s->St T T [] (o++Jab [] (Jab [] [])) (runS JbI (Ja8 JaE Jaa g [] []) s):=by
  intro T D o s g h;have e:Ja8 JaE Jaa g [] []=[]:=by cases g<;>rfl
  rw[e];exact h.full.none
 have nil_of:∀{l:List Pt} {r:List UInt8},Left l r->Jai l=0->l=[]:=by
  intro l r h hw
  cases l with
  | nil=>rfl
  | cons p l=>have:=Jcu (h.one p (by simp)) l;omega
 intro f
 induction f with
 | zero =>
  intro A B r T D o s hA hB hw h;obtain rfl:=nil_of hA (by omega);obtain rfl:=nil_of hB (by omega);obtain rfl:=Jdg hA;exact base T D o s 0 h
 | succ f ih =>
  intro A B r T D o s hA hB hw h;have stepB:∀(v:List UInt8) (B':List Pt),v≠[]->B=⟨0,0,v⟩ :: B'->Ja8 JaE Jaa (f+1) A B=(noP,⟨0,0,v⟩) :: Ja8 JaE Jaa f A B'->St T T [] (o++Jab B (Jab A r)) (runS JbI (Ja8 JaE Jaa (f+1) A B) s):=by
   intro v B' hv e es;subst e;obtain⟨hB',hV⟩:=Jep hB;have hw':=Jcu (hB.one ⟨0,0,v⟩ (by simp)) B';rw[es,Jdz,Jc3,←List.append_assoc];refine ih A B' r T D (o++v) _ hA hB' (by omega) ?_
   have e:JbI (noP,⟨0,0,v⟩)=[⟨0,0,v⟩]:=by simp[JbI,JaE,JbG,Jaa,noP,hv]
   rw[e];exact h.put hV
  cases A with
  | nil =>
   obtain rfl:=Jdg hA
   cases B with
   | nil=>exact base T D o s (f+1) h
   | cons q B' =>
    rcases Jbn (hB.one q (by simp)) with ⟨v,hv,rfl⟩|⟨e,k,rfl⟩
    . exact stepB v B' hv rfl (by
        have h2:=JbS hv
        simp only[Ja8,h2,if_true])
    . exact absurd hB JcZ
  | cons p A' =>
   rcases Jbn (hA.one p (by simp)) with ⟨u,hu,rfl⟩|⟨d,m,rfl⟩
   . have hdu : JaE ⟨0,0,u⟩=false:=by simp[JaE]
     cases B with
     | nil =>
      have:=Jdg hB;rw[Jc3]at this;simp[hu]at this
     | cons q B' =>
      rcases Jbn (hB.one q (by simp)) with ⟨v,hv,rfl⟩|⟨e,k,rfl⟩
      . exact stepB v B' hv rfl (by
          have h2:=JbS hv
          simp only[Ja8,hdu,h2,Bool.false_eq_true,if_false,if_true])
      . obtain ⟨m,hm⟩:∃m,u.length=m+1:=⟨u.length - 1,by have:=List.length_pos_iff.2 hu;omega⟩
        have hmin:min (Jac ⟨0,0,u⟩) (Jac (Jam e (k+1)))=((min m k:Nat):Int)+1:=by rw[Jh0,Jb9];omega
        obtain⟨j,hj⟩:∃j,min m k=j:=⟨_,rfl⟩;rw[hj]at hmin;have hj1:j<=m:=by omega
        have hj2:j<=k:=by omega
        have huv:=(Jep hA).2;have hmid:=Jc3 u A' r
        have hv:V (u.take (j+1)):=by
         have v2:=(JbD hB).2.2.1;rw[Jb2,hmid]at v2
         by_cases hc:m<=k
         . rw[List.take_of_length_le (by omega)];exact huv
         . obtain rfl:k=j:=by omega
           have e2:((k+1:Nat):Int).toNat=k+1:=by omega
           rw[e2,List.take_append_of_le_length (by omega)]at v2;exact v2
        obtain⟨c1,lA,aA,wA⟩:=put_cut u j (by omega) A' r hA hv;have hx:(u.take (j+1)).length=j+1:=by rw[List.length_take];omega
        have hvm:V ((Jab (⟨0,0,u⟩ :: A') r).take (j+1)):=by rw[aA,List.take_left' hx];exact hv
        obtain⟨lB,aB,_⟩:=Jed e k j hj2 B' _ hB hvm;rw[aB];rw[aA,List.drop_left' hx,List.take_left' hx]at *;have wB:=Jcv e k j hj2;have es:Ja8 JaE Jaa (f+1) (⟨0,0,u⟩ :: A') (Jam e (k+1) :: B')=(⟨0,0,u.take (j+1)⟩,Jam e (j+1)) :: Ja8 JaE Jaa f ((cutP ⟨0,0,u⟩ ((j:Int)+1)).2++A') ((cutP (Jam e (k+1)) ((j:Int)+1)).2++B'):=by
         have h2:=Jbr e (k+1);simp only[Ja8,hdu,h2,hmin,c1,(Jdj e k j hj2).1,Bool.false_eq_true,if_false]
        have hw2:Jai ((cutP ⟨0,0,u⟩ ((j:Int)+1)).2++A')+Jai ((cutP (Jam e (k+1)) ((j:Int)+1)).2++B')<=f:=by
         rw[Jbe (cutP (Jam e (k+1)) ((j:Int)+1)).2,wB];rw[Ja7 (Jam e (k+1)),Jb9]at hw;omega
        rw[es,Jdz,←List.append_assoc];refine ih _ _ r T D _ _ lA lB hw2 ?_
        have hune:u.take (j+1)≠[]:=fun e'=>by rw[e']at hx;simp at hx
        cases e with
        | true =>
         have ec:JbI (⟨0,0,u.take (j+1)⟩,Jam true (j+1))=[]:=by
          have h1:=JfC true j;have h2:=Jbr true (j+1);simp[JbI,JaE,h2,JbG];simp[Jam]
         rw[ec,if_pos rfl];exact h.none
        | false =>
         have ec:JbI (⟨0,0,u.take (j+1)⟩,Jam false (j+1))=[⟨0,0,u.take (j+1)⟩]:=by
          have h1:=JfC false j;simp[JbI,h1]
         rw[ec,if_neg (by decide)];exact h.put hv
   . cases d with
     | true =>
      obtain⟨lA,_,hv,hlen⟩:=JbD hA;rw[Jb2]at lA hv hlen;have e2:((m+1:Nat):Int).toNat=m+1:=by omega
      rw[e2]at lA hv hlen;have hap:Jab (Jam true (m+1) :: A') r=Jab A' (r.drop (m+1)):=by rw[JcB];simp
      rw[hap]at hB ⊢;have hw':=Jcu (hA.one (Jam true (m+1)) (by simp)) A';have es:Ja8 JaE Jaa (f+1) (Jam true (m+1) :: A') B=(Jam true (m+1),noP) :: Ja8 JaE Jaa f A' B:=by
       have h1:=JeE true m
       cases B<;>simp only[Ja8,h1,if_true]
      have ec:JbI (Jam true (m+1),noP)=[Jam true (m+1)]:=by
       have h1:=JeE true m;simp[JbI,h1]
      rw[es,Jdz,ec];refine ih A' B (r.drop (m+1)) T (D++r.take (m+1)) o _ lA hB (by omega) ?_
      have h':St T D (r.take (m+1)++r.drop (m+1)) o s:=by rw[List.take_append_drop];exact h
      have:=h'.unit hv true (m+1) (by rw[List.length_take];omega);rw[if_pos rfl,List.append_nil]at this;exact this
     | false =>
      cases B with
      | nil =>
       have:=Jdg hB;rw[JcB]at this;have hlen:=(JbD hA).2.2.2;rw[Jb2]at hlen;have:=congrArg List.length this;rw[if_neg (by decide),List.length_append,List.length_take,List.length_nil]at this;omega
      | cons q B' =>
       rcases Jbn (hB.one q (by simp)) with ⟨v,hv,rfl⟩|⟨e,k,rfl⟩
       . exact stepB v B' hv rfl (by
           have h1:=JeE false m;have h2:=JbS hv
           simp only[Ja8,h1,h2,Bool.false_eq_true,if_false,if_true])
       . have hmin:min (Jac (Jam false (m+1))) (Jac (Jam e (k+1)))=((min m k:Nat):Int)+1:=by rw[Jb9,Jb9];omega
         obtain⟨j,hj⟩:∃j,min m k=j:=⟨_,rfl⟩;rw[hj]at hmin;have hj1:j<=m:=by omega
         have hj2:j<=k:=by omega
         have hlenA:=(JbD hA).2.2.2;rw[Jb2]at hlenA
         have hv:V (r.take (j+1)):=by
          have v1:=(JbD hA).2.2.1;have v2:=(JbD hB).2.2.1;rw[Jb2]at v1 v2
          by_cases hc:m<=k
          . obtain rfl:m=j:=by omega
            exact v1
          . obtain rfl:k=j:=by omega
            have e2:((k+1:Nat):Int).toNat=k+1:=by omega
            rw[e2,JcB,if_neg (by decide),List.take_append_of_le_length (by rw[List.length_take];omega),List.take_take,show min (k+1) (m+1)=k+1 by omega]at v2;exact v2
         obtain⟨lA,aA,hlen⟩:=Jed false m j hj1 A' r hA hv;rw[if_neg (by decide)]at aA;have hx:(r.take (j+1)).length=j+1:=by rw[List.length_take];omega
         have hvm:V ((Jab (Jam false (m+1) :: A') r).take (j+1)):=by rw[aA,List.take_left' hx];exact hv
         obtain⟨lB,aB,_⟩:=Jed e k j hj2 B' _ hB hvm;rw[aB];rw[aA,List.drop_left' hx,List.take_left' hx]at *;have wA:=Jcv false m j hj1;have wB:=Jcv e k j hj2;have es:Ja8 JaE Jaa (f+1) (Jam false (m+1) :: A') (Jam e (k+1) :: B')=(Jam false (j+1),Jam e (j+1)) :: Ja8 JaE Jaa f ((cutP (Jam false (m+1)) ((j:Int)+1)).2++A') ((cutP (Jam e (k+1)) ((j:Int)+1)).2++B'):=by
          have h1:=JeE false m;have h2:=Jbr e (k+1);simp only[Ja8,h1,h2,hmin,(Jdj false m j hj1).1,(Jdj e k j hj2).1,Bool.false_eq_true,if_false]
         have hw2:Jai ((cutP (Jam false (m+1)) ((j:Int)+1)).2++A')+Jai ((cutP (Jam e (k+1)) ((j:Int)+1)).2++B')<=f:=by
          rw[Jbe,Jbe,wA,wB];rw[Ja7,Ja7,Jb9,Jb9]at hw;omega
         rw[es,Jdz,←List.append_assoc];refine ih _ _ (r.drop (j+1)) T (D++r.take (j+1)) _ _ lA lB hw2 ?_
         have ec:JbI (Jam false (j+1),Jam e (j+1))=[Jam e (j+1)]:=by
          have h1:=JfC e j;have h2:=JfC false j;have h3:=JeE false j
          cases e<;>simp[JbI,h1,h2,h3]
         rw[ec];have h':St T D (r.take (j+1)++r.drop (j+1)) o s:=by rw[List.take_append_drop];exact h
         exact h'.unit hv e (j+1) hx
theorem Jp5{a b:List Pt}{t:List UInt8}(ha:good a t)(hb:good b (Jab a t)) :
    good (JaC (JgF a b)) t/\Jab (JaC (JgF a b)) t=Jab b (Jab a t):=by
 have na:=ha.norm;have nb:=hb.norm;have la:Left (Jae a) t:=⟨na.one,na.long,na.al⟩;have ea:=Jgq ha.one t;have eb:=Jgq hb.one (Jab a t);have lb:Left (Jae b) (Jab (Jae a) t):=by rw[ea];exact⟨nb.one,nb.long,nb.al⟩
 have:=(comp_st _ (Jae a) (Jae b) t t [] [] nst0 la lb (nlr _) (St0 t)).good;rw[List.nil_append,ea,eb]at this;exact this
variable {ps : List Pt}
theorem JhM:∀(ps:List Pt)(t:List UInt8),Left ps t->((Jab ps t).length:Int)=(ps.map isP).sum
 | [],t,_=>rfl
 | p :: ps,t,h=>by
  obtain⟨hl,_,_,hlen⟩:=JbD h;have ih:=JhM ps _ hl;rw[List.map_cons,List.sum_cons,←ih]
  rcases Jbn (h.one p (by simp)) with ⟨u,hu,rfl⟩|⟨d,m,rfl⟩
  . rw[Jc3,List.length_append];simp[isP,lenP]
  . rw [Jb2]at hlen ⊢
    have e2:((m+1:Nat):Int).toNat=m+1:=by omega
    rw[e2]at hlen ⊢;rw[JcB,List.length_append]
    cases d with
    | true=>simp[isP,Jam]
    | false =>
     rw[if_neg (by decide),List.length_take];simp only[isP,Jam,List.length_nil,Bool.false_eq_true,if_false];omega
theorem good.left{t:List UInt8}(h:good ps t):Left ps t:=⟨h.one,h.long,h.al⟩
def JaY:List Pt->List Bool
 | []=>[]
 | p :: ps=>List.replicate p.drop.toNat true++(List.replicate p.keep.toNat false++JaY ps)
theorem JdJ:∀(a b:List Pt),JaY (a++b)=JaY a++JaY b
 | [],b=>rfl
 | p :: a,b=>by rw[List.cons_append,JaY,JaY,JdJ a b];simp
def actF (x:List Bool) (p:Pt):List Bool:=x++(List.replicate p.drop.toNat true++List.replicate p.keep.toNat false)
theorem actF_ok:ActP actF:=by
 constructor
 . intro x;simp[actF]
 . intro x u v;simp[actF]
 . intro x a b ha hb
   simp only[actF,Int.toNat_zero,List.replicate_zero,List.append_nil,List.append_assoc];rw[show(a+b).toNat=a.toNat+b.toNat by omega,←List.replicate_append_replicate]
 . intro x a b ha hb
   simp only[actF,Int.toNat_zero,List.replicate_zero,List.nil_append,List.append_assoc];rw[show(a+b).toNat=a.toNat+b.toNat by omega,←List.replicate_append_replicate]
 . intro x k d u;simp[actF]
 . intro x d u;simp[actF]
theorem Jgt:∀(ps:List Pt)(x:List Bool),ps.foldl actF x=x++JaY ps
 | [],x=>by simp[JaY]
 | p :: ps,x=>by rw[List.foldl_cons,Jgt ps,actF,JaY];simp
theorem JiF(h:∀p∈ps,0<=p.keep/\0<=p.drop):JaY (Jae ps)=JaY ps:=by
 have e:=JeZ actF_ok ps h [];rw[Jgt,Jgt]at e;simpa using e
theorem Jf7(h:∀p∈ps,0<=p.keep/\0<=p.drop):Jan (Jae ps)=Jan ps:=by
 have ok:ActP (fun (x:Nat) (p:Pt)=>x+p.put.length):=by
  constructor
  . intro x;simp
  . intro x u v;simp;omega
  . intro x a b _ _;simp
  . intro x a b _ _;simp
  . intro x k d u;simp
  . intro x d u;simp
 have key:∀(l:List Pt) (x:Nat),l.foldl (fun x p=>x+p.put.length) x=x+Jan l:=by
  intro l
  induction l with
  | nil=>intro x;simp[Jan]
  | cons p l ih=>intro x;rw[List.foldl_cons,ih];simp[Jan];omega
 have e:=JeZ ok ps h 0;rw[key,key]at e;omega
theorem Jdp(d:Bool)(n:Nat)(ps:List Pt):JaY (Jam d n :: ps)=List.replicate n d++JaY ps:=by
 cases d<;>simp[JaY,Jam]
theorem JeB(u:List UInt8)(ps:List Pt):JaY (⟨0,0,u⟩ :: ps)=JaY ps:=by simp[JaY]
theorem JcX(p:Pt)(ps:List Pt):Jan (p :: ps)=p.put.length+Jan ps:=by simp[Jan]
theorem Jd3(a b:List Pt):Jan (a++b)=Jan a+Jan b:=by simp[Jan]
theorem Jgr:∀(ps:List Pt)(t:List UInt8),Left ps t->(Jab ps t).length=Jan ps+(JaY ps).count false
 | [],t,_=>rfl
 | p :: ps,t,h=>by
  obtain⟨hl,_,_,hlen⟩:=JbD h;have ih:=Jgr ps _ hl
  rcases Jbn (h.one p (by simp)) with ⟨u,hu,rfl⟩|⟨d,m,rfl⟩
  . have e0:(lenP (⟨0,0,u⟩:Pt)).toNat=0:=rfl
    rw[e0,List.drop_zero]at ih;rw[Jc3,JeB,JcX,List.length_append,ih];show u.length+_=u.length+_+_;omega
  . rw [Jb2]at hlen ih
    have e2:((m+1:Nat):Int).toNat=m+1:=by omega
    rw[e2]at hlen ih;rw[JcB,Jdp,JcX,Jej,List.length_append,List.count_append,ih]
    cases d with
    | true=>simp[List.count_replicate]
    | false =>
     rw[if_neg (by decide),List.length_take,List.count_replicate];simp;omega
def dflC (F:List Bool) (x:Cel):Bool:=if x.1<0 then false else F[x.1.toNat]?.getD false
theorem JpE(F:List Bool)(u:List UInt8):(putC u).map (dflC F)=List.replicate u.length false:=by
 unfold putC;rw[List.map_map]
 induction u with
 | nil=>rfl
 | cons c u ih=>rw[List.map_cons,ih];rfl
theorem JjC(F:List Bool)(d:Bool)(rest:List Bool):∀(k i:Nat),F.drop i=List.replicate k d++rest->(JdF i k).map (dflC F)=List.replicate k d
 | 0,i,_=>rfl
 | k + 1,i,h=>by
  have h1:F[i]?=some d:=by
   have:(F.drop i)[0]?=some d:=by rw[h];simp[List.replicate_succ]
   rw[List.getElem?_drop,Nat.add_zero]at this;exact this
  have h2:F.drop (i+1)=List.replicate k d++rest:=by
   have:=congrArg (List.drop 1) h;rw[List.drop_drop,List.replicate_succ,List.cons_append,List.drop_succ_cons,List.drop_zero]at this;exact this
  have e:dflC F ((i:Int),0)=d:=by unfold dflC;rw[if_neg (by show ¬(i:Int)<0;omega)];simp[h1]
  have ih:=JjC F d rest k (i+1) h2;rw[JdF,List.map_cons,e,List.replicate_succ]
  congr 1
theorem JjY(d:Bool)(m j:Nat)(hj:j<=m)(ps:List Pt)(i:Int) :
    JaY (Jam d (m+1) :: ps)=List.replicate (j+1) d++JaY ((cutP (Jam d (m+1)) ((j:Int)+1)).2++ps)/\Jan ((cutP (Jam d (m+1)) ((j:Int)+1)).2++ps)=Jan ps /\
    midP i (Jam d (m+1) :: ps)=(if d then [] else JdF i (j+1))++midP (i+(j+1:Nat)) ((cutP (Jam d (m+1)) ((j:Int)+1)).2++ps):=by
 have hmu:∀(d:Bool) (n:Nat) (i:Int) (ps:List Pt),midP i (Jam d n :: ps)=(if d then [] else JdF i n)++midP (i+n) ps:=by
  intro d n i ps
  cases d
  . simp[midP,Jam,putC]
  . simp[midP,Jam,putC,JdF]
 rcases JkO d m j hj with ⟨rfl,e⟩|⟨k,rfl,e⟩
 . rw[e,List.nil_append,Jdp,hmu]
   exact⟨rfl,rfl,rfl⟩
 . rw [e]
   have e1:j+k+1+1=(j+1)+(k+1):=by omega
   refine⟨?_,?_,?_⟩
   . show _=_++JaY (Jam d (k+1) :: ps)
     rw[Jdp,Jdp,←List.append_assoc,e1,List.replicate_append_replicate]
   . show Jan (Jam d (k+1) :: ps)=_
     rw[JcX,Jej];simp
   . show _=_++midP _ (Jam d (k+1) :: ps)
     rw[hmu,hmu,e1]
     cases d with
     | true=>simp only[if_true,List.nil_append];congr 1;push_cast;omega
     | false =>
      simp only[Bool.false_eq_true,if_false];rw[JeA,List.append_assoc]
      congr 3
      push_cast;omega
theorem Jhc(F:Bool):∀(f:Nat)(A B:List Pt)(r:List UInt8)(FO:List Bool)(pos:Nat),Left A r->Left B r->Jai A+Jai B<=f->FO.drop pos=JaY (if F then A else B) ->
    JaY ((Ja8 Jaa Jaa f A B).flatMap (tF F))=(midP pos (if F then B else A)).map (dflC FO)/\Jan ((Ja8 Jaa Jaa f A B).flatMap (tF F))=Jan (if F then A else B):=by
 have nil_of:∀{l:List Pt} {r:List UInt8},Left l r->Jai l=0->l=[]:=by
  intro l r h hw
  cases l with
  | nil=>rfl
  | cons p l=>have:=Jcu (h.one p (by simp)) l;omega
 have base:∀(FO:List Bool) (pos g:Nat),JaY ((Ja8 Jaa Jaa g [] []).flatMap (tF F))=(midP pos (if F then [] else [])).map (dflC FO)/\Jan ((Ja8 Jaa Jaa g [] []).flatMap (tF F))=Jan (if F then [] else []):=by
  intro FO pos g;have e:Ja8 Jaa Jaa g [] []=[]:=by cases g<;>rfl
  rw[e]
  cases F<;>exact⟨rfl,rfl⟩
 have midput:∀(u:List UInt8) (i:Int) (ps:List Pt),midP i (⟨0,0,u⟩ :: ps)=putC u++midP i ps:=by
  intro u i ps;simp[midP,JdF]
 have flkeep:∀(n:Nat) (l:List Pt),JaY (⟨(n:Int),0,[]⟩ :: l)=List.replicate n false++JaY l:=by
  intro n l;simp[JaY]
 intro f
 induction f with
 | zero =>
  intro A B r FO pos hA hB hw h;obtain rfl:=nil_of hA (by omega);obtain rfl:=nil_of hB (by omega);exact base FO pos 0
 | succ f ih =>
  intro A B r FO pos hA hB hw h
  have stepB:∀(v:List UInt8) (B':List Pt),v≠[]->B=⟨0,0,v⟩ :: B'->Ja8 Jaa Jaa (f+1) A B=(noP,⟨0,0,v⟩) :: Ja8 Jaa Jaa f A B' ->
      JaY ((Ja8 Jaa Jaa (f+1) A B).flatMap (tF F))=(midP pos (if F then B else A)).map (dflC FO)/\Jan ((Ja8 Jaa Jaa (f+1) A B).flatMap (tF F))=Jan (if F then A else B):=by
   intro v B' hv e es;subst e;obtain⟨hB',hV⟩:=Jep hB;have hw':=Jcu (hB.one ⟨0,0,v⟩ (by simp)) B';have h':FO.drop pos=JaY (if F then A else B'):=by
    rw[h]
    cases F with
    | true=>rfl
    | false=>exact JeB v B'
   obtain⟨i1,i2⟩:=ih A B' r FO pos hA hB' (by omega) h';rw[es,List.flatMap_cons,JdJ,Jd3,i1,i2]
   cases F with
   | true =>
    have e:=JgN true v hv;rw[if_pos rfl]at e;rw[e,if_pos rfl,if_pos rfl,if_pos rfl,midput,List.map_append,JpE,flkeep];exact⟨by simp[JaY],by simp[Jan]⟩
   | false =>
    have e:=Jm4 false v hv;rw[if_neg (by decide)]at e;rw[e,if_neg (by decide),if_neg (by decide),if_neg (by decide),JcX,JeB];exact⟨rfl,by simp[Jan]⟩
  cases A with
  | nil =>
   obtain rfl:=Jdg hA
   cases B with
   | nil=>exact base FO pos (f+1)
   | cons q B' =>
    rcases Jbn (hB.one q (by simp)) with ⟨v,hv,rfl⟩|⟨e,k,rfl⟩
    . exact stepB v B' hv rfl (by
        have h2:=JbS hv
        simp only[Ja8,h2,if_true])
    . exact absurd hB JcZ
  | cons p A' =>
   rcases Jbn (hA.one p (by simp)) with ⟨u,hu,rfl⟩|⟨d,m,rfl⟩
   . obtain ⟨hA',hV⟩:=Jep hA
     have hw':=Jcu (hA.one ⟨0,0,u⟩ (by simp)) A';have es:Ja8 Jaa Jaa (f+1) (⟨0,0,u⟩ :: A') B=(⟨0,0,u⟩,noP) :: Ja8 Jaa Jaa f A' B:=by
      have h1:=JbS hu
      cases B<;>simp only[Ja8,h1,if_true]
     have h':FO.drop pos=JaY (if F then A' else B):=by
      rw[h]
      cases F with
      | true=>exact JeB u A'
      | false=>rfl
     obtain⟨i1,i2⟩:=ih A' B r FO pos hA' hB (by omega) h';rw[es,List.flatMap_cons,JdJ,Jd3,i1,i2]
     cases F with
     | true =>
      have e:=Jm4 true u hu;rw[if_pos rfl]at e;rw[e,if_pos rfl,if_pos rfl,if_pos rfl,JcX,JeB];exact⟨rfl,by simp[Jan]⟩
     | false =>
      have e:=JgN false u hu;rw[if_neg (by decide)]at e;rw[e,if_neg (by decide),if_neg (by decide),if_neg (by decide),midput,List.map_append,JpE,flkeep];exact⟨by simp[JaY],by simp[Jan]⟩
   . cases B with
     | nil =>
      obtain rfl:=Jdg hB;exact absurd hA JcZ
     | cons q B' =>
      rcases Jbn (hB.one q (by simp)) with ⟨v,hv,rfl⟩|⟨e,k,rfl⟩
      . exact stepB v B' hv rfl (by
          have h1:=Jbr d (m+1);have h2:=JbS hv
          simp only[Ja8,h1,h2,Bool.false_eq_true,if_false,if_true])
      . have hmin:min (Jac (Jam d (m+1))) (Jac (Jam e (k+1)))=((min m k:Nat):Int)+1:=by rw[Jb9,Jb9];omega
        obtain⟨j,hj⟩:∃j,min m k=j:=⟨_,rfl⟩;rw[hj]at hmin;have hj1:j<=m:=by omega
        have hj2:j<=k:=by omega
        have es:Ja8 Jaa Jaa (f+1) (Jam d (m+1) :: A') (Jam e (k+1) :: B')=(Jam d (j+1),Jam e (j+1)) :: Ja8 Jaa Jaa f ((cutP (Jam d (m+1)) ((j:Int)+1)).2++A') ((cutP (Jam e (k+1)) ((j:Int)+1)).2++B'):=by
         rw[Ja8,if_neg (by rw[Jbr];decide),if_neg (by rw[Jbr];decide),hmin,(Jdj d m j hj1).1,(Jdj e k j hj2).1]
        have hv:V (r.take (j+1)):=by
         have v1:=(JbD hA).2.2.1;have v2:=(JbD hB).2.2.1;rw[Jb2]at v1 v2
         by_cases hc:m<=k
         . obtain rfl:m=j:=by omega
           exact v1
         . obtain rfl:k=j:=by omega
           exact v2
        obtain⟨lA,_,_⟩:=Jed d m j hj1 A' r hA hv;obtain⟨lB,_,_⟩:=Jed e k j hj2 B' r hB hv;obtain⟨fA,pA,mA⟩:=JjY d m j hj1 A' pos;obtain⟨fB,pB,mB⟩:=JjY e k j hj2 B' pos;have wA:=Jcv d m j hj1;have wB:=Jcv e k j hj2;have hw2:Jai ((cutP (Jam d (m+1)) ((j:Int)+1)).2++A')+Jai ((cutP (Jam e (k+1)) ((j:Int)+1)).2++B')<=f:=by
         rw[Jbe,Jbe,wA,wB];rw[Ja7,Ja7,Jb9,Jb9]at hw;omega
        have hcast:(pos:Int)+((j+1:Nat):Int)=((pos+(j+1):Nat):Int):=by push_cast;rfl
        rw[hcast]at mA mB;have dropR:∀(b:Bool) (l:List Bool),FO.drop pos=List.replicate (j+1) b++l->FO.drop (pos+(j+1))=l:=by
         intro b l hl;have:=congrArg (List.drop (j+1)) hl;rw[List.drop_drop,List.drop_left' (by simp)]at this;exact this
        rw[es,List.flatMap_cons,JdJ,Jd3,Jm3]
        cases F with
        | true =>
         rw[if_pos rfl]at h ⊢;rw[if_pos rfl,if_pos rfl,if_pos rfl];rw[fA]at h;obtain⟨i1,i2⟩:=ih _ _ (r.drop (j+1)) FO (pos+(j+1)) lA lB hw2 (by rw[if_pos rfl];exact dropR d _ h);rw[if_pos rfl]at i1 i2;rw[i1,i2,mB,JcX,Jej,pA,List.map_append]
         cases e with
         | true=>simp[JaY,Jan]
         | false =>
          rw[if_neg (by decide),if_neg (by decide),JjC FO d _ (j+1) pos h,Jdp];simp[JaY,Jan,Jej]
        | false =>
         simp only[Bool.false_eq_true,if_false]at h ⊢;rw[fB]at h;obtain⟨i1,i2⟩:=ih _ _ (r.drop (j+1)) FO (pos+(j+1)) lA lB hw2 (by rw[if_neg (by decide)];exact dropR e _ h);rw[if_neg (by decide)]at i1 i2;rw[i1,i2,mA,JcX,Jej,pB,List.map_append]
         cases d with
         | true=>simp[JaY,Jan]
         | false =>
          rw[if_neg (by decide),if_neg (by decide),JjC FO e _ (j+1) pos h,Jdp];simp[JaY,Jan,Jej]
end
section
open Go.RowKit
variable {x : List Pt}{t : List UInt8}
theorem JrC:∀(ps:List Pt),wts ps=Jar ps+Jan ps
 | []=>by simp[wts,Jar,Jan]
 | p :: ps=>by
  have ih:=JrC ps;have e1:wts (p :: ps)=wtP p+wts ps:=by simp[wts]
  rw[e1,Jbt,JcX,ih];unfold wtP lenP
  push_cast;omega
theorem Jj6:∀(ps:List Pt),(∀p∈ps,oneP p)->(ps.length:Int)<=wts ps
 | [],_=>by simp[wts]
 | p :: ps,h=>by
  have ih:=Jj6 ps fun q hq=>h q (by simp[hq])
  have e1:wts (p :: ps)=wtP p+wts ps:=by simp[wts]
  have h1:=JaJ (h p (by simp));have e2:Jac p=wtP p:=rfl;rw[e1,List.length_cons];push_cast;omega
theorem Jom:∀(ps:List Pt),(∀p∈ps,oneP p)->∀p∈ps,wtP p<=wts ps
 | [],_,p,hp=>by cases hp
 | q :: ps,h,p,hp=>by
  have e1:wts (q :: ps)=wtP q+wts ps:=by simp[wts]
  have h0:=Jj6 ps fun x hx=>h x (by simp[hx])
  have h1:=JaJ (h q (by simp));have e2:Jac q=wtP q:=rfl
  rcases List.mem_cons.1 hp with rfl|hp
  . omega
  . have:=Jom ps (fun x hx=>h x (by simp[hx])) p hp
    omega
theorem good.wt(h:good x t):wts x=t.length+Jan x:=by rw[JrC,h.long]
theorem good.fine(h:good x t)(hb:t.length+Jan x<1000000):fineP x:=by
 have h1:=h.wt;have h2:=Jj6 x h.one;exact⟨h.one,by omega,by omega⟩
theorem good.wf(h:good x t)(hb:t.length+Jan x<1000000):∀p∈x,wfP p:=by
 intro p hp;have h1:=h.wt;have h2:=Jom x h.one p hp;obtain⟨k1,k2,_⟩:=JgT (h.one p hp);have e:wtP p=p.keep+p.drop+p.put.length:=rfl;exact⟨by omega,by omega,by omega,by omega,by omega⟩
theorem good.lens(h:good x t)(hb:t.length+Jan x<1000000):(Ja9 x).1=t.length/\(Ja9 x).2=(Jab x t).length:=by
 have h1:=Jc1 (h.fine hb);rw[h1.1,h1.2,h.long,JhM x t h.left];exact⟨rfl,rfl⟩
theorem good.both{a b:List Pt}{t':List UInt8}(ha:good a t)(hb:good b t')(h1:t.length+Jan a<1000000)(h2:t'.length+Jan b<1000000):Jch a b=0:=by
 unfold Jch;rw[(ha.lens h1).1,(hb.lens h2).1,ha.chk,if_pos rfl,hb.chk]
theorem JlA(h:good x t):Jan x<=(Jab x t).length:=by
 have:=Jgr x t h.left;omega
theorem JkE:∀(ps:List Pt),(∀p∈ps,0<=p.keep/\0<=p.drop)->((JaY ps).length:Int)=Jar ps
 | [],_=>by simp[JaY,Jar]
 | p :: ps,h=>by
  have ih:=JkE ps fun q hq=>h q (by simp[hq])
  have h1:=h p (by simp);rw[Jbt,←ih,JaY];simp only[List.length_append,List.length_replicate];unfold lenP;push_cast;omega
theorem JjL(h:good x t):(Jab x t).length<=t.length+Jan x:=by
 have h1:=Jgr x t h.left;have h2:=List.count_le_length (a:=false) (l:=JaY x);have h3:=JkE x (JaS h.one);have h4:=h.long;omega
theorem JfD(v:Value)(x:List Pt)(t:List UInt8)(w:World)(hT:Lib.Utf8Tabs 2 3 w)(hr:opAt w v x)(h:good x t)(hb:t.length+Jan x<1000000) :
    Calls Tryz.prog 29 #[v,.string ⟨t.toArray⟩] w fun e w'=>e=.returned (.tuple #[.string ⟨(Jab x t).toArray⟩,.nilIface])/\Below w.heap.size w w':=by
 have hf:=h.fine hb;have:=JhR v x t w hT hr (h.wf hb) (by omega) hf.len (by omega);rw[h.ord,if_pos rfl]at this;exact this
theorem Jik(F:Bool){a b:List Pt}{t:List UInt8}(ha:good a t)(hb:good b t)(h1:t.length+Jan a<1000000)(h2:t.length+Jan b<1000000):Jan (JaC (Jba F a b))=Jan a/\JaY (JaC (Jba F a b))=(midP 0 b).map (dflC (JaY a)):=by
 have na:=ha.norm;have nb:=hb.norm;have la:=na.left;have lb:=nb.left;have sa:=JaS ha.one;obtain⟨n1,_,_,_⟩:=JcI (ha.fine h1);obtain⟨m1,_,_,_⟩:=JcI (hb.fine h2);have hm:Jc5 Jaa (Jae a)=Jc5 Jaa (Jae b):=by
  rw[JdI _ na.one,JdI _ nb.one,na.long,nb.long]
 have key:∀(G:Bool) (L:List (Pt×Pt)),(∀p∈L.flatMap (tF G),0<=p.keep/\0<=p.drop)->JaY (JaC (runS (tF G) L nst0))=JaY (L.flatMap (tF G))/\Jan (JaC (runS (tF G) L nst0))=Jan (L.flatMap (tF G)):=by
  intro G L h;rw[Jm6];exact⟨JiF h,Jf7 h⟩
 have fa:=JiF sa;have pa:=Jf7 sa;have mb:=JqG b hb.one
 cases F with
 | true =>
  obtain⟨e1,e2⟩:=Jhc true (Jai (Jae a)+Jai (Jae b)) (Jae a) (Jae b) t (JaY a) 0 la lb (nlr _) (by rw[List.drop_zero,if_pos rfl,fa]);have hs:∀p∈(Ja8 Jaa Jaa (Jai (Jae a)+Jai (Jae b)) (Jae a) (Jae b)).flatMap (tF true),0<=p.keep/\0<=p.drop:=by
   obtain⟨_,hok,_,_⟩:=Jhn Jdh Jdh (Jai (Jae a)+Jai (Jae b)) (Jae a) (Jae b) n1 m1 hm (nlr _);intro p hp;obtain⟨x,hx,hp⟩:=List.mem_flatMap.1 hp;exact((Jhf x (hok x hx)).2 p hp).1
  obtain⟨k1,k2⟩:=key true _ hs;rw[if_pos rfl]at e1 e2;have e0:Jba true a b=runS (tF true) (Ja8 Jaa Jaa (Jai (Jae a)+Jai (Jae b)) (Jae a) (Jae b)) nst0:=rfl;rw[e0,k1,k2,e1,e2,pa];refine⟨rfl,?_⟩;show(midP 0 (Jae b)).map _=_;rw[mb]
 | false =>
  obtain⟨e1,e2⟩:=Jhc false (Jai (Jae b)+Jai (Jae a)) (Jae b) (Jae a) t (JaY a) 0 lb la (nlr _) (by rw[List.drop_zero,if_neg (by decide),fa]);have hs:∀p∈(Ja8 Jaa Jaa (Jai (Jae b)+Jai (Jae a)) (Jae b) (Jae a)).flatMap (tF false),0<=p.keep/\0<=p.drop:=by
   obtain⟨_,hok,_,_⟩:=Jhn Jdh Jdh (Jai (Jae b)+Jai (Jae a)) (Jae b) (Jae a) m1 n1 hm.symm (nlr _);intro p hp;obtain⟨x,hx,hp⟩:=List.mem_flatMap.1 hp;exact((Jip x (hok x hx)).2 p hp).1
  obtain⟨k1,k2⟩:=key false _ hs;rw[if_neg (by decide)]at e1 e2;have e0:Jba false a b=runS (tF false) (Ja8 Jaa Jaa (Jai (Jae b)+Jai (Jae a)) (Jae b) (Jae a)) nst0:=rfl;rw[e0,k1,k2,e1,e2,pa];refine⟨rfl,?_⟩;show(midP 0 (Jae b)).map _=_;rw[mb]
end
section
variable {t : List UInt8}{ps : List Pt}
theorem Ji6:∀(ps:List Pt)(t:List UInt8),(∀p∈ps,0<=lenP p)->Jar ps=t.length->badO ps t=false->Jcf t=false
 | [],t,_,hl,_=>by
  have:t=[]:=List.eq_nil_of_length_eq_zero (by simp[Jar]at hl;omega);rw[this];rfl
 | p :: ps,t,h,hl,hb=>by
  have h0:=h p (by simp);rw[badO,Bool.or_eq_false_iff]at hb
  by_cases hz:lenP p=0
  . have e:(lenP p).toNat=0:=by omega
    rw[e,List.drop_zero]at hb;exact Ji6 ps t (fun q hq=>h q (by simp[hq])) (by rw[Jbt]at hl;omega) hb.2
  . cases t with
    | nil=>rfl
    | cons b t =>
     obtain⟨n,hn⟩:∃n,(lenP p).toNat=n+1:=⟨(lenP p).toNat - 1,by omega⟩;rw[hn]at hb;exact hb.1
theorem V_cut{n:Nat}(hV:V t)(hn:n<=t.length)(hb:Jcf (t.drop n)=false):V (t.take n):=by
 obtain⟨rs,hr,rfl⟩:=hV
 rcases Nat.lt_or_ge n (encs rs).length with h|h
 . have h1:(encs rs)[n]?=some (encs rs)[n]:=lgg h
   have h2:(encs rs).drop n=(encs rs)[n] :: (encs rs).drop (n+1):=List.drop_eq_getElem_cons h;rw[h2]at hb;have h3:Jf0 (encs rs)[n]=true:=by simpa[Jcf,Jis,Jf0] using hb
   obtain⟨k,hk,e⟩:=JeD hr h1 h3;have e2:encs rs=encs (rs.take k)++encs (rs.drop k):=by rw[←Jc6,List.take_append_drop]
   refine⟨rs.take k,fun r hx=>hr r (List.mem_of_mem_take hx),?_⟩
   conv=>lhs;rw[e2,e]
   rw[List.take_left'];rfl
 . rw[List.take_of_length_le h];exact⟨rs,hr,rfl⟩
theorem al_of:∀(ps:List Pt)(t:List UInt8),V t->(∀p∈ps,V p.put)->(∀p∈ps,0<=lenP p)->Jar ps=t.length->badO ps t=false->al ps t
 | [],_,_,_,_,_,_=>trivial
 | p :: ps,t,hV,hp,h,hl,hb=>by
  have h0:=h p (by simp);have h':∀q∈ps,0<=lenP q:=fun q hq=>h q (by simp[hq])
  have hs:0<=Jar ps:=by
   clear hl hb hp h
   induction ps with
   | nil=>simp[Jar]
   | cons q ps ih=>rw[Jbt];have:=h' q (by simp);have:=ih (fun x hx=>h' x (by simp[hx]));omega
  rw[Jbt]at hl;rw[badO,Bool.or_eq_false_iff]at hb;have hn:(lenP p).toNat<=t.length:=by omega
  have hd:Jar ps=(t.drop (lenP p).toNat).length:=by rw[List.length_drop];omega
  have hc:=V_cut hV hn (Ji6 ps _ h' hd hb.2);exact⟨hp p (by simp),hc,al_of ps _ (JrW hV hc) (fun q hq=>hp q (by simp[hq])) h' hd hb.2⟩
theorem JiR:∀{ps:List Pt}{N:Int},(∀q∈ps,0<=lenP q)->chk2 ps N=0->Jar ps=N
 | [],N,_,h=>by
  unfold chk2 at h
  split at h
  . rename_i e;simp[Jar,e]
  . cases h
 | p :: ps,N,hl,h=>by
  unfold chk2 at h
  split at h
  . cases h
  . have:=JiR (fun q hq=>hl q (by simp[hq])) h
    rw[Jbt,this];unfold lenP;omega
theorem JiQ{N:Int}(h:chkE ps N=0):(∀p∈ps,oneB p=true/\(scan p.put).2=true)/\Jar ps=N/\∀q∈ps,0<=lenP q:=by
 unfold chkE at h
 split at h
 . rename_i h1
   have h2:=JfN h1;have h3:∀q∈ps,0<=lenP q:=fun q hq=>by
    have:=(JcG (h2 q hq).1).1;unfold JbA at this;unfold lenP;omega
   exact⟨h2,JiR h3 h,h3⟩
 . rename_i h1;exact absurd h h1
theorem Jpj{q:Pt}(h:oneB q=true):oneP q:=by
 obtain⟨K,D,U⟩:=q;unfold oneB at h;unfold oneP;simp only at h ⊢
 split at h
 . rename_i e;exact .inl ⟨of_decide_eq_true h,e.1,e.2⟩
 . rename_i e1
   split at h
   . rename_i e;exact .inr (.inl ⟨e.1,of_decide_eq_true h,e.2⟩)
   . rename_i e2
     have h3:=of_decide_eq_true h;exact .inr (.inr ⟨h3.1,h3.2,fun e=>e2 ⟨h3.1,e⟩⟩)
theorem Jcl(hV:V t)(h:ordE ps t=0):good ps t:=by
 unfold ordE at h
 by_cases hc:chkE ps (t.length:Int)=0
 . rw [if_pos hc]at h
   have hb:badO ps t=false:=by
    cases e:badO ps t with
    | false=>rfl
    | true=>rw[e]at h;cases h
   obtain⟨h1,h2,h3⟩:=JiQ hc;exact⟨fun p hp=>Jpj (h1 p hp).1,h2,al_of ps t hV (fun p hp=>JfQ (h1 p hp).2) h3 h2 hb⟩
 . rw[if_neg hc]at h;exact absurd h hc
/-! gaps -/
def gsum (y:List (List UInt8×Bool)) (yl:List UInt8):Int:=(y.map fun x=>(x.1.length:Int)+if x.2 then 0 else 1).sum+yl.length
def psum (y:List (List UInt8×Bool)) (yl:List UInt8):Nat:=(y.map fun x=>x.1.length).sum+yl.length
def Vg (y:List (List UInt8×Bool)) (yl:List UInt8):Prop:=(∀x∈y,V x.1)/\V yl
theorem JkK(F:Bool):∀(x:List (List UInt8×Bool))(xl:List UInt8)(y:List (List UInt8×Bool))(yl:List UInt8),x.length=y.length->Jar (docT F x xl y yl)=gsum y yl
 | [],xl,[],yl,_=>by
  cases F<;>simp[docT,gsum,Jar,lenP]
 | [],_,_ :: _,_,h=>by simp at h
 | _ :: _,_,[],_,h=>by simp at h
 | (u,d) :: x,xl,(v,e) :: y,yl,h=>by
   have ih:=JkK F x xl y yl (by simpa using h);rw[docT,Jcj,Jcj,ih];have hs:gsum ((v,e) :: y) yl=((v.length:Int)+if e then 0 else 1)+gsum y yl:=by simp[gsum];omega
   rw[hs];have h1:Jar (if F then [⟨0,0,u⟩,⟨(v.length:Int),0,[]⟩] else [⟨(v.length:Int),0,[]⟩,⟨0,0,u⟩])=v.length:=by cases F<;>simp[Jar,lenP]
   have h2:Jar (if e then [] else [Jlk d])=if e then 0 else 1:=by cases e<;>cases d<;>simp[Jar,lenP,Jlk]
   rw[h1,h2]
theorem JkI(F:Bool):∀(x:List (List UInt8×Bool))(xl:List UInt8)(y:List (List UInt8×Bool))(yl:List UInt8),x.length=y.length->Jan (docT F x xl y yl)=psum x xl
 | [],xl,[],yl,_=>by
  cases F<;>simp[docT,psum,Jan]
 | [],_,_ :: _,_,h=>by simp at h
 | _ :: _,_,[],_,h=>by simp at h
 | (u,d) :: x,xl,(v,e) :: y,yl,h=>by
   have ih:=JkI F x xl y yl (by simpa using h);rw[docT,Jd3,Jd3,ih];have hs:psum ((u,d) :: x) xl=u.length+psum x xl:=by simp[psum];omega
   rw[hs];have h1:Jan (if F then [⟨0,0,u⟩,⟨(v.length:Int),0,[]⟩] else [⟨(v.length:Int),0,[]⟩,⟨0,0,u⟩])=u.length:=by cases F<;>simp[Jan]
   have h2:Jan (if e then [] else [Jlk d])=0:=by cases e<;>cases d<;>simp[Jan,Jlk]
   rw[h1,h2];omega
def Jhx (p:Pt):Prop:=0<=p.keep/\0<=p.drop/\(p.keep=0\/(p.drop=0/\p.put=[]))/\V p.put
theorem JkJ(F:Bool):∀(x:List (List UInt8×Bool))(xl:List UInt8)(y:List (List UInt8×Bool))(yl:List UInt8),Vg x xl->∀p∈docT F x xl y yl,Jhx p
 | [],xl,y,yl,h,p,hp=>by
  have hp:p∈(if F then [⟨0,0,xl⟩,⟨(yl.length:Int),0,[]⟩] else [⟨(yl.length:Int),0,[]⟩,⟨0,0,xl⟩]:List Pt):=by cases y<;>exact hp
  have h1:Jhx ⟨0,0,xl⟩:=⟨Int.le_refl _,Int.le_refl _,.inl rfl,h.2⟩;have h2:Jhx ⟨(yl.length:Int),0,[]⟩:=⟨Int.natCast_nonneg _,Int.le_refl _,.inr ⟨rfl,rfl⟩,Jdk⟩
  cases F<;>simp at hp<;>rcases hp with rfl|rfl<;>assumption
 | (u,d) :: x,xl,[],yl,h,p,hp=>by
   have hp:p∈(if F then [⟨0,0,xl⟩,⟨(yl.length:Int),0,[]⟩] else [⟨(yl.length:Int),0,[]⟩,⟨0,0,xl⟩]:List Pt):=hp;have h1:Jhx ⟨0,0,xl⟩:=⟨Int.le_refl _,Int.le_refl _,.inl rfl,h.2⟩;have h2:Jhx ⟨(yl.length:Int),0,[]⟩:=⟨Int.natCast_nonneg _,Int.le_refl _,.inr ⟨rfl,rfl⟩,Jdk⟩
   cases F<;>simp at hp<;>rcases hp with rfl|rfl<;>assumption
 | (u, d) :: x,xl,(v,e) :: y,yl,h,p,hp=>by
   have ih:=JkJ F x xl y yl ⟨fun z hz=>h.1 z (by simp[hz]),h.2⟩;rw[docT]at hp;have h1:Jhx ⟨0,0,u⟩:=⟨Int.le_refl _,Int.le_refl _,.inl rfl,h.1 (u,d) (by simp)⟩;have h2:Jhx ⟨(v.length:Int),0,[]⟩:=⟨Int.natCast_nonneg _,Int.le_refl _,.inr ⟨rfl,rfl⟩,Jdk⟩;have h3:Jhx (Jlk d):=by
    cases d
    . exact⟨by decide,by decide,.inr ⟨rfl,rfl⟩,Jdk⟩
    . exact⟨by decide,by decide,.inl rfl,Jdk⟩
   rcases List.mem_append.1 hp with hp|hp
   . rcases List.mem_append.1 hp with hp | hp
     . cases F<;>simp at hp<;>rcases hp with rfl|rfl<;>assumption
     . cases e<;>simp at hp
       rw[hp];exact h3
   . exact ih p hp
theorem JfJ:∀(ps:List Pt)(acc:List UInt8),(∀p∈ps,oneP p)->gsum (Jbc acc ps).1 (Jbc acc ps).2=acc.length+(ps.map isP).sum/\psum (Jbc acc ps).1 (Jbc acc ps).2=acc.length+Jan ps
 | [],acc,_=>by simp[Jbc,gsum,psum,Jan]
 | p :: ps,acc,h=>by
  have h':∀q∈ps,oneP q:=fun q hq=>h q (by simp[hq])
  rcases Jbn (h p (by simp)) with ⟨u,_,rfl⟩|⟨d,n,rfl⟩
  . obtain⟨i1,i2⟩:=JfJ ps (acc++u) h'
    rw[Jes,i1,i2];have e1:(List.map isP (⟨0,0,u⟩ :: ps)).sum=u.length+(ps.map isP).sum:=by simp[isP]
    have e2:Jan (⟨0,0,u⟩ :: ps)=u.length+Jan ps:=by simp[Jan]
    rw[e1,e2,List.length_append];exact⟨by omega,by omega⟩
  . obtain ⟨i1,i2⟩:=JfJ ps [] h'
    rw[Jc0];have e1:(List.map isP (Jam d (n+1) :: ps)).sum=(if d then 0 else ((n:Int)+1))+(ps.map isP).sum:=by cases d<;>simp[isP,Jam]
    have e2:Jan (Jam d (n+1) :: ps)=Jan ps:=by cases d<;>simp[Jan,Jam]
    have r1:∀k:Nat,((List.replicate k (([]:List UInt8),d)).map fun x=>(x.1.length:Int)+if x.2 then 0 else 1).sum=if d then 0 else (k:Int):=by
     intro k
     induction k with
     | zero=>cases d<;>simp
     | succ k ih=>rw[List.replicate_succ,List.map_cons,List.sum_cons,ih];cases d<;>simp<;>omega
    have r2:∀k:Nat,((List.replicate k (([]:List UInt8),d)).map fun x=>x.1.length).sum=0:=by
     intro k
     induction k with
     | zero=>rfl
     | succ k ih=>rw[List.replicate_succ,List.map_cons,List.sum_cons,ih];rfl
    rw[e1,e2];unfold gsum at i1 ⊢;unfold psum at i2 ⊢;simp only[List.map_append,List.sum_append,List.map_cons,List.sum_cons,List.cons_append,r1,r2,List.length_nil]at i1 i2 ⊢;constructor
    . cases d<;>simp at *<;>omega
    . omega
theorem Jp9:∀(ps:List Pt)(acc:List UInt8),(∀p∈ps,oneP p)->(∀p∈ps,V p.put)->V acc->Vg (Jbc acc ps).1 (Jbc acc ps).2
 | [],acc,_,_,ha=>⟨fun x hx=>(by cases hx),ha⟩
 | p :: ps,acc,h,hv,ha=>by
  have h':∀q∈ps,oneP q:=fun q hq=>h q (by simp[hq])
  have hv':∀q∈ps,V q.put:=fun q hq=>hv q (by simp[hq])
  rcases Jbn (h p (by simp)) with ⟨u,_,rfl⟩|⟨d,n,rfl⟩
  . rw[Jes]
    exact Jp9 ps (acc++u) h' hv' (Jdl ha (hv ⟨0,0,u⟩ (by simp)))
  . obtain ⟨i1,i2⟩:=Jp9 ps [] h' hv' Jdk
    rw[Jc0];refine⟨fun x hx=>?_,i2⟩
    rcases List.mem_append.1 hx with hx|hx
    . rcases List.mem_cons.1 hx with rfl|hx
      . exact ha
      . rw[(List.mem_replicate.1 hx).2];exact Jdk
    . exact i1 x hx
theorem JmR:∀(ps:List Pt)(s:NSt),(∀p∈ps,Jhx p)->CutS (fun _=>True) s->CutS (fun _=>True) (ps.foldl addP s)
 | [],s,_,h=>h
 | p :: ps,s,hp,h=>by
  obtain⟨k1,k2,k3,k4⟩:=hp p (by simp);exact JmR ps (addP s p) (fun q hq=>hp q (by simp[hq])) (JhE h p k1 k2 k3 k4 trivial)
theorem JrI(h:∀p∈ps,Jhx p):∀p∈Jae ps,V p.put:=by
 have h0:CutS (fun _=>True) nst0:=⟨trivial,trivial,fun p hp=>(by cases hp),Jdk,⟨fun p hp=>(by cases hp),Int.le_refl _⟩⟩;exact(JfM (JmR ps nst0 h h0)).2
theorem JqF{p:Pt}(h:oneP p)(hv:V p.put):Jhx p:=by
 obtain⟨k1,k2,k3⟩:=JgT h;exact⟨k1,k2,k3,hv⟩
theorem Jow(F:Bool){a b:List Pt}(fa:fineP a)(fb:fineP b)(va:∀p∈a,V p.put)(hl:Jar a=Jar b) :
    (∀p∈JaC (Jba F a b),oneP p)/\(∀p∈JaC (Jba F a b),V p.put)/\Jar (JaC (Jba F a b))=(b.map isP).sum/\Jan (JaC (Jba F a b))=Jan a:=by
 have sa:=JaS fa.one;have sb:=JaS fb.one;have na:=JeR a sa;have nb:=JeR b sb;have hU:Jeo (Jae a)=Jeo (Jae b):=by
  have h1:=JeS (Jae a) (JaS na);have h2:=JeS (Jae b) (JaS nb);rw[Jhw]at h1 h2;omega
 have key:∃x xl y yl,JaC (Jba F a b)=Jae (docT F x xl y yl)/\x.length=y.length/\gsum y yl=(b.map isP).sum/\psum x xl=Jan a/\Vg x xl:=by
  refine⟨(Jbc [] (Jae a)).1,(Jbc [] (Jae a)).2,(Jbc [] (Jae b)).1,(Jbc [] (Jae b)).2,?_,hU,?_,?_,?_⟩
  . unfold Jba Jae
    cases F with
    | true=>rw[if_pos rfl];exact congrArg JaC (Jng _ (Jae a) (Jae b) nst0 na nb hU (nlr _))
    | false=>rw[if_neg (by decide)];exact congrArg JaC (Jlm (Jai (Jae b)+Jai (Jae a)) (Jae a) (Jae b) nst0 na nb hU (by omega))
  . rw[(JfJ (Jae b) [] nb).1,(JcI fb).2.2.2];simp
  . rw[(JfJ (Jae a) [] na).2,Jf7 sa];simp
  . exact Jp9 (Jae a) [] na (JrI fun p hp=>JqF (fa.one p hp) (va p hp)) Jdk
 obtain⟨x,xl,y,yl,e,h1,h2,h3,h4⟩:=key;have hn:=JkJ F x xl y yl h4;have hs:∀p∈docT F x xl y yl,0<=p.keep/\0<=p.drop:=fun p hp=>⟨(hn p hp).1,(hn p hp).2.1⟩
 rw[e];refine⟨JeR _ hs,JrI hn,?_,?_⟩
 . rw[Jhw,JkK F x xl y yl h1,h2]
 . rw[Jf7 hs,JkI F x xl y yl h1,h3]
end
section
variable {B : Nat}{u who : Int}
structure Cl where
 seen:List UInt8
 doc:List UInt8
 rev:Int
 id:Int
 drops:Int
 mine:List (List Pt)
def allM:List (List Pt)->List UInt8->List UInt8
 | [],t=>t
 | m :: ms,t=>allM ms (Jab m t)
def JgE:List (List Pt)->List UInt8->Prop
 | [],_=>True
 | m :: ms,t=>good m t/\JgE ms (Jab m t)
def Jbk:List (List Pt)->List Pt->List (List Pt)×List Pt
 | [],x=>([],x)
 | m :: ms,x=>(JaC (Jba false m x) :: (Jbk ms (JaC (Jba true x m))).1,(Jbk ms (JaC (Jba true x m))).2)
theorem JdQ:∀(ms:List (List Pt))(x:List Pt),(Jbk ms x).1.length=ms.length
 | [],_=>rfl
 | m :: ms,x=>by rw[Jbk,List.length_cons,List.length_cons,JdQ ms]
theorem JeK:∀(ms:List (List Pt))(x:List Pt)(t:List UInt8),good x t->JgE ms t ->
    JgE (Jbk ms x).1 (Jab x t)/\good (Jbk ms x).2 (allM ms t)/\Jab (Jbk ms x).2 (allM ms t)=allM (Jbk ms x).1 (Jab x t)
 | [],x,t,hx,_=>⟨trivial,hx,rfl⟩
 | m :: ms,x,t,hx,h=>by
  obtain⟨hm,hms⟩:=h;have g1:=(Jdo false hm hx).1;have g2:=(Jdo true hx hm).1;have e:=Jlo true hx hm;obtain⟨i1,i2,i3⟩:=JeK ms _ _ g2 hms;have e:Jab (JaC (Jba false m x)) (Jab x t)=Jab (JaC (Jba true x m)) (Jab m t):=e;refine⟨⟨g1,?_⟩,i2,?_⟩
  . rw[e];exact i1
  . show _=allM (Jbk ms (JaC (Jba true x m))).1 (Jab (JaC (Jba false m x)) (Jab x t))
    rw[e];exact i3
theorem JeJ(B:Nat):∀(ms:List (List Pt))(x:List Pt)(t:List UInt8),good x t->JgE ms t->(∀m∈ms,Jan m<=B)->t.length+Jan x+ms.length*B<900000->B<=100000 ->
    (∀m∈(Jbk ms x).1,Jan m<=B)/\Jan (Jbk ms x).2=Jan x
 | [],x,t,_,_,_,_,_=>⟨(fun m h=>by cases h),rfl⟩
 | m :: ms,x,t,hx,h,hp,hb,hB=>by
  obtain⟨hm,hms⟩:=h;have hpm:=hp m (by simp);have e0:(m :: ms).length*B=ms.length*B+B:=by rw[List.length_cons,Nat.succ_mul]
  rw[e0]at hb;have h1:t.length+Jan m<1000000:=by omega
  have h2:t.length+Jan x<1000000:=by omega
  have g2:=(Jdo true hx hm).1;have k1:=(Jik false hm hx h1 h2).1;have k2:=(Jik true hx hm h2 h1).1;have hl:=JjL hm;obtain⟨i1,i2⟩:=JeJ B ms _ _ g2 hms (fun y hy=>hp y (by simp[hy])) (by rw[k2];omega) hB;refine⟨fun y hy=>?_,i2.trans k2⟩
  rcases List.mem_cons.1 hy with rfl|hy
  . rw[k1];exact hpm
  . exact i1 y hy
theorem JrU:∀(ms:List (List Pt))(t:List UInt8),V t->JgE ms t->V (allM ms t)
 | [],_,h,_=>h
 | m :: ms,t,h,hg=>JrU ms _ (Jgs hg.1.al) hg.2
theorem JgY(B:Nat):∀(ms:List (List Pt))(t:List UInt8),JgE ms t->(∀m∈ms,Jan m<=B)->(allM ms t).length<=t.length+ms.length*B
 | [],_,_,_=>by simp[allM]
 | m :: ms,t,hg,hp=>by
  have i:=JgY B ms _ hg.2 fun y hy=>hp y (by simp[hy])
  have:=JjL hg.1;have:=hp m (by simp);rw[List.length_cons,Nat.succ_mul];have e:allM (m :: ms) t=allM ms (Jab m t):=rfl;rw[e];omega
structure okK (B:Nat) (S:Cl):Prop where
 text:V S.seen
 all:JgE S.mine S.seen
 doc:S.doc=allM S.mine S.seen
 two:S.mine.length<=2
 puts:∀m∈S.mine,Jan m<=B
theorem okK.V{B:Nat}{S:Cl}(h:okK B S):Go.Proofs.YtedgnlgjmnccgabGreatDoor.V S.doc:=by rw[h.doc];exact JrU _ _ h.text h.all
theorem okK.len{S:Cl}(h:okK B S):S.doc.length<=S.seen.length+2*B:=by
 rw[h.doc];have h1:=JgY B _ _ h.all h.puts;have h2:=Nat.mul_le_mul_right B h.two;omega
theorem okK.more{B':Nat}{S:Cl}(h:okK B S)(hb:B<=B'):okK B' S:=⟨h.text,h.all,h.doc,h.two,fun m hm=>Nat.le_trans (h.puts m hm) hb⟩
/-! Edit -/
def addM (o:List Pt):List (List Pt)->List (List Pt)
 | []=>[o]
 | [m]=>[m,o]
 | m :: m2 :: _=>[m,JaC (JgF m2 o)]
def JdT (p:Pt):Bool:=decide (200<p.put.length)
def edO (u:Int) (S:Cl) (q:List Pt):List Pt:=tzO (Jal S.doc) u 1 q
def edE (u:Int) (S:Cl) (q:List Pt):Int :=
 if 60<q.length\/q.any JdT=true then 4 else if tzE (Jal S.doc) u 1 q≠0 then tzE (Jal S.doc) u 1 q
 else if 2000<(Jab (edO u S q) S.doc).length then 12 else 0
def edS (u:Int) (S:Cl) (q:List Pt):Cl:=if edE u S q=0 then { S with doc:=Jab (edO u S q) S.doc,mine:=addM (edO u S q) S.mine,id:=if S.mine=[] then S.id+1 else S.id } else S
theorem Jr6(o:List Pt):∀(ms:List (List Pt))(t:List UInt8),ms.length<=2->JgE ms t->good o (allM ms t)->JgE (addM o ms) t/\allM (addM o ms) t=Jab o (allM ms t)/\(addM o ms).length<=2
 | [],t,_,_,ho=>⟨⟨ho,trivial⟩,rfl,by simp[addM]⟩
 | [m],t,_,h,ho=>⟨⟨h.1,ho,trivial⟩,rfl,by simp[addM]⟩
 | [m,m2],t,_,h,ho=>by
  obtain⟨c1,c2⟩:=Jp5 h.2.1 ho;exact⟨⟨h.1,c1,trivial⟩,c2,by simp[addM]⟩
 | _ :: _ :: _ :: _,_,h,_,_=>by simp at h
theorem Jmf(hu:Ja3 u){S:Cl}(h:okK 2000 S){q:List Pt}(he:tzE (Jal S.doc) u 1 q=0):good (edO u S q) S.doc/\okZ u (Jal S.doc) q=true/\chkE q (by_ u (Jal S.doc))=0/\edO u S q=inZ u 1 (Jal S.doc) q:=by
 have hd:encs (Jal S.doc)=S.doc:=Jcm (Jjc h.V);obtain⟨h1,_,_,_,_,h6,h7,h8⟩:=sh_fine hu (fun r hr=>JcW hr) he;rw[hd]at h1;exact⟨h1,h7,h6,h8⟩
theorem ed_no{S:Cl}{q:List Pt}(h:edE u S q=0):¬(60<q.length\/q.any JdT=true)/\tzE (Jal S.doc) u 1 q=0/\(Jab (edO u S q) S.doc).length<=2000:=by
 unfold edE at h
 split at h
 . cases h
 rename_i h1
 split at h
 . rename_i h2;exact absurd h h2
 rename_i h2
 split at h
 . cases h
 exact⟨h1,by simpa using h2,by omega⟩
theorem JqB(hu:Ja3 u){S:Cl}(h:okK 2000 S)(q:List Pt):okK 2000 (edS u S q):=by
 unfold edS
 by_cases he:edE u S q=0
 . rw [if_pos he]
   obtain⟨h1,h2,h3⟩:=ed_no he;obtain⟨g1,_⟩:=Jmf hu h h2;rw[h.doc]at g1;obtain⟨a1,a2,a3⟩:=Jr6 (edO u S q) S.mine S.seen h.two h.all g1;have hp:Jan (edO u S q)<=2000:=by
    have:=JlA g1;rw[←h.doc]at this;omega
   refine⟨h.text,a1,by rw[a2,←h.doc],a3,?_⟩;show ∀m∈addM (edO u S q) S.mine,Jan m<=2000;have hal:=h.all;have hpu:=h.puts;have h2':=h.two;have hdoc:=h.doc;have a2:allM (addM (edO u S q) S.mine) S.seen=Jab (edO u S q) S.doc:=by rw[a2,←h.doc]
   rcases hm:S.mine with _|⟨m,_|⟨m2,_|⟨m3,ms⟩⟩⟩
   . intro y hy;simp only[addM,List.mem_singleton]at hy;rw[hy];exact hp
   . intro y hy
     rw[hm]at hpu;simp only[addM,List.mem_cons,List.not_mem_nil,or_false]at hy
     rcases hy with rfl|rfl
     . exact hpu _ (by simp)
     . exact hp
   . rw [hm]at hpu hal a1 a2
     intro y hy;simp only[addM,List.mem_cons,List.not_mem_nil,or_false]at hy
     rcases hy with rfl|rfl
     . exact hpu _ (by simp)
     . have g:=a1.2.1
       have:=JlA g;have e:Jab (JaC (JgF m2 (edO u S q))) (Jab m S.seen)=Jab (edO u S q) S.doc:=a2;rw[e]at this;omega
   . rw[hm]at h2';simp at h2'
 . rw[if_neg he];exact h
/-! Take -/
abbrev JkA (who:Int) (S:Cl) (c i:Int):Prop:=S.mine≠[]/\c=who/\i=S.id
def JbB (S:Cl):List Pt:=S.mine.headD []
def tkE (who:Int) (S:Cl) (rev c i:Int) (x:List Pt):Int :=
 if rev≠S.rev then 0 else if ordE x S.seen≠0 then 15 else if JkA who S c i/\Jab (JbB S) S.seen≠Jab x S.seen then 15 else 0
def tkS (who:Int) (S:Cl) (rev c i:Int) (x:List Pt):Cl :=
 if rev≠S.rev\/tkE who S rev c i x≠0 then S
 else if JkA who S c i then { S with seen:=Jab x S.seen,rev:=S.rev+1,mine:=S.mine.tail,id:=if S.mine.tail≠[] then S.id+1 else S.id }
 else { S with seen:=Jab x S.seen,rev:=S.rev+1,mine:=(Jbk S.mine x).1,doc:=Jab (Jbk S.mine x).2 S.doc }
theorem tk_no{S:Cl}{rev c i:Int}{x:List Pt}(h:¬(rev≠S.rev\/tkE who S rev c i x≠0)):rev=S.rev/\ordE x S.seen=0/\(JkA who S c i->Jab (JbB S) S.seen=Jab x S.seen):=by
 have h1:rev=S.rev:=by
  by_cases e:rev=S.rev
  . exact e
  . exact absurd (.inl e) h
 have h2:tkE who S rev c i x=0:=by
  by_cases e:tkE who S rev c i x=0
  . exact e
  . exact absurd (.inr e) h
 unfold tkE at h2;rw[if_neg (by simpa using h1)]at h2
 split at h2
 . cases h2
 rename_i h3
 split at h2
 . cases h2
 rename_i h4
 refine⟨h1,by simpa using h3,fun ho=>?_⟩
 by_cases e:Jab (JbB S) S.seen=Jab x S.seen
 . exact e
 . exact absurd ⟨ho,e⟩ h4
theorem JqA{S:Cl}(h:okK 2000 S)(rev c i:Int)(x:List Pt)(hs:S.seen.length+Jan x<=500000):okK 2000 (tkS who S rev c i x):=by
 unfold tkS
 by_cases hn:rev≠S.rev\/tkE who S rev c i x≠0
 . rw[if_pos hn];exact h
 rw[if_neg hn];obtain⟨h1,h2,h3⟩:=tk_no hn;have hx:=Jcl h.text h2
 by_cases ho:JkA who S c i
 . rw [if_pos ho]
   have h3:=h3 ho;have hal:=h.all;have hpu:=h.puts;have htw:=h.two;have hd:=h.doc;have hm:=ho.1;unfold JbB at h3
   rcases hm':S.mine with _|⟨m,ms⟩
   . exact absurd hm' hm
   . rw [hm']at hal hpu htw h3 hd
     have h3:Jab m S.seen=Jab x S.seen:=h3;refine⟨Jgs hx.al,?_,?_,?_,fun y hy=>hpu y (List.mem_cons_of_mem _ hy)⟩
     . show JgE ms (Jab x S.seen)
       rw[←h3];exact hal.2
     . show S.doc=allM ms (Jab x S.seen)
       rw[←h3];exact hd
     . show ms.length<=2
       simp at htw;omega
 . rw [if_neg ho]
   obtain⟨t1,t2,t3⟩:=JeK S.mine x S.seen hx h.all;obtain⟨p1,p2⟩:=JeJ 2000 S.mine x S.seen hx h.all h.puts (by have:=Nat.mul_le_mul_right 2000 h.two;omega) (by omega);refine⟨Jgs hx.al,t1,?_,?_,p1⟩
   . show Jab (Jbk S.mine x).2 S.doc=_
     rw[h.doc];exact t3
   . show(Jbk S.mine x).1.length<=2
     rw[JdQ];exact h.two
/-! Refused -/
def rfS (S:Cl) (i:Int):Cl:=if S.mine≠[]/\i=S.id then { S with mine:=[],doc:=S.seen,drops:=S.drops+1 } else S
theorem Jn9{S:Cl}(h:okK 2000 S)(i:Int):okK 2000 (rfS S i):=by
 unfold rfS
 split
 . exact⟨h.text,trivial,rfl,by simp,fun m hm=>by cases hm⟩
 . exact h
theorem JfF{S:Cl}(h:okK 2000 S)(hm:S.mine≠[]):good (JbB S) S.seen/\Jan (JbB S)<=2000:=by
 unfold JbB;have hal:=h.all;have hpu:=h.puts
 rcases hm':S.mine with _|⟨m,ms⟩
 . exact absurd hm' hm
 . rw[hm']at hal hpu
   exact⟨hal.1,hpu m (by simp)⟩
end
section
open Go.RowKit Go.Maps
variable {w w' : World}{B lo e base n bm : Nat}{v v1 : Value}{ps : List Pt}
structure sameBut (w w':World) (S:Nat->Prop):Prop where
 size:w.heap.size<=w'.heap.size
 block:∀k,k<w.heap.size->¬S k->w'.heap[k]?=w.heap[k]?
 os:w'.os=w.os
 tape:w'.tape=w.tape
 output:w'.output=w.output
theorem Jaf(h:Below w.heap.size w w')(S:Nat->Prop):sameBut w w' S:=⟨h.size,fun k hk _=>h.block k hk,h.os,h.tape,h.output⟩
theorem Je3(w:World)(S:Nat->Prop):sameBut w w S:=⟨nlr _,fun _ _ _=>rfl,rfl,rfl,rfl⟩
theorem sameBut.trans{w w' w'':World}{S:Nat->Prop}(h:sameBut w w' S)(h':sameBut w' w'' S):sameBut w w'' S :=
 ⟨Nat.le_trans h.1 h'.1,fun k hk hs=>(h'.2 k (Nat.lt_of_lt_of_le hk h.1) hs).trans (h.2 k hk hs),h'.os.trans h.os,h'.tape.trans h.tape,h'.output.trans h.output⟩
theorem sameBut.mono{w w':World}{S S':Nat->Prop}(h:sameBut w w' S)(hs:∀k,k<w.heap.size->S k->S' k):sameBut w w' S' :=
 ⟨h.1,fun k hk hn=>h.2 k hk fun e=>hn (hs k hk e),h.os,h.tape,h.output⟩
theorem Jau{w:World}{b o:Nat}{v:Value}{S:Nat->Prop}(hS:S b):sameBut w (w.setCell ⟨b,o,none⟩ v) S :=
 ⟨by simp,fun k hk hn=>Below.heap_setCell w ⟨b,o,none⟩ v k (fun e=>hn (e ▸ hS)),rfl,rfl,rfl⟩
theorem JaP{w w':World}{row:Option Nat}{S:Nat->Prop}(h:w.grownBy w' row)(hS:∀k,row=some k->S k):sameBut w w' S :=
 ⟨h.size,fun k hk hn=>h.block k hk fun e=>hn (hS k e.symm),h.os,h.tape,h.output⟩
theorem JdC{w w':World}{S:Nat->Prop}(h:sameBut w w' S){b o:Nat}{v:Value}(hc:w.cell? ⟨b,o,none⟩=some v)(hS:¬S b):w'.cell? ⟨b,o,none⟩=some v :=
 (World.cell?_of_block (w:=w) (a:=⟨b,o,none⟩) (h.2 b (blt w _ hc) hS)).trans hc
def opX (lo:Nat) (w:World) (v:Value) (ps:List Pt):Prop:=opAt w v ps/\(ps≠[]->∀k,v.ownBlock=some k->k<lo\/∃cs fz,w.heap[k]?=some (.cells cs 50 fz))
def Jc8 (w:World) (k:Nat):Prop:=∀cs fz,w.heap[k]?≠some (.cells cs 50 fz)
theorem JbF(h:opN B w v ps):opX lo w v ps:=⟨h.1,fun _ k hk=>.inr (h.2 k hk).2⟩
theorem JlO(h:w.ownsRow B 50 3 v ps.length (Jag ps)):opX lo w v ps:=JbF (Jfl (nlr B) h)
theorem Jht{lo:Nat}{w w':World}{v:Value}{ps:List Pt}{S:Nat->Prop}(h:opX lo w v ps)(hs:sameBut w w' S)(hS:∀k,S k->lo<=k/\Jc8 w k):opX lo w' v ps:=by
 obtain⟨⟨p,c,rfl,h1,h2,h3⟩,ht⟩:=h;have hn:ps≠[]->∀b o,p=some ⟨b,o,none⟩->¬S b:=fun hne b o e hSb=>by
  obtain⟨s1,s2⟩:=hS b hSb
  rcases ht hne b (by rw[e];rfl) with h|⟨cs,fz,h⟩
  . omega
  . exact s2 cs fz h
 refine⟨⟨p,c,rfl,h1,h2,fun hne=>?_⟩,fun hne k hk=>?_⟩
 . obtain⟨b,o,e,hb,hc⟩:=h3 hne
   refine⟨b,o,e,Nat.lt_of_lt_of_le hb hs.1,fun i q hi=>?_⟩;obtain⟨c0,c1,c2⟩:=hc i q hi;exact⟨JdC hs c0 (hn hne b o e),JdC hs c1 (hn hne b o e),JdC hs c2 (hn hne b o e)⟩
 . rcases ht hne k hk with h|⟨cs,fz,h⟩
   . exact .inl h
   . refine .inr ⟨cs,fz,(hs.2 k (alt h) fun hSk=>(hS k hSk).2 cs fz h).trans h⟩
theorem Ja5(h:opX lo w v ps)(hb:Below w.heap.size w w'):opX lo w' v ps :=
 Jht (S:=fun _=>False) h (Jaf hb _) fun _ h=>h.elim
structure SE where
 c:Int
 i:Int
 op:List Pt
def logC (E:List SE) (vs:List Value):List Value:=(E.zip vs).flatMap fun x=>[.int .i64 x.1.c,.int .i64 x.1.i,x.2]
theorem JmN:∀(E:List SE)(vs:List Value)(i:Nat)(x:SE)(v:Value),E[i]?=some x->vs[i]?=some v->(logC E vs)[i*3]?=some (.int .i64 x.c)/\(logC E vs)[i*3+1]?=some (.int .i64 x.i)/\(logC E vs)[i*3+2]?=some v
 | [],_,_,_,_,h,_=>by simp at h
 | _ :: _,[],_,_,_,_,h=>by simp at h
 | y :: E,u :: vs,0,x,v,h,h2=>by
  obtain rfl:y=x:=by simpa using h
  obtain rfl:u=v:=by simpa using h2
  exact⟨rfl,rfl,rfl⟩
 | y :: E,u :: vs,i+1,x,v,h,h2=>by
  obtain⟨a,b,c⟩:=JmN E vs i x v (by simpa using h) (by simpa using h2);have e:logC (y :: E) (u :: vs)=.int .i64 y.c :: .int .i64 y.i :: u :: logC E vs:=rfl;have e1:(i+1)*3=i*3+3:=by omega
  rw[e,e1];exact⟨by simpa using a,by simpa using b,by simpa using c⟩
theorem Jpr(E:List SE)(vs:List Value)(h:vs.length=E.length)(x:SE)(v:Value):logC (E++[x]) (vs++[v])=logC E vs++[.int .i64 x.c,.int .i64 x.i,v]:=by
 unfold logC;rw[List.zip_append h.symm,List.flatMap_append];rfl
def Jcz (e:TypeId) (lo base:Nat) (w:World) (v1:Value) (E:List SE):Prop :=
 ∃vs,vs.length=E.length/\w.ownsRow base e 3 v1 E.length (logC E vs)/\∀(i:Nat) (x:SE) (v:Value),E[i]?=some x->vs[i]?=some v->opX lo w v x.op
theorem Jc4{w w':World}{B e size n:Nat}{v:Value}{xs:List Value}{S:Nat->Prop}(h:w.ownsRow B e size v n xs)(hs:sameBut w w' S)(hS:∀k,v.ownBlock=some k->¬S k):w'.ownsRow B e size v n xs:=by
 obtain⟨h0,hrow⟩:=h;refine⟨h0,?_⟩
 rcases hrow with h1|⟨g,cap,cur,rfl,h2,h3,h4⟩
 . exact .inl h1
 . exact .inr ⟨g,cap,cur,rfl,h2,(hs.2 g (alt h3) (hS g rfl)).trans h3,h4⟩
theorem Jd7{e lo base:Nat}{w w':World}{v1:Value}{E:List SE}{S:Nat->Prop}(h:Jcz e lo base w v1 E)(hs:sameBut w w' S)(hS:∀k,S k->lo<=k/\Jc8 w k/\∀cs fz,w.heap[k]?≠some (.cells cs e fz)):Jcz e lo base w' v1 E:=by
 obtain⟨vs,h1,h2,h3⟩:=h;refine⟨vs,h1,Jc4 h2 hs fun k hk hSk=>?_,fun i x v hx hv=>Jht (h3 i x v hx hv) hs fun k hk=>⟨(hS k hk).1,(hS k hk).2.1⟩⟩
 rcases h2.2 with ⟨rfl,_⟩|⟨g,cap,cur,rfl,_,hg,_⟩
 . cases hk
 . obtain rfl:g=k:=osi hk
   exact(hS g hSk).2.2 _ _ hg
theorem Jck{E:List SE}(h:Jcz e lo base w v1 E)(hb:Below w.heap.size w w'):Jcz e lo base w' v1 E :=
 Jd7 (S:=fun _=>False) h (Jaf hb _) fun _ h=>h.elim
theorem Jb6{E:List SE}(h:Jcz e lo base w v1 E):∃p c,v1=.slice p E.length c:=by
 obtain⟨vs,_,h2,_⟩:=h;exact Jad h2
theorem Jj8{p:Option Addr}{c:Nat}{E:List SE}(h:Jcz e lo base w (.slice p n c) E)(hne:E≠[]):∃g,p=some ⟨g,0,none⟩/\g<w.heap.size/\n=E.length/\n<=c/\c<=maxLen/\∀i x,E[i]?=some x->∃v,w.cell? ⟨g,i*3,none⟩=some (.int .i64 x.c)/\w.cell? ⟨g,i*3+1,none⟩=some (.int .i64 x.i)/\w.cell? ⟨g,i*3+2,none⟩=some v/\opX lo w v x.op:=by
 obtain⟨vs,h1,⟨h0,hrow⟩,h3⟩:=h
 rcases hrow with ⟨_,hz⟩|⟨g,cap,cur,hv,h4,h5,h6,h7,h8,h9⟩
 . exact absurd (List.eq_nil_of_length_eq_zero hz) hne
 . injection hv with hp hn hc
   subst hp hn hc;refine⟨g,rfl,(alt h5),rfl,h6,h7,fun i x hx=>?_⟩;have hi:i<E.length:=(llt hx);have hiv:i<vs.length:=by omega
   have hv:vs[i]?=some vs[i]:=lgg hiv;obtain⟨k0,k1,k2⟩:=JmN E vs i x vs[i] hx hv
   have hc:∀j u,j<E.length*3->(logC E vs)[j]?=some u->w.cell? ⟨g,j,none⟩=some u:=fun j u hj hu=>by
    have hcur:cur[j]?=some u:=by
     rw[←Array.getElem?_toList];have:=congrArg (·[j]?) h9;simp only[List.getElem?_take,hj,if_true]at this;rw[this,hu]
    unfold World.cell?;simp[h5,hcur]
   exact⟨vs[i],hc _ _ (by omega) k0,hc _ _ (by omega) k1,hc _ _ (by omega) k2,h3 i x vs[i] hx hv⟩
/-! maps of a number to two numbers -/
def Jn4 (a b:Int):DataW Unit:=.agg [.lit (.int .i64 a),.lit (.int .i64 b)]
def Jq5 (v:Value):Option (DataW Unit×List MemPlace) :=
 match v with
 | .agg cs=>(match cs.toList with
  | [.int k a,.int k' b]=>if k=.i64/\k'=.i64 then some (Jn4 a b,[]) else none
  | _=>none)
 | _=>none
theorem JmE(a b:Int):Jq5 (.agg #[.int .i64 a,.int .i64 b])=some (Jn4 a b,[]):=rfl
theorem Jpe{a b:Int}{ps:List MemPlace}(h:Jq5 v=some (Jn4 a b,ps)):v=.agg #[.int .i64 a,.int .i64 b]:=by
 unfold Jq5 at h
 split at h
 . rename_i cs
   split at h
   . rename_i k x k' y e
     split at h
     . rename_i hk
       simp only[Option.some.injEq,Prod.mk.injEq,Jn4,DataW.agg.injEq,List.cons.injEq,DataW.lit.injEq,Lit.int.injEq,true_and,and_true]at h;obtain⟨⟨h1,h2⟩,_⟩:=h;rw[hk.1,hk.2,h1,h2]at e;have:cs=#[.int .i64 a,.int .i64 b]:=by
        apply Array.toList_inj.1;rw[e]
       rw[this]
     . cases h
   . cases h
 . cases h
def rng (c:Int):Prop:=-9223372036854775808<=c/\c<9223372036854775808
theorem JrF{c:Int}(h:rng c):(Lit.int .i64 c).wf=true:=by
 unfold rng at h;simp[Lit.wf,IntKind.min,IntKind.max,IntKind.signed,IntKind.bits];omega
abbrev Told:=Int->Option (Int×Int)
def got (M:Told) (c:Int):Int×Int:=(M c).getD (0,0)
def upd (M:Told) (c:Int) (x:Int×Int):Told:=fun k=>if k=c then some x else M k
def JdV (n:Nat) (w:World) (bm:Nat) (M:Told):Prop :=
 ∃D,w.ownsMap Tryz.prog 3 Jq5 bm n D/\∀c,rng c->D.atKey (.int .i64 c) (Jn4 0 0)=Jn4 (got M c).1 (got M c).2/\Maps.has D (.int .i64 c)=(M c).isSome
theorem JrJ:Keyed Tryz.prog 3:=int_keyed Tryz.underlying3
theorem JlY(w:World):JdV 0 (w.alloc (.map #[] 0)) w.heap.size fun _=>none :=
 ⟨.map [],World.ownsMap_made w _ _ _,fun c _=>⟨rfl,rfl⟩⟩
theorem JcR{n:Nat}{w w':World}{bm:Nat}{M:Told}{S:Nat->Prop}(h:JdV n w bm M)(hs:sameBut w w' S)(hS:¬S bm):JdV n w' bm M:=by
 obtain⟨D,h1,h2⟩:=h;refine⟨D,?_,h2⟩;have hlt:=h1.lt;obtain⟨es,clock,hb,F,hn,hD⟩:=h1;exact⟨es,clock,(hs.2 bm hlt hS).trans hb,F,hn,hD⟩
theorem Jh3{M:Told}(h:JdV n w bm M){t e:TypeId}(ht:Tryz.prog.underlying t=some (.map 3 e))(hz:(zeroValue e).run Tryz.prog w=.ok (.agg #[.int .i64 0,.int .i64 0]) w){c:Int}(hc:rng c) :
    (Instr.lookup t (.map (some bm)) (.int .i64 c) false).run Tryz.prog w=.ok (.agg #[.int .i64 (got M c).1,.int .i64 (got M c).2]) w:=by
 obtain⟨D,h1,h2⟩:=h;obtain⟨v,ps,hrun,hv⟩:=h1.lookup JrJ ht hz (JmE 0 0) (keyOf_int_mk Tryz.underlying3 (JrF hc));rw[(h2 c hc).1]at hv;rw[hrun,Jpe hv]
theorem JnE{M:Told}(h:JdV n w bm M)(hn:n<1000000000){t e:TypeId}(ht:Tryz.prog.underlying t=some (.map 3 e)){c:Int}(hc:rng c)(a b:Int) :
    ∃w',(Instr.mapUpdate t (.map (some bm)) (.int .i64 c) (.agg #[.int .i64 a,.int .i64 b])).run Tryz.prog w=.ok () w'/\JdV (n+1) w' bm (upd M c (a,b))/\w.mapTurned w' bm:=by
 obtain⟨D,h1,h2⟩:=h;obtain⟨w',hrun,ho,ht'⟩:=h1.store JrJ ht (by unfold maxLen;omega) (keyOf_int_mk Tryz.underlying3 (JrF hc)) (JmE a b);have hM:=h1.isMap;refine⟨w',hrun,⟨_,ho,fun k hk=>?_⟩,ht'⟩
 by_cases hkc:k=c
 . subst hkc
   have hkl:WideAt.IsKeyLit (Lit.int .i64 k):=by trivial
   have g1:got (upd M k (a,b)) k=(a,b):=by simp[got,upd]
   have g2:(upd M k (a,b) k).isSome=true:=by simp[upd]
   rw[g1,g2];exact⟨atKey_put_same hM hkl _ _,has_put_same hM hkl _⟩
 . have hne:(Lit.int .i64 k)≠(Lit.int .i64 c):=fun e=>by injection e with _ e2;exact hkc e2
   have g1:got (upd M c (a,b)) k=got M k:=by simp[got,upd,hkc]
   have g2:(upd M c (a,b) k).isSome=(M k).isSome:=by simp[upd,hkc]
   rw[g1,g2];exact⟨(atKey_put_other hne _ _).trans (h2 k hk).1,(has_put_other hne _).trans (h2 k hk).2⟩
theorem Jll(h:w.mapTurned w' bm){S:Nat->Prop}(hS:S bm):sameBut w w' S:=JaP h.grown fun k e=>by
 obtain rfl:=osi e;exact hS
end
section
open Go.RowKit
attribute [local go_sem] Oper.semAt_some
theorem JeV(u:List UInt8)(hu:u.length<=10000000)(w:World):Calls Tryz.prog 112 #[.string ⟨u.toArray⟩] w fun e w'=>e=.returned (.string ⟨u.toArray⟩)/\Below w.heap.size w w':=by
 have c:=Tryz.stringslite_Clone ⟨u.toArray⟩ w (by simp[ByteArray.size];omega);have C:=hdz c;clear c
 go_enter Tryz.func112,Tryz.ntmps112
 go_wp2_with (first | (go_at_call 176;refine Calls.mono C.out ?_;rintro e w1 ⟨rfl,hb1⟩) | fail)
 go_ret;exact⟨rfl,hb1⟩
theorem JkX(l:List Pt)(q:Pt):Jag (l++[q])=Jag l++Jas q:=by simp[Jag]
theorem JdZ(w:World)(n:Nat)(hn:w.heap.size=n)(l:List Value)(t:TypeId):∀j u,l[j]?=some u->(w.alloc (.cells l.toArray t)).cell? ((⟨n,0,none⟩:Addr).add j)=some u:=by
 subst hn;intro j u hj;rw[Addr.add_lit,Nat.zero_add];have h:=heap_alloc_new w (.cells l.toArray t);unfold World.cell?;rw[h];simpa using hj
theorem Jjz{w:World}{B e size n b o:Nat}{v:Value}{xs:List Value}(h:w.ownsRow B e size v n xs)(hb:∀j,v.ownBlock=some j->j<b)(u:Value):(w.setCell ⟨b,o,none⟩ u).ownsRow B e size v n xs :=
 Jc4 (S:=fun k=>k=b) h (Jau rfl) fun k hk e=>by have:=hb k hk;omega
theorem JlL(v:Value)(ps:List Pt)(w:World)(hr:opAt w v ps)(hpl:∀q∈ps,q.put.length<=10000000)(hl:ps.length<=10000000) :
    Calls Tryz.prog 116 #[v] w fun e w'=>∃v',e=.returned v'/\w'.ownsRow w.heap.size 50 3 v' ps.length (Jag ps)/\Below w.heap.size w w':=by
 have HOP:Hid (opAt w v ps):=hr;have HPL:Hid (∀q∈ps,q.put.length<=10000000):=hpl;obtain⟨p,c,rfl,r1,r2,_⟩:=hr;unfold maxLen at r2;obtain⟨n,hn⟩:∃n,ps.length=n:=⟨_,rfl⟩;have HN:Hid (ps.length=n):=hn;rw[hn]at r1 hl ⊢;obtain⟨i0,hi,hz0,hz1,hz2⟩:=info_parts JbT;clear hpl hn
 go_enter Tryz.func116,Tryz.ntmps116
 go_wp2
 go_loopw [3,8] (fun v3 i wr=>∃k:Nat,i=.int .i64 k/\k<=n/\wr.ownsRow w.heap.size 50 3 v3 k (Jag (ps.take k))/\Below w.heap.size w wr) (fun _ i _=>n - (intOf i).toNat)
 case atStart=>exact⟨0,rfl,Nat.zero_le _,World.ownsRow_nil _ _ _ _,brf _ _⟩
 case round =>
  obtain⟨k,rfl,hk,hown,hbw⟩:=hrel;obtain⟨pv,cv,rfl⟩:=Jad hown;have HOW:Hid (wr.ownsRow w.heap.size 50 3 (.slice pv k cv) k (Jag (ps.take k))):=hown;have HBW:=hdz hbw;have hws:=hbw.size;have HWS:Hid (w.heap.size<=wr.heap.size):=hws
  by_cases hlt:k<n
  . have hkr:k<ps.length:=by rw[HN.out];exact hlt
    have hne:ps≠[]:=by intro e;rw[e]at hkr;exact absurd hkr (Nat.not_lt_zero _)
    obtain⟨p0,c0,hvv,_,_,hcell⟩:=HOP.out;obtain⟨b0,o,rfl,hb0,hcell⟩:=hcell hne;obtain⟨f0,f1,f2⟩:=hcell k ps[k] (lgg hkr);have g0:=(HBW.out.cell (p:=⟨b0,o+k*3,none⟩) hb0).trans f0;have g1:=(HBW.out.cell (p:=⟨b0,o+k*3+1,none⟩) hb0).trans f1;have g2:=(HBW.out.cell (p:=⟨b0,o+k*3+2,none⟩) hb0).trans f2;obtain rfl:p=some ⟨b0,o,none⟩:=by injection hvv
    have hplq:=HPL.out _ (List.getElem_mem hkr);have HTK:Hid (Jag (ps.take (k+1))=Jag (ps.take k)++Jas ps[k]):=show _=_ by rw[List.take_succ_eq_append_getElem hkr,JkX]
    have hki:(k:Int)<(n:Int):=by omega
    clear hcell hvv f0 f1 f2 hne hown hbw;generalize ps[k]=q at *;obtain⟨K,D,U⟩:=q;simp only at g0 g1 g2 hplq;have CL:Hid (∀wx,Calls Tryz.prog 112 #[.string ⟨U.toArray⟩] wx fun e w'=>e=.returned (.string ⟨U.toArray⟩)/\Below wx.heap.size wx w'):=fun wx=>JeV U hplq wx
    obtain⟨β,hβ⟩:∃β,wr.heap.size=β:=⟨_,rfl⟩;have HBT:Hid (wr.heap.size=β):=hβ
    go_wp2_with (first
     | (go_at_call 112;refine(CL.out _).mono ?_;rintro e w2 ⟨rfl,hb2⟩;have hbox:w2.heap[β]?=some (.cells #[.int .i64 K,.int .i64 D,.string ⟨U.toArray⟩] 50 (0,0)):=(hb2.block β (by rw[wsa,HBT.out];omega)).trans (by have:=heap_alloc_new wr (.cells #[.int .i64 K,.int .i64 D,.string ⟨U.toArray⟩] 50);rwa[HBT.out]at this);have x0:w2.cell? ⟨β,0,none⟩=some (.int .i64 K):=chp hbox 0;have x1:w2.cell? ⟨β,1,none⟩=some (.int .i64 D):=chp hbox 1;have x2:w2.cell? ⟨β,2,none⟩=some (.string ⟨U.toArray⟩):=chp hbox 2;have xf:w2.frozen? ⟨β,2,none⟩=false:=by unfold World.frozen?;simp[hbox]
        have HB2:Hid (Below w.heap.size w w2):=(HBW.out.alloc HWS.out _).trans (hb2.mono (by rw[wsa];have:=HWS.out;omega));have HO2:Hid (w2.ownsRow w.heap.size 50 3 (.slice pv k cv) k (Jag (ps.take k))):=Jaj (HOW.out.alloc _) hb2;have hs2:β+1<=w2.heap.size:=by have:=hb2.size;rw[wsa,HBT.out]at this;exact this
        have HS2:Hid (β+1<=w2.heap.size):=hs2;have HNE:Hid (∀j,(Value.slice pv k cv).ownBlock=some j->j<β):=fun j hj=>HBT.out ▸ (HOW.out.lt j hj).2
        clear hb2 hbox)
     | (at_builtin;refine wpList_append_own _ rfl _ _ 23 rfl w.heap.size 50 i0 (.agg #[.int .i64 0,.int .i64 0,.string ⟨#[]⟩]) 3 32 Tryz.underlying23 hi hz0 hz1 hz2 rfl (by decide) _ _ _ rfl ((Jjz HO2.out HNE.out _).alloc _) ⟨w2.heap.size,0,none⟩ 1 1 (Jas ⟨K,D,U⟩) rfl rfl (JdZ _ _ (by first | rfl | simp) _ _) (JaD _) (by unfold maxLen;omega) (by omega) (by have:=HWS.out;have:=HS2.out;have:=HBT.out;simp;omega) ?_)
     | fail)
    intro v' w3 hown' hg' _;obtain⟨p',c',rfl⟩:=Jad hown';have HO3:Hid (w3.ownsRow w.heap.size 50 3 (.slice p' (k+1) c') (k+1) (Jag (ps.take k)++Jas ⟨K,D,U⟩)):=hown';have HB3:Hid (Below w.heap.size w w3):=((HB2.out.setCell (p:=⟨β,2,none⟩) (by show w.heap.size<=β;have:=HWS.out;have:=HBT.out;omega) _).alloc (by rw[World.size_setCell];exact HB2.out.size) _).grown hg' (by simp;have:=HB2.out.size;omega) fun j hj=>(HO2.out.lt j hj).1
    clear hown' hg' x0 x1 x2 xf g0 g1 g2;go_wp2;refine⟨⟨k+1,by go_num,by omega,?_,HB3.out⟩,by simp[intOf];omega⟩;rw[HTK.out];exact HO3.out
  . obtain rfl:k=n:=by omega
    have hki:¬((k:Int)<(k:Int)):=by omega
    have HTK:Hid (ps.take k=ps):=show _=_ by rw[←HN.out];exact List.take_length
    clear hown hbw;go_wp2;go_ret;have:=HOW.out;rw[HTK.out]at this;exact⟨_,rfl,this,HBW.out⟩
variable {ps : List Pt}{len : Int}{lo n c : Nat}{w : World}{p : Option Addr}{E : List SE}
structure okOp (ps:List Pt) (len:Int):Prop where
 one:∀p∈ps,oneP p
 put:∀p∈ps,V p.put
 long:Jar ps=len
theorem Jjf:∀(ps:List Pt),wts ps=Jar ps+Jan ps
 | []=>by simp[wts,Jar,Jan]
 | p :: ps=>by
  have ih:=Jjf ps;have e1:wts (p :: ps)=wtP p+wts ps:=by simp[wts]
  have e2:Jan (p :: ps)=p.put.length+Jan ps:=by simp[Jan]
  rw[e1,e2,Jbt,ih];unfold wtP lenP;omega
theorem Jj5:∀(ps:List Pt),(∀p∈ps,oneP p)->(ps.length:Int)<=wts ps
 | [],_=>by simp[wts]
 | p :: ps,h=>by
  have ih:=Jj5 ps fun q hq=>h q (by simp[hq])
  have e1:wts (p :: ps)=wtP p+wts ps:=by simp[wts]
  have h1:=JaJ (h p (by simp));have e2:Jac p=wtP p:=rfl;rw[e1,List.length_cons];omega
theorem JdH(p:Pt):∀(qs:List Pt),p∈qs->p.put.length<=Jan qs
 | [],h=>by cases h
 | q :: qs,h=>by
  have e:Jan (q :: qs)=q.put.length+Jan qs:=by simp[Jan]
  rw[e]
  rcases List.mem_cons.1 h with rfl|h
  . omega
  . have:=JdH p qs h;omega
theorem okOp.fine(h:okOp ps len)(hb:len+Jan ps<1000000):fineP ps:=by
 have h1:=Jjf ps;have h2:=Jj5 ps h.one;have h3:=h.long;exact⟨h.one,by omega,by omega⟩
theorem okOp.chk(h:okOp ps len):chkE ps len=0:=JrP h.one h.put h.long
theorem okOp.wf(h:okOp ps len)(hb:len+Jan ps<1000000):∀p∈ps,wfP p:=fun p hp=>by
 have h1:=JgT (h.one p hp);have h2:=JdH p ps hp
 have h3:lenP p<=Jar ps:=by
  have:=h.one;clear hb h2 h1;revert hp this;generalize h.long=hl;clear hl;intro hp hone;clear h
  induction ps with
  | nil=>cases hp
  | cons q ps ih =>
   rw[Jbt];have hq:=Jhu (hone q (by simp));have hr:=JfA (ps:=ps) fun x hx=>hone x (by simp[hx])
   rcases List.mem_cons.1 hp with rfl|hp
   . omega
   . have:=ih hp (fun x hx=>hone x (by simp[hx]));omega
 have h4:=h.long;unfold lenP at h3;exact⟨by omega,by omega,by omega,by omega,by omega⟩
theorem okOp.lens(h:okOp ps len)(hb:len+Jan ps<1000000):(Ja9 ps).1=len:=by
 have hs:=JaS h.one;have h1:=(JiB ps hs (by have:=Jjf ps;have:=h.long;omega)).1;have h2:=JeS ps hs;rw[h1,Jiu];have h3:=h.long;have h4:((Jbc [] ps).1.length:Int)=Jeo ps:=rfl;rw[h4,h2,h3]
theorem okOp.turn{a b:List Pt}(ha:okOp a len)(hb:okOp b len)(h1:len+Jan a<1000000)(h2:len+Jan b<1000000):Jch a b=0/\Jln a b=0:=by
 have e1:Jch a b=0:=by
  unfold Jch;rw[ha.lens h1,hb.lens h2,if_pos ha.chk,hb.chk]
 refine⟨e1,?_⟩;unfold Jln;rw[if_pos e1,if_pos (by rw[ha.lens h1,hb.lens h2])]
theorem okOp.trans{a b:List Pt}{len:Int}(ha:okOp a len)(hb:okOp b len)(h1:len+Jan a<1000000)(h2:len+Jan b<1000000):okOp (JaC (Jba false a b)) ((b.map isP).sum)/\Jan (JaC (Jba false a b))=Jan a:=by
 obtain⟨k1,k2,k3,k4⟩:=Jow false (ha.fine h1) (hb.fine h2) ha.put (ha.long.trans hb.long.symm);exact⟨⟨k1,k2,k3⟩,k4⟩
theorem Jhv(h:chkE ps len=0):okOp ps len:=by
 obtain⟨h1,h2,h3⟩:=JiQ h;exact⟨fun p hp=>Jpj (h1 p hp).1,fun p hp=>JfQ (h1 p hp).2,h2⟩
def Jex:Int->List SE->Prop
 | _,[]=>True
 | len,x :: E=>okOp x.op len/\Jan x.op<=40000/\0<=(x.op.map isP).sum/\(x.op.map isP).sum<=3000/\Jex ((x.op.map isP).sum) E
def endE:Int->List SE->Int
 | len,[]=>len
 | _,x :: E=>endE ((x.op.map isP).sum) E
def JaK (ps:List Pt) (E:List SE):List Pt:=E.foldl (fun a x=>JaC (Jba false a x.op)) ps
theorem Jjk:∀(E:List SE)(ps:List Pt)(len:Int),okOp ps len->Jan ps<=40000->len<=3000->Jex len E->okOp (JaK ps E) (endE len E)/\Jan (JaK ps E)=Jan ps
 | [],ps,len,h,_,_,_=>⟨h,rfl⟩
 | x :: E,ps,len,h,hp,hl,hc=>by
  obtain⟨c1,c2,c3,c4,c5⟩:=hc;obtain⟨k1,k2⟩:=h.trans c1 (by omega) (by omega);obtain⟨i1,i2⟩:=Jjk E _ _ k1 (by omega) c4 c5;exact⟨i1,i2.trans k2⟩
theorem Jni(ps:List Pt)(E:List SE)(k:Nat)(hk:k<E.length):JaK ps (E.take (k+1))=JaC (Jba false (JaK ps (E.take k)) E[k].op):=by
 unfold JaK;rw[List.take_succ_eq_append_getElem hk,List.foldl_append];rfl
theorem JgX:∀(E:List SE)(len:Int)(k:Nat)(hk:k<E.length),Jex len E->len<=3000->Jex len (E.take k)/\okOp E[k].op (endE len (E.take k))/\Jan E[k].op<=40000/\endE len (E.take k)<=3000/\((0<=len)->0<=endE len (E.take k))
 | [],_,k,hk,_,_=>by simp at hk
 | x :: E,len,0,_,h,hl=>⟨trivial,h.1,h.2.1,hl,fun h=>h⟩
 | x :: E,len,k+1,hk,h,hl=>by
  obtain⟨c1,c2,c3,c4,c5⟩:=h;obtain⟨i1,i2,i3,i4,i5⟩:=JgX E _ k (by simpa using hk) c5 c4;exact⟨⟨c1,c2,c3,c4,i1⟩,i2,i3,i4,fun _=>i5 c3⟩
def Jj4 (lo:Nat) (w:World) (p:Option Addr) (n c:Nat) (E:List SE):Prop :=
 n=E.length/\n<=c/\c<=maxLen/\(E≠[]->∃g o,p=some ⟨g,o,none⟩/\g<w.heap.size/\∀(i:Nat) (x:SE),E[i]?=some x->∃v,w.cell? ⟨g,o+i*3,none⟩=some (.int .i64 x.c)/\w.cell? ⟨g,o+i*3+1,none⟩=some (.int .i64 x.i)/\w.cell? ⟨g,o+i*3+2,none⟩=some v/\opX lo w v x.op)
theorem JgU{e base:Nat}(h:Jcz e lo base w (.slice p n c) E):Jj4 lo w p n c E:=by
 by_cases hne:E=[]
 . subst hne
   obtain⟨vs,_,⟨_,hrow⟩,_⟩:=h
   rcases hrow with ⟨hv,_⟩|⟨g,cap,cur,hv,_,_,h6,h7,_⟩
   . injection hv with h1 h2 h3
     subst h2 h3;exact⟨rfl,nlr _,Nat.zero_le _,fun h=>absurd rfl h⟩
   . injection hv with h1 h2 h3
     subst h2 h3;exact⟨rfl,h6,h7,fun h=>absurd rfl h⟩
 . obtain ⟨g,h1,h2,h3,h4,h5,h6⟩:=Jj8 h hne
   exact ⟨h3,h4,h5,fun _=>⟨g,0,h1,h2,fun i x hx=>by
    obtain⟨v,k0,k1,k2,k3⟩:=h6 i x hx;rw[Nat.zero_add];exact⟨v,k0,k1,k2,k3⟩⟩⟩
theorem JlT{w':World}(h:Jj4 lo w p n c E)(hb:Below w.heap.size w w'):Jj4 lo w' p n c E:=by
 obtain⟨h1,h2,h3,h4⟩:=h;refine⟨h1,h2,h3,fun hne=>?_⟩;obtain⟨g,o,k1,k2,k3⟩:=h4 hne;refine⟨g,o,k1,Nat.lt_of_lt_of_le k2 hb.size,fun i x hx=>?_⟩;obtain⟨v,j0,j1,j2,j3⟩:=k3 i x hx;exact⟨v,(hb.cell (p:=⟨g,o+i*3,none⟩) k2).trans j0,(hb.cell (p:=⟨g,o+i*3+1,none⟩) k2).trans j1,(hb.cell (p:=⟨g,o+i*3+2,none⟩) k2).trans j2,Ja5 j3 hb⟩
theorem Jk7{m:Nat}(h:Jj4 lo w p n c E)(hm:m<=n):Jj4 lo w (if c=m then p else Option.map (fun x=>x.add (m*3)) p) (n - m) (c - m) (E.drop m):=by
 obtain⟨rfl,h2,h3,h4⟩:=h;refine⟨by rw[List.length_drop],by omega,by omega,fun hne=>?_⟩;have hlt:m<E.length:=by
  rcases Nat.lt_or_ge m E.length with h|h
  . exact h
  . exact absurd (List.drop_eq_nil_of_le h) hne
 obtain⟨g,o,rfl,k2,k3⟩:=h4 (fun e=>by subst e;simp at hlt);rw[if_neg (by omega)];refine⟨g,o+m*3,by simp[Addr.add_lit],k2,fun i x hx=>?_⟩;rw[List.getElem?_drop]at hx;obtain⟨v,j0,j1,j2,j3⟩:=k3 (m+i) x hx;have e:o+m*3+i*3=o+(m+i)*3:=by omega
 rw[e];exact⟨v,j0,j1,j2,j3⟩
theorem Jnh(lo:Nat)(v:Value)(ps:List Pt)(p:Option Addr)(n c:Nat)(E:List SE)(len:Int)(w:World)(hT:Lib.Utf8Tabs 2 3 w)(hr:opAt w v ps)(hE:Jj4 lo w p n c E)(hok:okOp ps len)(hpu:Jan ps<=40000)(hl0:0<=len)(hl:len<=3000)(hch:Jex len E)(hn:n<=1000) :
    Calls Tryz.prog 178 #[v,.slice p n c] w fun e w'=>∃v',e=.returned (.tuple #[v',.nilIface])/\opN w.heap.size w' v' (JaK ps E)/\Below w.heap.size w w':=by
 have hlen:ps.length<=100000:=by have:=Jjf ps;have:=Jj5 ps hok.one;have:=hok.long;omega
 have CO:Hid _:=JlL v ps w hr (fun q hq=>by have:=JdH q ps hq;omega) (by omega);have HE:Hid (Jj4 lo w p n c E):=hE;have HT:=hdz hT;have HCH:Hid (okOp ps len/\Jan ps<=40000/\0<=len/\len<=3000/\Jex len E):=⟨hok,hpu,hl0,hl,hch⟩;obtain⟨h1,h2,h3,_⟩:=hE;have HN:Hid (n=E.length):=h1;unfold maxLen at h3;obtain⟨pv,cv,rfl,_⟩:=hr;have hni:(n:Int)<=1000:=by omega
 clear hT hok hpu hl0 hl hch h1 hlen
 go_enter Tryz.func178,Tryz.ntmps178
 go_wp2_with (first
  | (go_at_call 116;refine Calls.mono CO.out ?_;rintro e w1 ⟨v1,rfl,ho1,hb1⟩;have HO1:Hid (opN w.heap.size w1 v1 ps):=Jfl (nlr _) ho1;have HB1:=hdz hb1;clear ho1 hb1)
  | fail)
 go_loopw [0,14] (fun v0 i wr=>∃k:Nat,i=.int .i64 k/\k<=n/\opN w.heap.size wr v0 (JaK ps (E.take k))/\Below w.heap.size w wr) (fun _ i _=>n - (intOf i).toNat)
 case atStart=>exact⟨0,rfl,Nat.zero_le _,HO1.out,HB1.out⟩
 case round =>
  obtain⟨k,rfl,hk,hop',hbw⟩:=hrel;obtain⟨L0,hL0⟩:∃L,(JaK ps (E.take k)).length=L:=⟨_,rfl⟩;have hop:=hop';obtain⟨⟨p0,c0,rfl,_⟩,_⟩:=hop';have HOP:Hid (opN w.heap.size wr (.slice p0 (JaK ps (E.take k)).length c0) (JaK ps (E.take k))):=hop;have HBW:=hdz hbw;rw[hL0]
  by_cases hlt:k<n
  . have hkr:k<E.length:=by rw[←HN.out];exact hlt
    have hne:E≠[]:=by intro e;rw[e]at hkr;exact absurd hkr (Nat.not_lt_zero _)
    have hcell:=HE.out.2.2.2;obtain⟨g,o,rfl,hg,hcell⟩:=hcell hne;obtain⟨ve,f0,f1,f2,f3⟩:=hcell k E[k] (lgg hkr);have g0:=(HBW.out.cell (p:=⟨g,o+k*3,none⟩) hg).trans f0;have g1:=(HBW.out.cell (p:=⟨g,o+k*3+1,none⟩) hg).trans f1;have g2:=(HBW.out.cell (p:=⟨g,o+k*3+2,none⟩) hg).trans f2;have HX:Hid (opAt wr ve E[k].op):=Ja6 f3.1 HBW.out (nlr _);have hki:(k:Int)<(n:Int):=by omega
    obtain⟨c1,c2,c3,c4,c5⟩:=HCH.out;obtain⟨t1,t2,t3,t4,t5⟩:=JgX E len k hkr c5 c4;obtain⟨s1,s2⟩:=Jjk (E.take k) ps len c1 c2 c4 t1;have b1:endE len (E.take k)+Jan (JaK ps (E.take k))<1000000:=by omega
    have b2:endE len (E.take k)+Jan E[k].op<1000000:=by omega
    obtain⟨e1,e2⟩:=s1.turn t2 b1 b2;have HTK:Hid (JaK ps (E.take (k+1))=JaC (Jba false (JaK ps (E.take k)) E[k].op)):=Jni ps E k hkr;have CT:Hid (∀wx,Below wr.heap.size wr wx->Calls Tryz.prog 187 #[.slice p0 (JaK ps (E.take k)).length c0,ve,.bool false] wx fun e w'=>∃v',e=.returned (.tuple #[v',.nilIface])/\opN wx.heap.size w' v' (JaK ps (E.take (k+1)))/\Below wx.heap.size wx w'):=fun wx hb=>by
     have f1:=s1.fine b1;have f2:=t2.fine b2;have:=Jil _ ve false (JaK ps (E.take k)) E[k].op wx (Go.Proofs.Utf8Tabs_below HT.out (HBW.out.trans (hb.mono HBW.out.size))) (Ja6 HOP.out.1 hb (nlr _)) (Ja6 HX.out hb (nlr _)) (s1.wf b1) (t2.wf b2) f1.len f2.len fun _=>⟨f1,f2⟩
     rw[e2,if_pos rfl]at this;rw[HTK.out];exact this
    have hsh:∃p c,ve=.slice p E[k].op.length c:=by obtain⟨p,c,e,_⟩:=HX.out;exact⟨p,c,e⟩
    obtain⟨pe,ce,rfl⟩:=hsh;rw[hL0]at CT HOP;generalize E[k].op.length=L1 at *;generalize E[k]=x at *;obtain⟨xc,xi,xo⟩:=x;simp only at g0 g1;clear hcell f0 f1 f2 f3 hne c1 c2 c3 c4 c5 t1 t2 t3 t4 t5 s1 s2 b1 b2 e1 e2 hop hbw
    go_wp2_with (first
     | (go_at_call 187;refine(CT.out _ ((brf _ _).alloc (nlr _) _)).mono ?_;rintro e w3 ⟨v3,rfl,ho3,hb3⟩;have HB3:Hid (Below w.heap.size w w3):=(HBW.out.alloc HBW.out.size _).trans (hb3.mono (by rw[wsa];have:=HBW.out.size;omega));have HO3:Hid (opN w.heap.size w3 v3 (JaK ps (E.take (k+1)))):=ho3.mono (by rw[wsa];have:=HBW.out.size;omega);clear hb3 ho3)
     | fail)
    exact⟨⟨k+1,by go_num,by omega,HO3.out,HB3.out⟩,by simp[intOf];omega⟩
  . obtain rfl:k=n:=by omega
    have hki:¬((k:Int)<(k:Int)):=by omega
    have HTK:Hid (E.take k=E):=show _=_ by rw[HN.out];exact List.take_length
    clear hop hbw;go_wp2
    go_ret2
    have:=HOP.out;rw[hL0,HTK.out]at this;exact⟨_,rfl,this,HBW.out⟩
end
section
open Go.RowKit Go.Maps
variable {w w' : World}{n bm e lo base b : Nat}{M : Told}{v1 : Value}{E : List SE}{t : List UInt8}{l0 : Int}
theorem sameBut.comp{w w' w'':World}{S S':Nat->Prop}(h:sameBut w w' S)(h':sameBut w' w'' S')(hs:∀k,k<w.heap.size->S' k->S k):sameBut w w'' S :=
 ⟨Nat.le_trans h.1 h'.1,fun k hk hn=>(h'.2 k (Nat.lt_of_lt_of_le hk h.1) fun e=>hn (hs k hk e)).trans (h.2 k hk hn),h'.os.trans h.os,h'.tape.trans h.tape,h'.output.trans h.output⟩
theorem JaA{w:World}{k:Nat}{cs:Array Value}{T:TypeId}{fz:Nat×Nat}(h:w.heap[k]?=some (.cells cs T fz))(hT:T≠50):Jc8 w k:=fun cs' fz' e=>by
 rw[h]at e;injection e with e
 injection e with _ e2
 exact hT e2
theorem Jby{k:Nat}(h:JdV n w k M):∀cs T fz,w.heap[k]?≠some (.cells cs T fz):=fun cs T fz e=>by
 obtain⟨D,⟨es,clock,hb,_⟩,_⟩:=h;rw[hb]at e;injection e with e
 cases e
theorem Jpw(h:JdV n w bm M):bm<w.heap.size:=by
 obtain⟨D,h1,_⟩:=h;exact h1.lt
theorem Jfn(h:Jcz e lo base w v1 E){k:Nat}(hk:v1.ownBlock=some k):base<=k/\k<w.heap.size/\∃cs,w.heap[k]?=some (.cells cs e (0,0)):=by
 obtain⟨vs,_,h2,_⟩:=h
 rcases h2.2 with ⟨rfl,_⟩|⟨g,cap,cur,rfl,h3,h4,_⟩
 . cases hk
 . obtain rfl:g=k:=osi hk
   exact⟨h3,(alt h4),_,h4⟩
theorem Jh2(e lo base:Nat)(w:World):Jcz e lo base w (.slice none 0 0) []:=⟨[],rfl,World.ownsRow_nil _ _ _ _,fun i x v hx=>by simp at hx⟩
theorem Jb8{lo:Nat}{w w':World}{v:Value}{ps:List Pt}{S:Nat->Prop}(h:opX lo w v ps)(hs:sameBut w w' S)(hS:∀k,k<w.heap.size->S k->lo<=k/\Jc8 w k):opX lo w' v ps :=
 Jht (S:=fun k=>k<w.heap.size/\S k) h ⟨hs.1,fun k hk hn=>hs.2 k hk fun e=>hn ⟨hk,e⟩,hs.os,hs.tape,hs.output⟩ fun k e=>hS k e.1 e.2
theorem Jgg{v2 vx:Value}{x:SE}(he:e≠50)(hlb:lo<=base){vs:List Value}(h1:vs.length=E.length)(h2:w.ownsRow base e 3 v1 E.length (logC E vs))
    (h3:∀(i:Nat) (y:SE) (v:Value),E[i]?=some y->vs[i]?=some v->opX lo w v y.op) (hx:opX lo w vx x.op) (hg:w.grownBy w' v1.ownBlock) (hnew:w'.ownsRow base e 3 v2 (E.length+1) (logC E vs++[.int .i64 x.c,.int .i64 x.i,vx])):Jcz e lo base w' v2 (E++[x]):=by
 have hk:=fun k=>Jfn (k:=k) ⟨vs,h1,h2,h3⟩
 have hs:sameBut w w' fun k=>v1.ownBlock=some k:=JaP hg fun k e=>e
 have hS:∀k,k<w.heap.size->v1.ownBlock=some k->lo<=k/\Jc8 w k:=fun k _ hkk=>by
  obtain⟨a,b,cs,c⟩:=hk k hkk;exact⟨Nat.le_trans hlb a,JaA c he⟩
 refine⟨vs++[vx],by simp[h1],?_,fun i y v hy hv=>?_⟩
 . rw[Jpr E vs h1,List.length_append]
   exact hnew
 . rcases Nat.lt_or_ge i E.length with hi | hi
   . rw[List.getElem?_append_left hi]at hy
     rw[List.getElem?_append_left (by omega)]at hv;exact Jb8 (h3 i y v hy hv) hs hS
   . have : i=E.length:=by
       rcases Nat.lt_or_ge E.length i with h|h
       . rw[List.getElem?_append_right hi]at hy
         obtain⟨j,hj⟩:∃j,i - E.length=j+1:=⟨i - E.length - 1,by omega⟩;rw[hj]at hy;simp at hy
       . omega
     subst this;rw[List.getElem?_append_right (nlr _),Nat.sub_self]at hy;rw[List.getElem?_append_right (by omega),h1,Nat.sub_self]at hv;obtain rfl:x=y:=by simpa using hy
     obtain rfl:vx=v:=by simpa using hv
     exact Jb8 hx hs hS
def Jcc (lo n:Nat) (w:World) (b bm:Nat) (t:List UInt8) (E:List SE) (M:Told):Prop :=
 lo<=b/\lo<=bm/\(∃v1,w.heap[b]?=some (.cells #[.string ⟨t.toArray⟩,v1,.map (some bm)] 196 (0,0))/\Jcz 105 lo lo w v1 E)/\JdV n w bm M
def Jdf (lo:Nat) (w:World) (bm k:Nat):Prop:=lo<=k/\(k=bm\/∃cs T,w.heap[k]?=some (.cells cs T (0,0))/\(T=196\/T=105))
def docsC (D:List (List UInt8)):List Value:=D.map fun d=>.string ⟨d.toArray⟩
def isRef (lo n:Nat) (w:World) (b bm:Nat) (D:List (List UInt8)) (E:List SE) (M:Told):Prop :=
 lo<=b/\lo<=bm/\(∃v0 v1,w.heap[b]?=some (.cells #[v0,v1,.map (some bm)] 84 (0,0))/\w.ownsRow lo 9 1 v0 D.length (docsC D)/\Jcz 103 lo lo w v1 E)/\JdV n w bm M
theorem JaG{w:World}{k:Nat}{cs cs':Array Value}{T T':TypeId}{fz fz':Nat×Nat}(h:w.heap[k]?=some (.cells cs T fz))(h':w.heap[k]?=some (.cells cs' T' fz')):T=T':=by
 rw[h]at h';injection h' with e
 injection e with _ e2
theorem JbO(h:Jcc lo n w b bm t E M)(hb:Below w.heap.size w w'):Jcc lo n w' b bm t E M:=by
 obtain⟨h1,h2,⟨v1,h3,h4⟩,h5⟩:=h;exact⟨h1,h2,⟨v1,(hb.block b (alt h3)).trans h3,Jck h4 hb⟩,JcR (S:=fun _=>False) h5 (Jaf hb _) id⟩
theorem JlU{D:List (List UInt8)}(h:isRef lo n w b bm D E M)(hb:Below w.heap.size w w'):isRef lo n w' b bm D E M:=by
 obtain⟨h1,h2,⟨v0,v1,h3,h30,h4⟩,h5⟩:=h;exact⟨h1,h2,⟨v0,v1,(hb.block b (alt h3)).trans h3,Jaj h30 hb,Jck h4 hb⟩,JcR (S:=fun _=>False) h5 (Jaf hb _) id⟩
/-! what is done -/
def doE (l0:Int) (t:List UInt8) (E:List SE) (rev:Int) (ps:List Pt):Int :=
 if rev<0\/(E.length:Int)<rev then 2 else if 300<=E.length then 4
 else if chkE ps (endE l0 (E.take rev.toNat))≠0 then chkE ps (endE l0 (E.take rev.toNat))
 else if ordE (JaK ps (E.drop rev.toNat)) t≠0 then ordE (JaK ps (E.drop rev.toNat)) t
 else if 2000<(Jab (JaK ps (E.drop rev.toNat)) t).length then 12 else 0
structure okS (l0:Int) (t:List UInt8) (E:List SE):Prop where
 text:V t
 room:t.length<=2000
 pos:0<=l0
 top:l0<=3000
 chain:Jex l0 E
 last:endE l0 E=t.length
theorem JiS:∀(E:List SE)(l0:Int)(x:SE),Jex l0 E->okOp x.op (endE l0 E)->Jan x.op<=40000->0<=(x.op.map isP).sum->(x.op.map isP).sum<=3000->Jex l0 (E++[x])/\endE l0 (E++[x])=(x.op.map isP).sum
 | [],l0,x,_,h1,h2,h3,h4=>⟨⟨h1,h2,h3,h4,trivial⟩,rfl⟩
 | y :: E,l0,x,h,h1,h2,h3,h4=>by
  obtain⟨c1,c2,c3,c4,c5⟩:=h;obtain⟨i1,i2⟩:=JiS E _ x c5 h1 h2 h3 h4;exact⟨⟨c1,c2,c3,c4,i1⟩,i2⟩
theorem Jgo:∀(E:List SE)(l0:Int)(k:Nat),Jex l0 E->Jex (endE l0 (E.take k)) (E.drop k)/\endE (endE l0 (E.take k)) (E.drop k)=endE l0 E
 | E,l0,0,h=>⟨h,rfl⟩
 | [],l0,k+1,_=>⟨trivial,rfl⟩
 | y :: E,l0,k+1,h=>Jgo E _ k h.2.2.2.2
theorem JdA:∀(E:List SE)(l0:Int)(k:Nat),Jex l0 E->0<=l0->l0<=3000->0<=endE l0 (E.take k)/\endE l0 (E.take k)<=3000
 | E,l0,0,_,h,h'=>⟨h,h'⟩
 | [],l0,k+1,_,h,h'=>⟨h,h'⟩
 | y :: E,l0,k+1,h,_,_=>JdA E _ k h.2.2.2.2 h.2.2.1 h.2.2.2.1
theorem JkM(h:okS l0 t E){ps:List Pt}{k:Nat}(hp:Jan ps<=40000)(hc:chkE ps (endE l0 (E.take k))=0):okOp (JaK ps (E.drop k)) t.length/\Jan (JaK ps (E.drop k))=Jan ps:=by
 obtain⟨c1,c2⟩:=Jgo E l0 k h.chain;obtain⟨e1,e2⟩:=JdA E l0 k h.chain h.pos h.top;obtain⟨k1,k2⟩:=Jjk (E.drop k) ps _ (Jhv hc) hp e2 c1;rw[c2,h.last]at k1;exact⟨k1,k2⟩
theorem do_next(h:okS l0 t E){ps:List Pt}{c i rev:Int}(hp:Jan ps<=40000)(hd:doE l0 t E rev ps=0) :
    okS l0 (Jab (JaK ps (E.drop rev.toNat)) t) (E++[⟨c,i,JaK ps (E.drop rev.toNat)⟩]):=by
 unfold doE at hd
 split at hd
 . cases hd
 split at hd
 . cases hd
 split at hd
 . rename_i h1;exact absurd hd h1
 rename_i hc
 split at hd
 . rename_i h1;exact absurd hd h1
 rename_i ho
 split at hd
 . cases hd
 rename_i hl
 have hc:chkE ps (endE l0 (E.take rev.toNat))=0:=by simpa using hc
 have ho:ordE (JaK ps (E.drop rev.toNat)) t=0:=by simpa using ho
 obtain⟨k1,k2⟩:=JkM h hp hc;have hg:=Jcl h.text ho;have hlen:=JhM _ t hg.left;obtain⟨i1,i2⟩:=JiS E l0 ⟨c,i,JaK ps (E.drop rev.toNat)⟩ h.chain (by rw[h.last];exact k1) (by rw[k2];exact hp) (by rw[←hlen];omega) (by rw[←hlen];omega);exact⟨Jgs hg.al,by omega,h.pos,h.top,i1,by rw[i2,hlen]⟩
end
section
open Go.RowKit Go.Maps
attribute [local go_sem] Oper.semAt_some
theorem Jhm(lo n:Nat)(w:World)(b bm:Nat)(t:List UInt8)(E:List SE)(M:Told)(h:Jcc lo n w b bm t E M) :
    Calls Tryz.prog 115 #[.pointer (some ⟨b,0,none⟩)] w fun e w'=>w'=w/\∃v1,e=.returned v1/\w.cell? ⟨b,1,none⟩=some v1/\Jcz 105 lo lo w v1 E:=by
 obtain⟨_,_,⟨v1,h3,h4⟩,_⟩:=h;obtain⟨p,c,rfl⟩:=Jb6 h4;have x1:w.cell? ⟨b,1,none⟩=some (.slice p E.length c):=chp h3 1;have H4:=hdz h4;clear h3 h4
 go_enter Tryz.func115,Tryz.ntmps115
 go_wp2;go_ret;exact⟨rfl,_,rfl,x1,H4.out⟩
theorem Jit(lo n:Nat)(w:World)(b bm:Nat)(t:List UInt8)(E:List SE)(M:Told)(h:Jcc lo n w b bm t E M) :
    Calls Tryz.prog 41 #[.pointer (some ⟨b,0,none⟩)] w fun e w'=>w'=w/\e=.returned (.int .i64 E.length):=by
 have C:Hid _:=Jhm lo n w b bm t E M h;clear h
 go_enter Tryz.func41,Tryz.ntmps41
 go_wp2_with (first | (go_at_call 115;refine Calls.mono C.out ?_;rintro e w1 ⟨hw,v1,rfl,hc,hl⟩;obtain rfl:=hw.symm;obtain⟨p,c,rfl⟩:=Jb6 hl;clear hc hl) | fail)
 go_ret;exact⟨rfl,rfl⟩
theorem Jls(lo n:Nat)(w:World)(b bm:Nat)(t:List UInt8)(E:List SE)(M:Told)(h:Jcc lo n w b bm t E M) :
    Calls Tryz.prog 42 #[.pointer (some ⟨b,0,none⟩)] w fun e w'=>w'=w/\e=.returned (.string ⟨t.toArray⟩):=by
 obtain⟨_,_,⟨v1,h3,h4⟩,_⟩:=h;have x1:w.cell? ⟨b,0,none⟩=some (.string ⟨t.toArray⟩):=chp h3 0;clear h3 h4
 go_enter Tryz.func42,Tryz.ntmps42
 go_wp2;go_ret;exact⟨rfl,rfl⟩
theorem run_ti{P:Program}{w:World}{t:TypeId}{i:TypeInfo}(h:P.info? t=some i):(typeInfo t).run P w=.ok i w:=by simp[typeInfo,h]
theorem Jqy{P:Program}{w:World}{t:TypeId}{i:TypeInfo}{z:Value}(h:P.info? t=some i)(hz:i.zero=some z):(zeroValue t).run P w=.ok z w:=by
 simp[zeroValue,Sem.run_bind,run_ti h,hz]
theorem JgZ{t:TypeId}{z:Value}(h:(Tryz.prog.info? t).map (·.zero)=some (some z))(w:World):(zeroValue t).run Tryz.prog w=.ok z w:=by
 obtain⟨i,hi,hz⟩:=Option.map_eq_some_iff.1 h;exact Jqy hi hz
theorem Jpy:(Tryz.prog.info? 198).map (·.zero)=some (some (.agg #[.int .i64 0,.int .i64 0])):=by kernel_rfl
theorem Jm0(w:World):(zeroValue 198).run Tryz.prog w=.ok (.agg #[.int .i64 0,.int .i64 0]) w:=JgZ Jpy w
theorem Jhl(lo n:Nat)(w:World)(b bm:Nat)(t:List UInt8)(E:List SE)(M:Told)(h:Jcc lo n w b bm t E M){l0:Int}(hk:okS l0 t E)(k:Nat)(hkl:k<=E.length)(hn:E.length<=1000) :
    Calls Tryz.prog 177 #[.pointer (some ⟨b,0,none⟩),.int .i64 k] w fun e w'=>e=.returned (.int .i64 (endE l0 (E.take k)))/\Below w.heap.size w w':=by
 obtain⟨_,_,⟨v1,h3,h4⟩,_⟩:=h;obtain⟨p,c,rfl⟩:=Jb6 h4;have x0:w.cell? ⟨b,0,none⟩=some (.string ⟨t.toArray⟩):=chp h3 0;have x1:w.cell? ⟨b,1,none⟩=some (.slice p E.length c):=chp h3 1
 by_cases he:k=E.length
 . have hz:(ByteArray.mk t.toArray).size=t.length:=by simp[ByteArray.size]
   have hv:endE l0 (E.take k)=t.length:=by rw[he,List.take_length];exact hk.last
   rw[hv];subst he;clear h3 h4 hk hv hkl
   go_enter Tryz.func177,Tryz.ntmps177
   go_wp2;go_ret;exact⟨rfl,brf _ _⟩
 . have hlt:k<E.length:=by omega
   have hne:E≠[]:=by intro e;rw[e]at hlt;exact absurd hlt (Nat.not_lt_zero _)
   obtain⟨g,rfl,hg,_,_,_,hcell⟩:=Jj8 h4 hne;obtain⟨ve,_,_,f2,f3⟩:=hcell k E[k] (lgg hlt);obtain⟨t1,t2,t3,t4,t5⟩:=JgX E l0 k hlt hk.chain hk.top;have hb1:endE l0 (E.take k)+Jan E[k].op<1000000:=by omega
   have hle:=(t2.fine hb1).len;have CL:Hid _:=Jcg ve E[k].op w f3.1 hle;have HV:Hid ((Ja9 E[k].op).1=endE l0 (E.take k)):=t2.lens hb1;have hsh:∃p c,ve=.slice p E[k].op.length c:=by obtain⟨p,c,e,_⟩:=f3.1;exact⟨p,c,e⟩
   obtain⟨pe,ce,rfl⟩:=hsh;have hki:((k:Int)==(E.length:Int))=false:=by simp;omega
   have hki2:(k:Int)<(E.length:Int):=by omega
   generalize endE l0 (E.take k)=R at *;generalize E[k]=x at *;generalize E.length=n at *;clear h3 h4 hk hcell t1 t2 t3 t4 t5 hb1 f3 hne
   go_enter Tryz.func177,Tryz.ntmps177
   go_wp2_with (first
    | (go_at_call 120;refine Calls.mono CL.out ?_;rintro e w1 ⟨rfl,hb1⟩;have HB1:=hdz hb1;clear hb1)
    | fail)
   go_ret;refine⟨?_,HB1.out⟩;have:=HV.out
   first | rfl | (simp;done) | (rw[←this];rfl) | (subst this;rfl)
variable {lo n b bm : Nat}{w : World}{t : List UInt8}{E : List SE}{M : Told}{l0 : Int}
theorem Jh8:(Tryz.prog.info? 105).map (fun i=>(i.zero,i.size,i.bytes))=some (some (.agg #[.int .i64 0,.int .i64 0,.slice none 0 0]),3,40):=by kernel_rfl
theorem JhA{n:Int}(h:n≠0):errV n=.iface 26 (.int .i64 n):=if_neg h
def doT (l0:Int) (t:List UInt8) (E:List SE) (rev:Int) (ps:List Pt):List UInt8:=if doE l0 t E rev ps=0 then Jab (JaK ps (E.drop rev.toNat)) t else t
def doL (l0:Int) (t:List UInt8) (E:List SE) (c i rev:Int) (ps:List Pt):List SE:=if doE l0 t E rev ps=0 then E++[⟨c,i,JaK ps (E.drop rev.toNat)⟩] else E
theorem JhC{w':World}{c i rev:Int}{ps:List Pt}(h:Jcc lo n w b bm t E M)(hb:Below w.heap.size w w')(hd:doE l0 t E rev ps≠0) :
    Jcc lo n w' b bm (doT l0 t E rev ps) (doL l0 t E c i rev ps) M/\sameBut w w' (Jdf lo w bm):=by
 unfold doT doL;rw[if_neg hd,if_neg hd];exact⟨JbO h hb,Jaf hb _⟩
theorem Jlx(h:Jcc lo n w b bm t E M)(c i rev:Int)(v:Value)(hr:rev<0\/(E.length:Int)<rev) :
    Calls Tryz.prog 113 #[.pointer (some ⟨b,0,none⟩),.int .i64 c,.int .i64 i,.int .i64 rev,v] w fun e w'=>e=.returned (errV 2)/\Below w.heap.size w w':=by
 obtain⟨_,_,⟨v1,h3,h4⟩,_⟩:=h;obtain⟨p,c1,rfl⟩:=Jb6 h4;have x1:w.cell? ⟨b,1,none⟩=some (.slice p E.length c1):=chp h3 1;have hV:errV 2=.iface 26 (.int .i64 2):=rfl;rw[hV];clear h3 h4 hV
 by_cases h0:rev<0
 . clear hr
   go_enter Tryz.func113,Tryz.ntmps113
   go_wp2;go_ret;exact⟨rfl,brf _ _⟩
 . have h1:(E.length:Int)<rev:=by omega
   clear hr
   go_enter Tryz.func113,Tryz.ntmps113
   go_wp2;go_ret;exact⟨rfl,brf _ _⟩
theorem Jly(h:Jcc lo n w b bm t E M){l0:Int}(hk:okS l0 t E)(c i:Int)(k:Nat)(v:Value)(ps:List Pt)(hT:Lib.Utf8Tabs 2 3 w)(hr:opAt w v ps)(hwf:∀p∈ps,wfP p)(hl:ps.length<=1000000)(hkl:k<=E.length)(hn:E.length<300)(hc:chkE ps (endE l0 (E.take k))≠0) :
    Calls Tryz.prog 113 #[.pointer (some ⟨b,0,none⟩),.int .i64 c,.int .i64 i,.int .i64 (k:Int),v] w fun e w'=>e=.returned (errV (chkE ps (endE l0 (E.take k))))/\Below w.heap.size w w':=by
 have CS:Hid _:=Jhl lo n w b bm t E M h hk k hkl (by omega);have hle:=JdA E l0 k hk.chain hk.pos hk.top;have CC:Hid (∀wx,Below w.heap.size w wx->Calls Tryz.prog 92 #[v,.int .i64 (endE l0 (E.take k))] wx fun e w'=>e=.returned (errV (chkE ps (endE l0 (E.take k))))/\Below wx.heap.size wx w'):=fun wx hb =>
  Jco v ps _ wx (Go.Proofs.Utf8Tabs_below hT hb) (Ja6 hr hb (nlr _)) hwf (by omega) (by omega)
 obtain⟨_,_,⟨v1,h3,h4⟩,_⟩:=h;obtain⟨p,c1,rfl⟩:=Jb6 h4;have x1:w.cell? ⟨b,1,none⟩=some (.slice p E.length c1):=chp h3 1;rw[JhA hc]at CC ⊢;have hk0:¬(k:Int)<0:=by omega
 have hk1:¬(E.length:Int)<(k:Int):=by omega
 have hk2:¬(300:Int)<=(E.length:Int):=by omega
 obtain⟨pv,cv,rfl,_⟩:=hr;generalize chkE ps (endE l0 (E.take k))=X at *;generalize endE l0 (E.take k)=R at *;clear h3 h4 hk hT hwf hle hc
 go_enter Tryz.func113,Tryz.ntmps113
 go_wp2_with (first
  | (go_at_call 177;refine Calls.mono CS.out ?_;rintro e w1 ⟨rfl,hb1⟩;have HB1:=hdz hb1;clear hb1)
  | (go_at_call 92;refine(CC.out _ HB1.out).mono ?_;rintro e w2 ⟨rfl,hb2⟩;have HB2:=hdz (HB1.out.trans (hb2.mono HB1.out.size));clear hb2)
  | fail)
 go_ret;exact⟨rfl,HB2.out⟩
theorem JoC(h:Jcc lo n w b bm t E M)(c i:Int)(k:Nat)(v:Value)(hkl:k<=E.length)(hn:300<=E.length)(hn2:E.length<=1000) :
    Calls Tryz.prog 113 #[.pointer (some ⟨b,0,none⟩),.int .i64 c,.int .i64 i,.int .i64 (k:Int),v] w fun e w'=>e=.returned (errV 4)/\Below w.heap.size w w':=by
 obtain⟨_,_,⟨v1,h3,h4⟩,_⟩:=h;obtain⟨p,c1,rfl⟩:=Jb6 h4;have x1:w.cell? ⟨b,1,none⟩=some (.slice p E.length c1):=chp h3 1;have hV:errV 4=.iface 26 (.int .i64 4):=rfl;rw[hV];have hk0:¬(k:Int)<0:=by omega
 have hk1:¬(E.length:Int)<(k:Int):=by omega
 have hk2:(300:Int)<=(E.length:Int):=by omega
 clear h3 h4 hV
 go_enter Tryz.func113,Tryz.ntmps113
 go_wp2;go_ret;exact⟨rfl,brf _ _⟩
def Jlf (w:World) (l0:Int) (E:List SE) (k:Nat) (p:Option Addr) (c1:Nat) (v:Value) (ps:List Pt):Prop:=∀wx,Below w.heap.size w wx->Calls Tryz.prog 178 #[v,.slice (if c1=k then p else Option.map (fun x=>x.add (k*3)) p) (E.length - k) (c1 - k)] wx fun e w'=>∃p' c',e=.returned (.tuple #[.slice p' (JaK ps (E.drop k)).length c',.nilIface])/\opN wx.heap.size w' (.slice p' (JaK ps (E.drop k)).length c') (JaK ps (E.drop k))/\Below wx.heap.size wx w'
def JgC (w:World) (t:List UInt8) (q:List Pt):Prop:=∀wx v',Below w.heap.size w wx->opAt wx v' q->Calls Tryz.prog 29 #[v',.string ⟨t.toArray⟩] wx fun e w'=>e=.returned (.tuple #[.string ⟨(if ordE q t=0 then Jab q t else []).toArray⟩,errV (ordE q t)])/\Below wx.heap.size wx w'
theorem do_C(hk:okS l0 t E)(k:Nat){p:Option Addr}{c1:Nat}(hlog:Jj4 lo w p E.length c1 E){v:Value}{ps:List Pt}(hT:Lib.Utf8Tabs 2 3 w)(hr:opAt w v ps)(hpu:Jan ps<=40000)(hkl:k<=E.length)(hn:E.length<300)(hc:chkE ps (endE l0 (E.take k))=0):Jlf w l0 E k p c1 v ps/\JgC w t (JaK ps (E.drop k)):=by
 have hle:=JdA E l0 k hk.chain hk.pos hk.top;obtain⟨q1,q2⟩:=JkM hk hpu hc;have hrm:=hk.room;have hb1:(t.length:Int)+Jan (JaK ps (E.drop k))<1000000:=by omega
 have hlen:=(q1.fine hb1).len;refine⟨fun wx hb=>?_,fun wx v' hb ho=>JhR v' _ t wx (Go.Proofs.Utf8Tabs_below hT hb) ho (q1.wf hb1) (by omega) hlen (by omega)⟩;refine(Jnh lo v ps _ _ _ (E.drop k) (endE l0 (E.take k)) wx (Go.Proofs.Utf8Tabs_below hT hb) (Ja6 hr hb (nlr _)) (Jk7 (JlT hlog hb) hkl) (Jhv hc) hpu hle.1 hle.2 (Jgo E l0 k hk.chain).1 (by omega)).mono ?_
 rintro e w' ⟨v',rfl,ho,hb'⟩;obtain⟨p',c',rfl,_⟩:=ho.1;exact⟨p',c',rfl,ho,hb'⟩
structure DoStart (lo n:Nat) (w:World) (b bm:Nat) (t:List UInt8) (E:List SE) (M:Told) (l0:Int) (k:Nat) (v:Value) (ps:List Pt) (p:Option Addr) (c1:Nat):Prop where
 size:Calls Tryz.prog 177 #[.pointer (some ⟨b,0,none⟩),.int .i64 k] w fun e w'=>e=.returned (.int .i64 (endE l0 (E.take k)))/\Below w.heap.size w w'
 check:∀wx,Below w.heap.size w wx->Calls Tryz.prog 92 #[v,.int .i64 (endE l0 (E.take k))] wx fun e w'=>e=.returned .nilIface/\Below wx.heap.size wx w'
 turn:Jlf w l0 E k p c1 v ps
 apply:JgC w t (JaK ps (E.drop k))
 block:w.heap[b]?=some (.cells #[.string ⟨t.toArray⟩,.slice p E.length c1,.map (some bm)] 196 (0,0))
theorem Jri(h:Jcc lo n w b bm t E M){l0:Int}(hk:okS l0 t E)(k:Nat)(v:Value)(ps:List Pt)(hT:Lib.Utf8Tabs 2 3 w)(hr:opAt w v ps)(hwf:∀p∈ps,wfP p)(hl:ps.length<=1000000)(hpu:Jan ps<=40000)(hkl:k<=E.length)(hn:E.length<300)(hc:chkE ps (endE l0 (E.take k))=0) :
    ∃p c1,DoStart lo n w b bm t E M l0 k v ps p c1/\Jcz 105 lo lo w (.slice p E.length c1) E:=by
 have cs:=Jhl lo n w b bm t E M h hk k hkl (by omega);have hle:=JdA E l0 k hk.chain hk.pos hk.top;obtain⟨_,_,⟨v1,h3,h4⟩,_⟩:=h;obtain⟨p,c1,rfl⟩:=Jb6 h4;obtain⟨k1,k2⟩:=do_C hk k (JgU h4) hT hr hpu hkl hn hc;refine⟨p,c1,⟨cs,fun wx hb=>?_,k1,k2,h3⟩,h4⟩;have:=Jco v ps (endE l0 (E.take k)) wx (Go.Proofs.Utf8Tabs_below hT hb) (Ja6 hr hb (nlr _)) hwf (by omega) (by omega);rw[hc]at this;exact this
theorem Jlz(c i:Int)(k:Nat)(v:Value)(ps:List Pt){p:Option Addr}{c1:Nat}(hr:opAt w v ps)(hkl:k<=E.length)(hn:E.length<300)(hc1:E.length<=c1)(S:DoStart lo n w b bm t E M l0 k v ps p c1)(ho:ordE (JaK ps (E.drop k)) t≠0) :
    Calls Tryz.prog 113 #[.pointer (some ⟨b,0,none⟩),.int .i64 c,.int .i64 i,.int .i64 (k:Int),v] w fun e w'=>e=.returned (errV (ordE (JaK ps (E.drop k)) t))/\Below w.heap.size w w':=by
 obtain⟨s1,s2,s3,s4,h3⟩:=S;have CS:=hdz s1;have CC:Hid (∀wx,Below w.heap.size w wx->Calls Tryz.prog 92 #[v,.int .i64 (endE l0 (E.take k))] wx fun e w'=>e=.returned .nilIface/\Below wx.heap.size wx w'):=s2;have CT:Hid (Jlf w l0 E k p c1 v ps):=s3;have CA:Hid (JgC w t (JaK ps (E.drop k))):=s4;have hbl:=(alt h3);have x0:w.cell? ⟨b,0,none⟩=some (.string ⟨t.toArray⟩):=chp h3 0;have x1:w.cell? ⟨b,1,none⟩=some (.slice p E.length c1):=chp h3 1;have HB:Hid (b<w.heap.size):=hbl;have X0:Hid (w.cell? ⟨b,0,none⟩=some (.string ⟨t.toArray⟩)):=x0;have X1:Hid (w.cell? ⟨b,1,none⟩=some (.slice p E.length c1)):=x1;unfold Jlf at CT;unfold JgC at CA;rw[if_neg ho,JhA ho]at CA;rw[JhA ho];have hk0:¬(k:Int)<0:=by omega
 have hk1:¬(E.length:Int)<(k:Int):=by omega
 have hk2:¬(300:Int)<=(E.length:Int):=by omega
 have hk3:(k:Int)<=(E.length:Int):=by omega
 obtain⟨pv,cv,rfl,_⟩:=hr;generalize ordE (JaK ps (E.drop k)) t=X at *;generalize endE l0 (E.take k)=R at *;generalize JaK ps (E.drop k)=q at *;obtain⟨qn,hqn⟩:∃m,q.length=m:=⟨_,rfl⟩;rw[hqn]at CT;have en:(ByteArray.mk [].toArray)=⟨#[]⟩:=rfl;rw[en]at CA;clear h3 s1 s2 s3 s4 ho hbl en
 go_enter Tryz.func113,Tryz.ntmps113
 go_wp2_with (first
  | (go_at_call 177;refine Calls.mono CS.out ?_;rintro e w1 ⟨rfl,hb1⟩;have HB1:=hdz hb1;clear hb1)
  | (go_at_call 92;refine(CC.out _ HB1.out).mono ?_;rintro e w2 ⟨rfl,hb2⟩;have HB2:=hdz (HB1.out.trans (hb2.mono HB1.out.size));have y1:w2.cell? ⟨b,1,none⟩=some (.slice p E.length c1):=(HB2.out.cell (p:=⟨b,1,none⟩) HB.out).trans X1.out;clear hb2)
  | (go_at_call 178;refine(CT.out _ HB2.out).mono ?_;rintro e w3 ⟨p',c',rfl,ho3,hb3⟩;have HO3:Hid (opAt w3 (.slice p' qn c') q):=ho3.1;have HB3:=hdz (HB2.out.trans (hb3.mono HB2.out.size));have y0:w3.cell? ⟨b,0,none⟩=some (.string ⟨t.toArray⟩):=(HB3.out.cell (p:=⟨b,0,none⟩) HB.out).trans X0.out;clear hb3 ho3)
  | (go_at_call 29;refine(CA.out _ _ HB3.out HO3.out).mono ?_;rintro e w4 ⟨rfl,hb4⟩;have HB4:=hdz (HB3.out.trans (hb4.mono HB3.out.size));clear hb4)
  | fail)
 all_goals
  go_ret;exact⟨rfl,HB4.out⟩
end
section
open Go.RowKit Go.Maps
variable {w : World}{e TS lo b : Nat}{x0 m v1 : Value}{E : List SE}
theorem Jak{w:World}{b o:Nat}{cs:Array Value}{T:TypeId}(h:w.heap[b]?=some (.cells cs T (0,0))):w.frozen? ⟨b,o,none⟩=false:=by unfold World.frozen?;simp[h]
theorem Jev{k:Nat}{o o':Obj}(h:w.heap[k]?=some o):(w.alloc o').heap[k]?=some o :=
 (((brf w.heap.size w).alloc (nlr _) o').block k (alt h)).trans h
theorem JqI{vx:Value}{x:SE}(he:e≠50)(hTS:TS≠50)(hne:TS≠e)(hlo:lo<=b)(hb:w.heap[b]?=some (.cells #[x0,v1,m] TS (0,0)))(hl:Jcz e lo lo w v1 E)(hx:opX lo w vx x.op) :
    ∃ vs,vs.length=E.length/\(w.alloc (.cells #[.int .i64 x.c,.int .i64 x.i,vx] e)).ownsRow lo e 3 v1 E.length (logC E vs)/\∀w6 v2,w6.ownsRow lo e 3 v2 (E.length+1) (logC E vs++[.int .i64 x.c,.int .i64 x.i,vx])->(w.alloc (.cells #[.int .i64 x.c,.int .i64 x.i,vx] e)).grownBy w6 v1.ownBlock ->
     w6.cell? ⟨b,1,none⟩=some v1/\w6.frozen? ⟨b,1,none⟩=false/\(w6.setCell ⟨b,1,none⟩ v2).heap[b]?=some (.cells #[x0,v2,m] TS (0,0))/\Jcz e lo lo (w6.setCell ⟨b,1,none⟩ v2) v2 (E++[x])/\sameBut w (w6.setCell ⟨b,1,none⟩ v2) (fun k=>k=b\/v1.ownBlock=some k):=by
 have hbw:Below w.heap.size w (w.alloc (.cells #[.int .i64 x.c,.int .i64 x.i,vx] e)):=(brf _ _).alloc (nlr _) _;obtain⟨vs,h1,h2,h3⟩:=Jck hl hbw;have hown:=fun k=>Jfn (k:=k) hl
 refine⟨vs,h1,h2,fun w6 v2 hnew hg=>?_⟩;have h6:=Jgg (x:=x) he (nlr _) h1 h2 h3 (Ja5 hx hbw) hg hnew;have hnb:some b≠v1.ownBlock:=fun e=>by
  obtain⟨_,_,cs,hc⟩:=hown b e.symm;exact hne (JaG hb hc)
 have hb6:w6.heap[b]?=some (.cells #[x0,v1,m] TS (0,0)):=(hg.block b (Array.getElem?_eq_some_iff.1 (Jev hb)).1 hnb).trans (Jev hb);refine⟨chp hb6 1,Jak hb6,heap_setCell_same w6 b 1 _ TS v2 hb6,Jd7 (S:=fun k=>k=b) h6 (Jau rfl) fun k hk=>?_,?_⟩
 . obtain rfl:=hk
   exact⟨hlo,JaA hb6 hTS,fun cs fz hc=>hne (JaG hb6 hc)⟩
 . exact((Jaf hbw _).comp (JaP (S:=fun k=>k=b\/v1.ownBlock=some k) hg fun k e=>.inr e) fun k _ h=>h).comp (Jau (S:=fun k=>k=b\/v1.ownBlock=some k) (.inl rfl)) fun k _ h=>h
theorem Jqo(hTS:TS≠50)(hne:TS≠e)(hlo:lo<=b)(hb:w.heap[b]?=some (.cells #[x0,v1,m] TS (0,0)))(hl:Jcz e lo lo w v1 E)(u:Value) :
    w.frozen? ⟨b,0,none⟩=false/\(w.setCell ⟨b,0,none⟩ u).heap[b]?=some (.cells #[u,v1,m] TS (0,0))/\Jcz e lo lo (w.setCell ⟨b,0,none⟩ u) v1 E :=
 ⟨Jak hb,heap_setCell_same w b 0 _ TS u hb,Jd7 (S:=fun k=>k=b) hl (Jau rfl) fun k hk=>by
  obtain rfl:=hk;exact⟨hlo,JaA hb hTS,fun cs fz hc=>hne (JaG hb hc)⟩⟩
end
section
open Go.RowKit Go.Maps
attribute [local go_sem] Oper.semAt_some
variable {lo n b bm : Nat}{w : World}{t : List UInt8}{E : List SE}{M : Told}{l0 : Int}
theorem JhB(a b:Int)(p:Option Addr)(n c:Nat):∀u∈[Value.int .i64 a,.int .i64 b,.slice p n c],u.oneCell'=true:=fun u hu=>by
 simp only[List.mem_cons,List.mem_nil_iff,or_false]at hu
 rcases hu with rfl|rfl|rfl<;>rfl
theorem Jnq(c i:Int)(k:Nat)(v:Value)(ps:List Pt){p:Option Addr}{c1:Nat}(hr:opAt w v ps)(hkl:k<=E.length)(hn:E.length<300)(hc1:E.length<=c1)(S:DoStart lo n w b bm t E M l0 k v ps p c1)(ho:ordE (JaK ps (E.drop k)) t=0)(hz:2000<(Jab (JaK ps (E.drop k)) t).length) :
    Calls Tryz.prog 113 #[.pointer (some ⟨b,0,none⟩),.int .i64 c,.int .i64 i,.int .i64 (k:Int),v] w fun e w'=>e=.returned (errV 12)/\Below w.heap.size w w':=by
 obtain⟨s1,s2,s3,s4,h3⟩:=S;have CS:=hdz s1;have CC:Hid (∀wx,Below w.heap.size w wx->Calls Tryz.prog 92 #[v,.int .i64 (endE l0 (E.take k))] wx fun e w'=>e=.returned .nilIface/\Below wx.heap.size wx w'):=s2;have CT:Hid (Jlf w l0 E k p c1 v ps):=s3;have CA:Hid (JgC w t (JaK ps (E.drop k))):=s4;have hbl:=(alt h3);have x0:w.cell? ⟨b,0,none⟩=some (.string ⟨t.toArray⟩):=chp h3 0;have x1:w.cell? ⟨b,1,none⟩=some (.slice p E.length c1):=chp h3 1;have HB:Hid (b<w.heap.size):=hbl;have X0:Hid (w.cell? ⟨b,0,none⟩=some (.string ⟨t.toArray⟩)):=x0;have X1:Hid (w.cell? ⟨b,1,none⟩=some (.slice p E.length c1)):=x1;unfold Jlf at CT;unfold JgC at CA;rw[if_pos ho,ho,show errV 0=.nilIface from rfl]at CA;have hV:errV 12=.iface 26 (.int .i64 12):=rfl;rw[hV];have hk0:¬(k:Int)<0:=by omega
 have hk1:¬(E.length:Int)<(k:Int):=by omega
 have hk2:¬(300:Int)<=(E.length:Int):=by omega
 have hk3:(k:Int)<=(E.length:Int):=by omega
 obtain⟨pv,cv,rfl,_⟩:=hr;generalize endE l0 (E.take k)=R at *;generalize JaK ps (E.drop k)=q at *;generalize Jab q t=s' at *;have hz1:(ByteArray.mk s'.toArray).size=s'.length:=by simp[ByteArray.size]
 have hz2:(2000:Int)<(s'.length:Int):=by omega
 obtain⟨qn,hqn⟩:∃m,q.length=m:=⟨_,rfl⟩;rw[hqn]at CT;clear h3 s1 s2 s3 s4 ho hbl hV hz
 go_enter Tryz.func113,Tryz.ntmps113
 go_wp2_with (first
  | (go_at_call 177;refine Calls.mono CS.out ?_;rintro e w1 ⟨rfl,hb1⟩;have HB1:=hdz hb1;clear hb1)
  | (go_at_call 92;refine(CC.out _ HB1.out).mono ?_;rintro e w2 ⟨rfl,hb2⟩;have HB2:=hdz (HB1.out.trans (hb2.mono HB1.out.size));have y1:w2.cell? ⟨b,1,none⟩=some (.slice p E.length c1):=(HB2.out.cell (p:=⟨b,1,none⟩) HB.out).trans X1.out;clear hb2)
  | (go_at_call 178;refine(CT.out _ HB2.out).mono ?_;rintro e w3 ⟨p',c',rfl,ho3,hb3⟩;have HO3:Hid (opAt w3 (.slice p' qn c') q):=ho3.1;have HB3:=hdz (HB2.out.trans (hb3.mono HB2.out.size));have y0:w3.cell? ⟨b,0,none⟩=some (.string ⟨t.toArray⟩):=(HB3.out.cell (p:=⟨b,0,none⟩) HB.out).trans X0.out;clear hb3 ho3)
  | (go_at_call 29;refine(CA.out _ _ HB3.out HO3.out).mono ?_;rintro e w4 ⟨rfl,hb4⟩;have HB4:=hdz (HB3.out.trans (hb4.mono HB3.out.size));clear hb4)
  | fail)
 all_goals
  go_ret;exact⟨rfl,HB4.out⟩
theorem Jqu(c i:Int)(k:Nat)(v:Value)(ps:List Pt){p:Option Addr}{c1:Nat}(hr:opAt w v ps)(hkl:k<=E.length)(hn:E.length<300)(hc1:E.length<=c1)(S:DoStart lo n w b bm t E M l0 k v ps p c1)(ho:ordE (JaK ps (E.drop k)) t=0)(hz:(Jab (JaK ps (E.drop k)) t).length<=2000)(hs:Jcc lo n w b bm t E M)(hlg:Jcz 105 lo lo w (.slice p E.length c1) E) :
    Calls Tryz.prog 113 #[.pointer (some ⟨b,0,none⟩),.int .i64 c,.int .i64 i,.int .i64 (k:Int),v] w fun e w'=>e=.returned .nilIface/\Jcc lo n w' b bm (Jab (JaK ps (E.drop k)) t) (E++[⟨c,i,JaK ps (E.drop k)⟩]) M/\sameBut w w' (Jdf lo w bm):=by
 obtain⟨s1,s2,s3,s4,h3⟩:=S;have CS:=hdz s1;have CC:Hid (∀wx,Below w.heap.size w wx->Calls Tryz.prog 92 #[v,.int .i64 (endE l0 (E.take k))] wx fun e w'=>e=.returned .nilIface/\Below wx.heap.size wx w'):=s2;have CT:Hid (Jlf w l0 E k p c1 v ps):=s3;have CA:Hid (JgC w t (JaK ps (E.drop k))):=s4;have hbl:=(alt h3);have x0:w.cell? ⟨b,0,none⟩=some (.string ⟨t.toArray⟩):=chp h3 0;have x1:w.cell? ⟨b,1,none⟩=some (.slice p E.length c1):=chp h3 1;have HB:Hid (b<w.heap.size):=hbl;have X0:Hid (w.cell? ⟨b,0,none⟩=some (.string ⟨t.toArray⟩)):=x0;have X1:Hid (w.cell? ⟨b,1,none⟩=some (.slice p E.length c1)):=x1;unfold Jlf at CT;unfold JgC at CA;rw[if_pos ho,ho,show errV 0=.nilIface from rfl]at CA;have hk0:¬(k:Int)<0:=by omega
 have hk1:¬(E.length:Int)<(k:Int):=by omega
 have hk2:¬(300:Int)<=(E.length:Int):=by omega
 have hk3:(k:Int)<=(E.length:Int):=by omega
 obtain⟨i0,hi,hq0,hq1,hq2⟩:=info_parts Jh8
 have PUSH:Hid (∀(q:List Pt) (s':List UInt8) w4 v',Below w.heap.size w w4->opX lo w4 v' q->w4.frozen? ⟨b,0,none⟩=false/\(w4.setCell ⟨b,0,none⟩ (.string ⟨s'.toArray⟩)).cell? ⟨b,1,none⟩=some (.slice p E.length c1)/\∃vs,vs.length=E.length/\((w4.setCell ⟨b,0,none⟩ (.string ⟨s'.toArray⟩)).alloc (.cells #[.int .i64 c,.int .i64 i,v'] 105)).ownsRow lo 105 3 (.slice p E.length c1) E.length (logC E vs)/\∀w6 v2,w6.ownsRow lo 105 3 v2 (E.length+1) (logC E vs++[.int .i64 c,.int .i64 i,v'])->((w4.setCell ⟨b,0,none⟩ (.string ⟨s'.toArray⟩)).alloc (.cells #[.int .i64 c,.int .i64 i,v'] 105)).grownBy w6 (Value.slice p E.length c1).ownBlock ->
     w6.cell? ⟨b,1,none⟩=some (.slice p E.length c1)/\w6.frozen? ⟨b,1,none⟩=false/\Jcc lo n (w6.setCell ⟨b,1,none⟩ v2) b bm s' (E++[⟨c,i,q⟩]) M/\sameBut w (w6.setCell ⟨b,1,none⟩ v2) (Jdf lo w bm)):=fun q s' w4 v' hb4 hx=>by
  obtain⟨g1,g2,_,g4⟩:=hs;have hb4':w4.heap[b]?=some (.cells #[.string ⟨t.toArray⟩,.slice p E.length c1,.map (some bm)] 196 (0,0)):=(hb4.block b hbl).trans h3;obtain⟨t1,t2,t3⟩:=Jqo (e:=105) (by decide) (by decide) g1 hb4' (Jck hlg hb4) (.string ⟨s'.toArray⟩);obtain⟨vs,u1,u2,u3⟩:=JqI (x:=⟨c,i,q⟩) (vx:=v') (by decide) (by decide) (by decide) g1 t2 t3 (Jb8 hx (Jau (S:=fun k=>k=b) rfl) fun k _ hk=>by obtain rfl:=hk;exact⟨g1,JaA hb4' (by decide)⟩);refine⟨t1,chp t2 1,vs,u1,u2,fun w6 v2 hn6 hg6=>?_⟩;obtain⟨y1,y2,y3,y4,y5⟩:=u3 w6 v2 hn6 hg6;have hS:sameBut w (w6.setCell ⟨b,1,none⟩ v2) (fun k=>k=b\/(Value.slice p E.length c1).ownBlock=some k):=((Jaf hb4 _).comp (Jau (S:=fun k=>k=b\/(Value.slice p E.length c1).ownBlock=some k) (.inl rfl)) fun k _ h=>h).comp y5 fun k _ h=>h
  have hcell:∀k,(k=b\/(Value.slice p E.length c1).ownBlock=some k)->lo<=k/\∃cs T,w.heap[k]?=some (.cells cs T (0,0))/\(T=196\/T=105):=fun k hk=>by
   rcases hk with rfl|hk
   . exact⟨g1,_,_,h3,.inl rfl⟩
   . obtain⟨a1,_,cs,a2⟩:=Jfn hlg hk
     exact⟨a1,cs,_,a2,.inr rfl⟩
  refine⟨y1,y2,⟨g1,g2,⟨v2,y3,y4⟩,JcR g4 hS fun hk=>?_⟩,hS.mono fun k _ hk=>⟨(hcell k hk).1,.inr (hcell k hk).2⟩⟩;obtain⟨_,cs,T,hc,_⟩:=hcell bm hk;exact Jby g4 _ _ _ hc
 obtain⟨pv,cv,rfl,_⟩:=hr;generalize endE l0 (E.take k)=R at *;generalize JaK ps (E.drop k)=q at *;generalize Jab q t=s' at *;have hz1:(ByteArray.mk s'.toArray).size=s'.length:=by simp[ByteArray.size]
 have hz2:¬(2000:Int)<(s'.length:Int):=by omega
 obtain⟨qn,hqn⟩:∃m,q.length=m:=⟨_,rfl⟩;rw[hqn]at CT;have HLO:Hid (lo<=b):=hs.1;clear h3 s1 s2 s3 s4 ho hbl hz hs hlg
 go_enter Tryz.func113,Tryz.ntmps113
 go_wp2_with (first
  | (go_at_call 177;refine Calls.mono CS.out ?_;rintro e w1 ⟨rfl,hb1⟩;have HB1:=hdz hb1;clear hb1)
  | (go_at_call 92;refine(CC.out _ HB1.out).mono ?_;rintro e w2 ⟨rfl,hb2⟩;have HB2:=hdz (HB1.out.trans (hb2.mono HB1.out.size));have y1:w2.cell? ⟨b,1,none⟩=some (.slice p E.length c1):=(HB2.out.cell (p:=⟨b,1,none⟩) HB.out).trans X1.out;clear hb2)
  | (go_at_call 178;refine(CT.out _ HB2.out).mono ?_;rintro e w3 ⟨p',c',rfl,ho3,hb3⟩;have HO3:Hid (opAt w3 (.slice p' qn c') q):=ho3.1;have HX3:Hid (opX lo w3 (.slice p' qn c') q):=JbF ho3;have HB3:=hdz (HB2.out.trans (hb3.mono HB2.out.size));have y0:w3.cell? ⟨b,0,none⟩=some (.string ⟨t.toArray⟩):=(HB3.out.cell (p:=⟨b,0,none⟩) HB.out).trans X0.out;clear hb3 ho3)
  | (go_at_call 29;refine(CA.out _ _ HB3.out HO3.out).mono ?_;rintro e w4 ⟨rfl,hb4⟩;have HB4:=hdz (HB3.out.trans (hb4.mono HB3.out.size));obtain⟨zf,z1,vs,z2,z3,z4⟩:=PUSH.out q s' w4 _ HB4.out (Ja5 HX3.out hb4);have Z3:=hdz z3;have Z4:=hdz z4;have z0:w4.cell? ⟨b,0,none⟩=some (.string ⟨t.toArray⟩):=(HB4.out.cell (p:=⟨b,0,none⟩) HB.out).trans X0.out;have HLS:Hid (lo<=b/\b<w4.heap.size):=⟨HLO.out,Nat.lt_of_lt_of_le HB.out HB4.out.size⟩;clear hb4 z3 z4)
  | (at_builtin;refine wpList_append_own _ rfl _ _ 87 rfl lo 105 i0 (.agg #[.int .i64 0,.int .i64 0,.slice none 0 0]) 3 40 Tryz.underlying87 hi hq0 hq1 hq2 rfl (by decide) _ _ _ rfl Z3.out ⟨w4.heap.size,0,none⟩ 1 1 [.int .i64 c,.int .i64 i,.slice p' qn c'] rfl rfl (JdZ _ _ (by first | rfl | simp) _ _) (JhB _ _ _ _ _) (by unfold maxLen;omega) (by omega) (by have:=HLS.out;simp;omega) ?_)
  | fail)
 all_goals
  intro v2 w6 hown' hg' _
  have hg2:((w4.setCell ⟨b,0,none⟩ (.string ⟨s'.toArray⟩)).alloc (.cells #[.int .i64 c,.int .i64 i,.slice p' qn c'] 105)).grownBy w6 (Value.slice p E.length c1).ownBlock:=by
   first
    | exact hg'
    | (have e:c1=k:=by assumption
       rw[e];exact hg')
  obtain⟨y1,y2,y3,y4⟩:=Z4.out w6 v2 hown' hg2;have Y3:=hdz y3;have Y4:=hdz y4;obtain⟨p6,c6,rfl⟩:=Jad hown';clear hown' hg' hg2 y3 y4;go_wp2;go_ret;exact⟨rfl,Y3.out,Y4.out⟩
end
section
open Go.RowKit Go.Maps
attribute [local go_sem] Oper.semAt_some
variable {lo n b bm : Nat}{w : World}{t : List UInt8}{E : List SE}{M : Told}
theorem JoD(h:Jcc lo n w b bm t E M){l0:Int}(hk:okS l0 t E)(c i rev:Int)(v:Value)(ps:List Pt)(hT:Lib.Utf8Tabs 2 3 w)(hr:opAt w v ps)(hwf:∀p∈ps,wfP p)(hl:ps.length<=1000000)(hpu:Jan ps<=40000)(hn:E.length<=300) :
    Calls Tryz.prog 113 #[.pointer (some ⟨b,0,none⟩),.int .i64 c,.int .i64 i,.int .i64 rev,v] w fun e w'=>e=.returned (errV (doE l0 t E rev ps))/\Jcc lo n w' b bm (doT l0 t E rev ps) (doL l0 t E c i rev ps) M/\sameBut w w' (Jdf lo w bm):=by
 by_cases h1:rev<0\/(E.length:Int)<rev
 . have hd:doE l0 t E rev ps=2:=if_pos h1
   refine(Jlx h c i rev v h1).mono ?_
   rintro e w' ⟨rfl,hb⟩;exact⟨by rw[hd],JhC h hb (by rw[hd];decide)⟩
 . obtain ⟨k,rfl⟩:∃k:Nat,rev=(k:Int):=⟨rev.toNat,by omega⟩
   have hkl:k<=E.length:=by omega
   have ek:((k:Int)).toNat=k:=rfl
   by_cases hfull:300<=E.length
   . have hd:doE l0 t E k ps=4:=by
       unfold doE;rw[if_neg h1,if_pos hfull]
     refine(JoC h c i k v hkl hfull (by omega)).mono ?_
     rintro e w' ⟨rfl,hb⟩;exact⟨by rw[hd],JhC h hb (by rw[hd];decide)⟩
   have e2:¬(300<=E.length):=hfull;have hn:E.length<300:=by omega
   by_cases hc:chkE ps (endE l0 (E.take k))=0
   . obtain ⟨p,c1,S,hlg⟩:=Jri h hk k v ps hT hr hwf hl hpu hkl hn hc
     have hc1:E.length<=c1:=(JgU hlg).2.1
     by_cases ho:ordE (JaK ps (E.drop k)) t=0
     . by_cases hz:2000<(Jab (JaK ps (E.drop k)) t).length
       . have hd:doE l0 t E k ps=12:=by
           unfold doE;rw[if_neg h1,if_neg e2,ek,if_neg (by rw[hc];decide),if_neg (by rw[ho];decide),if_pos hz]
         refine(Jnq c i k v ps hr hkl hn hc1 S ho hz).mono ?_
         rintro e w' ⟨rfl,hb⟩;exact⟨by rw[hd],JhC h hb (by rw[hd];decide)⟩
       . have hd:doE l0 t E k ps=0:=by
           unfold doE;rw[if_neg h1,if_neg e2,ek,if_neg (by rw[hc];decide),if_neg (by rw[ho];decide),if_neg hz]
         refine(Jqu c i k v ps hr hkl hn hc1 S ho (by omega) h hlg).mono ?_
         rintro e w' ⟨rfl,ha,hb⟩;refine⟨by rw[hd];rfl,?_,hb⟩;unfold doT doL;rw[if_pos hd,if_pos hd];exact ha
     . have hd:doE l0 t E k ps=ordE (JaK ps (E.drop k)) t:=by
         unfold doE;rw[if_neg h1,if_neg e2,ek,if_neg (by rw[hc];decide),if_pos ho]
       refine(Jlz c i k v ps hr hkl hn hc1 S ho).mono ?_
       rintro e w' ⟨rfl,hb⟩;exact⟨by rw[hd],JhC h hb (by rw[hd];exact ho)⟩
   . have hd:doE l0 t E k ps=chkE ps (endE l0 (E.take k)):=by
       unfold doE;rw[if_neg h1,if_neg e2,ek,if_pos hc]
     refine(Jly h hk c i k v ps hT hr hwf hl hkl hn hc).mono ?_
     rintro e w' ⟨rfl,hb⟩;exact⟨by rw[hd],JhC h hb (by rw[hd];exact hc)⟩
theorem Jhk(n:Int)(w:World)(hg:JcM w):Calls Tryz.prog 27 #[errV n] w fun e w'=>e=.returned (.int .i64 n)/\Below w.heap.size w w':=by
 unfold errV
 by_cases h:n=0
 . subst h
   rw[if_pos rfl];refine(JrB w).mono ?_
   rintro e w' ⟨rfl,rfl⟩;exact⟨rfl,brf _ _⟩
 . rw[if_neg h]
   exact Jmv n w hg
theorem Jnp(bm:Nat)(w:World):(binOp .eql 194 (.map (some bm)) (.map none)).run Tryz.prog w=.ok (.bool false) w:=by kernel_rfl
attribute [local go_sem] Jnp
theorem Jlt(h:Jcc lo n w b bm t E M)(c i rev:Int)(hc:rng c)(v:Value)(hi:i<=(got M c).1) :
    Calls Tryz.prog 38 #[.pointer (some ⟨b,0,none⟩),.int .i64 c,.int .i64 i,.int .i64 rev,v] w fun e w'=>e=.returned (errV (if i<(got M c).1 then 8 else (got M c).2))/\Below w.heap.size w w':=by
 obtain⟨_,_,⟨v1,h3,h4⟩,h5⟩:=h;have x2:w.cell? ⟨b,2,none⟩=some (.map (some bm)):=chp h3 2;have L:Hid _:=Jh3 h5 (t:=194) Tryz.underlying194 (Jm0 w) hc;obtain⟨gp,hgp⟩:∃x,got M c=x:=⟨_,rfl⟩;rw[hgp]at hi L ⊢;obtain⟨g1,g2⟩:=gp;simp only at hi L ⊢;clear h3 h4 h5
 by_cases h1:i<g1
 . rw[if_pos h1,show errV 8=.iface 26 (.int .i64 8) from rfl]
   go_enter Tryz.func38,Tryz.ntmps38
   go_wp2_with (first | (rw[L.out]) | fail)
   go_ret;exact⟨rfl,(brf _ _).alloc (nlr _) _⟩
 . rw [if_neg h1]
   have h2:¬g1<i:=by omega
   by_cases hz:g2=0
   . subst hz
     rw[show errV 0=.nilIface from rfl]
     go_enter Tryz.func38,Tryz.ntmps38
     go_wp2_with (first | (rw[L.out]) | fail)
     go_ret;exact⟨rfl,(brf _ _).alloc (nlr _) _⟩
   . rw[JhA hz]
     have hz2:(g2==0)=false:=by simpa using hz
     go_enter Tryz.func38,Tryz.ntmps38
     go_wp2_with (first | (rw[L.out]) | fail)
     go_ret;exact⟨rfl,(brf _ _).alloc (nlr _) _⟩
theorem Jeq{lo n:Nat}{w w':World}{b bm:Nat}{t:List UInt8}{E:List SE}{M:Told}{S:Nat->Prop}(h:Jcc lo n w b bm t E M)(hs:sameBut w w' S)(hS:∀k,k<w.heap.size->S k->lo<=k/\∃cs T fz,w.heap[k]?=some (.cells cs T fz)/\T≠50/\T≠196/\T≠105):Jcc lo n w' b bm t E M:=by
 obtain⟨h1,h2,⟨v1,h3,h4⟩,h5⟩:=h;have hs':sameBut w w' (fun k=>k<w.heap.size/\S k):=⟨hs.1,fun k hk hn=>hs.2 k hk fun e=>hn ⟨hk,e⟩,hs.os,hs.tape,hs.output⟩;refine⟨h1,h2,⟨v1,(hs'.2 b (alt h3) fun hk=>?_).trans h3,Jd7 h4 hs' fun k hk=>?_⟩,JcR h5 hs' fun hk=>?_⟩
 . obtain⟨_,cs,T,fz,hc,_,t2,_⟩:=hS b hk.1 hk.2
   exact t2 (JaG h3 hc).symm
 . obtain⟨a,cs,T,fz,hc,t1,_,t3⟩:=hS k hk.1 hk.2
   exact⟨a,JaA hc t1,fun cs' fz' hc'=>t3 (JaG hc hc')⟩
 . obtain⟨_,cs,T,fz,hc,_⟩:=hS bm hk.1 hk.2
   exact Jby h5 _ _ _ hc
theorem JhL{w w':World}{S:Nat->Prop}(h:JcM w)(hs:sameBut w w' S)(hS:¬S 0):JcM w':=JdC hs h hS
theorem Jfy{w w':World}{S:Nat->Prop}(h:Lib.Utf8Tabs 2 3 w)(hs:sameBut w w' S)(h1:¬S 2)(h2:¬S 3):Lib.Utf8Tabs 2 3 w' :=
 ⟨fun c hc=>JdC hs (h.1 c hc) h1,fun i hi=>⟨JdC hs (h.2 i hi).1 h2,JdC hs (h.2 i hi).2 h2⟩⟩
theorem Jlu(h:Jcc lo n w b bm t E M){l0:Int}(hk:okS l0 t E)(c i rev:Int)(hc:rng c)(v:Value)(ps:List Pt)(hg:JcM w)(hG:0<lo)(hT:Lib.Utf8Tabs 2 3 w)(hr:opAt w v ps)(hwf:∀p∈ps,wfP p)(hl:ps.length<=1000000)(hpu:Jan ps<=40000)(hn:E.length<=300)(hnn:n<1000000000)(hi:(got M c).1<i) :
    Calls Tryz.prog 38 #[.pointer (some ⟨b,0,none⟩),.int .i64 c,.int .i64 i,.int .i64 rev,v] w fun e w'=>e=.returned (errV (doE l0 t E rev ps))/\Jcc lo (n+1) w' b bm (doT l0 t E rev ps) (doL l0 t E c i rev ps) (upd M c (i,doE l0 t E rev ps))/\sameBut w w' (Jdf lo w bm):=by
 have CD:Hid (∀wx,Below w.heap.size w wx->Calls Tryz.prog 113 #[.pointer (some ⟨b,0,none⟩),.int .i64 c,.int .i64 i,.int .i64 rev,v] wx fun e w'=>e=.returned (errV (doE l0 t E rev ps))/\Jcc lo n w' b bm (doT l0 t E rev ps) (doL l0 t E c i rev ps) M/\sameBut wx w' (Jdf lo wx bm)):=fun wx hb =>
  JoD (JbO h hb) hk c i rev v ps (Go.Proofs.Utf8Tabs_below hT hb) (Ja6 hr hb (nlr _)) hwf hl hpu hn
 have HG:Hid (JcM w/\0<lo):=⟨hg,hG⟩;have hsh:∃p c,v=.slice p ps.length c:=by obtain⟨p,c,e,_⟩:=hr;exact⟨p,c,e⟩
 obtain⟨pv,cv,rfl⟩:=hsh;obtain⟨hlo,_,⟨v1,h3,h4⟩,h5⟩:=h;have x2:w.cell? ⟨b,2,none⟩=some (.map (some bm)):=chp h3 2;have L:Hid _:=Jh3 h5 (t:=194) Tryz.underlying194 (Jm0 w) hc;have HLS:Hid (lo<=w.heap.size):=Nat.le_of_lt (Nat.lt_of_le_of_lt hlo (alt h3));have HC:Hid (rng c):=hc;obtain⟨gp,hgp⟩:∃x,got M c=x:=⟨_,rfl⟩;rw[hgp]at hi L;obtain⟨g1,g2⟩:=gp;simp only at hi L;have hi2:¬i<g1:=by omega
 obtain⟨β,hβ⟩:∃β,w.heap.size=β:=⟨_,rfl⟩;have HBT:Hid (w.heap.size=β):=hβ;generalize hd:doE l0 t E rev ps=d at *;generalize doT l0 t E rev ps=t' at *;generalize doL l0 t E c i rev ps=E' at *;have hbβ:b≠β:=fun e=>Nat.lt_irrefl _ (by have:=(alt h3);rw[hβ,←e]at this;exact this)
 have BOX:Hid (∀w1 w2,sameBut (w.alloc (.cells #[.int .i64 g1,.int .i64 g2] 198)) w1 (Jdf lo (w.alloc (.cells #[.int .i64 g1,.int .i64 g2] 198)) bm)->Jcc lo n w1 b bm t' E' M->Below w1.heap.size w1 w2->w2.heap[β]?=some (.cells #[.int .i64 g1,.int .i64 g2] 198 (0,0))/\w2.cell? ⟨b,2,none⟩=some (.map (some bm))/\Jcc lo n w2 b bm t' E' M/\sameBut w w2 (Jdf lo w bm)):=fun w1 w2 hs1 hi1 hb2=>by
  have hal:=heap_alloc_new w (.cells #[.int .i64 g1,.int .i64 g2] 198);have hbw:Below w.heap.size w (w.alloc (.cells #[.int .i64 g1,.int .i64 g2] 198)):=(brf _ _).alloc (nlr _) _;have hi2:=JbO hi1 hb2
  have hb1:w1.heap[β]?=some (.cells #[.int .i64 g1,.int .i64 g2] 198 (0,0)):=by
   rw[←hβ];refine(hs1.2 _ (by simp) fun hk=>?_).trans hal
   rcases hk.2 with e|⟨cs,T,hc,ht⟩
   . exact Jby (JcR (S:=fun _=>False) h5 (Jaf hbw _) id) _ _ _ (e ▸ hal)
   . have:=JaG hal hc
     subst this;revert ht;decide
  obtain⟨_,_,⟨v2,e3,_⟩,_⟩:=id hi2;refine⟨(hb2.block β (alt hb1)).trans hb1,chp e3 2,hi2,?_⟩;refine((Jaf hbw (Jdf lo w bm)).comp hs1 fun k hk hS=>⟨hS.1,hS.2.imp id fun ⟨cs,T,hc,ht⟩=>⟨cs,T,(hbw.block k hk).symm.trans hc,ht⟩⟩).comp (Jaf hb2 (fun _=>False)) fun _ _ h=>h.elim
 clear h3 h4 h5 hgp hk hg hG hT hr hwf hl hpu hn hc hlo
 go_enter Tryz.func38,Tryz.ntmps38
 go_wp2_with (first
  | (rw[L.out])
  | (go_at_call 113;refine(CD.out _ ((brf _ _).alloc (nlr _) _)).mono ?_;rintro e w1 ⟨rfl,hs1,hb1⟩;have HS1:=hdz hs1;have HB1:=hdz hb1;have HGW:Hid (JcM w1):=JhL (JeH HG.out.1 ((brf _ _).alloc (nlr _) _)) hb1 (fun hk=>absurd hk.1 (Nat.not_le.2 HG.out.2));clear hs1 hb1)
  | (go_at_call 27;refine(Jhk d _ HGW.out).mono ?_;rintro e w2 ⟨rfl,hb2⟩;obtain⟨b1,b2,b3,b4⟩:=BOX.out _ w2 HB1.out HS1.out hb2;have B1:=hdz b1;have B3:=hdz b3;have B4:=hdz b4;have x0:w2.cell? ⟨β,0,none⟩=some (.int .i64 g1):=chp b1 0;have x1:w2.cell? ⟨β,1,none⟩=some (.int .i64 g2):=chp b1 1;have f0:w2.frozen? ⟨β,0,none⟩=false:=Jak b1;have f1:w2.frozen? ⟨β,1,none⟩=false:=Jak b1;clear hb2 b1 b3 b4)
  | fail)
 obtain⟨W,hW⟩:∃W,W=(w2.setCell ⟨β,0,none⟩ (.int .i64 i)).setCell ⟨β,1,none⟩ (.int .i64 d):=⟨_,rfl⟩;have W3:W.heap[β]?=some (.cells #[.int .i64 i,.int .i64 d] 198 (0,0)):=by
  rw[hW];exact heap_setCell_same _ β 1 _ _ _ (heap_setCell_same _ β 0 _ _ _ B1.out)
 have hsW:sameBut w2 W (fun k=>k=β):=by rw[hW];exact(Jau (S:=fun k=>k=β) rfl).trans (Jau (S:=fun k=>k=β) rfl)
 have hloβ:lo<=β:=HBT.out ▸ HLS.out;have HW:Hid (Jcc lo n W b bm t' E' M):=Jeq B3.out hsW fun k _ hk=>by
  obtain rfl:=hk;exact⟨hloβ,_,_,_,B1.out,by decide,by decide,by decide⟩
 rw[←hW];have HSW:Hid (sameBut w W (Jdf lo w bm)):=sameBut.comp B4.out hsW fun k hk e=>by
  have:=HBT.out;omega
 have Y:∃v1,W.heap[b]?=some (.cells #[.string ⟨t'.toArray⟩,v1,.map (some bm)] 196 (0,0)):=by
  obtain⟨_,_,⟨v1,e3,_⟩,_⟩:=HW.out;exact⟨v1,e3⟩
 obtain⟨v3,hY⟩:=Y;have y2:W.cell? ⟨b,2,none⟩=some (.map (some bm)):=chp hY 2;have z0:W.cell? ⟨β,0,none⟩=some (.int .i64 i):=chp W3 0;have z1:W.cell? ⟨β,1,none⟩=some (.int .i64 d):=chp W3 1;have hLd:JdV n W.drew bm M:=HW.out.2.2.2;obtain⟨w5,hput,hl5,ht5⟩:=JnE hLd (by omega) (t:=194) Tryz.underlying194 HC.out i d;have hs5:sameBut W w5 (fun k=>k=bm):=have h:sameBut W.drew w5 (fun k=>k=bm):=Jll (w:=W.drew) ht5 rfl;⟨h.1,h.2,h.os,h.tape,h.output⟩;have hβm:β≠bm:=fun e=>Jby HW.out.2.2.2 _ _ _ (e ▸ W3)
 have W5:w5.heap[β]?=some (.cells #[.int .i64 i,.int .i64 d] 198 (0,0)):=(hs5.2 β (alt W3) hβm).trans W3;have u1:w5.cell? ⟨β,1,none⟩=some (.int .i64 d):=chp W5 1;have FIN:Hid (Jcc lo (n+1) w5 b bm t' E' (upd M c (i,d))/\sameBut w w5 (Jdf lo w bm)):=by
  obtain⟨e1,e2,⟨v4,e3,e4⟩,e5⟩:=HW.out;refine⟨⟨e1,e2,⟨v4,(hs5.2 b (alt e3) fun e=>Jby e5 _ _ _ (e ▸ e3)).trans e3,Jd7 e4 hs5 fun k hk=>?_⟩,hl5⟩,sameBut.comp HSW.out hs5 fun k _ hk=>by obtain rfl:=hk;exact⟨e2,.inl rfl⟩⟩;obtain rfl:=hk;exact⟨e2,fun cs fz=>Jby e5 _ _ _,fun cs fz=>Jby e5 _ _ _⟩
 have HPUT:=hdz hput;clear hW W3 hsW hLd hput hl5 ht5 hs5 W5 hY x0 x1 f0 f1 b2
 by_cases hz:d=0
 . subst hz
   rw[show errV 0=.nilIface from rfl]at *
   go_region_with (first | (rw[HPUT.out]) | fail)
   all_goals
    go_wp2;go_ret;exact⟨rfl,FIN.out⟩
 . have hz2:(d==0)=false:=by simpa using hz
   go_region_with (first | (rw[HPUT.out]) | fail)
   all_goals
    go_wp2;go_ret;refine⟨?_,FIN.out⟩
    first | rfl | (rw[JhA hz];rfl)
end
end Go.Proofs.YtedgnlgjmnccgabGreatDoor
