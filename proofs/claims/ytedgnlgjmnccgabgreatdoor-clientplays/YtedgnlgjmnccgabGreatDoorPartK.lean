/-
  A part of the texts that the proof uses.
-/
import Derived.Test.YtedgnlgjmnccgabGreatDoorPartJ
import Derived.Test.YtedgnlgjmnccgabGreatDoorPartH
import Derived.Test.YtedgnlgjmnccgabGreatDoorPartC
import Derived.Test.YtedgnlgjmnccgabGreatDoorPartG
import Derived.Test.YtedgnlgjmnccgabGreatDoorPartA
import Derived.Lib.SmallJoins
import Derived.Test.YtedgnlgjmnccgabGreatDoorProg
import Derived.Deep.QuietTactic
import Derived.BigQuiet
import Derived.Deep.CutBlock
import Derived.Deep.CutRange
import Derived.Laws.OwnMore
import Derived.Test.YtedgnlgjmnccgabGreatDoorPartI
set_option maxRecDepth 100000
set_option maxHeartbeats 40000000
set_option linter.unusedVariables false
namespace Go.Proofs.YtedgnlgjmnccgabGreatDoor
section
open Go.RowKit Go.Maps
theorem JoD{lo:Nat}{w:World}{y:Nat}{who u:Int}{S:Cl}(h:isRc lo w y who u S)(hk:okK 2000 S)(rev c i:Int)(v:Value)(x:List Pt)(hx:opX lo w v x)(hwf:∀p∈x,wfP p)(hpu:Jal x<=400000)(hl:x.length<=1000000)(hsz:S.seen.length<=100000)(hid:0<=S.id/\S.id<=1000000)(hrv:0<=S.rev/\S.rev<=1000000) :
    Calls Tryz.prog 50 #[.pointer (some ⟨y,0,none⟩),.int .i64 rev,.agg #[.int .i64 c,.int .i64 i,v]] w fun e w'=>e=.returned (.int .i64 (tkE who S rev c i x))/\isRc lo w' y who u (tkS who S rev c i x)/\sameBut w w' fun k=>k=y:=by
 by_cases hr:rev=S.rev
 case neg =>
  have e1:tkE who S rev c i x=0:=if_pos hr;have e2:tkS who S rev c i x=S:=if_pos (.inl hr);rw[e1,e2];exact(JoB h rev c i v x hx hr).mono fun e w' ⟨h1,h2⟩=>⟨h1,JdP h h2⟩
 subst hr
 by_cases ho:ordE x S.seen=0
 case neg =>
  have e1:tkE who S S.rev c i x=15:=by unfold tkE;rw[if_neg (by simp),if_pos ho]
  have e2:tkS who S S.rev c i x=S:=if_pos (.inr (by rw[e1];decide));rw[e1,e2];exact(JoC h c i v x hx hwf hpu hl hsz ho).mono fun e w' ⟨h1,h2⟩=>⟨h1,JdP h h2⟩
 have hsp:S.seen.length+Jal x<=500000:=by omega
 have htw:=hk.two
 by_cases hw:Jl5 who S c i
 case pos =>
  by_cases hd:Jaa (JbP S) S.seen=Jaa x S.seen
  . have e1:tkE who S S.rev c i x=0:=by unfold tkE;rw[if_neg (by simp),if_neg (by simpa using ho),if_neg fun e=>e.2 hd]
    have e2:tkS who S S.rev c i x = { S with seen:=Jaa x S.seen,rev:=S.rev+1,mine:=S.mine.tail,id:=if S.mine.tail≠[] then S.id+1 else S.id }:=by unfold tkS;rw[if_neg (by rw[e1];simp),if_pos hw]
    rw[e1,e2];obtain⟨hm,rfl,rfl⟩:=hw
    rcases hms:S.mine with _|⟨m1,_|⟨m2,_|⟨m3,ms⟩⟩⟩
    . exact absurd hms hm
    . rw[←hms];exact Jm3 h hk v x hx hsp hrv ho hm hms hid hd
    . rw[←hms];exact Jm2 h hk v x hx hsp hrv ho hm hms hid hd
    . rw[hms]at htw;simp at htw
  . have e1:tkE who S S.rev c i x=15:=by unfold tkE;rw[if_neg (by simp),if_neg (by simpa using ho),if_pos ⟨hw,hd⟩]
    have e2:tkS who S S.rev c i x=S:=if_pos (.inr (by rw[e1];decide));rw[e1,e2];obtain⟨hm,rfl,rfl⟩:=hw;exact(Jm4 h hk v x hx hsp hrv ho hm hd).mono fun e w' ⟨h1,h2⟩=>⟨h1,JdP h h2⟩
 case neg =>
  have e1:tkE who S S.rev c i x=0:=by unfold tkE;rw[if_neg (by simp),if_neg (by simpa using ho),if_neg fun e=>hw e.1]
  have e2:tkS who S S.rev c i x = { S with seen:=Jaa x S.seen,rev:=S.rev+1,mine:=(Jbl S.mine x).1,doc:=Jaa (Jbl S.mine x).2 S.doc }:=by unfold tkS;rw[if_neg (by rw[e1];simp),if_neg hw]
  rw[e1,e2]
  rcases hms:S.mine with _|⟨m1,_|⟨m2,_|⟨m3,ms⟩⟩⟩
  . rw[←hms];exact Jql h hk c i v x hx hsp hrv ho hms
  . rw[←hms]
    exact Jqk h hk c i v x hx hsp hrv ho hms (Decidable.or_iff_not_imp_left.2 fun hc hi=>hw ⟨by rw[hms];simp,Decidable.not_not.1 hc,hi⟩)
  . rw[←hms]
    exact Jqj h hk c i v x hx hsp hrv ho hms (Decidable.or_iff_not_imp_left.2 fun hc hi=>hw ⟨by rw[hms];simp,Decidable.not_not.1 hc,hi⟩)
  . rw[hms]at htw;simp at htw
end
section
open Go.RowKit Go.Maps
attribute [local go_sem] Oper.semAt_some
structure okD (l0:Int) (t:List UInt8) (E:List SE) (D:List (List UInt8)):Prop where
 len:D.length=E.length+1
 at_:∀k,k<=E.length->∃d,D[k]?=some d/\(d.length:Int)=endE l0 (E.take k)
 last:D[E.length]?=some t
def doD (l0:Int) (t:List UInt8) (E:List SE) (D:List (List UInt8)) (rev:Int) (ps:List Pt):List (List UInt8):=if doE l0 t E rev ps=0 then D++[Jaa (Jel ps (E.drop rev.toNat)) t] else D
theorem Jsd{l0:Int}{t:List UInt8}{E:List SE}{D:List (List UInt8)}(h:okS l0 t E)(hD:okD l0 t E D){ps:List Pt}{c i rev:Int}(hp:Jal ps<=40000):okS l0 (doT l0 t E rev ps) (doL l0 t E c i rev ps)/\okD l0 (doT l0 t E rev ps) (doL l0 t E c i rev ps) (doD l0 t E D rev ps):=by
 unfold doT doL doD
 by_cases hd:doE l0 t E rev ps=0
 . rw [if_pos hd,if_pos hd,if_pos hd]
   have hn:=do_next (c:=c) (i:=i) h hp hd;refine⟨hn,⟨by simp[hD.len],fun k hk=>?_,?_⟩⟩
   . rw [List.length_append,List.length_singleton]at hk
     rcases Nat.lt_or_ge k (E.length+1) with hlt|hge
     . obtain⟨d,h1,h2⟩:=hD.at_ k (by omega)
       refine⟨d,by rw[List.getElem?_append_left (by rw[hD.len];exact hlt)];exact h1,?_⟩;rw[List.take_append_of_le_length (by omega)];exact h2
     . obtain rfl:k=E.length+1:=by omega
       refine⟨_,by rw[List.getElem?_append_right (by rw[hD.len];exact nlr _),hD.len,Nat.sub_self];rfl,?_⟩;have e:(E++[(⟨c,i,Jel ps (E.drop rev.toNat)⟩:SE)]).take (E.length+1)=E++[⟨c,i,Jel ps (E.drop rev.toNat)⟩]:=List.take_of_length_le (by simp);rw[e];exact hn.last.symm
   . rw[List.length_append,List.length_singleton,List.getElem?_append_right (by rw[hD.len];exact nlr _),hD.len,Nat.sub_self]
     rfl
 . rw[if_neg hd,if_neg hd,if_neg hd]
   exact⟨h,hD⟩
end
section
open Go.RowKit Go.Maps
variable {l0 : Int}{t : List UInt8}{E : List SE}{D : List (List UInt8)}
abbrev JiC (M:Told) (c i:Int):Prop:=i<=(got M c).1
def stE (l0:Int) (t:List UInt8) (E:List SE) (M:Told) (c i rev:Int) (ps:List Pt):Int:=if JiC M c i then (if i<(got M c).1 then 8 else (got M c).2) else doE l0 t E rev ps
def stT (l0:Int) (t:List UInt8) (E:List SE) (M:Told) (c i rev:Int) (ps:List Pt):List UInt8:=if JiC M c i then t else doT l0 t E rev ps
def stL (l0:Int) (t:List UInt8) (E:List SE) (M:Told) (c i rev:Int) (ps:List Pt):List SE:=if JiC M c i then E else doL l0 t E c i rev ps
def stM (l0:Int) (t:List UInt8) (E:List SE) (M:Told) (c i rev:Int) (ps:List Pt):Told:=if JiC M c i then M else upd M c (i,doE l0 t E rev ps)
def stD (l0:Int) (t:List UInt8) (E:List SE) (D:List (List UInt8)) (M:Told) (c i rev:Int) (ps:List Pt):List (List UInt8):=if JiC M c i then D else doD l0 t E D rev ps
theorem st_next(h:okS l0 t E)(hD:okD l0 t E D){M:Told}{ps:List Pt}{c i rev:Int}(hp:Jal ps<=40000):okS l0 (stT l0 t E M c i rev ps) (stL l0 t E M c i rev ps)/\okD l0 (stT l0 t E M c i rev ps) (stL l0 t E M c i rev ps) (stD l0 t E D M c i rev ps)/\(stL l0 t E M c i rev ps).length<=E.length+1:=by
 unfold stT stL stD
 by_cases ho:JiC M c i
 . rw[if_pos ho,if_pos ho,if_pos ho]
   exact⟨h,hD,Nat.le_succ _⟩
 . rw[if_neg ho,if_neg ho,if_neg ho]
   obtain⟨k1,k2⟩:=Jsd (c:=c) (i:=i) (rev:=rev) h hD hp;refine⟨k1,k2,?_⟩;unfold doL
   split
   . simp
   . omega
structure Both (lo n:Nat) (w:World) (bx bmx by_ bmy:Nat) (l0:Int) (t:List UInt8) (E:List SE) (D:List (List UInt8)) (M:Told):Prop where
 srv:Jsq lo n w bx bmx t E M
 ref:isRef lo n w by_ bmy D E M
 apart:bmx≠bmy
 ok:okS l0 t E
 docs:okD l0 t E D
 few:E.length<=n
theorem Both.below{lo n:Nat}{w w':World}{bx bmx by_ bmy:Nat}{M:Told}(h:Both lo n w bx bmx by_ bmy l0 t E D M)(hb:Below w.heap.size w w'):Both lo n w' bx bmx by_ bmy l0 t E D M :=
 ⟨JmL h.srv hb,JmN h.ref hb,h.apart,h.ok,h.docs,h.few⟩
end
section
open Go.RowKit Go.Deep Go.ChangeShapes Go.WideShapes Go.Joins
structure Sa where
 a:Int
 b:Int
 c:Int
 op:List Pt
def JqC (c:Int):Prop:=-9223372036854775808<=c/\c<9223372036854775808
def JjI (q:Sa):Prop:=(JqC q.a/\JqC q.b/\JqC q.c)/\JpX q.op
def sayIn (w:World) (b o:Nat) (q:Sa):Prop:=w.cell? ⟨b,o,none⟩=some (.int .i64 q.a)/\w.cell? ⟨b,o+1,none⟩=some (.int .i64 q.b)/\w.cell? ⟨b,o+2,none⟩=some (.int .i64 q.c)/\∃v',w.cell? ⟨b,o+3,none⟩=some v'/\opAt w v' q.op
def JhJ (w:World) (v:Value) (l:List Sa):Prop:=∃p c,v=.slice p l.length c/\l.length<=c/\c<=maxLen/\(l≠[]->∃b o,p=some ⟨b,o,none⟩/\b<w.heap.size/\∀i q,l[i]?=some q->sayIn w b (o+i*4) q)
theorem JlW:Tryz.prog.cellsOf 3=1:=by kernel_rfl
theorem Jkt:Tryz.prog.cellsOf 100=4:=by kernel_rfl
theorem JmA{H:Type}{enc:TypeId×Value->H}{W:World}{base:Nat}{sp:Nat->Bool}{held:Bool}{n:Nat}{a:Addr}{cs:List Value}{y:DataW H×List MemPlace}
    (h1:W.cells? base a 4=some cs) (h2:DataW.trod enc Tryz.prog W base sp held n 100 cs=some y) :
    ∃q:Sa,a.spot=none/\sayIn W a.block a.off q/\JjI q:=by
 obtain⟨_,hlen,hcell⟩:=World.cells?_some h1;obtain⟨y0,y1,y2,y3,m,rfl,_,t0,t1,t2,t3⟩:=trod_struct4 Tryz.underlying100 h2;rw[JlW]at t0 t1 t2;rw[Jpn]at t3
 match cs,hlen with
 | [c0,c1,c2,c3],_ =>
  simp only[List.drop_zero,List.take_succ_cons,List.take_zero,List.drop_succ_cons]at t0 t1 t2 t3;obtain⟨A,e0,rfl,w0⟩:=DataW.trod_int Tryz.underlying3 t0;obtain⟨B,e1,rfl,w1⟩:=DataW.trod_int Tryz.underlying3 t1;obtain⟨C,e2,rfl,w2⟩:=DataW.trod_int Tryz.underlying3 t2;obtain⟨ps,p1,p2,_,_⟩:=open_op t3;simp only[List.cons.injEq,and_true]at e0 e1 e2;subst e0 e1 e2;obtain⟨b,o,spot⟩:=a;have k0:=hcell 0 (by omega);have k1:=hcell 1 (by omega);have k2:=hcell 2 (by omega);have k3:=hcell 3 (by omega);have hspot:spot=none:=by simpa[Addr.add] using World.cell?_spot (show W.cell? ((⟨b,o,spot⟩:Addr).add 0)=some (.int .i64 A) from k0)
  subst hspot;rw[Addr.add_lit]at k0 k1 k2 k3;have num:∀{c:Int},(Lit.int .i64 c).wf=true->JqC c:=fun {c} h=>by
   unfold JqC;simp[Lit.wf,IntKind.min,IntKind.max,IntKind.signed,IntKind.bits]at h;omega
  exact⟨⟨A,B,C,ps⟩,rfl,⟨k0,k1,k2,c3,k3,p1⟩,⟨num w0,num w1,num w2⟩,JrP p2⟩
theorem JoH{H:Type}{enc:TypeId×Value->H}{W:World}{base:Nat}{sp:Nat->Bool}{held:Bool}{fuel:Nat}{v:Value}{x:DataW H×List MemPlace}
    (h:DataW.trod enc Tryz.prog W base sp held fuel 92 [v]=some x) :
    ∃l,JhJ W v l/\∀q∈l,JjI q:=by
 rcases open_slice Tryz.underlying92 h with ⟨hcs,_⟩|⟨a,len,cap,m,n,D,Pl,hcs,hb,hl,hm,hmm,rfl,hx⟩
 . simp only[List.cons.injEq,and_true]at hcs
   subst hcs;exact⟨[],⟨none,0,rfl,nlr _,Nat.zero_le _,fun h=>absurd rfl h⟩,by simp⟩
 . simp only [List.cons.injEq,and_true]at hcs
   subst hcs;have hlm:len<=m:=by rw[hmm];split<;>omega
   haveI:Inhabited Sa:=⟨⟨0,0,0,[]⟩⟩
   obtain ⟨f,hf⟩:=choose_lt (α:=Sa) (n:=len) (p:=fun i q=>(a.add (i*4)).spot=none/\sayIn W (a.add (i*4)).block (a.add (i*4)).off q/\JjI q) (fun i hi=>by
    obtain⟨cs,h1,h2⟩:=hx i (by omega);rw[Jkt]at h1
    exact JmA h1 h2)
   have hlen:((List.range len).map f).length=len:=by simp
   refine⟨(List.range len).map f,⟨some a,cap,by rw[hlen],by rw[hlen];exact hl,hm,fun hne=>?_⟩,?_⟩
   . have hpos:0<len:=by
       cases len with
       | zero=>exact absurd rfl hne
       | succ n=>exact Nat.succ_pos n
     obtain⟨b,o,spot⟩:=a;have hs0:=(hf 0 hpos).1;have hspot:spot=none:=by simpa[Addr.add] using hs0
     subst hspot;refine⟨b,o,rfl,?_,fun i q hi=>?_⟩
     . have:=blt W _ (hf 0 hpos).2.1.1
       rw[Addr.add_lit]at this;exact this
     . have hil:i<len:=by have:=(llt hi);rw[hlen]at this;exact this
       have e:q=f i:=by
        rw[List.getElem?_map,List.getElem?_range hil]at hi;exact(osi hi).symm
       subst e;have k:=(hf i hil).2.1;rw[Addr.add_lit]at k;exact k
   . intro q hq
     obtain⟨i,hi,rfl⟩:=List.mem_map.1 hq;exact(hf i (List.mem_range.1 hi)).2.2
end
section
open Go.RowKit Go.Maps
attribute [local go_sem] Oper.semAt_some
variable {w : World}{v : Value}{ps : List Pt}
theorem Jlo:∀(qs:List Pt),(∀q∈qs,q.put.length<=300)->Jal qs<=300*qs.length
 | [],_=>by simp[Jal]
 | q :: qs,h=>by
  have ih:=Jlo qs fun x hx=>h x (by simp[hx]);have:=h q (by simp);have e:Jal (q :: qs)=q.put.length+Jal qs:=by simp[Jal]
  rw[e,List.length_cons];omega
theorem few_wf{q:Sa}(hq:JjI q)(hf:fewB q.op=true):(∀p∈q.op,wfP p)/\(∀p∈q.op,p.put.length<=300)/\q.op.length<=100/\Jal q.op<=40000:=by
 obtain⟨h1,h2⟩:=JqX hf;have:=Jlo q.op h2;exact⟨fun p hp=>hq.2 p hp (h2 p hp),h2,h1,by omega⟩
theorem own_low{lo:Nat}(h:opAt w v ps)(hl:w.heap.size<=lo):ps≠[]->∀k,v.ownBlock=some k->k<lo\/∃cs fz,w.heap[k]?=some (.cells cs 50 fz):=fun hne j hj=>by
 obtain⟨p,c,rfl,_,_,h3⟩:=h;obtain⟨b,o,rfl,hb,_⟩:=h3 hne;obtain rfl:b=j:=osi hj;exact .inl (Nat.lt_of_lt_of_le hb hl)
theorem opX_low{w':World}(h:opAt w v ps)(hb:Below w.heap.size w w'):opX w.heap.size w' v ps :=
 Jan ⟨h,own_low h (nlr _)⟩ hb
theorem Jnn(w:World)(n:Nat):Below w.heap.size w (w.drewN n):=⟨rfl,rfl,rfl,nlr _,fun _ _=>rfl⟩
end
section
open Go
def JhN (n:Nat):Code->Code
 | .region id l d=>if id=n then .region id l d else .skip
 | .seq a b=>match JhN n a with
  | .skip=>JhN n b
  | c=>c
 | .cond _ a b=>match JhN n a with
  | .skip=>JhN n b
  | c=>c
 | .block _ a=>JhN n a
 | .loop a=>JhN n a
 | _=>.skip
def Jma (f:Func):Code:=f.body.getD .skip
end
section
open Go.RowKit
attribute [local go_sem] Oper.semAt_some Ja7 Jbe
variable {lo b y : Nat}{u : Int}{S : Cl}{s : Bool}{ops : List Pt}{v1 v2 : Value}{w : World}
structure ZL (lo b y:Nat) (u:Int) (S:Cl) (s:Bool) (ops:List Pt) (v1 v2:Value) (wx:World):Prop where
 cl:isCl lo wx b 7 u S
 rc:isRc lo wx y 7 u S
 o1:opAt wx v1 ops
 o2:opAt wx v2 ops
theorem ZL.grow{w':World}(h:ZL lo b y u S s ops v1 v2 w)(hb:Below w.heap.size w w'):ZL lo b y u S s ops v1 v2 w' :=
 ⟨Jbw h.cl hb,Jeu h.rc hb,JaK h.o1 hb (nlr _),JaK h.o2 hb (nlr _)⟩
theorem ZL.cells(h:ZL lo b y u S s ops v1 v2 w)(hs:s=decide (1<=S.mine.length)) :
    w.cell? ⟨y,2,none⟩=some (.string ⟨S.doc.toArray⟩)/\w.cell? ⟨y,3,none⟩=some (.string ⟨S.seen.toArray⟩)/\w.cell? ⟨y,4,none⟩=some (.int .i64 S.rev)/\w.cell? ⟨y,8,none⟩=some (.bool s)/\w.cell? ⟨y,10,none⟩=some (.int .i64 S.drops):=by
 obtain⟨_,v1,v2,h3,_,_⟩:=h.rc;obtain⟨_,_,x2,x3,x4,x5,x6,x7,x8,x9,x10,xf⟩:=Jap h3;exact⟨x2,x3,x4,by rw[hs];exact x8,x10⟩
theorem Jrq{Q:Exit->Act->World->Prop}(lo b y:Nat)(u:Int)(S:Cl)(i:Int)(s:Bool)(ops:List Pt)(p1 p2:Option Addr)(n1 c1 n2 c2:Nat){W:World}{x1 x2 x3 x4 x5 x6 x7 x8 x10 x12 x13 x14 x15 x16 x23 x24 x25 x26 x27 x28 x29 x30 x31 x32 x33 x34 x35 x36 x37 x38 x39 x40 x41 x42 x43 x44 x45 x46 x47 x48 x49 x50 x51 x52 x53 x54 x55 x56 x57 x58 x59 x60 x61 x62 x63 x64 x65 x66 x67 x68 x69 x70 x71 x72 x73 x74 x75 x76 x77 x78 x79 x80 x81 x82 x83 x84 x85 x86 x87 x88 x89 x90 x91 x92 x93 x94 x95 x96 x97 x98 x99 x100 x101 x102 x103 x104 x105 x106 x107 x108 x109 x110 x111 x112 x113 x114 x115 x116 x117 x118 x119 x120 x121 x122 x123 x124 x125 x126 x127 x128 x129 x130 x131 x132 x133 x134 x135 x136 x137 x138 x139 x140 x141 x142 x143 x144 x145 x146 x147 x148 x149 x150 x151 x152 x153 x154 x155 x156 x157 x158 x159 x160 x161 x162 x163 x164 x165 x166 x167 x168 x169 x170 x171 x172 x173 x174 x175 x176 x177 x178 x179 x180 x181 x182 x183 x184 x185 x186 x187 x188 x189 x190 x191 x192 x193 x194 x195 x196 x197 x198 x199 x200 x201 x202 x203 x204 x205 x206 x207 x208 x209 x210 x211 x212 x213 x214 x215 x216 x217 x218 x219 x220 x221 x222 x223 x224 x225 x226 x227 x228 x229 x230 x231 x232 x233 x234 x235 x236 x237 x238 x239 x240 x241 x242 x243 x244 x245 x246 x247 x248 x249 x250 x251 x252 x253 x254 x255 x256 x257 x258 x259 x260 x261 x262 x263 x264 x265 x266 x267 x268 x269 x270 x271 x272 x273:Value}
    (hz:ZL lo b y u S s ops (.slice p1 n1 c1) (.slice p2 n2 c2) W) (hs:s=decide (1<=S.mine.length)) (hl:ops.length<10000000)
    (hQ:∀(y198 y199 y200 y201 y202 y203 y204 y205 y206 y207 y208 y209 y210 y211 y212 y213 y214 y215 y216 y217 y218 y219 y220 y221 y222 y223 y224 y225 y226 y227 y228 y229 y230 y231 y232 y233 y234 y235 y236 y237 y238 y239 y240 y241 y242 y243 y244 y245 y246 y247 y248 y249 y250 y251 y252 y253 y254 y255 y256 y257 y258 y259 y260 y261 y262 y263 y264 y265 y266 y267 y268 y269 y270 y271 y272:Value) (w':World),Below W.heap.size W w'->Q .normal { tmps:=#[.int .i64 u,x1,x2,x3,x4,x5,x6,x7,x8,.pointer (some ⟨b,0,none⟩),x10,.pointer (some ⟨y,0,none⟩),x12,x13,x14,x15,x16,.int .i64 i,.int .i64 S.rev,.slice p1 n1 c1,.bool s,.int .i64 i,.slice p2 n2 c2,x23,x24,x25,x26,x27,x28,x29,x30,x31,x32,x33,x34,x35,x36,x37,x38,x39,x40,x41,x42,x43,x44,x45,x46,x47,x48,x49,x50,x51,x52,x53,x54,x55,x56,x57,x58,x59,x60,x61,x62,x63,x64,x65,x66,x67,x68,x69,x70,x71,x72,x73,x74,x75,x76,x77,x78,x79,x80,x81,x82,x83,x84,x85,x86,x87,x88,x89,x90,x91,x92,x93,x94,x95,x96,x97,x98,x99,x100,x101,x102,x103,x104,x105,x106,x107,x108,x109,x110,x111,x112,x113,x114,x115,x116,x117,x118,x119,x120,x121,x122,x123,x124,x125,x126,x127,x128,x129,x130,x131,x132,x133,x134,x135,x136,x137,x138,x139,x140,x141,x142,x143,x144,x145,x146,x147,x148,x149,x150,x151,x152,x153,x154,x155,x156,x157,x158,x159,x160,x161,x162,x163,x164,x165,x166,x167,x168,x169,x170,x171,x172,x173,x174,x175,x176,x177,x178,x179,x180,x181,x182,x183,x184,x185,x186,x187,x188,x189,x190,x191,x192,x193,x194,x195,x196,x197,y198,y199,y200,y201,y202,y203,y204,y205,y206,y207,y208,y209,y210,y211,y212,y213,y214,y215,y216,y217,y218,y219,y220,y221,y222,y223,y224,y225,y226,y227,y228,y229,y230,y231,y232,y233,y234,y235,y236,y237,y238,y239,y240,y241,y242,y243,y244,y245,y246,y247,y248,y249,y250,y251,y252,y253,y254,y255,y256,y257,y258,y259,y260,y261,y262,y263,y264,y265,y266,y267,y268,y269,y270,y271,y272,.bool false],defers:=[] } w') :
    (JhN 42 (Jma Tryz.f7)).wp Tryz.prog Q { tmps:=#[.int .i64 u,x1,x2,x3,x4,x5,x6,x7,x8,.pointer (some ⟨b,0,none⟩),x10,.pointer (some ⟨y,0,none⟩),x12,x13,x14,x15,x16,.int .i64 i,.int .i64 S.rev,.slice p1 n1 c1,.bool s,.int .i64 i,.slice p2 n2 c2,x23,x24,x25,x26,x27,x28,x29,x30,x31,x32,x33,x34,x35,x36,x37,x38,x39,x40,x41,x42,x43,x44,x45,x46,x47,x48,x49,x50,x51,x52,x53,x54,x55,x56,x57,x58,x59,x60,x61,x62,x63,x64,x65,x66,x67,x68,x69,x70,x71,x72,x73,x74,x75,x76,x77,x78,x79,x80,x81,x82,x83,x84,x85,x86,x87,x88,x89,x90,x91,x92,x93,x94,x95,x96,x97,x98,x99,x100,x101,x102,x103,x104,x105,x106,x107,x108,x109,x110,x111,x112,x113,x114,x115,x116,x117,x118,x119,x120,x121,x122,x123,x124,x125,x126,x127,x128,x129,x130,x131,x132,x133,x134,x135,x136,x137,x138,x139,x140,x141,x142,x143,x144,x145,x146,x147,x148,x149,x150,x151,x152,x153,x154,x155,x156,x157,x158,x159,x160,x161,x162,x163,x164,x165,x166,x167,x168,x169,x170,x171,x172,x173,x174,x175,x176,x177,x178,x179,x180,x181,x182,x183,x184,x185,x186,x187,x188,x189,x190,x191,x192,x193,x194,x195,x196,x197,x198,x199,x200,x201,x202,x203,x204,x205,x206,x207,x208,x209,x210,x211,x212,x213,x214,x215,x216,x217,x218,x219,x220,x221,x222,x223,x224,x225,x226,x227,x228,x229,x230,x231,x232,x233,x234,x235,x236,x237,x238,x239,x240,x241,x242,x243,x244,x245,x246,x247,x248,x249,x250,x251,x252,x253,x254,x255,x256,x257,x258,x259,x260,x261,x262,x263,x264,x265,x266,x267,x268,x269,x270,x271,x272,x273],defers:=[] } W:=by
 have HQ:=hdz hQ;clear hQ;have HZ:=hdz hz;have CT:∀wx,ZL lo b y u S s ops (.slice p1 n1 c1) (.slice p2 n2 c2) wx->Calls Tryz.prog 54 #[.pointer (some ⟨b,0,none⟩)] wx fun e w'=>e=.returned (.string ⟨S.doc.toArray⟩)/\Below wx.heap.size wx w':=fun wx h=>Jpa h.cl;have CS:∀wx,ZL lo b y u S s ops (.slice p1 n1 c1) (.slice p2 n2 c2) wx->Calls Tryz.prog 55 #[.pointer (some ⟨b,0,none⟩)] wx fun e w'=>e=.returned (.string ⟨S.seen.toArray⟩)/\Below wx.heap.size wx w':=fun wx h=>Jpf h.cl;have CR:∀wx,ZL lo b y u S s ops (.slice p1 n1 c1) (.slice p2 n2 c2) wx->Calls Tryz.prog 56 #[.pointer (some ⟨b,0,none⟩)] wx fun e w'=>e=.returned (.int .i64 S.rev)/\Below wx.heap.size wx w':=fun wx h=>JlS h.cl;have CU:∀wx,ZL lo b y u S s ops (.slice p1 n1 c1) (.slice p2 n2 c2) wx->Calls Tryz.prog 57 #[.pointer (some ⟨b,0,none⟩)] wx fun e w'=>e=.returned (.int .i64 u)/\Below wx.heap.size wx w':=fun wx h=>JcB h.cl;have CP:∀wx,ZL lo b y u S s ops (.slice p1 n1 c1) (.slice p2 n2 c2) wx->Calls Tryz.prog 58 #[.pointer (some ⟨b,0,none⟩)] wx fun e w'=>e=.returned (.bool s)/\Below wx.heap.size wx w':=fun wx h=>by
  rw[hs];exact Jb8 h.cl
 have CD:∀wx,ZL lo b y u S s ops (.slice p1 n1 c1) (.slice p2 n2 c2) wx->Calls Tryz.prog 59 #[.pointer (some ⟨b,0,none⟩)] wx fun e w'=>e=.returned (.int .i64 S.drops)/\Below wx.heap.size wx w':=fun wx h=>Jkr h.cl;have CM:∀wx,ZL lo b y u S s ops (.slice p1 n1 c1) (.slice p2 n2 c2) wx->Calls Tryz.prog 18 #[.slice p1 n1 c1,.slice p2 n2 c2] wx fun e w'=>e=.returned (.bool true)/\Below wx.heap.size wx w':=fun wx h=>Jth _ _ ops wx h.o1 h.o2 hl;have CL:∀wx,ZL lo b y u S s ops (.slice p1 n1 c1) (.slice p2 n2 c2) wx->_:=fun wx h=>h.cells hs;generalize hD:S.doc=D at *;generalize hE:S.seen=E at *;generalize hR:S.rev=rv at *;generalize hDr:S.drops=dr at *;clear hs hl;refine wz (fun wx:World=>ZL lo b y u S s ops (.slice p1 n1 c1) (.slice p2 n2 c2) wx) 76 HZ.out ZL.grow fun w1 hb1 hz1 G hG=>?_;have g2:∀x,(G x).cell? ⟨y,2,none⟩=some (.string ⟨D.toArray⟩):=fun x=>(CL _ (hG.but x)).1;have g3:∀x,(G x).cell? ⟨y,3,none⟩=some (.string ⟨E.toArray⟩):=fun x=>(CL _ (hG.but x)).2.1;have g4:∀x,(G x).cell? ⟨y,4,none⟩=some (.int .i64 rv):=fun x=>(CL _ (hG.but x)).2.2.1;have g8:∀x,(G x).cell? ⟨y,8,none⟩=some (.bool s):=fun x=>(CL _ (hG.but x)).2.2.2.1;have g10:∀x,(G x).cell? ⟨y,10,none⟩=some (.int .i64 dr):=fun x=>(CL _ (hG.but x)).2.2.2.2;clear hz CL hD hE hR hDr;refine ay hG hz1 fun _ k=>?_;go_simp;apply k;clear k
 (refine ay hG hz1 fun K hK=>?_;go_simp;apply Exists.intro;refine⟨fun _=>?_,hK _ ?_⟩;exact CT _ (hG.but _);clear hK K)
 (iterate 7 (refine ay hG hz1 fun _ k=>?_;go_simp;apply k;clear k))
 (refine ay hG hz1 fun K hK=>?_;go_simp;apply Exists.intro;refine⟨fun _=>?_,hK _ ?_⟩;exact CS _ (hG.but _);clear hK K)
 (iterate 8 (refine ay hG hz1 fun _ k=>?_;go_simp;apply k;clear k))
 (refine ay hG hz1 fun K hK=>?_;go_simp;apply Exists.intro;refine⟨fun _=>?_,hK _ ?_⟩;exact CR _ (hG.but _);clear hK K)
 (iterate 8 (refine ay hG hz1 fun _ k=>?_;go_simp;apply k;clear k))
 (refine ay hG hz1 fun K hK=>?_;go_simp;apply Exists.intro;refine⟨fun _=>?_,hK _ ?_⟩;exact CU _ (hG.but _);clear hK K)
 (iterate 5 (refine ay hG hz1 fun _ k=>?_;go_simp;apply k;clear k))
 (refine ay hG hz1 fun K hK=>?_;go_simp;apply Exists.intro;refine⟨fun _=>?_,hK _ ?_⟩;exact CP _ (hG.but _);clear hK K)
 (iterate 8 (refine ay hG hz1 fun _ k=>?_;go_simp;apply k;clear k))
 (refine ay hG hz1 fun K hK=>?_;go_simp;apply Exists.intro;refine⟨fun _=>?_,hK _ ?_⟩;exact CD _ (hG.but _);clear hK K)
 (iterate 30 (refine ay hG hz1 fun _ k=>?_;go_simp;apply k;clear k))
 (refine ay hG hz1 fun K hK=>?_;go_simp;apply Exists.intro;refine⟨fun _=>?_,hK _ ?_⟩;exact CM _ (hG.but _);clear hK K)
 (iterate 2 (refine ay hG hz1 fun _ k=>?_;go_simp;apply k;clear k));refine JaA (by kernel_rfl) ?_;intro w2 hb2;exact HQ.out _ _ _ _ _ _ _ _ _ _ _ _ _ _ _ _ _ _ _ _ _ _ _ _ _ _ _ _ _ _ _ _ _ _ _ _ _ _ _ _ _ _ _ _ _ _ _ _ _ _ _ _ _ _ _ _ _ _ _ _ _ _ _ _ _ _ _ _ _ _ _ _ _ _ _ _ (hb1.trans (hb2.mono hb1.size))
end
section
open Go.RowKit Go.Maps
attribute [local go_sem] Oper.semAt_some Ja7 Jbe
variable {lo b y n : Nat}{u who i : Int}{S : Cl}{w w' wx w3 w4 : World}{q : List Pt}
structure CTwo (lo b y:Nat) (u:Int) (S:Cl) (n:Nat) (w:World):Prop where
 cl:isCl lo w b 7 u S
 rc:isRc lo w y 7 u S
 ok:okK 2000 S
 n1:0<=S.rev/\S.rev<=n
 n2:0<=S.id/\S.id<=n
 n3:0<=S.drops/\S.drops<=n
theorem CTwo.below(h:CTwo lo b y u S n w)(hb:Below w.heap.size w w'):CTwo lo b y u S n w' :=
 ⟨Jbw h.cl hb,Jeu h.rc hb,h.ok,h.n1,h.n2,h.n3⟩
theorem CTwo.more{m:Nat}(h:CTwo lo b y u S n w)(hm:n<=m):CTwo lo b y u S m w :=
 ⟨h.cl,h.rc,h.ok,⟨h.n1.1,by have:=h.n1.2;omega⟩,⟨h.n2.1,by have:=h.n2.2;omega⟩,⟨h.n3.1,by have:=h.n3.2;omega⟩⟩
structure CMid (w:World) (b y:Nat) (u:Int) (S S':Cl) (v:Value) (q:List Pt) (β:Nat) (Bβ:Obj) (w':World):Prop where
 cl:isCl w.heap.size w' b 7 u S'
 rc:isRc w.heap.size w' y 7 u S
 op:opX w.heap.size w' v q
 low:Below w.heap.size w w'
 box:w'.heap[β]?=some Bβ
theorem Jia(hb:Below w.heap.size w wx)(h:isCl w.heap.size wx b who u S)(hk:keptC wx w' b):Below w.heap.size w w' :=
 hb.trans ⟨hk.1.os,hk.1.tape,hk.1.output,hk.1.size,fun k hlt=>hk.1.block k (Nat.lt_of_lt_of_le hlt hb.size) fun e=>absurd (JeW h e).1 (Nat.not_le.2 hlt)⟩
theorem JmK(hb:Below w.heap.size w wx)(hy:w.heap.size<=y)(hk:sameBut wx w' fun k=>k=y):Below w.heap.size w w' :=
 hb.trans ⟨hk.os,hk.tape,hk.output,hk.size,fun k hlt=>hk.block k (Nat.lt_of_lt_of_le hlt hb.size) fun e=>by have e:k=y:=e;omega⟩
theorem JlY{wx w':World}{lo b:Nat}{who u:Int}{S:Cl}{β:Nat}{cs:Array Value}{T:TypeId}(h:isCl lo wx b who u S)(hk:keptC wx w' b)(hb:wx.heap[β]?=some (.cells cs T (0,0)))(t1:T≠203)(t2:T≠23):w'.heap[β]?=some (.cells cs T (0,0)) :=
 (hk.1.2 β (alt hb) fun e=>by
   obtain⟨_,_,cs',T',hc,hT⟩:=JeW h e;have:=Jcw hb hc;subst this
   rcases hT with e|e
   . exact t1 e
   . exact t2 e).trans hb
theorem Jrw{wx w':World}{lo y:Nat}{who u:Int}{S:Cl}{β:Nat}{cs:Array Value}{T:TypeId}(h:isRc lo wx y who u S)(hk:sameBut wx w' fun k=>k=y)(hb:wx.heap[β]?=some (.cells cs T (0,0)))(t1:T≠98):w'.heap[β]?=some (.cells cs T (0,0)) :=
 (hk.2 β (alt hb) fun e=>by
   have e:β=y:=e;subst e;obtain⟨_,_,_,h3,_⟩:=h
   exact t1 (Jcw hb h3)).trans hb
theorem opX_C{v:Value}(h:opX lo w v q)(hc:isCl lo w b who u S)(hk:keptC w w' b):opX lo w' v q :=
 Jbb h hk.1 fun k _ e=>⟨(JeW hc e).1,JhU hc e⟩
structure EnL (w:World):Prop where
 lay:Jdn w
 tabs:Lib.Utf8Tabs 2 3 w
 g2:2<w.heap.size/\3<w.heap.size
theorem JoV(h1:0<=S.rev/\S.rev<=n)(h2:0<=S.id/\S.id<=n)(h3:0<=S.drops/\S.drops<=n):(0<=(edS u S q).rev/\(edS u S q).rev<=(n+1:Nat))/\(0<=(edS u S q).id/\(edS u S q).id<=(n+1:Nat))/\(0<=(edS u S q).drops/\(edS u S q).drops<=(n+1:Nat)):=by
 unfold edS
 split
 . simp only
   split<;>omega
 . omega
theorem Joq{rev c:Int}{x:List Pt}(h1:0<=S.rev/\S.rev<=n)(h2:0<=S.id/\S.id<=n)(h3:0<=S.drops/\S.drops<=n):(0<=(tkS who S rev c i x).rev/\(tkS who S rev c i x).rev<=(n+1:Nat))/\(0<=(tkS who S rev c i x).id/\(tkS who S rev c i x).id<=(n+1:Nat))/\(0<=(tkS who S rev c i x).drops/\(tkS who S rev c i x).drops<=(n+1:Nat)):=by
 unfold tkS
 split
 . omega
 . split
   . simp only
     split<;>omega
   . simp only;omega
theorem Jo4(h1:0<=S.rev/\S.rev<=n)(h2:0<=S.id/\S.id<=n)(h3:0<=S.drops/\S.drops<=n):(0<=(rfS S i).rev/\(rfS S i).rev<=(n+1:Nat))/\(0<=(rfS S i).id/\(rfS S i).id<=(n+1:Nat))/\(0<=(rfS S i).drops/\(rfS S i).drops<=(n+1:Nat)):=by
 unfold rfS
 split
 . simp only;omega
 . omega
theorem ce1(he:EnL w){b y:Nat}{u:Int}(hu:Jaz u){S:Cl}{n:Nat}(hC:CTwo w.heap.size b y u S n w3)(hn:n<=30)(hbw:Below w.heap.size w w3){v:Value}{q:List Pt}(hop:opX w.heap.size w3 v q)(hwf:∀p∈q,wfP p)(hpl:∀p∈q,p.put.length<=300)(hl:q.length<=100)(hsz:S.seen.length<=2500){β:Nat}{cs:Array Value}(hbox:w3.heap[β]?=some (.cells cs 100 (0,0)))(wx:World)(hb:Below w3.heap.size w3 wx) :
    Calls Tryz.prog 47 #[.pointer (some ⟨b,0,none⟩),v] wx fun e w'=>e=.returned (errV (edE u S q))/\CMid w b y u S (edS u S q) v q β (.cells cs 100 (0,0)) w':=by
 have hC:=hC.below hb;have hbw:=hbw.trans (hb.mono hbw.size);have hop:=Jan hop hb;have hbox:=(hb.block β (alt hbox)).trans hbox;refine(Jpk hC.cl hC.ok hu v q hop.1 hwf hpl hl (by omega) ⟨hC.n2.1,by have:=hC.n2.2;omega⟩ he.g2 (Go.Proofs.Utf8Tabs_below he.tabs hbw)).mono ?_;rintro e w' ⟨rfl,a,c⟩;exact⟨rfl,a,Jif hC.rc hC.cl c.1,opX_C hop hC.cl c,Jia hbw hC.cl c,JlY hC.cl c hbox (by decide) (by decide)⟩
theorem ce2(hu:Jaz u){S:Cl}{n:Nat}(hk:okK 2000 S)(h1:0<=S.rev/\S.rev<=n)(h2:0<=S.id/\S.id<=n)(h3:0<=S.drops/\S.drops<=n)(hn:n<=30){v:Value}{q:List Pt}{β:Nat}{cs:Array Value}(hM:CMid w b y u S (edS u S q) v q β (.cells cs 100 (0,0)) w4)(hwf:∀p∈q,wfP p)(hpl:∀p∈q,p.put.length<=300)(hsz:S.seen.length<=2500)(wx:World)(hb:Below w4.heap.size w4 wx) :
    Calls Tryz.prog 48 #[.pointer (some ⟨y,0,none⟩),v] wx fun e w'=>e=.returned (.int .i64 (edE u S q))/\CTwo w.heap.size b y u (edS u S q) (n+1) w'/\Below w.heap.size w w'/\w'.heap[β]?=some (.cells cs 100 (0,0)):=by
 have hcl:=Jbw hM.cl hb;have hrc:=Jeu hM.rc hb;have hop:=Jan hM.op hb;have hbw:=hM.low.trans (hb.mono hM.low.size);have hbox:=(hb.block β (alt hM.box)).trans hM.box;refine(JoE hrc hk hu v q hop.1 hwf hpl (by omega) ⟨h2.1,by omega⟩).mono ?_;rintro e w' ⟨rfl,a,c⟩;obtain⟨m1,m2,m3⟩:=JoV (u:=u) (q:=q) h1 h2 h3;exact⟨rfl,⟨Jii hcl hrc c,a,Jsc hu hk q,m1,m2,m3⟩,JmK hbw hrc.1 c,Jrw hrc c hbox (by decide)⟩
theorem ct1(he:EnL w){b y:Nat}{u:Int}(hu:Jaz u){S:Cl}{n:Nat}(hC:CTwo w.heap.size b y u S n w3)(hn:n<=30)(hbw:Below w.heap.size w w3){v:Value}{x:List Pt}(hop:opX w.heap.size w3 v x)(hwf:∀p∈x,wfP p)(hpu:Jal x<=40000)(hl:x.length<=100000)(hsz:S.seen.length<=2500)(rev c i:Int){β:Nat}{cs:Array Value}(hbox:w3.heap[β]?=some (.cells cs 103 (0,0)))(wx:World)(hb:Below w3.heap.size w3 wx) :
    Calls Tryz.prog 49 #[.pointer (some ⟨b,0,none⟩),.int .i64 rev,.agg #[.int .i64 c,.int .i64 i,v]] wx fun e w'=>e=.returned (errV (tkE 7 S rev c i x))/\CMid w b y u S (tkS 7 S rev c i x) v x β (.cells cs 103 (0,0)) w':=by
 have hC:=hC.below hb;have hbw:=hbw.trans (hb.mono hbw.size);have hop:=Jan hop hb;have hbox:=(hb.block β (alt hbox)).trans hbox;refine(Jpe hC.cl hC.ok hu rev c i v x hop hwf (by omega) (by omega) (by omega) ⟨hC.n2.1,by have:=hC.n2.2;omega⟩ ⟨hC.n1.1,by have:=hC.n1.2;omega⟩ he.g2 (Go.Proofs.Utf8Tabs_below he.tabs hbw)).mono ?_;rintro e w' ⟨rfl,a,hk⟩;exact⟨rfl,a,Jif hC.rc hC.cl hk.1,opX_C hop hC.cl hk,Jia hbw hC.cl hk,JlY hC.cl hk hbox (by decide) (by decide)⟩
theorem ct2(hk:okK 2000 S)(h1:0<=S.rev/\S.rev<=n)(h2:0<=S.id/\S.id<=n)(h3:0<=S.drops/\S.drops<=n)(hn:n<=30)(rev c i:Int){v:Value}{x:List Pt}{β:Nat}{cs:Array Value}(hM:CMid w b y u S (tkS 7 S rev c i x) v x β (.cells cs 103 (0,0)) w4)(hwf:∀p∈x,wfP p)(hpu:Jal x<=40000)(hl:x.length<=100000)(hsz:S.seen.length<=2500)(wx:World)(hb:Below w4.heap.size w4 wx) :
    Calls Tryz.prog 50 #[.pointer (some ⟨y,0,none⟩),.int .i64 rev,.agg #[.int .i64 c,.int .i64 i,v]] wx fun e w'=>e=.returned (.int .i64 (tkE 7 S rev c i x))/\CTwo w.heap.size b y u (tkS 7 S rev c i x) (n+1) w'/\Below w.heap.size w w'/\w'.heap[β]?=some (.cells cs 103 (0,0)):=by
 have hcl:=Jbw hM.cl hb;have hrc:=Jeu hM.rc hb;have hop:=Jan hM.op hb;have hbw:=hM.low.trans (hb.mono hM.low.size);have hbox:=(hb.block β (alt hM.box)).trans hM.box;refine(JoD hrc hk rev c i v x hop hwf (by omega) (by omega) (by omega) ⟨h2.1,by omega⟩ ⟨h1.1,by omega⟩).mono ?_;rintro e w' ⟨rfl,a,hs⟩;obtain⟨m1,m2,m3⟩:=Joq (who:=7) (rev:=rev) (c:=c) (i:=i) (x:=x) h1 h2 h3;exact⟨rfl,⟨Jii hcl hrc hs,a,JnJ hk rev _ i x (by omega),m1,m2,m3⟩,JmK hbw hrc.1 hs,Jrw hrc hs hbox (by decide)⟩
end
section
open Go.RowKit
attribute [local go_sem] Oper.semAt_some Ja7 Jbe
theorem Jda{w w':World}{β:Nat}{o:Obj}(h:w.heap[β]?=some o)(hb:Below w.heap.size w w'):w'.heap[β]?=some o:=(hb.block β (alt h)).trans h
def set3 (w:World) (β:Nat) (a0 a1 a2:Value):World:=((w.setCell ⟨β,0,none⟩ a0).setCell ⟨β,1,none⟩ a1).setCell ⟨β,2,none⟩ a2
theorem Jqd{w:World}{β:Nat}{T:TypeId}{c0 c1 c2:Value}(a0 a1 a2:Value)(h:w.heap[β]?=some (.cells #[c0,c1,c2] T (0,0))){lo:Nat}{w0:World}(hb:Below lo w0 w)(hl:lo<=β) :
    (set3 w β a0 a1 a2).heap[β]?=some (.cells #[a0,a1,a2] T (0,0))/\Below lo w0 (set3 w β a0 a1 a2):=by
 have h1:(w.setCell ⟨β,0,none⟩ a0).heap[β]?=some (.cells #[a0,c1,c2] T (0,0)):=heap_setCell_same w β 0 _ T a0 h;have b1:Below lo w0 (w.setCell ⟨β,0,none⟩ a0):=hb.setCell (p:=⟨β,0,none⟩) hl a0;unfold set3;generalize w.setCell ⟨β,0,none⟩ a0=w1 at *;have h2:(w1.setCell ⟨β,1,none⟩ a1).heap[β]?=some (.cells #[a0,a1,c2] T (0,0)):=heap_setCell_same w1 β 1 _ T a1 h1;have b2:Below lo w0 (w1.setCell ⟨β,1,none⟩ a1):=b1.setCell (p:=⟨β,1,none⟩) hl a1;generalize w1.setCell ⟨β,1,none⟩ a1=w2 at *;exact⟨heap_setCell_same w2 β 2 _ T a2 h2,b2.setCell (p:=⟨β,2,none⟩) hl a2⟩
theorem JsM{Q:Exit->Act->World->Prop}(y:Nat)(i:Int)(v:Value){W:World}{x0 x1 x2 x3 x4 x5 x6 x7 x8 x9 x10 x12 x13 x14 x15 x16 x17 x18 x19 x20 x21 x22 x23 x24 x25 x26 x27 x28 x29 x30 x31 x32 x33 x34 x35 x36 x37 x38 x39 x40 x41 x42 x43 x44 x45 x46 x47 x48 x49 x50 x51 x52 x53 x54 x55 x56 x57 x58 x59 x60 x61 x62 x63 x64 x65 x66 x67 x68 x69 x70 x71 x72 x73 x74 x75 x76 x77 x78 x79 x80 x81 x82 x83 x84 x85 x86 x87 x88 x89 x90 x91 x92 x93 x94 x95 x96 x97 x98 x99 x100 x101 x102 x103 x104 x105 x106 x107 x108 x109 x110 x111 x112 x113 x114 x115 x116 x117 x118 x119 x120 x121 x122 x123 x124 x125 x126 x127 x128 x129 x130 x131 x132 x133 x134 x135 x136 x137 x138 x139 x140 x141 x142 x143 x144 x145 x146 x147 x148 x149 x150 x151 x152 x153 x154 x155 x156 x157 x158 x159 x160 x161 x162 x163 x164 x165 x166 x167 x168 x169 x170 x171 x172 x173 x174 x175 x176 x177 x178 x179 x180 x181 x182 x183 x184 x185 x186 x187 x188 x189 x190 x191 x192 x193 x194 x195 x196 x197 x198 x199 x200 x201 x202 x203 x204 x205 x206 x207 x208 x209 x210 x211 x212 x213 x214 x215 x216 x217 x218 x219 x220 x221 x222 x223 x224 x225 x226 x227 x228 x229 x230 x231 x232 x233 x234 x235 x236 x237 x238 x239 x240 x241 x242 x243 x244 x245 x246 x247 x248 x249 x250 x251 x252 x253 x254 x255 x256 x257 x258 x259 x260 x261 x262 x263 x264 x265 x266 x267 x268 x269 x270 x271 x272 x273:Value}
    (hy:y<W.heap.size)
    (h5:W.cell? ⟨y,5,none⟩=some (.int .i64 i))
    (h6:W.cell? ⟨y,6,none⟩=some v)
    (hQ:∀(y190 y191 y192 y193 y194 y195 y196 y197:Value) (w':World),Below W.heap.size W w'->Q .normal { tmps:=#[x0,x1,x2,x3,x4,x5,x6,x7,x8,x9,x10,.pointer (some ⟨y,0,none⟩),x12,x13,x14,x15,x16,x17,x18,x19,x20,.int .i64 i,v,x23,x24,x25,x26,x27,x28,x29,x30,x31,x32,x33,x34,x35,x36,x37,x38,x39,x40,x41,x42,x43,x44,x45,x46,x47,x48,x49,x50,x51,x52,x53,x54,x55,x56,x57,x58,x59,x60,x61,x62,x63,x64,x65,x66,x67,x68,x69,x70,x71,x72,x73,x74,x75,x76,x77,x78,x79,x80,x81,x82,x83,x84,x85,x86,x87,x88,x89,x90,x91,x92,x93,x94,x95,x96,x97,x98,x99,x100,x101,x102,x103,x104,x105,x106,x107,x108,x109,x110,x111,x112,x113,x114,x115,x116,x117,x118,x119,x120,x121,x122,x123,x124,x125,x126,x127,x128,x129,x130,x131,x132,x133,x134,x135,x136,x137,x138,x139,x140,x141,x142,x143,x144,x145,x146,x147,x148,x149,x150,x151,x152,x153,x154,x155,x156,x157,x158,x159,x160,x161,x162,x163,x164,x165,x166,x167,x168,x169,x170,x171,x172,x173,x174,x175,x176,x177,x178,x179,x180,x181,x182,x183,x184,x185,x186,x187,x188,x189,y190,y191,y192,y193,y194,y195,y196,y197,x198,x199,x200,x201,x202,x203,x204,x205,x206,x207,x208,x209,x210,x211,x212,x213,x214,x215,x216,x217,x218,x219,x220,x221,x222,x223,x224,x225,x226,x227,x228,x229,x230,x231,x232,x233,x234,x235,x236,x237,x238,x239,x240,x241,x242,x243,x244,x245,x246,x247,x248,x249,x250,x251,x252,x253,x254,x255,x256,x257,x258,x259,x260,x261,x262,x263,x264,x265,x266,x267,x268,x269,x270,x271,x272,x273],defers:=[] } w') :
    (JhN 41 (Jma Tryz.f7)).wp Tryz.prog Q { tmps:=#[x0,x1,x2,x3,x4,x5,x6,x7,x8,x9,x10,.pointer (some ⟨y,0,none⟩),x12,x13,x14,x15,x16,x17,x18,x19,x20,x21,x22,x23,x24,x25,x26,x27,x28,x29,x30,x31,x32,x33,x34,x35,x36,x37,x38,x39,x40,x41,x42,x43,x44,x45,x46,x47,x48,x49,x50,x51,x52,x53,x54,x55,x56,x57,x58,x59,x60,x61,x62,x63,x64,x65,x66,x67,x68,x69,x70,x71,x72,x73,x74,x75,x76,x77,x78,x79,x80,x81,x82,x83,x84,x85,x86,x87,x88,x89,x90,x91,x92,x93,x94,x95,x96,x97,x98,x99,x100,x101,x102,x103,x104,x105,x106,x107,x108,x109,x110,x111,x112,x113,x114,x115,x116,x117,x118,x119,x120,x121,x122,x123,x124,x125,x126,x127,x128,x129,x130,x131,x132,x133,x134,x135,x136,x137,x138,x139,x140,x141,x142,x143,x144,x145,x146,x147,x148,x149,x150,x151,x152,x153,x154,x155,x156,x157,x158,x159,x160,x161,x162,x163,x164,x165,x166,x167,x168,x169,x170,x171,x172,x173,x174,x175,x176,x177,x178,x179,x180,x181,x182,x183,x184,x185,x186,x187,x188,x189,x190,x191,x192,x193,x194,x195,x196,x197,x198,x199,x200,x201,x202,x203,x204,x205,x206,x207,x208,x209,x210,x211,x212,x213,x214,x215,x216,x217,x218,x219,x220,x221,x222,x223,x224,x225,x226,x227,x228,x229,x230,x231,x232,x233,x234,x235,x236,x237,x238,x239,x240,x241,x242,x243,x244,x245,x246,x247,x248,x249,x250,x251,x252,x253,x254,x255,x256,x257,x258,x259,x260,x261,x262,x263,x264,x265,x266,x267,x268,x269,x270,x271,x272,x273],defers:=[] } W:=by
 have HQ:=hdz hQ;clear hQ;refine Je4 (fun wx:World=>wx.cell? ⟨y,5,none⟩=some (.int .i64 i)/\wx.cell? ⟨y,6,none⟩=some v/\y<wx.heap.size) 10 10 (by kernel_rfl) (by kernel_rfl) ?_;intro w1 hb1;have hz1:w1.cell? ⟨y,5,none⟩=some (.int .i64 i)/\w1.cell? ⟨y,6,none⟩=some v/\y<w1.heap.size:=⟨(hb1.cell (p:=⟨y,5,none⟩) hy).trans h5,(hb1.cell (p:=⟨y,6,none⟩) hy).trans h6,Nat.lt_of_lt_of_le hy hb1.size⟩;obtain⟨G,hG⟩:=Jdk (Z:=(fun wx:World=>wx.cell? ⟨y,5,none⟩=some (.int .i64 i)/\wx.cell? ⟨y,6,none⟩=some v/\y<wx.heap.size)) hz1 (fun {w w'} h hb=>⟨(hb.cell (p:=⟨y,5,none⟩) h.2.2).trans h.1,(hb.cell (p:=⟨y,6,none⟩) h.2.2).trans h.2.1,Nat.lt_of_lt_of_le h.2.2 hb.size⟩);have g5:∀x,(G x).cell? ⟨y,5,none⟩=some (.int .i64 i):=fun x=>(hG.but x).1;have g6:∀x,(G x).cell? ⟨y,6,none⟩=some v:=fun x=>(hG.but x).2.1;clear h5 h6 hy;(iterate 10 (refine ay hG hz1 fun _ k=>?_;go_simp;apply k;clear k));refine JaA (by kernel_rfl) ?_;intro w2 hb2;exact HQ.out _ _ _ _ _ _ _ _ _ (hb1.trans (hb2.mono hb1.size))
theorem JsN{Q:Exit->Act->World->Prop}(y γ s:Nat)(i:Int)(p:Option Addr)(n c:Nat)(c0 c1 c2:Value){W:World}{x0 x1 x2 x3 x4 x5 x6 x7 x8 x9 x10 x12 x13 x15 x16 x17 x18 x19 x20 x21 x22 x23 x24 x25 x26 x27 x28 x29 x30 x31 x32 x33 x34 x35 x36 x37 x38 x39 x40 x41 x42 x43 x44 x45 x46 x47 x48 x49 x50 x51 x52 x53 x54 x55 x56 x57 x58 x59 x60 x61 x62 x63 x64 x65 x66 x67 x68 x69 x70 x71 x72 x73 x74 x75 x76 x77 x78 x79 x80 x81 x82 x83 x84 x85 x86 x87 x88 x89 x90 x91 x92 x93 x94 x95 x96 x97 x98 x99 x100 x101 x102 x103 x104 x105 x106 x107 x108 x109 x110 x111 x112 x113 x114 x115 x116 x117 x118 x119 x120 x121 x122 x123 x124 x125 x126 x127 x128 x129 x130 x131 x132 x133 x134 x135 x136 x137 x138 x139 x140 x141 x142 x143 x144 x145 x146 x147 x148 x149 x150 x151 x152 x153 x154 x155 x156 x157 x158 x159 x160 x161 x162 x163 x164 x165 x166 x167 x168 x169 x170 x171 x172 x173 x174 x175 x176 x177 x178 x179 x180 x181 x182 x183 x184 x185 x186 x187 x188 x189 x190 x191 x192 x193 x194 x195 x196 x197 x198 x199 x200 x201 x202 x203 x204 x205 x206 x207 x208 x209 x210 x211 x212 x213 x214 x215 x216 x217 x218 x219 x220 x221 x222 x223 x224 x225 x226 x227 x228 x229 x230 x231 x232 x233 x234 x235 x236 x237 x238 x239 x240 x241 x242 x243 x244 x245 x246 x247 x248 x249 x250 x251 x252 x253 x254 x255 x256 x257 x258 x259 x260 x261 x262 x263 x264 x265 x266 x267 x268 x269 x270 x271 x272 x273:Value}
    (hy:y<W.heap.size)
    (h5:W.cell? ⟨y,5,none⟩=some (.int .i64 i))
    (h6:W.cell? ⟨y,6,none⟩=some (.slice p n c))
    (hg:W.heap[γ]?=some (.cells #[c0,c1,c2] 103 (0,0)))
    (hs:s<=γ)
    (hQ:∀(y131 y132 y133 y134 y135 y136 y137 y138 y139:Value) (w':World),(w'.heap[γ]?=some (.cells #[.int .i64 7,.int .i64 i,.slice p n c] 103 (0,0))/\Below s W w')->Q .normal { tmps:=#[x0,x1,x2,x3,x4,x5,x6,x7,x8,x9,x10,.pointer (some ⟨y,0,none⟩),x12,x13,.pointer (some ⟨γ,0,none⟩),x15,x16,x17,x18,x19,x20,x21,x22,x23,x24,x25,x26,x27,x28,x29,x30,x31,x32,x33,x34,x35,x36,x37,x38,x39,x40,x41,x42,x43,x44,x45,x46,x47,x48,x49,x50,x51,x52,x53,x54,x55,x56,x57,x58,x59,x60,x61,x62,x63,x64,x65,x66,x67,x68,x69,x70,x71,x72,x73,x74,x75,x76,x77,x78,x79,x80,x81,x82,x83,x84,x85,x86,x87,x88,x89,x90,x91,x92,x93,x94,x95,x96,x97,x98,x99,x100,x101,x102,x103,x104,x105,x106,x107,x108,x109,x110,x111,x112,x113,x114,x115,x116,x117,x118,x119,x120,x121,x122,x123,x124,x125,x126,x127,x128,x129,x130,y131,y132,y133,y134,y135,y136,y137,y138,y139,x140,x141,x142,x143,x144,x145,x146,x147,x148,x149,x150,x151,x152,x153,x154,x155,x156,x157,x158,x159,x160,x161,x162,x163,x164,x165,x166,x167,x168,x169,x170,x171,x172,x173,x174,x175,x176,x177,x178,x179,x180,x181,x182,x183,x184,x185,x186,x187,x188,x189,x190,x191,x192,x193,x194,x195,x196,x197,x198,x199,x200,x201,x202,x203,x204,x205,x206,x207,x208,x209,x210,x211,x212,x213,x214,x215,x216,x217,x218,x219,x220,x221,x222,x223,x224,x225,x226,x227,x228,x229,x230,x231,x232,x233,x234,x235,x236,x237,x238,x239,x240,x241,x242,x243,x244,x245,x246,x247,x248,x249,x250,x251,x252,x253,x254,x255,x256,x257,x258,x259,x260,x261,x262,x263,x264,x265,x266,x267,x268,x269,x270,x271,x272,x273],defers:=[] } w') :
    (JhN 27 (Jma Tryz.f7)).wp Tryz.prog Q { tmps:=#[x0,x1,x2,x3,x4,x5,x6,x7,x8,x9,x10,.pointer (some ⟨y,0,none⟩),x12,x13,.pointer (some ⟨γ,0,none⟩),x15,x16,x17,x18,x19,x20,x21,x22,x23,x24,x25,x26,x27,x28,x29,x30,x31,x32,x33,x34,x35,x36,x37,x38,x39,x40,x41,x42,x43,x44,x45,x46,x47,x48,x49,x50,x51,x52,x53,x54,x55,x56,x57,x58,x59,x60,x61,x62,x63,x64,x65,x66,x67,x68,x69,x70,x71,x72,x73,x74,x75,x76,x77,x78,x79,x80,x81,x82,x83,x84,x85,x86,x87,x88,x89,x90,x91,x92,x93,x94,x95,x96,x97,x98,x99,x100,x101,x102,x103,x104,x105,x106,x107,x108,x109,x110,x111,x112,x113,x114,x115,x116,x117,x118,x119,x120,x121,x122,x123,x124,x125,x126,x127,x128,x129,x130,x131,x132,x133,x134,x135,x136,x137,x138,x139,x140,x141,x142,x143,x144,x145,x146,x147,x148,x149,x150,x151,x152,x153,x154,x155,x156,x157,x158,x159,x160,x161,x162,x163,x164,x165,x166,x167,x168,x169,x170,x171,x172,x173,x174,x175,x176,x177,x178,x179,x180,x181,x182,x183,x184,x185,x186,x187,x188,x189,x190,x191,x192,x193,x194,x195,x196,x197,x198,x199,x200,x201,x202,x203,x204,x205,x206,x207,x208,x209,x210,x211,x212,x213,x214,x215,x216,x217,x218,x219,x220,x221,x222,x223,x224,x225,x226,x227,x228,x229,x230,x231,x232,x233,x234,x235,x236,x237,x238,x239,x240,x241,x242,x243,x244,x245,x246,x247,x248,x249,x250,x251,x252,x253,x254,x255,x256,x257,x258,x259,x260,x261,x262,x263,x264,x265,x266,x267,x268,x269,x270,x271,x272,x273],defers:=[] } W:=by
 have HQ:=hdz hQ;clear hQ;have hlt:=(alt hg);refine Je4 (fun wx:World=>wx.cell? ⟨y,5,none⟩=some (.int .i64 i)/\wx.cell? ⟨y,6,none⟩=some (.slice p n c)/\y<wx.heap.size) 9 10 (by kernel_rfl) (by kernel_rfl) ?_;intro w1 hb1;have hz1:w1.cell? ⟨y,5,none⟩=some (.int .i64 i)/\w1.cell? ⟨y,6,none⟩=some (.slice p n c)/\y<w1.heap.size:=⟨(hb1.cell (p:=⟨y,5,none⟩) hy).trans h5,(hb1.cell (p:=⟨y,6,none⟩) hy).trans h6,Nat.lt_of_lt_of_le hy hb1.size⟩;obtain⟨G,hG⟩:=Jdk (Z:=(fun wx:World=>wx.cell? ⟨y,5,none⟩=some (.int .i64 i)/\wx.cell? ⟨y,6,none⟩=some (.slice p n c)/\y<wx.heap.size)) hz1 (fun {w w'} h hb=>⟨(hb.cell (p:=⟨y,5,none⟩) h.2.2).trans h.1,(hb.cell (p:=⟨y,6,none⟩) h.2.2).trans h.2.1,Nat.lt_of_lt_of_le h.2.2 hb.size⟩);have g5:∀x,(G x).cell? ⟨y,5,none⟩=some (.int .i64 i):=fun x=>(hG.but x).1;have g6:∀x,(G x).cell? ⟨y,6,none⟩=some (.slice p n c):=fun x=>(hG.but x).2.1;have hg1:=Jda hg hb1;have HB1:=hdz hb1;have HS:Hid (s<=γ):=hs;have HSW:Hid (s<=W.heap.size):=Nat.le_trans hs (Nat.le_of_lt hlt);clear h5 h6 hy hg hlt hs hb1;refine az hG hz1 0 fun _ k=>?_;go_simp;apply k;clear k;refine az hG hz1 1 fun _ k=>?_;go_simp;apply k;clear k;refine az hG hz1 2 fun _ k=>?_;go_simp;apply k;clear k;refine az hG hz1 3 fun _ k=>?_;go_simp;apply k;clear k;refine az hG hz1 4 fun _ k=>?_;go_simp;apply k;clear k;refine az hG hz1 5 fun _ k=>?_;go_simp;apply k;clear k;refine az hG hz1 6 fun _ k=>?_;go_simp;apply k;clear k;refine az hG hz1 7 fun _ k=>?_;go_simp;apply k;clear k;refine az hG hz1 8 fun _ k=>?_;go_simp;apply k;clear k;clear g5 g6 hG hz1;refine JgV (by kernel_rfl) ?_;refine JaI (i:=9) (by kernel_rfl) ⟨_,rfl,?_⟩;intro w2 hb2 K hK;have hg2:=Jda hg1 hb2;have hb3:Below s W w2:=(HB1.out.mono HSW.out).trans (hb2.mono (Nat.le_trans HSW.out HB1.out.size));have hset:=Jqd (.int .i64 7) (.int .i64 i) (.slice p n c) hg2 hb3 HS.out;have f0:=fz hg2 0;have f1:=fz hg2 1;have f2:=fz hg2 2;have d0:=ce hg2 0 rfl;have d1:=ce hg2 1 rfl;have d2:=ce hg2 2 rfl;have HST:=hdz hset;clear hg1 hg2 hset hb3
 go_simp
 refine hK _ _ (fun h=>h) ?_;clear hK K;refine JaA (by kernel_rfl) ?_;intro w4 hb4;have hs4:=HST.out;unfold set3 at hs4;exact HQ.out _ _ _ _ _ _ _ _ _ _ ⟨Jda hs4.1 hb4,hs4.2.trans (hb4.mono (Nat.le_trans HSW.out hs4.2.size))⟩
theorem JsL{Q:Exit->Act->World->Prop}(β γ s:Nat)(j:Int)(m0 m2 m3 c0 c1 c2:Value){W:World}{x0 x1 x2 x3 x4 x5 x6 x7 x8 x9 x10 x11 x12 x15 x16 x17 x18 x19 x20 x21 x22 x23 x24 x25 x26 x27 x28 x29 x30 x31 x32 x33 x34 x35 x36 x37 x38 x39 x40 x41 x42 x43 x44 x45 x46 x47 x48 x49 x50 x51 x52 x53 x54 x55 x56 x57 x58 x59 x60 x61 x62 x63 x64 x65 x66 x67 x68 x69 x70 x71 x72 x73 x74 x75 x76 x77 x78 x79 x80 x81 x82 x83 x84 x85 x86 x87 x88 x89 x90 x91 x92 x93 x94 x95 x96 x97 x98 x99 x100 x101 x102 x103 x104 x105 x106 x107 x108 x109 x110 x111 x112 x113 x114 x115 x116 x117 x118 x119 x120 x121 x122 x123 x124 x125 x126 x127 x128 x129 x130 x131 x132 x133 x134 x135 x136 x137 x138 x139 x140 x141 x142 x143 x144 x145 x146 x147 x148 x149 x150 x151 x152 x153 x154 x155 x156 x157 x158 x159 x160 x161 x162 x163 x164 x165 x166 x167 x168 x169 x170 x171 x172 x173 x174 x175 x176 x177 x178 x179 x180 x181 x182 x183 x184 x185 x186 x187 x188 x189 x190 x191 x192 x193 x194 x195 x196 x197 x198 x199 x200 x201 x202 x203 x204 x205 x206 x207 x208 x209 x210 x211 x212 x213 x214 x215 x216 x217 x218 x219 x220 x221 x222 x223 x224 x225 x226 x227 x228 x229 x230 x231 x232 x233 x234 x235 x236 x237 x238 x239 x240 x241 x242 x243 x244 x245 x246 x247 x248 x249 x250 x251 x252 x253 x254 x255 x256 x257 x258 x259 x260 x261 x262 x263 x264 x265 x266 x267 x268 x269 x270 x271 x272 x273:Value}
    (hbx:W.heap[β]?=some (.cells #[m0,.int .i64 j,m2,m3] 100 (0,0)))
    (hg:W.heap[γ]?=some (.cells #[c0,c1,c2] 103 (0,0)))
    (hs:s<=γ)
    (hQ:∀(y142 y143 y144:Value) (w':World),(w'.heap[γ]?=some (.cells #[.int .i64 7,c1,c2] 103 (0,0))/\Below s W w')->Q .normal { tmps:=#[x0,x1,x2,x3,x4,x5,x6,x7,x8,x9,x10,x11,x12,.pointer (some ⟨β,0,none⟩),.pointer (some ⟨γ,0,none⟩),.int .i64 j,x16,x17,x18,x19,x20,x21,x22,x23,x24,x25,x26,x27,x28,x29,x30,x31,x32,x33,x34,x35,x36,x37,x38,x39,x40,x41,x42,x43,x44,x45,x46,x47,x48,x49,x50,x51,x52,x53,x54,x55,x56,x57,x58,x59,x60,x61,x62,x63,x64,x65,x66,x67,x68,x69,x70,x71,x72,x73,x74,x75,x76,x77,x78,x79,x80,x81,x82,x83,x84,x85,x86,x87,x88,x89,x90,x91,x92,x93,x94,x95,x96,x97,x98,x99,x100,x101,x102,x103,x104,x105,x106,x107,x108,x109,x110,x111,x112,x113,x114,x115,x116,x117,x118,x119,x120,x121,x122,x123,x124,x125,x126,x127,x128,x129,x130,x131,x132,x133,x134,x135,x136,x137,x138,x139,x140,x141,y142,y143,y144,x145,x146,x147,x148,x149,x150,x151,x152,x153,x154,x155,x156,x157,x158,x159,x160,x161,x162,x163,x164,x165,x166,x167,x168,x169,x170,x171,x172,x173,x174,x175,x176,x177,x178,x179,x180,x181,x182,x183,x184,x185,x186,x187,x188,x189,x190,x191,x192,x193,x194,x195,x196,x197,x198,x199,x200,x201,x202,x203,x204,x205,x206,x207,x208,x209,x210,x211,x212,x213,x214,x215,x216,x217,x218,x219,x220,x221,x222,x223,x224,x225,x226,x227,x228,x229,x230,x231,x232,x233,x234,x235,x236,x237,x238,x239,x240,x241,x242,x243,x244,x245,x246,x247,x248,x249,x250,x251,x252,x253,x254,x255,x256,x257,x258,x259,x260,x261,x262,x263,x264,x265,x266,x267,x268,x269,x270,x271,x272,x273],defers:=[] } w') :
    (JhN 29 (Jma Tryz.f7)).wp Tryz.prog Q { tmps:=#[x0,x1,x2,x3,x4,x5,x6,x7,x8,x9,x10,x11,x12,.pointer (some ⟨β,0,none⟩),.pointer (some ⟨γ,0,none⟩),x15,x16,x17,x18,x19,x20,x21,x22,x23,x24,x25,x26,x27,x28,x29,x30,x31,x32,x33,x34,x35,x36,x37,x38,x39,x40,x41,x42,x43,x44,x45,x46,x47,x48,x49,x50,x51,x52,x53,x54,x55,x56,x57,x58,x59,x60,x61,x62,x63,x64,x65,x66,x67,x68,x69,x70,x71,x72,x73,x74,x75,x76,x77,x78,x79,x80,x81,x82,x83,x84,x85,x86,x87,x88,x89,x90,x91,x92,x93,x94,x95,x96,x97,x98,x99,x100,x101,x102,x103,x104,x105,x106,x107,x108,x109,x110,x111,x112,x113,x114,x115,x116,x117,x118,x119,x120,x121,x122,x123,x124,x125,x126,x127,x128,x129,x130,x131,x132,x133,x134,x135,x136,x137,x138,x139,x140,x141,x142,x143,x144,x145,x146,x147,x148,x149,x150,x151,x152,x153,x154,x155,x156,x157,x158,x159,x160,x161,x162,x163,x164,x165,x166,x167,x168,x169,x170,x171,x172,x173,x174,x175,x176,x177,x178,x179,x180,x181,x182,x183,x184,x185,x186,x187,x188,x189,x190,x191,x192,x193,x194,x195,x196,x197,x198,x199,x200,x201,x202,x203,x204,x205,x206,x207,x208,x209,x210,x211,x212,x213,x214,x215,x216,x217,x218,x219,x220,x221,x222,x223,x224,x225,x226,x227,x228,x229,x230,x231,x232,x233,x234,x235,x236,x237,x238,x239,x240,x241,x242,x243,x244,x245,x246,x247,x248,x249,x250,x251,x252,x253,x254,x255,x256,x257,x258,x259,x260,x261,x262,x263,x264,x265,x266,x267,x268,x269,x270,x271,x272,x273],defers:=[] } W:=by
 have HQ:=hdz hQ;clear hQ;have hlt:=(alt hg);have hne:β≠γ:=fun e=>by
  rw[e,hg]at hbx;injection hbx with hbx;injection hbx with _ e2;exact absurd e2 (by decide)
 refine wz (fun wx:World=>wx.heap[β]?=some (.cells #[m0,.int .i64 j,m2,m3] 100 (0,0))) 5 hbx Jda fun w1 hb1 hz1 G hG=>?_;have g1:∀x,(G x).cell? ⟨β,1,none⟩=some (.int .i64 j):=fun x=>chp (hG.but x) 1;have hg1:=Jda hg hb1;have HB1:=hdz hb1;have HS:Hid (s<=γ):=hs;have HNE:Hid (β≠γ):=hne;have HSW:Hid (s<=W.heap.size):=Nat.le_trans hs (Nat.le_of_lt hlt);clear hbx hg hlt hs hb1 hne;(iterate 3 (refine ay hG hz1 fun _ k=>?_;go_simp;apply k;clear k));clear g1 hG hz1;refine JaI (i:=3) (by kernel_rfl) ⟨_,rfl,?_⟩;intro w2 hb2 K hK;have hg2:=Jda hg1 hb2;have hb3:Below s W w2:=(HB1.out.mono HSW.out).trans (hb2.mono (Nat.le_trans HSW.out HB1.out.size));have HH:Hid ((w2.setCell ⟨γ,0,none⟩ (.int .i64 7)).heap[γ]?=some (.cells #[.int .i64 7,c1,c2] 103 (0,0))):=heap_setCell_same w2 γ 0 _ _ _ hg2;have HBS:Hid (Below s W (w2.setCell ⟨γ,0,none⟩ (.int .i64 7))):=hb3.setCell (p:=⟨γ,0,none⟩) HS.out _;have HZ2:Hid (∀o,w2.heap[β]?=some o->(w2.setCell ⟨γ,0,none⟩ (.int .i64 7)).heap[β]?=some o):=fun o h=>by
  exact(heap_setCell_other w2 ⟨γ,0,none⟩ β _ HNE.out).trans h
 have f0:=fz hg2 0;have d0:=ce hg2 0 rfl;clear hg1 hg2 hb3
 go_simp
 refine hK _ _ (HZ2.out _) ?_;clear hK K;refine JaI (i:=4) (by kernel_rfl) ⟨_,rfl,?_⟩;intro w3 hb3 K hK
 go_simp
 refine hK _ _ (fun h=>h) ?_;clear hK K;refine JaA (by kernel_rfl) ?_;intro w4 hb4;have hb34:=hb3.trans (hb4.mono hb3.size);exact HQ.out _ _ _ _ ⟨Jda HH.out hb34,HBS.out.trans (hb34.mono (Nat.le_trans HSW.out HBS.out.size))⟩
theorem Jkq{Q:Exit->Act->World->Prop}(w0:World)(b y γ k:Nat)(u:Int)(S S1:Cl)(EE rev c i:Int)(x:List Pt)(p:Option Addr)(n cc:Nat){W:World}{x0 x1 x2 x3 x4 x5 x6 x7 x8 x10 x12 x13 x16 x17 x18 x19 x20 x21 x22 x23 x24 x25 x26 x27 x28 x29 x30 x31 x32 x33 x34 x35 x36 x37 x38 x39 x40 x41 x42 x43 x44 x45 x46 x47 x48 x49 x50 x51 x52 x53 x54 x55 x56 x57 x58 x59 x60 x61 x62 x63 x64 x65 x66 x67 x68 x69 x70 x71 x72 x73 x74 x75 x76 x77 x78 x79 x80 x81 x82 x83 x84 x85 x86 x87 x88 x89 x90 x91 x92 x93 x94 x95 x96 x97 x98 x99 x100 x101 x102 x103 x104 x105 x106 x107 x108 x109 x110 x111 x112 x113 x114 x115 x116 x117 x118 x119 x120 x121 x122 x123 x124 x125 x126 x127 x128 x129 x130 x131 x132 x133 x134 x135 x136 x137 x138 x139 x140 x141 x142 x143 x144 x145 x146 x147 x148 x149 x150 x151 x152 x153 x154 x155 x156 x157 x158 x159 x160 x161 x162 x163 x164 x165 x166 x167 x168 x169 x170 x171 x172 x173 x174 x175 x176 x177 x178 x179 x180 x181 x182 x183 x184 x185 x186 x187 x188 x189 x190 x191 x192 x193 x194 x195 x196 x197 x198 x199 x200 x201 x202 x203 x204 x205 x206 x207 x208 x209 x210 x211 x212 x213 x214 x215 x216 x217 x218 x219 x220 x221 x222 x223 x224 x225 x226 x227 x228 x229 x230 x231 x232 x233 x234 x235 x236 x237 x238 x239 x240 x241 x242 x243 x244 x245 x246 x247 x248 x249 x250 x251 x252 x253 x254 x255 x256 x257 x258 x259 x260 x261 x262 x263 x264 x265 x266 x267 x268 x269 x270 x271 x272 x273:Value}
    (hg:W.heap[γ]?=some (.cells #[.int .i64 c,.int .i64 i,.slice p n cc] 103 (0,0)))
    (h1:∀wx,Below W.heap.size W wx->Calls Tryz.prog 49 #[.pointer (some ⟨b,0,none⟩),.int .i64 rev,.agg #[.int .i64 c,.int .i64 i,.slice p n cc]] wx fun e w'=>e=.returned (errV EE)/\CMid w0 b y u S S1 (.slice p n cc) x γ (.cells #[.int .i64 c,.int .i64 i,.slice p n cc] 103 (0,0)) w')
    (h2:∀w4,CMid w0 b y u S S1 (.slice p n cc) x γ (.cells #[.int .i64 c,.int .i64 i,.slice p n cc] 103 (0,0)) w4->∀wx,Below w4.heap.size w4 wx->Calls Tryz.prog 50 #[.pointer (some ⟨y,0,none⟩),.int .i64 rev,.agg #[.int .i64 c,.int .i64 i,.slice p n cc]] wx fun e w'=>e=.returned (.int .i64 EE)/\CTwo w0.heap.size b y u S1 k w'/\Below w0.heap.size w0 w'/\w'.heap[γ]?=some (.cells #[.int .i64 c,.int .i64 i,.slice p n cc] 103 (0,0)))
    (h3:∀wx,Below w0.heap.size w0 wx->Calls Tryz.prog 17 #[errV EE,.int .i64 EE] wx fun e w'=>e=.returned (.bool true)/\Below wx.heap.size wx w')
    (hQ:∀(y145 y146 y147 y148 y149 y150 y151 y152 y153 y154 y155 y156 y157 y158 y159:Value) (w':World),(CTwo w0.heap.size b y u S1 k w'/\Below w0.heap.size w0 w')->Q .normal { tmps:=#[x0,x1,x2,x3,x4,x5,x6,x7,x8,.pointer (some ⟨b,0,none⟩),x10,.pointer (some ⟨y,0,none⟩),x12,x13,.pointer (some ⟨γ,0,none⟩),.int .i64 rev,x16,x17,x18,x19,x20,x21,x22,x23,x24,x25,x26,x27,x28,x29,x30,x31,x32,x33,x34,x35,x36,x37,x38,x39,x40,x41,x42,x43,x44,x45,x46,x47,x48,x49,x50,x51,x52,x53,x54,x55,x56,x57,x58,x59,x60,x61,x62,x63,x64,x65,x66,x67,x68,x69,x70,x71,x72,x73,x74,x75,x76,x77,x78,x79,x80,x81,x82,x83,x84,x85,x86,x87,x88,x89,x90,x91,x92,x93,x94,x95,x96,x97,x98,x99,x100,x101,x102,x103,x104,x105,x106,x107,x108,x109,x110,x111,x112,x113,x114,x115,x116,x117,x118,x119,x120,x121,x122,x123,x124,x125,x126,x127,x128,x129,x130,x131,x132,x133,x134,x135,x136,x137,x138,x139,x140,x141,x142,x143,x144,y145,y146,y147,y148,y149,y150,y151,y152,y153,y154,y155,y156,y157,y158,y159,.bool false,x161,x162,x163,x164,x165,x166,x167,x168,x169,x170,x171,x172,x173,x174,x175,x176,x177,x178,x179,x180,x181,x182,x183,x184,x185,x186,x187,x188,x189,x190,x191,x192,x193,x194,x195,x196,x197,x198,x199,x200,x201,x202,x203,x204,x205,x206,x207,x208,x209,x210,x211,x212,x213,x214,x215,x216,x217,x218,x219,x220,x221,x222,x223,x224,x225,x226,x227,x228,x229,x230,x231,x232,x233,x234,x235,x236,x237,x238,x239,x240,x241,x242,x243,x244,x245,x246,x247,x248,x249,x250,x251,x252,x253,x254,x255,x256,x257,x258,x259,x260,x261,x262,x263,x264,x265,x266,x267,x268,x269,x270,x271,x272,x273],defers:=[] } w') :
    (JhN 30 (Jma Tryz.f7)).wp Tryz.prog Q { tmps:=#[x0,x1,x2,x3,x4,x5,x6,x7,x8,.pointer (some ⟨b,0,none⟩),x10,.pointer (some ⟨y,0,none⟩),x12,x13,.pointer (some ⟨γ,0,none⟩),.int .i64 rev,x16,x17,x18,x19,x20,x21,x22,x23,x24,x25,x26,x27,x28,x29,x30,x31,x32,x33,x34,x35,x36,x37,x38,x39,x40,x41,x42,x43,x44,x45,x46,x47,x48,x49,x50,x51,x52,x53,x54,x55,x56,x57,x58,x59,x60,x61,x62,x63,x64,x65,x66,x67,x68,x69,x70,x71,x72,x73,x74,x75,x76,x77,x78,x79,x80,x81,x82,x83,x84,x85,x86,x87,x88,x89,x90,x91,x92,x93,x94,x95,x96,x97,x98,x99,x100,x101,x102,x103,x104,x105,x106,x107,x108,x109,x110,x111,x112,x113,x114,x115,x116,x117,x118,x119,x120,x121,x122,x123,x124,x125,x126,x127,x128,x129,x130,x131,x132,x133,x134,x135,x136,x137,x138,x139,x140,x141,x142,x143,x144,x145,x146,x147,x148,x149,x150,x151,x152,x153,x154,x155,x156,x157,x158,x159,x160,x161,x162,x163,x164,x165,x166,x167,x168,x169,x170,x171,x172,x173,x174,x175,x176,x177,x178,x179,x180,x181,x182,x183,x184,x185,x186,x187,x188,x189,x190,x191,x192,x193,x194,x195,x196,x197,x198,x199,x200,x201,x202,x203,x204,x205,x206,x207,x208,x209,x210,x211,x212,x213,x214,x215,x216,x217,x218,x219,x220,x221,x222,x223,x224,x225,x226,x227,x228,x229,x230,x231,x232,x233,x234,x235,x236,x237,x238,x239,x240,x241,x242,x243,x244,x245,x246,x247,x248,x249,x250,x251,x252,x253,x254,x255,x256,x257,x258,x259,x260,x261,x262,x263,x264,x265,x266,x267,x268,x269,x270,x271,x272,x273],defers:=[] } W:=by
 have HQ:=hdz hQ;clear hQ;have HC1:=hdz h1;have HC2:=hdz h2;have HC3:=hdz h3;clear h1 h2 h3;refine wz (fun wx:World=>wx.heap[γ]?=some (.cells #[.int .i64 c,.int .i64 i,.slice p n cc] 103 (0,0))) 16 hg Jda fun w1 hb1 hz1 G hG=>?_;have g0:∀x,(G x).cell? ⟨γ,0,none⟩=some (.int .i64 c):=fun x=>chp (hG.but x) 0;have g1:∀x,(G x).cell? ⟨γ,1,none⟩=some (.int .i64 i):=fun x=>chp (hG.but x) 1;have g2:∀x,(G x).cell? ⟨γ,2,none⟩=some (.slice p n cc):=fun x=>chp (hG.but x) 2;obtain⟨ev,hu⟩:∃ev,errV EE=ev:=⟨_,rfl⟩;rw[hu]at HC1 HC3;clear hg hu;(iterate 9 (refine ay hG hz1 fun _ k=>?_;go_simp;apply k;clear k));refine az hG hz1 10 fun _ k=>?_;go_simp;apply k;clear k;refine az hG hz1 11 fun _ k=>?_;go_simp;apply k;clear k;refine az hG hz1 12 fun _ k=>?_;go_simp;apply k;clear k;clear g0 g1 g2 hG hz1;refine JaI (i:=9) (by kernel_rfl) ⟨_,rfl,?_⟩;intro w31 hb31 K hK
 go_simp
 refine(HC1.out w31 (hb1.trans (hb31.mono hb1.size))).mono ?_;rintro e w4 ⟨rfl,hm⟩;have HM:=hdz hm;refine⟨_,rfl,hK _ _ (fun _=>hm.box) ?_⟩;clear hK K hm;refine JaI (i:=13) (by kernel_rfl) ⟨_,rfl,?_⟩;intro w32 hb32 K hK
 go_simp
 refine(HC2.out w4 HM.out w32 hb32).mono ?_;rintro e w5 ⟨rfl,hC5,hb5,hx5⟩;have HC5:=hdz hC5;have HL5:=hdz hb5;have HX5:=hdz hx5;refine⟨_,rfl,hK _ _ (fun _=>hx5) ?_⟩;clear hK K hC5 hb5 hx5;refine JaI (i:=14) (by kernel_rfl) ⟨_,rfl,?_⟩;intro w33 hb33 K hK
 go_simp
 have hL33:Below w0.heap.size w0 w33:=Below.trans HL5.out (hb33.mono (Below.size HL5.out));refine(HC3.out w33 hL33).mono ?_;rintro e w6 ⟨rfl,hb6⟩;have hb36:=hb33.trans (hb6.mono hb33.size);have HC6:Hid _:=CTwo.below HC5.out hb36;have HL6:Hid (Below w0.heap.size w0 w6):=Below.trans HL5.out (hb36.mono (Below.size HL5.out));refine⟨_,rfl,hK _ _ (fun _=>Jda HX5.out hb36) ?_⟩;clear hK K hb6 hb33 hL33 hb36;refine JaI (i:=15) (by kernel_rfl) ⟨_,rfl,?_⟩;intro w34 hb34 K hK
 go_simp
 refine hK _ _ (fun h=>h) ?_;clear hK K;refine JaA (by kernel_rfl) ?_;intro w7 hb7;have hb67:=hb34.trans (hb7.mono hb34.size);exact HQ.out _ _ _ _ _ _ _ _ _ _ _ _ _ _ _ _ ⟨CTwo.below HC6.out hb67,Below.trans HL6.out (hb67.mono (Below.size HL6.out))⟩
end
section
variable {E : List SE}{D D' : List (List UInt8)}{n n' l0 : Int}{q : Int × Cl}
structure Pk where
 kind:Int
 c:Nat
 rev:Int
 id:Int
 x:SE
structure Rm where
 t:List UInt8
 E:List SE
 M:Told
 n:Nat
 cl:List (Int×Cl)
 fl:List Pk
 lost:Nat
def noSE:SE:=⟨0,0,[]⟩
def noCl:Int×Cl:=(1,⟨[],[],0,0,0,[]⟩)
def clK (R:Rm) (k:Nat):Int×Cl:=(R.cl[k]?).getD noCl
def setC (R:Rm) (k:Nat) (S:Cl):Rm:={ R with cl:=R.cl.set k ((clK R k).1,S) }
def Jem (R:Rm) (p:Pk):Rm:=if 400<=R.fl.length then { R with lost:=R.lost+1 } else { R with fl:=R.fl++[p] }
def Jhn (k:Nat):Int->List SE->Rm->Rm
 | _,[],R=>R
 | f,x :: xs,R=>Jhn k (f+1) xs (Jem R ⟨3,k,f,0,x⟩)
def JeS (R:Rm) (k:Nat) (f:Int):Rm:=if f<0\/(R.E.length:Int)<f then R else Jhn k f (R.E.drop f.toNat) R
def srvR (l0:Int) (R:Rm) (p:Pk):Rm :=
 { R with t:=stT l0 R.t R.E R.M p.c p.id p.rev p.x.op,E:=stL l0 R.t R.E R.M p.c p.id p.rev p.x.op,M:=stM l0 R.t R.E R.M p.c p.id p.rev p.x.op,n:=R.n+1 }
def srvE (l0:Int) (R:Rm) (p:Pk):Int:=stE l0 R.t R.E R.M p.c p.id p.rev p.x.op
def JhO (p:Pk):Pk:=⟨4,p.c,0,p.id,noSE⟩
def askR (l0:Int) (R:Rm) (p:Pk):Rm :=
 if srvE l0 R p≠0/\srvE l0 R p≠8 then Jem (JeS (srvR l0 R p) p.c p.rev) (JhO p) else JeS (srvR l0 R p) p.c p.rev
def JdV (l0:Int) (R:Rm) (p:Pk):Rm :=
 if p.kind=1 then askR l0 R p else if p.kind=2 then JeS R p.c p.rev
 else if p.kind=3 then setC R p.c (tkS p.c (clK R p.c).2 p.rev p.x.c p.x.i p.x.op)
 else if p.kind=4 then setC R p.c (rfS (clK R p.c).2 p.id) else R
def askP (R:Rm) (k:Nat):Pk :=
 if (clK R k).2.mine=[] then ⟨2,k,(clK R k).2.rev,0,noSE⟩ else ⟨1,k,(clK R k).2.rev,(clK R k).2.id,⟨k,(clK R k).2.id,JbP (clK R k).2⟩⟩
def Jqe (R:Rm) (k:Nat):Rm:=Jem R (askP R k)
def outR (R:Rm) (i:Nat):Rm:={ R with fl:=R.fl.eraseIdx i }
def JcS (l0:Int):Nat->Rm->Rm
 | 0,R=>R
 | n+1,R=>match R.fl with
  | []=>R
  | p :: fl=>JcS l0 n (JdV l0 { R with fl:=fl } p)
def wP (p:Pk):Nat:=if p.kind=1\/p.kind=2 then 400 else 1
def JaJ (fl:List Pk):Nat:=(fl.map wP).sum
def JeT (l0:Int) (R:Rm):Rm:=JcS l0 (JaJ R.fl) R
def Jf8 (l0:Int):Nat->Nat->Rm->Rm
 | 0,_,R=>R
 | n+1,k,R=>Jf8 l0 n (k+1) (JeT l0 (Jqe R k))
def Jln (l0:Int) (R:Rm):Rm:=Jf8 l0 R.cl.length 0 (JeT l0 R)
def potR (R:Rm):Nat:=R.n+R.lost+JaJ R.fl
/-! what is kept -/
structure okCl (n:Int) (D:List (List UInt8)) (q:Int×Cl):Prop where
 unit:Jaz q.1
 ok:okK 2000 q.2
 rev:0<=q.2.rev
 seen:D[q.2.rev.toNat]?=some q.2.seen
 id:0<=q.2.id/\q.2.id+(if 2<=q.2.mine.length then 1 else 0)<=n
 dr:0<=q.2.drops/\q.2.drops+(if q.2.mine=[] then 0 else 1)<=q.2.id
structure okPk (E:List SE) (D:List (List UInt8)) (m:Nat) (p:Pk):Prop where
 c:p.c<m
 kind:p.kind=1\/p.kind=2\/p.kind=3\/p.kind=4
 rev:0<=p.rev/\p.rev<=(E.length:Int)
 ask:p.kind=1->p.x.c=(p.c:Int)/\p.x.i=p.id/\∃d,D[p.rev.toNat]?=some d/\good p.x.op d/\Jal p.x.op<=2000
 told:p.kind=3->E[p.rev.toNat]?=some p.x
structure Lk (E:List SE) (D:List (List UInt8)):Prop where
 len:D.length=E.length+1
 link:∀(i:Nat) (x:SE) (d:List UInt8),E[i]?=some x->D[i]?=some d->good x.op d/\D[i+1]?=some (Jaa x.op d)
 fair:∀d∈D,V d/\d.length<=2000
structure Inv (l0 n:Int) (D:List (List UInt8)) (R:Rm):Prop where
 srv:okS l0 R.t R.E
 docs:okD l0 R.t R.E D
 lk:Lk R.E D
 few:R.E.length<=300
 cls:∀(k:Nat) (q:Int×Cl),R.cl[k]?=some q->okCl n D q
 pks:∀p∈R.fl,okPk R.E D R.cl.length p
 room:R.fl.length<=400
theorem Lk.at_(h:Lk E D){i:Nat}(hi:i<=E.length):∃d,D[i]?=some d/\V d/\d.length<=2000:=by
 have:i<D.length:=by have:=h.len;omega
 exact⟨D[i],lgg this,h.fair _ (List.getElem_mem this)⟩
theorem Lk.puts(h:Lk E D){i:Nat}{x:SE}(hx:E[i]?=some x):Jal x.op<=2000:=by
 have hi:i<E.length:=(llt hx);obtain⟨d,hd,_,_⟩:=h.at_ (Nat.le_of_lt hi);obtain⟨g,h1⟩:=h.link i x d hx hd;have h2:=h.fair _ (List.mem_of_getElem? h1);have:=Jm6 g;omega
theorem okPk.more{E':List SE}{m:Nat}{p:Pk}(h:okPk E D m p)(hE:∀(i:Nat)(x:SE),E[i]?=some x->E'[i]?=some x)(hl:E.length<=E'.length)(hD:∀(i:Nat)(d:List UInt8),D[i]?=some d->D'[i]?=some d):okPk E' D' m p :=
 ⟨h.c,h.kind,⟨h.rev.1,by have:=h.rev.2;omega⟩,fun hk=>by
  obtain⟨a,b,d,h1,h2⟩:=h.ask hk;exact⟨a,b,d,hD _ _ h1,h2⟩,fun hk=>hE _ _ (h.told hk)⟩
theorem okCl.more(h:okCl n D q)(hn:n<=n')(hD:∀(i:Nat)(d:List UInt8),D[i]?=some d->D'[i]?=some d):okCl n' D' q :=
 ⟨h.unit,h.ok,h.rev,hD _ _ h.seen,⟨h.id.1,Int.le_trans h.id.2 hn⟩,h.dr⟩
theorem Inv.more{l0 n n':Int}{D:List (List UInt8)}{R:Rm}(h:Inv l0 n D R)(hn:n<=n'):Inv l0 n' D R :=
 ⟨h.srv,h.docs,h.lk,h.few,fun k q hq=>(h.cls k q hq).more hn fun _ _ h=>h,h.pks,h.room⟩
theorem Inv.clk{R:Rm}(h:Inv l0 n D R){k:Nat}(hk:k<R.cl.length):R.cl[k]?=some (clK R k)/\okCl n D (clK R k):=by
 have e:R.cl[k]?=some (clK R k):=by unfold clK;rw[lgg hk];rfl
 exact⟨e,h.cls k _ e⟩
theorem okCl.revle(h:okCl n D q)(hl:Lk E D):q.2.rev<=(E.length:Int):=by
 have h1:=(llt h.seen);have:=hl.len;have:=h.rev;omega
theorem okCl.small(h:okCl n D q)(hl:Lk E D):q.2.seen.length<=2000:=(hl.fair _ (List.mem_of_getElem? h.seen)).2
/-! one client is turned -/
theorem Inv.setK{R:Rm}(h:Inv l0 n D R)(hn:n<=n'){k:Nat}{S:Cl}(hS:okCl n' D ((clK R k).1,S)):Inv l0 n' D (setC R k S):=by
 refine⟨h.srv,h.docs,h.lk,h.few,fun j q hq=>?_,fun p hp=>?_,h.room⟩
 . have hq:(R.cl.set k ((clK R k).1,S))[j]?=some q:=hq
   rw[List.getElem?_set]at hq
   split at hq
   . split at hq
     . obtain rfl:=osi hq;exact hS
     . cases hq
   . exact(h.cls j q hq).more hn fun _ _ h=>h
 . have:(R.cl.set k ((clK R k).1,S)).length=R.cl.length:=List.length_set
   have h1:=h.pks p hp;show okPk R.E D (R.cl.set k ((clK R k).1,S)).length p;rw[this];exact h1
theorem JmG(h:okCl n D q)(i:Int):okCl n D (q.1,rfS q.2 i):=by
 have hk:=Jjd h.ok i;have h2:=h.id;have h3:=h.dr;refine⟨h.unit,hk,?_,?_,?_,?_⟩
 . show 0<=(rfS q.2 i).rev
   unfold rfS;split<;>exact h.rev
 . show D[(rfS q.2 i).rev.toNat]?=some (rfS q.2 i).seen
   unfold rfS;split<;>exact h.seen
 . show 0<=(rfS q.2 i).id/\(rfS q.2 i).id+(if 2<=(rfS q.2 i).mine.length then 1 else 0)<=n
   unfold rfS
   split
   . refine⟨h2.1,?_⟩
     simp only[List.length_nil]
     split at h2<;>simp<;>omega
   . exact h2
 . show 0<=(rfS q.2 i).drops/\(rfS q.2 i).drops+(if (rfS q.2 i).mine=[] then 0 else 1)<=(rfS q.2 i).id
   unfold rfS
   split
   . rename_i hm
     rw[if_neg hm.1]at h3;simp only[if_true];omega
   . exact h3
theorem Jq2(h:okCl n D q)(hl:Lk E D)(who:Int){rev:Int}{x:SE}(hx:E[rev.toNat]?=some x):okCl n D (q.1,tkS who q.2 rev x.c x.i x.op):=by
 have hsm:=h.small hl;have hpu:=hl.puts hx;have hk:=JnJ (who:=who) h.ok rev x.c x.i x.op (by omega);have h2:=h.id;have h3:=h.dr;have h4:=h.ok.two
 by_cases hn:rev≠q.2.rev\/tkE who q.2 rev x.c x.i x.op≠0
 . have e:tkS who q.2 rev x.c x.i x.op=q.2:=if_pos hn
   rw[e];exact h
 obtain⟨e1,_,_⟩:=tk_no hn;subst e1;obtain⟨g,hd⟩:=hl.link _ _ _ hx h.seen;have hr1:(q.2.rev+1).toNat=q.2.rev.toNat+1:=by have:=h.rev;omega
 have hr0:=h.rev
 by_cases ho:Jl5 who q.2 x.c x.i
 . have e:tkS who q.2 q.2.rev x.c x.i x.op = { q.2 with seen:=Jaa x.op q.2.seen,rev:=q.2.rev+1,mine:=q.2.mine.tail,id:=if q.2.mine.tail≠[] then q.2.id+1 else q.2.id }:=by unfold tkS;rw[if_neg hn,if_pos ho]
   rw[e]at hk ⊢;refine⟨h.unit,hk,?_,?_,?_,?_⟩
   . show 0<=q.2.rev+1
     omega
   . show D[(q.2.rev+1).toNat]?=some (Jaa x.op q.2.seen)
     rw[hr1];exact hd
   . simp only
     rcases hm:q.2.mine with _|⟨m,_|⟨m2,_|⟨m3,ms⟩⟩⟩
     . exact absurd hm ho.1
     . rw[hm]at h2;simp at h2 ⊢;omega
     . rw[hm]at h2;simp at h2 ⊢;omega
     . rw[hm]at h4;simp at h4
   . simp only
     rcases hm:q.2.mine with _|⟨m,_|⟨m2,_|⟨m3,ms⟩⟩⟩
     . exact absurd hm ho.1
     . rw[hm]at h3;simp at h3 ⊢;omega
     . rw[hm]at h3;simp at h3 ⊢;omega
     . rw[hm]at h4;simp at h4
 . have e:tkS who q.2 q.2.rev x.c x.i x.op = { q.2 with seen:=Jaa x.op q.2.seen,rev:=q.2.rev+1,mine:=(Jbl q.2.mine x.op).1,doc:=Jaa (Jbl q.2.mine x.op).2 q.2.doc }:=by unfold tkS;rw[if_neg hn,if_neg ho]
   rw[e]at hk ⊢;have hml:=JfQ q.2.mine x.op;refine⟨h.unit,hk,?_,?_,?_,?_⟩
   . show 0<=q.2.rev+1
     omega
   . show D[(q.2.rev+1).toNat]?=some (Jaa x.op q.2.seen)
     rw[hr1];exact hd
   . show 0<=q.2.id/\q.2.id+(if 2<=(Jbl q.2.mine x.op).1.length then 1 else 0)<=n
     rw[hml];exact h2
   . show 0<=q.2.drops/\q.2.drops+(if (Jbl q.2.mine x.op).1=[] then 0 else 1)<=q.2.id
     have:((Jbl q.2.mine x.op).1=[])↔(q.2.mine=[]):=by
      rw[←List.length_eq_zero_iff,←List.length_eq_zero_iff,hml]
     simp only[this];exact h3
/-! packets -/
theorem Inv.send{R:Rm}(h:Inv l0 n D R){p:Pk}(hp:okPk R.E D R.cl.length p):Inv l0 n D (Jem R p):=by
 unfold Jem
 split
 . exact⟨h.srv,h.docs,h.lk,h.few,h.cls,h.pks,h.room⟩
 . refine ⟨h.srv,h.docs,h.lk,h.few,h.cls,fun x hx=>?_,?_⟩
   . rcases List.mem_append.1 hx with hx|hx
     . exact h.pks x hx
     . rw[List.mem_singleton.1 hx];exact hp
   . show(R.fl++[p]).length<=400
     rw[List.length_append,List.length_singleton];omega
theorem Jfo(R:Rm)(p:Pk):(Jem R p).t=R.t/\(Jem R p).E=R.E/\(Jem R p).M=R.M/\(Jem R p).n=R.n/\(Jem R p).cl=R.cl:=by
 unfold Jem;split<;>exact⟨rfl,rfl,rfl,rfl,rfl⟩
theorem JhB(k:Nat):∀(xs:List SE)(f:Int)(R:Rm),(Jhn k f xs R).t=R.t/\(Jhn k f xs R).E=R.E/\(Jhn k f xs R).M=R.M/\(Jhn k f xs R).n=R.n/\(Jhn k f xs R).cl=R.cl
 | [],_,_=>⟨rfl,rfl,rfl,rfl,rfl⟩
 | x :: xs,f,R=>by
  obtain⟨a,b,c,d,e⟩:=JhB k xs (f+1) (Jem R ⟨3,k,f,0,x⟩);obtain⟨a',b',c',d',e'⟩:=Jfo R ⟨3,k,f,0,x⟩;exact⟨a.trans a',b.trans b',c.trans c',d.trans d',e.trans e'⟩
theorem Je6(R:Rm)(k:Nat)(f:Int):(JeS R k f).t=R.t/\(JeS R k f).E=R.E/\(JeS R k f).M=R.M/\(JeS R k f).n=R.n/\(JeS R k f).cl=R.cl:=by
 unfold JeS
 split
 . exact⟨rfl,rfl,rfl,rfl,rfl⟩
 . exact JhB k _ _ _
theorem Inv.tellM{l0 n:Int}{D:List (List UInt8)}{k:Nat}:∀(xs:List SE)(f:Nat)(R:Rm),Inv l0 n D R->k<R.cl.length->R.E.drop f=xs->Inv l0 n D (Jhn k (f:Int) xs R)
 | [],_,_,h,_,_=>h
 | x :: xs,f,R,h,hk,hd=>by
  have hf:f<R.E.length:=by
   rcases Nat.lt_or_ge f R.E.length with h|h
   . exact h
   . rw[List.drop_eq_nil_of_le h]at hd;cases hd
  have hx:R.E[f]?=some x:=by
   rw[List.drop_eq_getElem_cons hf]at hd;injection hd with h1 h2;rw[lgg hf,h1]
  have hr:R.E.drop (f+1)=xs:=by
   rw[List.drop_eq_getElem_cons hf]at hd;injection hd with h1 h2
  obtain⟨_,b',_,_,e'⟩:=Jfo R ⟨3,k,f,0,x⟩;have h1:Inv l0 n D (Jem R ⟨3,k,f,0,x⟩):=h.send ⟨hk,.inr (.inr (.inl rfl)),⟨Int.natCast_nonneg _,by show(f:Int)<=_;omega⟩,fun e=>(by cases e),fun _=>hx⟩;have:=Inv.tellM xs (f+1) _ h1 (by rw[e'];exact hk) (by rw[b'];exact hr);rw[show(((f+1:Nat):Int))=(f:Int)+1 by omega]at this;exact this
theorem Inv.tellK{R:Rm}(h:Inv l0 n D R){k:Nat}(hk:k<R.cl.length)(f:Int):Inv l0 n D (JeS R k f):=by
 unfold JeS
 split
 . exact h
 . rename_i hf
   obtain⟨m,rfl⟩:∃m:Nat,f=(m:Int):=⟨f.toNat,by omega⟩;rw[Int.toNat_natCast];exact Inv.tellM _ m R h hk rfl
theorem Inv.out{R:Rm}(h:Inv l0 n D R)(i:Nat):Inv l0 n D (outR R i) :=
 ⟨h.srv,h.docs,h.lk,h.few,h.cls,fun p hp=>h.pks p (List.mem_of_mem_eraseIdx hp),Nat.le_trans (List.length_eraseIdx_le _ _) h.room⟩
theorem Inv.srvK{R:Rm}(h:Inv l0 n D R){p:Pk}(hp:okPk R.E D R.cl.length p)(hk:p.kind=1) :
    ∃D',Inv l0 n D' (srvR l0 R p)/\(∀(i:Nat) (d:List UInt8),D[i]?=some d->D'[i]?=some d)/\(∀(i:Nat) (x:SE),R.E[i]?=some x->(srvR l0 R p).E[i]?=some x)/\((srvR l0 R p).E=R.E/\(srvR l0 R p).t=R.t/\D'=D\/(srvR l0 R p).E.length=R.E.length+1/\D'=D++[(srvR l0 R p).t]):=by
 obtain⟨hc,hi,d,hd,hg,hpu⟩:=hp.ask hk;have hp4:Jal p.x.op<=40000:=by omega
 obtain⟨n1,n2,n3⟩:=st_next (c:=p.c) (i:=p.id) (rev:=p.rev) (M:=R.M) h.srv h.docs hp4;have hE:(srvR l0 R p).E=stL l0 R.t R.E R.M p.c p.id p.rev p.x.op:=rfl;have ht:(srvR l0 R p).t=stT l0 R.t R.E R.M p.c p.id p.rev p.x.op:=rfl
 by_cases hsame:JiC R.M p.c p.id\/doE l0 R.t R.E p.rev p.x.op≠0
 . have e1:stL l0 R.t R.E R.M p.c p.id p.rev p.x.op=R.E:=by
     unfold stL
     by_cases ho:JiC R.M p.c p.id
     . rw[if_pos ho]
     . rw[if_neg ho];unfold doL;rw[if_neg (hsame.resolve_left ho)]
   have e2:stT l0 R.t R.E R.M p.c p.id p.rev p.x.op=R.t:=by
    unfold stT
    by_cases ho:JiC R.M p.c p.id
    . rw[if_pos ho]
    . rw[if_neg ho];unfold doT;rw[if_neg (hsame.resolve_left ho)]
   refine⟨D,⟨?_,?_,?_,?_,h.cls,fun x hx=>?_,h.room⟩,fun _ _ h=>h,fun i x hx=>by rw[hE,e1];exact hx,.inl ⟨by rw[hE,e1],by rw[ht,e2],rfl⟩⟩
   . rw[hE,ht,e1,e2];exact h.srv
   . rw[hE,ht,e1,e2];exact h.docs
   . rw[hE,e1];exact h.lk
   . rw[hE,e1];exact h.few
   . rw[hE,e1];exact h.pks x hx
 . have ho:¬JiC R.M p.c p.id:=fun e=>hsame (.inl e)
   have hz:doE l0 R.t R.E p.rev p.x.op=0:=by
    by_cases e:doE l0 R.t R.E p.rev p.x.op=0
    . exact e
    . exact absurd (.inr e) hsame
   have e1:stL l0 R.t R.E R.M p.c p.id p.rev p.x.op=R.E++[⟨p.c,p.id,Jel p.x.op (R.E.drop p.rev.toNat)⟩]:=by
    unfold stL;rw[if_neg ho];unfold doL;rw[if_pos hz]
   have e2:stT l0 R.t R.E R.M p.c p.id p.rev p.x.op=Jaa (Jel p.x.op (R.E.drop p.rev.toNat)) R.t:=by
    unfold stT;rw[if_neg ho];unfold doT;rw[if_pos hz]
   have e3:stD l0 R.t R.E D R.M p.c p.id p.rev p.x.op=D++[Jaa (Jel p.x.op (R.E.drop p.rev.toNat)) R.t]:=by
    unfold stD;rw[if_neg ho];unfold doD;rw[if_pos hz]
   have hf:R.E.length<300:=by
    unfold doE at hz
    split at hz
    . cases hz
    split at hz
    . cases hz
    . omega
   have hord:ordE (Jel p.x.op (R.E.drop p.rev.toNat)) R.t=0:=by
    unfold doE at hz
    split at hz
    . cases hz
    split at hz
    . cases hz
    split at hz
    . rename_i h1;exact absurd hz h1
    split at hz
    . rename_i h1;exact absurd hz h1
    . rename_i h1;simpa using h1
   have hgt:=Jbs h.srv.text hord;generalize hop:Jel p.x.op (R.E.drop p.rev.toNat)=op' at *;have hlen:=h.lk.len;have hlast:=h.docs.last;have hDm:∀(i:Nat) (d:List UInt8),D[i]?=some d->(D++[Jaa op' R.t])[i]?=some d:=fun i d hd=>by
    have:=(llt hd);rw[List.getElem?_append_left this];exact hd
   have hEm:∀(i:Nat) (x:SE),R.E[i]?=some x->(R.E++[(⟨p.c,p.id,op'⟩:SE)])[i]?=some x:=fun i x hx=>by
    have:=(llt hx);rw[List.getElem?_append_left this];exact hx
   have hroom:=n1.room;rw[e2]at hroom
   have hlk:Lk (R.E++[⟨p.c,p.id,op'⟩]) (D++[Jaa op' R.t]):=by
    refine⟨by simp[hlen],fun i x d hx hd=>?_,fun d hd=>?_⟩
    . rcases Nat.lt_or_ge i R.E.length with hi | hi
      . rw[List.getElem?_append_left hi]at hx
        rw[List.getElem?_append_left (by omega)]at hd;obtain⟨g,h1⟩:=h.lk.link i x d hx hd;exact⟨g,hDm _ _ h1⟩
      . have:i<(R.E++[(⟨p.c,p.id,op'⟩:SE)]).length:=(llt hx)
        have hie:i=R.E.length:=by simp at this;omega
        subst hie;rw[List.getElem?_append_right (nlr _),Nat.sub_self]at hx;obtain rfl:(⟨p.c,p.id,op'⟩:SE)=x:=by simpa using hx
        rw[List.getElem?_append_left (by omega),hlast]at hd;obtain rfl:=osi hd;refine⟨hgt,?_⟩;rw[←hlen,List.getElem?_append_right (nlr _),Nat.sub_self];rfl
    . rcases List.mem_append.1 hd with hd | hd
      . exact h.lk.fair d hd
      . rw[List.mem_singleton.1 hd]
        exact⟨JgU hgt.al,hroom⟩
   refine⟨D++[Jaa op' R.t],⟨n1,?_,?_,?_,fun k q hq=>(h.cls k q hq).more (Int.le_refl _) hDm,fun x hx=>?_,h.room⟩,hDm,fun i x hx=>by rw[hE,e1];exact hEm i x hx,.inr ⟨by rw[hE,e1];simp,by rw[ht,e2]⟩⟩
   . rw[←e3];exact n2
   . rw[hE,e1];exact hlk
   . rw[hE,e1];simp;omega
   . rw[hE,e1];exact(h.pks x hx).more hEm (by simp) hDm
end
section
open Go.RowKit Go.Maps
def Jm8 (p:Pk) (v:Value):List Value:=[.int .i64 p.kind,.int .i64 (p.c:Int),.int .i64 p.rev,.int .i64 p.id,.int .i64 p.x.c,.int .i64 p.x.i,v]
def pkC (ps:List Pk) (vs:List Value):List Value:=(ps.zip vs).flatMap fun x=>Jm8 x.1 x.2
def isPks (e:TypeId) (lo:Nat) (w:World) (v1:Value) (ps:List Pk):Prop :=
 ∃vs,vs.length=ps.length/\w.ownsRow lo e 7 v1 ps.length (pkC ps vs)/\∀(i:Nat) (x:Pk) (v:Value),ps[i]?=some x->vs[i]?=some v->opX lo w v x.x.op
theorem JqA{e lo:Nat}{w w':World}{v1:Value}{ps:List Pk}{S:Nat->Prop}(h:isPks e lo w v1 ps)(hs:sameBut w w' S)(hS:∀k,k<w.heap.size->S k->lo<=k/\JdN w k/\∀cs fz,w.heap[k]?≠some (.cells cs e fz)):isPks e lo w' v1 ps:=by
 obtain⟨vs,h1,h2,h3⟩:=h;refine⟨vs,h1,Jft h2 hs fun k hk hSk=>?_,fun i x v hx hv=>Jbb (h3 i x v hx hv) hs fun k hk hSk=>⟨(hS k hk hSk).1,(hS k hk hSk).2.1⟩⟩
 rcases h2.2 with ⟨rfl,_⟩|⟨g,cap,cur,rfl,_,hg,_⟩
 . cases hk
 . obtain rfl:g=k:=osi hk
   exact(hS g (alt hg) hSk).2.2 _ _ hg
variable {w w' : World}{r lo bx bmx : Nat}{bs : List Nat}{R : Rm}
def ptrs (bs:List Nat):List Value:=bs.map fun b=>.pointer (some ⟨b,0,none⟩)
structure isCls (lo:Nat) (w:World) (bs:List Nat) (cl:List (Int×Cl)):Prop where
 len:bs.length=cl.length
 each:∀(k b:Nat) (q:Int×Cl),bs[k]?=some b->cl[k]?=some q->isCl lo w b (k:Int) q.1 q.2
 apart:∀(j k b b':Nat),bs[j]?=some b->bs[k]?=some b'->j≠k->∀x,ownC w b x->¬ownC w b' x
structure isRoom (lo:Nat) (w:World) (r bx bmx:Nat) (bs:List Nat) (R:Rm):Prop where
 low:lo<=r
 blk:∃vc vf,w.heap[r]?=some (.cells #[.pointer (some ⟨bx,0,none⟩),vc,vf,.int .i64 (R.lost:Int)] 215 (0,0))/\w.ownsRow lo 93 1 vc bs.length (ptrs bs)/\isPks 219 lo w vf R.fl
 cls:isCls lo w bs R.cl
 srv:Jsq lo R.n w bx bmx R.t R.E R.M
def JrT (T:TypeId):Prop:=T=215\/T=219\/T=93\/T=196\/T=105\/T=203\/T=23
def touchM (lo:Nat) (w:World) (bmx k:Nat):Prop:=lo<=k/\(k=bmx\/∃cs T,w.heap[k]?=some (.cells cs T (0,0))/\JrT T)
def ownF (w:World) (r k:Nat):Prop:=k=r\/∃v,w.cell? ⟨r,2,none⟩=some v/\v.ownBlock=some k
def keptF (w w':World) (r:Nat):Prop:=sameBut w w' (ownF w r)/\∀k,ownF w' r k->ownF w r k\/w.heap.size<=k
theorem keptF.trans{w'':World}(h:keptF w w' r)(h':keptF w' w'' r):keptF w w'' r :=
 ⟨h.1.comp h'.1 fun k hk e=>(h.2 k e).elim id fun hk'=>absurd hk (by omega),fun k hk=>(h'.2 k hk).elim (h.2 k) fun hk'=>.inr (Nat.le_trans h.1.1 hk')⟩
theorem Jqv{e size n:Nat}{v:Value}{xs:List Value}(h:w.ownsRow lo e size v n xs){k:Nat}(hk:v.ownBlock=some k):lo<=k/\k<w.heap.size/\∃cs,w.heap[k]?=some (.cells cs e (0,0)):=by
 rcases h.2 with ⟨rfl,_⟩|⟨g,cap,cur,rfl,h3,h4,_⟩
 . cases hk
 . obtain rfl:g=k:=osi hk
   exact⟨h3,(alt h4),_,h4⟩
theorem JqE{lo:Nat}{w w':World}{bs:List Nat}{cl:List (Int×Cl)}{X:Nat->Prop}(h:isCls lo w bs cl)(hs:sameBut w w' X)(hX:∀k,k<w.heap.size->X k->lo<=k/\JdN w k)(hn:∀b∈bs,∀k,X k->¬ownC w b k):isCls lo w' bs cl:=by
 have lt:∀(k b:Nat),bs[k]?=some b->b<w.heap.size:=fun k b hb=>by
  have hk:k<cl.length:=by rw[←h.len];exact(llt hb)
  exact Jc5 (h.each k b cl[k] hb (lgg hk))
 refine⟨h.len,fun k b q hb hq=>Jke (h.each k b q hb hq) hs hX (hn b (List.mem_of_getElem? hb)),fun j k b b' hb hb' hjk x hx hx'=>?_⟩;have hx:=JhT hs (lt j b hb) (fun e=>hn b (List.mem_of_getElem? hb) b e (.inl rfl)) hx;have hx':=JhT hs (lt k b' hb') (fun e=>hn b' (List.mem_of_getElem? hb') b' e (.inl rfl)) hx';exact h.apart j k b b' hb hb' hjk x hx hx'
theorem cls_own{cl:List (Int×Cl)}(h:isCls lo w bs cl){b:Nat}(hb:b∈bs){k:Nat}(hk:ownC w b k):lo<=k/\k<w.heap.size/\∃cs T,w.heap[k]?=some (.cells cs T (0,0))/\(T=203\/T=23):=by
 obtain⟨j,hj⟩:=List.mem_iff_getElem?.1 hb;have hjl:j<cl.length:=by rw[←h.len];exact(llt hj)
 exact JeW (h.each j b cl[j] hj (lgg hjl)) hk
theorem JoM{lo:Nat}{w w':World}{r bx bmx:Nat}{bs:List Nat}{R:Rm}{X:Nat->Prop}(h:isRoom lo w r bx bmx bs R)(hs:sameBut w w' X)(hX:∀k,k<w.heap.size->X k->lo<=k/\JdN w k/\k≠bmx/\∀cs T fz,w.heap[k]?=some (.cells cs T fz)->¬JrT T):isRoom lo w' r bx bmx bs R:=by
 obtain⟨h1,⟨vc,vf,h2,h3,h4⟩,h5,h6⟩:=h;have hr:∀k cs T,w.heap[k]?=some (.cells cs T (0,0))->JrT T->¬X k:=fun k cs T hk hT hXk=>(hX k (alt hk) hXk).2.2.2 cs T _ hk hT;refine⟨h1,⟨vc,vf,(hs.2 r (alt h2) (hr r _ _ h2 (.inl rfl))).trans h2,Jft h3 hs fun k hk=>?_,JqA h4 hs fun k hk hXk=>?_⟩,JqE h5 hs (fun k hk hXk=>⟨(hX k hk hXk).1,(hX k hk hXk).2.1⟩) fun b hb k hXk hk=>?_,?_⟩
 . obtain⟨_,_,cs,hc⟩:=Jqv h3 hk
   exact hr k cs _ hc (.inr (.inr (.inl rfl)))
 . exact⟨(hX k hk hXk).1,(hX k hk hXk).2.1,fun cs fz hc=>(hX k hk hXk).2.2.2 cs _ fz hc (.inr (.inl rfl))⟩
 . obtain⟨_,_,cs,T,hc,hT⟩:=cls_own h5 hb hk
   exact hr k cs T hc (by rcases hT with rfl|rfl<;>simp[JrT]) hXk
 . obtain⟨g1,g2,⟨v1,g3,g4⟩,g5⟩:=h6
   refine⟨g1,g2,⟨v1,(hs.2 bx (alt g3) (hr bx _ _ g3 (.inr (.inr (.inr (.inl rfl)))))).trans g3,?_⟩,JgI g5 hs fun hk=>(hX bmx (JqD g5) hk).2.2.1 rfl⟩;refine Jl6 (S:=fun k=>k<w.heap.size/\X k) g4 ⟨hs.1,fun k hk hn=>hs.2 k hk fun e=>hn ⟨hk,e⟩,hs.os,hs.tape,hs.output⟩ fun k hk=>?_;exact⟨(hX k hk.1 hk.2).1,(hX k hk.1 hk.2).2.1,fun cs fz hc=>(hX k hk.1 hk.2).2.2.2 cs _ fz hc (.inr (.inr (.inr (.inr (.inl rfl)))))⟩
theorem Jl4(h:isRoom lo w r bx bmx bs R)(hb:Below w.heap.size w w'):isRoom lo w' r bx bmx bs R :=
 JoM (X:=fun _=>False) h (Jai hb _) fun _ _ h=>h.elim
theorem Jq9(h:isRoom lo w r bx bmx bs R):r<w.heap.size:=by
 obtain⟨_,⟨vc,vf,h2,_⟩,_⟩:=h;exact(alt h2)
end
section
open Go.RowKit Go.Maps
attribute [local go_sem] Oper.semAt_some Ja7 Jbe
variable {r β cf : Nat}{p : Pk}{v : Value}{pf : Option Addr}{w w' : World}
structure ZPr (lo r bx bmx β:Nat) (bs:List Nat) (R:Rm) (p:Pk) (v:Value) (pf:Option Addr) (cf:Nat) (wx:World):Prop where
 rm:isRoom lo wx r bx bmx bs R
 fl:wx.cell? ⟨r,2,none⟩=some (.slice pf R.fl.length cf)
 box:wx.heap[β]?=some (.cells (Jm8 p v).toArray 219 (0,0))
 op:opX lo wx v p.x.op
theorem ZPr.grow{lo bx bmx:Nat}{bs:List Nat}{R:Rm}(h:ZPr lo r bx bmx β bs R p v pf cf w)(hb:Below w.heap.size w w'):ZPr lo r bx bmx β bs R p v pf cf w' :=
 ⟨Jl4 h.rm hb,(hb.cell (p:=⟨r,2,none⟩) (Jq9 h.rm)).trans h.fl,(hb.block β (alt h.box)).trans h.box,Jan h.op hb⟩
structure ZPk (r β:Nat) (p:Pk) (n:Nat) (v:Value) (pf:Option Addr) (cf:Nat) (wx:World):Prop where
 lt:r<wx.heap.size
 fl:wx.cell? ⟨r,2,none⟩=some (.slice pf n cf)
 box:wx.heap[β]?=some (.cells (Jm8 p v).toArray 219 (0,0))
theorem ZPk.grow{n:Nat}(h:ZPk r β p n v pf cf w)(hb:Below w.heap.size w w'):ZPk r β p n v pf cf w' :=
 ⟨Nat.lt_of_lt_of_le h.lt hb.size,(hb.cell (p:=⟨r,2,none⟩) h.lt).trans h.fl,(hb.block β (alt h.box)).trans h.box⟩
end
section
variable {D : List (List UInt8)}{l0 n : Int}{R : Rm}
def Ext (D D':List (List UInt8)):Prop:=∀(i:Nat) (d:List UInt8),D[i]?=some d->D'[i]?=some d
theorem Ext.refl(D:List (List UInt8)):Ext D D:=fun _ _ h=>h
theorem Ext.trans{D' D'':List (List UInt8)}(h:Ext D D')(h':Ext D' D''):Ext D D'':=fun i d e=>h' i d (h i d e)
theorem Jj1(l0:Int)(R:Rm)(p:Pk):(askR l0 R p).cl=R.cl/\(askR l0 R p).E=(srvR l0 R p).E/\(askR l0 R p).t=(srvR l0 R p).t/\(askR l0 R p).M=(srvR l0 R p).M/\(askR l0 R p).n=R.n+1:=by
 obtain⟨a,b,c,d,e⟩:=Je6 (srvR l0 R p) p.c p.rev;unfold askR
 split
 . obtain⟨a',b',c',d',e'⟩:=Jfo (JeS (srvR l0 R p) p.c p.rev) (JhO p)
   exact⟨e'.trans e,b'.trans b,a'.trans a,c'.trans c,d'.trans d⟩
 . exact⟨e,b,a,c,d⟩
theorem Inv.comes(h:Inv l0 n D R){p:Pk}(hp:okPk R.E D R.cl.length p) :
    ∃ D',Inv l0 n D' (JdV l0 R p)/\Ext D D'/\(JdV l0 R p).cl.length=R.cl.length/\(∀(i:Nat) (x:SE),R.E[i]?=some x->(JdV l0 R p).E[i]?=some x) /\
     (D'=D/\(JdV l0 R p).E=R.E/\(JdV l0 R p).t=R.t\/D'=D++[(JdV l0 R p).t]/\(JdV l0 R p).E.length=R.E.length+1):=by
 unfold JdV
 by_cases k1:p.kind=1
 . rw [if_pos k1]
   obtain⟨D',i1,i2,i3,i4⟩:=h.srvK hp k1;obtain⟨a,b,c,d,e⟩:=Jj1 l0 R p;have hcl:(srvR l0 R p).cl.length=R.cl.length:=rfl;have it:=i1.tellK (k:=p.c) (by rw[hcl];exact hp.c) p.rev;obtain⟨ta,tb,tc,td,te⟩:=Je6 (srvR l0 R p) p.c p.rev;refine⟨D',?_,i2,by rw[a],fun i x hx=>by rw[b];exact i3 i x hx,?_⟩
   . unfold askR
     split
     . refine it.send ⟨?_,.inr (.inr (.inr rfl)),⟨Int.le_refl _,by show(0:Int)<=_;omega⟩,fun e=>(by cases e),fun e=>(by cases e)⟩
       rw[te,hcl];exact hp.c
     . exact it
   . rw[b,c]
     rcases i4 with ⟨e1,e2,e3⟩|⟨e1,e2⟩
     . exact .inl ⟨e3,e1,e2⟩
     . exact .inr ⟨e2,e1⟩
 rw[if_neg k1]
 by_cases k2:p.kind=2
 . rw[if_pos k2]
   obtain⟨ta,tb,tc,td,te⟩:=Je6 R p.c p.rev;exact⟨D,h.tellK hp.c p.rev,Ext.refl D,by rw[te],fun i x hx=>by rw[tb];exact hx,.inl ⟨rfl,tb,ta⟩⟩
 rw[if_neg k2];obtain⟨hq,hc⟩:=h.clk hp.c;have hlen:∀S,(setC R p.c S).cl.length=R.cl.length:=fun S=>List.length_set
 by_cases k3:p.kind=3
 . rw[if_pos k3]
   exact⟨D,h.setK (Int.le_refl _) (Jq2 hc h.lk p.c (hp.told k3)),Ext.refl D,hlen _,fun i x hx=>hx,.inl ⟨rfl,rfl,rfl⟩⟩
 rw[if_neg k3]
 by_cases k4:p.kind=4
 . rw[if_pos k4]
   exact⟨D,h.setK (Int.le_refl _) (JmG hc p.id),Ext.refl D,hlen _,fun i x hx=>hx,.inl ⟨rfl,rfl,rfl⟩⟩
 . rcases hp.kind with e|e|e|e
   . exact absurd e k1
   . exact absurd e k2
   . exact absurd e k3
   . exact absurd e k4
theorem Inv.askK(h:Inv l0 n D R){k:Nat}(hk:k<R.cl.length):okPk R.E D R.cl.length (askP R k):=by
 obtain⟨hq,hc⟩:=h.clk hk;have hr:=hc.revle h.lk;unfold askP
 split
 . exact⟨hk,.inr (.inl rfl),⟨hc.rev,hr⟩,fun e=>(by cases e),fun e=>(by cases e)⟩
 . rename_i hm
   obtain⟨g,hp⟩:=Jdh hc.ok hm;exact⟨hk,.inl rfl,⟨hc.rev,hr⟩,fun _=>⟨rfl,rfl,_,hc.seen,g,hp⟩,fun e=>(by cases e)⟩
theorem Inv.sendK(h:Inv l0 n D R){k:Nat}(hk:k<R.cl.length):Inv l0 n D (Jqe R k):=h.send (h.askK hk)
theorem Jg6(a b:List Pk):JaJ (a++b)=JaJ a+JaJ b:=by simp[JaJ]
theorem JpA(p:Pk):1<=wP p/\wP p<=400:=by unfold wP;split<;>omega
theorem JiH:∀fl:List Pk,fl.length<=JaJ fl/\JaJ fl<=400*fl.length
 | []=>by simp[JaJ]
 | p :: fl=>by
  have:=JiH fl;have:=JpA p;have e:JaJ (p :: fl)=wP p+JaJ fl:=by simp[JaJ]
  rw[e,List.length_cons];omega
theorem Jn9(R:Rm)(p:Pk)(hp:wP p=1):potR (Jem R p)=potR R+1:=by
 unfold potR Jem
 split
 . simp only;omega
 . simp only[Jg6]
   have:JaJ [p]=1:=by simp[JaJ,hp]
   omega
theorem Jh4(R:Rm)(p:Pk):JaJ (Jem R p).fl<=JaJ R.fl+wP p:=by
 unfold Jem
 split
 . simp only;omega
 . simp only[Jg6]
   have:JaJ [p]=wP p:=by simp[JaJ]
   omega
theorem Jm7(R:Rm)(p:Pk):potR (Jem R p)<=potR R+400:=by
 have:=JpA p;unfold potR Jem
 split
 . simp only;omega
 . simp only[Jg6]
   have:JaJ [p]=wP p:=by simp[JaJ]
   omega
theorem Jlt(k:Nat):∀(xs:List SE)(f:Int)(R:Rm),potR (Jhn k f xs R)=potR R+xs.length/\JaJ (Jhn k f xs R).fl<=JaJ R.fl+xs.length
 | [],_,_=>⟨rfl,nlr _⟩
 | x :: xs,f,R=>by
  obtain⟨i1,i2⟩:=Jlt k xs (f+1) (Jem R ⟨3,k,f,0,x⟩);have e:wP ⟨3,k,f,0,x⟩=1:=rfl;have h1:=Jn9 R ⟨3,k,f,0,x⟩ e;have h2:=Jh4 R ⟨3,k,f,0,x⟩;have u:Jhn k f (x :: xs) R=Jhn k (f+1) xs (Jem R ⟨3,k,f,0,x⟩):=rfl;rw[u,List.length_cons];omega
theorem Jls(R:Rm)(k:Nat)(f:Int):potR (JeS R k f)<=potR R+R.E.length/\JaJ (JeS R k f).fl<=JaJ R.fl+R.E.length:=by
 unfold JeS
 split
 . omega
 . obtain⟨i1,i2⟩:=Jlt k (R.E.drop f.toNat) f R
   have:=List.length_drop (i:=f.toNat) (l:=R.E);omega
theorem Jqp(l0:Int)(R:Rm)(p:Pk)(hE:(JdV l0 R p).E.length<=300):potR (JdV l0 R p)+1<=potR R+wP p+(if p.kind=1\/p.kind=2 then 0 else 1)/\JaJ (JdV l0 R p).fl+1<=JaJ R.fl+wP p:=by
 unfold JdV at *
 by_cases k1:p.kind=1
 . rw [if_pos k1]at hE ⊢
   have w1:wP p=400:=by unfold wP;rw[if_pos (.inl k1)]
   obtain⟨a,b,c,d,e⟩:=Jj1 l0 R p;rw[b]at hE;obtain⟨i1,i2⟩:=Jls (srvR l0 R p) p.c p.rev;have p0:potR (srvR l0 R p)=potR R+1:=by unfold potR;show R.n+1+R.lost+JaJ R.fl=_;omega
   have w0:JaJ (srvR l0 R p).fl=JaJ R.fl:=rfl;rw[w1,if_pos (.inl k1)];unfold askR
   split
   . have h1:=Jn9 (JeS (srvR l0 R p) p.c p.rev) (JhO p) rfl
     have h2:=Jh4 (JeS (srvR l0 R p) p.c p.rev) (JhO p);have:wP (JhO p)=1:=rfl;omega
   . omega
 rw[if_neg k1]at hE ⊢
 by_cases k2:p.kind=2
 . rw[if_pos k2]at hE ⊢
   have w1:wP p=400:=by unfold wP;rw[if_pos (.inr k2)]
   obtain⟨i1,i2⟩:=Jls R p.c p.rev;obtain⟨ta,tb,tc,td,te⟩:=Je6 R p.c p.rev;rw[tb]at hE;rw[w1,if_pos (.inr k2)];omega
 rw[if_neg k2]at hE ⊢;have hk:¬(p.kind=1\/p.kind=2):=fun e=>e.elim k1 k2;have w1:wP p=1:=by unfold wP;rw[if_neg hk]
 have hs:∀S,potR (setC R p.c S)=potR R/\JaJ (setC R p.c S).fl=JaJ R.fl:=fun S=>⟨rfl,rfl⟩;rw[if_neg hk,w1]
 by_cases k3:p.kind=3
 . rw[if_pos k3];have:=hs (tkS p.c (clK R p.c).2 p.rev p.x.c p.x.i p.x.op);omega
 rw[if_neg k3]
 by_cases k4:p.kind=4
 . rw[if_pos k4];have:=hs (rfS (clK R p.c).2 p.id);omega
 . rw[if_neg k4];omega
/-! until nothing is under way -/
theorem JgC(l0:Int)(n:Nat)(R:Rm)(h:R.fl=[]):JcS l0 n R=R:=by
 cases n with
 | zero=>rfl
 | succ n=>unfold JcS;rw[h]
theorem JhH(l0:Int)(n:Nat)(R:Rm)(p:Pk)(fl:List Pk)(h:R.fl=p :: fl):JcS l0 (n+1) R=JcS l0 n (JdV l0 { R with fl:=fl } p):=by
 conv=>lhs;unfold JcS
 rw[h]
theorem JrZ{p:Pk}{fl:List Pk}(h:R.fl=p :: fl):outR R 0 = { R with fl:=fl }:=by
 unfold outR;rw[h];rfl
theorem Inv.settleM{l0 n:Int}:∀(m:Nat)(D:List (List UInt8))(R:Rm),Inv l0 n D R->JaJ R.fl<=m ->
    ∃D',Inv l0 n D' (JcS l0 m R)/\Ext D D'/\(JcS l0 m R).cl.length=R.cl.length/\(JcS l0 m R).fl=[]/\potR (JcS l0 m R)<=potR R/\∀m',JaJ R.fl<=m'->JcS l0 m' R=JcS l0 m R
 | 0, D,R,h,hw=>by
  have hf:R.fl=[]:=by
   have:=(JiH R.fl).1;exact List.eq_nil_of_length_eq_zero (by omega)
  exact⟨D,h,Ext.refl D,rfl,hf,nlr _,fun m' _=>JgC l0 m' R hf⟩
 | m + 1, D,R,h,hw=>by
  cases hf:R.fl with
  | nil =>
   rw[JgC l0 (m+1) R hf];exact⟨D,h,Ext.refl D,rfl,hf,nlr _,fun m' _=>JgC l0 m' R hf⟩
  | cons p fl =>
   have hp:=h.pks p (by rw[hf];simp);have ho:=h.out 0;rw[JrZ hf]at ho;obtain⟨D1,i1,i2,i3,_,_⟩:=ho.comes (p:=p) hp;obtain⟨q1,q2⟩:=Jqp l0 { R with fl:=fl } p i1.few;have e1:JaJ R.fl=wP p+JaJ fl:=by rw[hf];simp[JaJ]
   have hwc:JaJ (JdV l0 { R with fl:=fl } p).fl<=m:=by
    have:JaJ ({ R with fl:=fl }:Rm).fl=JaJ fl:=rfl;omega
   obtain⟨D2,j1,j2,j3,j4,j5,j6⟩:=Inv.settleM m D1 _ i1 hwc;rw[JhH l0 m R p fl hf];refine⟨D2,j1,i2.trans j2,by rw[j3,i3],j4,?_,fun m' hm'=>?_⟩
   . have e2:potR ({ R with fl:=fl }:Rm)+wP p=potR R:=by
       unfold potR;show R.n+R.lost+JaJ fl+wP p=R.n+R.lost+JaJ R.fl;omega
     split at q1<;>omega
   . have:=JpA p
     rw[←hf]at hm';obtain⟨m'',rfl⟩:∃m'',m'=m''+1:=⟨m' - 1,by omega⟩;rw[JhH l0 m'' R p fl hf];refine j6 m'' ?_;have:JaJ ({ R with fl:=fl }:Rm).fl=JaJ fl:=rfl;omega
theorem Inv.settle(h:Inv l0 n D R):∃D',Inv l0 n D' (JeT l0 R)/\Ext D D'/\(JeT l0 R).cl.length=R.cl.length/\(JeT l0 R).fl=[]/\potR (JeT l0 R)<=potR R:=by
 obtain⟨D',a,b,c,d,e,_⟩:=Inv.settleM _ D R h (nlr _);exact⟨D',a,b,c,d,e⟩
theorem Inv.quietM{l0 n:Int}:∀(m k:Nat)(D:List (List UInt8))(R:Rm),Inv l0 n D R->k+m=R.cl.length->∃D',Inv l0 n D' (Jf8 l0 m k R)/\Ext D D'/\(Jf8 l0 m k R).cl.length=R.cl.length/\(R.fl=[]->(Jf8 l0 m k R).fl=[])/\potR (Jf8 l0 m k R)<=potR R+400*m
 | 0,k,D,R,h,_=>⟨D,h,Ext.refl D,rfl,fun h=>h,nlr _⟩
 | m+1,k,D,R,h,hk=>by
  have h1:=h.sendK (k:=k) (by omega);have hc:(Jqe R k).cl.length=R.cl.length:=by unfold Jqe;rw[(Jfo _ _).2.2.2.2]
  obtain⟨D1,i1,i2,i3,i4,i5⟩:=h1.settle;obtain⟨D2,j1,j2,j3,j4,j5⟩:=Inv.quietM m (k+1) D1 _ i1 (by rw[i3,hc];omega);have hp:=Jm7 R (askP R k);refine⟨D2,j1,i2.trans j2,by show(Jf8 l0 m (k+1) _).cl.length=_;rw[j3,i3,hc],fun _=>j4 i4,?_⟩;show potR (Jf8 l0 m (k+1) _)<=_;have hp:potR (Jqe R k)<=potR R+400:=hp;omega
theorem Inv.quiet(h:Inv l0 n D R):∃D',Inv l0 n D' (Jln l0 R)/\Ext D D'/\(Jln l0 R).cl.length=R.cl.length/\(Jln l0 R).fl=[]/\potR (Jln l0 R)<=potR R+400*R.cl.length:=by
 obtain⟨D1,i1,i2,i3,i4,i5⟩:=h.settle;obtain⟨D2,j1,j2,j3,j4,j5⟩:=Inv.quietM R.cl.length 0 D1 _ i1 (by rw[i3];omega);exact⟨D2,j1,i2.trans j2,by rw[show(Jln l0 R).cl.length=(Jf8 l0 R.cl.length 0 (JeT l0 R)).cl.length from rfl,j3,i3],j4 i4,by show potR (Jf8 l0 R.cl.length 0 (JeT l0 R))<=_;omega⟩
end
section
open Go.RowKit Go.Maps
attribute [local go_sem] Oper.semAt_some Ja7 Jbe
variable {lo : Nat}{w w' : World}
structure Env (lo:Nat) (w:World):Prop where
 lay:Jdn w
 tabs:Lib.Utf8Tabs 2 3 w
 g1:0<lo
 g2:2<lo/\3<lo
theorem Env.below(h:Env lo w)(hb:Below w.heap.size w w'):Env lo w':=⟨Jdm h.lay hb,Go.Proofs.Utf8Tabs_below h.tabs hb,h.g1,h.g2⟩
theorem Env.same{lo:Nat}{w w':World}{X:Nat->Prop}(h:Env lo w)(hs:sameBut w w' X)(hX:∀k,X k->lo<=k):Env lo w' :=
 ⟨Jnp h.lay hs fun e=>absurd (hX _ e) (Nat.not_le.2 h.g1),JfS h.tabs hs (fun e=>absurd (hX _ e) (Nat.not_le.2 h.g2.1)) fun e=>absurd (hX _ e) (Nat.not_le.2 h.g2.2),h.g1,h.g2⟩
theorem Env.room{bmx:Nat}(h:Env lo w)(hs:sameBut w w' (touchM lo w bmx)):Env lo w':=h.same hs fun k e=>e.1
theorem JoR{x:List Pt}{t:List UInt8}(h:good x t)(h1:t.length<=10000)(h2:Jal x<=10000):(∀p∈x,wfP p)/\x.length<=20000:=by
 refine⟨h.wf (by omega),?_⟩;have h3:=Jib x h.one;rw[h.wt]at h3;omega
structure ZB (r β g:Nat) (Br Bβ Bg:Obj) (wx:World):Prop where
 b1:wx.heap[r]?=some Br
 b2:wx.heap[β]?=some Bβ
 b3:wx.heap[g]?=some Bg
theorem ZB.grow{r β g:Nat}{Br Bβ Bg:Obj}(h:ZB r β g Br Bβ Bg w)(hb:Below w.heap.size w w'):ZB r β g Br Bβ Bg w' :=
 ⟨(hb.block r (alt h.b1)).trans h.b1,(hb.block β (alt h.b2)).trans h.b2,(hb.block g (alt h.b3)).trans h.b3⟩
theorem ZB.same{r β g:Nat}{Br Bβ Bg:Obj}{w w':World}{X:Nat->Prop}(h:ZB r β g Br Bβ Bg w)(hs:sameBut w w' X)(n1:¬X r)(n2:¬X β)(n3:¬X g):ZB r β g Br Bβ Bg w' :=
 ⟨(hs.2 r (alt h.b1) n1).trans h.b1,(hs.2 β (alt h.b2) n2).trans h.b2,(hs.2 g (alt h.b3) n3).trans h.b3⟩
end
section
open Go.RowKit Go.Maps
attribute [local go_sem] Oper.semAt_some Ja7 Jbe
variable {S : Cl}
theorem ctk{w w3:World}(he:EnL w){b y:Nat}{u:Int}(hu:Jaz u){S:Cl}{n:Nat}(hC:CTwo w.heap.size b y u S n w3)(hn:n<=30)(hbw:Below w.heap.size w w3){v:Value}{x:List Pt}(hop:opX w.heap.size w3 v x)(hwf:∀p∈x,wfP p)(hpu:Jal x<=40000)(hl:x.length<=100000)(hsz:S.seen.length<=2500){w4:World}(hb:Below w3.heap.size w3 w4)(rev c i:Int){γ:Nat}{cs:Array Value}(hbox:w4.heap[γ]?=some (.cells cs 103 (0,0))) :
    (∀wx,Below w4.heap.size w4 wx->Calls Tryz.prog 49 #[.pointer (some ⟨b,0,none⟩),.int .i64 rev,.agg #[.int .i64 c,.int .i64 i,v]] wx fun e w'=>e=.returned (errV (tkE 7 S rev c i x))/\CMid w b y u S (tkS 7 S rev c i x) v x γ (.cells cs 103 (0,0)) w') /\
    (∀w5,CMid w b y u S (tkS 7 S rev c i x) v x γ (.cells cs 103 (0,0)) w5->∀wx,Below w5.heap.size w5 wx->Calls Tryz.prog 50 #[.pointer (some ⟨y,0,none⟩),.int .i64 rev,.agg #[.int .i64 c,.int .i64 i,v]] wx fun e w'=>e=.returned (.int .i64 (tkE 7 S rev c i x))/\CTwo w.heap.size b y u (tkS 7 S rev c i x) (n+1) w'/\Below w.heap.size w w'/\w'.heap[γ]?=some (.cells cs 103 (0,0))) /\
    (∀wx,Below w.heap.size w wx->Calls Tryz.prog 17 #[errV (tkE 7 S rev c i x),.int .i64 (tkE 7 S rev c i x)] wx fun e w'=>e=.returned (.bool true)/\Below wx.heap.size wx w') :=
 ⟨fun wx hbx=>ct1 he hu (hC.below hb) hn (hbw.trans (hb.mono hbw.size)) (Jan hop hb) hwf hpu hl hsz rev c i hbox wx hbx,
  fun w5 hM wx hbx=>ct2 hC.ok hC.n1 hC.n2 hC.n3 hn rev c i hM hwf hpu hl hsz wx hbx,
  fun wx hbx=>Joi _ wx (Jdm he.lay hbx)⟩
theorem Jms{who:Int}(h:okK 2000 S)(rev c i:Int)(x:List Pt):(tkS who S rev c i x).seen.length<=S.seen.length+Jal x:=by
 unfold tkS
 by_cases hn:rev≠S.rev\/tkE who S rev c i x≠0
 . rw[if_pos hn];omega
 rw[if_neg hn];obtain⟨h1,h2,h3⟩:=tk_no hn;have hx:=Jbs h.text h2;have hl:=Jg0 (Jal x) [x] S.seen ⟨hx,trivial⟩ (fun m hm=>by rw[List.mem_singleton.1 hm];exact nlr _);have hl:(Jaa x S.seen).length<=S.seen.length+Jal x:=by
  have e:allM [x] S.seen=Jaa x S.seen:=rfl;rw[e]at hl;simpa using hl
 split<;>exact hl
theorem ed_seen(u:Int)(S:Cl)(q:List Pt):(edS u S q).seen=S.seen:=by unfold edS;split<;>rfl
theorem rf_seen(S:Cl)(i:Int):(rfS S i).seen=S.seen:=by unfold rfS;split<;>rfl
theorem JnU(h:okK 2000 S)(hm:S.mine≠[])(hs:S.seen.length<=100000):(JbP S).length<=1000000:=by
 obtain⟨g,hp⟩:=Jdh h hm;have h3:=Jib (JbP S) g.one;rw[g.wt]at h3;omega
theorem JqI(S:Cl):Jau S 0=JbP S:=by
 unfold Jau JbP
 rcases S.mine with _|⟨m,ms⟩<;>rfl
theorem JoJ(h:okK 2000 S)(hsz:S.seen.length<=2500):(∀p∈Jau S 0,wfP p)/\Jal (Jau S 0)<=40000/\(Jau S 0).length<=100000:=by
 by_cases hm:S.mine=[]
 . have e:Jau S 0=[]:=by unfold Jau;rw[hm];rfl
   rw[e];exact⟨fun p hp=>(by cases hp),by decide,by decide⟩
 . obtain⟨g,hp⟩:=Jdh h hm
   rw[JqI];obtain⟨h1,h2⟩:=JoR g (by omega) (by omega);exact⟨h1,by omega,by omega⟩
theorem Jpi(u:Int)(s:List UInt8)(v:Value)(l:List Sa)(w:World)(he:EnL w)(hu:Jaz u)(hr:JhJ w v l)(hwf:∀q∈l,JjI q)(hs:s.length<=400)(hl:l.length<=30)(hV:V s) :
    Calls Tryz.prog 7 #[.int .i64 u,.string ⟨s.toArray⟩,v] w fun e w'=>e=.returned (.bool true)/\Below w.heap.size w w':=by
 have hz:(ByteArray.mk s.toArray).size=s.length:=by simp[ByteArray.size]
 have hsc:=Jmi hV;have HE:=hdz he;have HU:Hid (Jaz u):=hu;have HOP:Hid (JhJ w v l):=hr;have HWF:Hid (∀q∈l,JjI q):=hwf;have CC0:Hid (∀wx,Calls Tryz.prog 12 #[.string ⟨s.toArray⟩] wx fun e w'=>∃n1 n2 n3 n4,e=.returned (.tuple #[.agg #[.int .i64 n1,.int .i64 n2,.int .i64 n3,.int .i64 n4],.agg #[.int .i64 0,.int .i64 (-1)]])/\Below wx.heap.size wx w'):=fun wx=>(JeB ⟨s.toArray⟩ (by rw[hz];omega) wx hsc).mono fun e w' ⟨h1,h2⟩=>⟨_,_,_,_,h2,h1⟩
 have CN:Hid (∀wx,Below w.heap.size w wx->Calls Tryz.prog 46 #[.int .i64 7,.int .i64 u,.string ⟨s.toArray⟩] wx fun e w'=>∃b,e=.returned (.tuple #[.pointer (some ⟨b,0,none⟩),.nilIface])/\isCl w.heap.size w' b 7 u (JgO s)/\wx.heap.size<=b/\Below wx.heap.size wx w'/\∀x,ownC w' b x->x=b):=fun wx hb=>by
  obtain⟨rs,hR,e⟩:=hV;subst e;obtain ⟨m,hm,hmu⟩:∃m:Nat,u=(m:Int)/\unitN m:=by
   rcases hu with rfl|rfl|rfl
   . exact⟨1,rfl,.inl rfl⟩
   . exact⟨2,rfl,.inr (.inl rfl)⟩
   . exact⟨3,rfl,.inr (.inr rfl)⟩
  rw[hm];have hc1:(encs rs).length=C1 rs:=(Jcf rs).symm;exact Jpg 7 w.heap.size m hmu rs hR (by omega) wx hb.size (Go.Proofs.Utf8Tabs_below he.tabs hb)
 have HK0:Hid (okK 2000 (JgO s)):=Jq1 hV;obtain⟨p,c,rfl,r1,r2,r3⟩:=hr;obtain⟨N,hN⟩:∃N,l.length=N:=⟨_,rfl⟩;rw[hN]at r1 hl ⊢;have HN:Hid (l.length=N):=hN;unfold maxLen at r2;have h2:¬(400:Int)<(s.length:Int):=by omega
 have h3:¬(30:Int)<(N:Int):=by omega
 have h4:¬u<1:=by rcases hu with rfl|rfl|rfl<;>decide
 have h5:¬(3:Int)<u:=by rcases hu with rfl|rfl|rfl<;>decide
 have hNi:(N:Int)<=30:=by omega
 clear he hu hwf r3 hN hs hV hsc
 go_enter Tryz.func7,Tryz.ntmps7
 go_wp2_with (first
  | (go_at_call 12;refine(CC0.out _).mono ?_;rintro e w1 ⟨n1,n2,n3,n4,rfl,hb1⟩;have HB1:Hid (∀o o',Below w.heap.size w ((w1.alloc o).alloc o')):=fun o o'=>(hb1.alloc hb1.size o).alloc (by rw[wsa];have:=hb1.size;omega) o';clear hb1)
  | (go_at_call 46;refine(CN.out _ (HB1.out _ _)).mono ?_;rintro e w2 ⟨b,rfl,h2c,hbn,hb2,hown⟩;have HC2:=hdz h2c;have HB2:Hid (Below w.heap.size w w2):=(HB1.out _ _).trans (hb2.mono (HB1.out _ _).size);clear h2c hbn hb2 hown))
 have hb3:Below w2.heap.size w2 (w2.alloc (.cells #[.int .i64 7,.int .i64 u,.string ⟨s.toArray⟩,.string ⟨s.toArray⟩,.int .i64 0,.int .i64 0,.slice none 0 0,.slice none 0 0,.bool false,.bool false,.int .i64 0] 98)):=(brf _ _).alloc (nlr _) _
 have HST:Hid (∃S,CTwo w.heap.size b w2.heap.size u S 0 (w2.alloc (.cells #[.int .i64 7,.int .i64 u,.string ⟨s.toArray⟩,.string ⟨s.toArray⟩,.int .i64 0,.int .i64 0,.slice none 0 0,.slice none 0 0,.bool false,.bool false,.int .i64 0] 98))/\Below w.heap.size w (w2.alloc (.cells #[.int .i64 7,.int .i64 u,.string ⟨s.toArray⟩,.string ⟨s.toArray⟩,.int .i64 0,.int .i64 0,.slice none 0 0,.slice none 0 0,.bool false,.bool false,.int .i64 0] 98))) :=
  ⟨JgO s,⟨Jbw HC2.out hb3,⟨HB2.out.size,_,_,heap_alloc_new _ _,JaG (JbS 0 _),JaG (JbS 0 _)⟩,HK0.out,⟨Int.le_refl _,Int.le_refl _⟩,⟨Int.le_refl _,Int.le_refl _⟩,⟨Int.le_refl _,Int.le_refl _⟩⟩,HB2.out.trans (hb3.mono HB2.out.size)⟩
 obtain⟨y,hy⟩:∃y,w2.heap.size=y:=⟨_,rfl⟩;generalize w2.alloc (.cells #[.int .i64 7,.int .i64 u,.string ⟨s.toArray⟩,.string ⟨s.toArray⟩,.int .i64 0,.int .i64 0,.slice none 0 0,.slice none 0 0,.bool false,.bool false,.int .i64 0] 98)=W2 at *;rw[hy]at HST ⊢;clear CC0 CN HB1 HC2 HB2 HK0 hb3 hy
 go_loopw [12] (fun i wr=>∃k:Nat,i=.int .i64 k/\k<=N/\∃S,CTwo w.heap.size b y u S k wr/\Below w.heap.size w wr) (fun i _=>N - (intOf i).toNat)
 case atStart=>exact⟨0,rfl,Nat.zero_le _,HST.out⟩
 case round =>
  as_aux_lemma =>
  obtain⟨k,rfl,hk,S,hC,hbw⟩:=hrel;clear HST;have HC:=hdz hC;have HBW:=hdz hbw;have hki:(k:Int)<=30:=by omega
  clear hC hbw
  by_cases hlt:k<N
  case neg =>
   as_aux_lemma =>
   obtain rfl:k=N:=by omega
   have hn:¬((k:Int)<(k:Int)):=by omega
   go_wp2;go_ret;exact⟨rfl,HBW.out⟩
  case pos =>
   as_aux_lemma =>
   have hle:(k:Int)<(N:Int):=by omega
   have hkl:k<l.length:=by have:=HN.out;omega
   have hne:l≠[]:=by intro e;rw[e]at hkl;exact absurd hkl (Nat.not_lt_zero _)
   obtain⟨p0,c0,hvv,_,_,hcell⟩:=HOP.out;obtain⟨b0,o,rfl,hb0,hcell⟩:=hcell hne;obtain⟨d0,d1,d2,v',d3,hop⟩:=hcell k l[k] (lgg hkl);obtain rfl:p=some ⟨b0,o,none⟩:=by injection hvv
   have g0:=(HBW.out.cell (p:=⟨b0,o+k*4,none⟩) hb0).trans d0;have g1:=(HBW.out.cell (p:=⟨b0,o+k*4+1,none⟩) hb0).trans d1;have g2:=(HBW.out.cell (p:=⟨b0,o+k*4+2,none⟩) hb0).trans d2;have g3:=(HBW.out.cell (p:=⟨b0,o+k*4+3,none⟩) hb0).trans d3;have hsw:=HWF.out _ (List.getElem_mem hkl);generalize l[k]=q at *;obtain⟨qa,qb,qc,qo⟩:=q;simp only at g0 g1 g2 hop;have HX:Hid (opX w.heap.size wr v' qo):=opX_low hop HBW.out;have hvs:∃p c,v'=.slice p qo.length c:=by obtain⟨p,c,e,_⟩:=hop;exact⟨p,c,e⟩
   obtain⟨pq,cq,rfl⟩:=hvs;have HSW:Hid (JjI ⟨qa,qb,qc,qo⟩):=hsw;have hqm:qo.length<=maxLen:=by
    obtain⟨p1,c1,e1,e2,e3,_⟩:=hop;injection e1 with _ _ e4;exact Nat.le_trans e2 e3
   unfold maxLen at hqm;clear hcell hvv d0 d1 d2 d3 hop hsw hne;have cF:Hid (∀wx,Below wr.heap.size wr wx->Calls Tryz.prog 31 #[.slice pq qo.length cq] wx fun e w'=>e=.returned (.bool (fewB qo))/\Below wx.heap.size wx w'):=fun wx hb=>Js5 _ qo wx (Jan HX.out hb).1;obtain⟨β,hβ⟩:∃β,wr.heap.size=β:=⟨_,rfl⟩;have HBT:Hid (wr.heap.size=β):=hβ;have AFT:Hid (∀w3,Below (wr.alloc (.cells #[.int .i64 qa,.int .i64 qb,.int .i64 qc,.slice pq qo.length cq] 100)).heap.size (wr.alloc (.cells #[.int .i64 qa,.int .i64 qb,.int .i64 qc,.slice pq qo.length cq] 100)) w3->Below w.heap.size w w3/\CTwo w.heap.size b y u S k w3/\opX w.heap.size w3 (.slice pq qo.length cq) qo/\w3.heap[β]?=some (.cells #[.int .i64 qa,.int .i64 qb,.int .i64 qc,.slice pq qo.length cq] 100 (0,0))/\w3.cell? ⟨y,2,none⟩=some (.string ⟨S.doc.toArray⟩)/\w3.cell? ⟨y,3,none⟩=some (.string ⟨S.seen.toArray⟩)):=fun w3 hb3=>by
    have hb03:Below wr.heap.size wr w3:=((brf _ _).alloc (nlr _) _).trans (hb3.mono (by rw[wsa];omega));have hC3:=HC.out.below hb03;obtain⟨_,v1,v2,h3,_,_⟩:=hC3.rc;obtain⟨_,_,x2,x3,_⟩:=Jap h3;exact⟨HBW.out.trans (hb03.mono HBW.out.size),hC3,Jan HX.out hb03,(hb3.block β (by rw[wsa,HBT.out];omega)).trans (by have:=heap_alloc_new wr (.cells #[.int .i64 qa,.int .i64 qb,.int .i64 qc,.slice pq qo.length cq] 100);rwa[HBT.out]at this),x2,x3⟩
   have hds:(ByteArray.mk S.doc.toArray).size=S.doc.length:=by simp[ByteArray.size]
   have hez:(ByteArray.mk S.seen.toArray).size=S.seen.length:=by simp[ByteArray.size]
   by_cases hgo:fewB qo=true/\qo.length<=70/\S.doc.length<=2500/\S.seen.length<=2500
   case neg =>
    as_aux_lemma =>
    rcases Bool.eq_false_or_eq_true (fewB qo) with hf|hf
    . rw [hf] at cF
      by_cases h70:qo.length<=70
      . have m70:¬(70:Int)<(qo.length:Int):=by omega
        by_cases hdl:S.doc.length<=2500
        . have mdl:¬(2500:Int)<(S.doc.length:Int):=by omega
          have mel:(2500:Int)<(S.seen.length:Int):=by
           have:¬S.seen.length<=2500:=fun h=>hgo ⟨hf,h70,hdl,h⟩;omega
          as_aux_lemma =>
          clear hgo h70 hdl hf
          go_wp2_with (go_at_call 31;refine(cF.out _ ((brf _ _).alloc (nlr _) _)).mono ?_;rintro e w3 ⟨rfl,hb3⟩;obtain⟨a1,a2,a3,a4,a5,a6⟩:=AFT.out w3 hb3;have HB3:=hdz a1;have y3:=ce a4 3 rfl;clear hb3 a1 a2 a3 a4)
          go_ret;exact⟨rfl,HB3.out⟩
        . have mdl:(2500:Int)<(S.doc.length:Int):=by omega
          as_aux_lemma =>
          clear hgo h70 hdl hf
          go_wp2_with (go_at_call 31;refine(cF.out _ ((brf _ _).alloc (nlr _) _)).mono ?_;rintro e w3 ⟨rfl,hb3⟩;obtain⟨a1,a2,a3,a4,a5,a6⟩:=AFT.out w3 hb3;have HB3:=hdz a1;have y3:=ce a4 3 rfl;clear hb3 a1 a2 a3 a4)
          go_ret;exact⟨rfl,HB3.out⟩
      . have m70:(70:Int)<(qo.length:Int):=by omega
        as_aux_lemma =>
        clear hgo h70 hf
        go_wp2_with (go_at_call 31;refine(cF.out _ ((brf _ _).alloc (nlr _) _)).mono ?_;rintro e w3 ⟨rfl,hb3⟩;obtain⟨a1,a2,a3,a4,a5,a6⟩:=AFT.out w3 hb3;have HB3:=hdz a1;have y3:=ce a4 3 rfl;clear hb3 a1 a2 a3 a4)
        go_ret;exact⟨rfl,HB3.out⟩
    . rw [hf]at cF
      as_aux_lemma =>
      clear hgo hf
      go_wp2_with (go_at_call 31;refine(cF.out _ ((brf _ _).alloc (nlr _) _)).mono ?_;rintro e w3 ⟨rfl,hb3⟩;obtain⟨a1,a2,a3,a4,a5,a6⟩:=AFT.out w3 hb3;have HB3:=hdz a1;have y3:=ce a4 3 rfl;clear hb3 a1 a2 a3 a4)
      go_ret;exact⟨rfl,HB3.out⟩
   case pos =>
    as_aux_lemma =>
    obtain⟨hf,h70,hdl,hel⟩:=hgo;rw[hf]at cF;have HF:Hid (fewB qo=true):=hf;have m70:¬(70:Int)<(qo.length:Int):=by omega
    have mdl:¬(2500:Int)<(S.doc.length:Int):=by omega
    have mel:¬(2500:Int)<(S.seen.length:Int):=by omega
    have HEL:Hid (S.seen.length<=2500):=hel;clear hf h70 hdl hel
    go_upto_block 2 with (go_at_call 31;refine(cF.out _ ((brf _ _).alloc (nlr _) _)).mono ?_;rintro e w3 ⟨rfl,hb3⟩;obtain⟨a1,a2,a3,a4,a5,a6⟩:=AFT.out w3 hb3;have HB3:=hdz a1;have HC3:=hdz a2;have HX3:=hdz a3;have HBX:=hdz a4;have y0:=ce a4 0 rfl;have y1:=ce a4 1 rfl;have y2:=ce a4 2 rfl;have y3:=ce a4 3 rfl;clear hb3 a1 a2 a3 a4)
    go_cut [13,14,15,16] from 64 to 273 (fun v13 v14 v15 v16 wc=>∃S',CTwo w.heap.size b y u S' (k+1) wc/\Below w.heap.size w wc/\S'.seen.length<=100000)
    case first =>
     as_aux_lemma =>
     obtain⟨f1,f2,f3,f4⟩:=few_wf HSW.out HF.out;have hk30:k<=30:=by omega
     have RCB:Hid (∃v1 v2,w3.heap[y]?=some (.cells (JbI 7 u S v1 v2) 98 (0,0))/\opX w.heap.size w3 v1 (Jau S 0)):=by
      obtain⟨_,v1,v2,h3,h4,_⟩:=HC3.out.rc;exact⟨v1,v2,h3,h4⟩
     have HFW:Hid ((∀p∈qo,wfP p)/\(∀p∈qo,p.put.length<=300)/\qo.length<=100/\Jal qo<=40000):=⟨f1,f2,f3,f4⟩;clear cF g0 g1 g2 g3 f1 f2 f3 f4
     by_cases q0:qa=0
     case pos =>
      as_aux_lemma =>
      subst q0;have CE1:Hid (∀wx,Below w3.heap.size w3 wx->Calls Tryz.prog 47 #[.pointer (some ⟨b,0,none⟩),.slice pq qo.length cq] wx fun e w'=>e=.returned (errV (edE u S qo))/\CMid w b y u S (edS u S qo) (.slice pq qo.length cq) qo β (.cells #[.int .i64 0,.int .i64 qb,.int .i64 qc,.slice pq qo.length cq] 100 (0,0)) w'):=fun wx hb=>ce1 HE.out HU.out HC3.out hk30 HB3.out HX3.out HFW.out.1 HFW.out.2.1 HFW.out.2.2.1 HEL.out HBX.out wx hb;have CE2:Hid (∀w4,CMid w b y u S (edS u S qo) (.slice pq qo.length cq) qo β (.cells #[.int .i64 0,.int .i64 qb,.int .i64 qc,.slice pq qo.length cq] 100 (0,0)) w4->∀wx,Below w4.heap.size w4 wx->Calls Tryz.prog 48 #[.pointer (some ⟨y,0,none⟩),.slice pq qo.length cq] wx fun e w'=>e=.returned (.int .i64 (edE u S qo))/\CTwo w.heap.size b y u (edS u S qo) (k+1) w'/\Below w.heap.size w w'/\w'.heap[β]?=some (.cells #[.int .i64 0,.int .i64 qb,.int .i64 qc,.slice pq qo.length cq] 100 (0,0))):=fun w4 hM wx hb=>ce2 HU.out HC3.out.ok HC3.out.n1 HC3.out.n2 HC3.out.n3 hk30 hM HFW.out.1 HFW.out.2.1 HEL.out wx hb;have HS1:Hid ((edS u S qo).seen.length<=100000):=by rw[ed_seen];exact Nat.le_trans HEL.out (by decide)
      generalize edE u S qo=EE at *;generalize edS u S qo=S1 at *;have CB:Hid (∀wx,Below w.heap.size w wx->Calls Tryz.prog 17 #[errV EE,.int .i64 EE] wx fun e w'=>e=.returned (.bool true)/\Below wx.heap.size wx w'):=fun wx hb=>Joi EE wx (Jdm HE.out.lay hb);obtain⟨ev,hu⟩:∃ev,errV EE=ev:=⟨_,rfl⟩;rw[hu]at CE1 CB;clear hu;go_wp2;refine wz (fun wx:World=>wx.heap[β]?=some (.cells #[.int .i64 0,.int .i64 qb,.int .i64 qc,.slice pq qo.length cq] 100 (0,0))) 10 HBX.out wzb fun w30 hb30 hz0 G hG=>?_;have e3:∀x,(G x).cell? ⟨β,3,none⟩=some (.slice pq qo.length cq):=fun x=>chp (hG.but x) 3;clear y0 y1 y2 y3;(iterate 3 (refine ay hG hz0 fun _ k=>?_;go_simp;apply k;clear k));refine az hG hz0 4 fun _ k=>?_;go_simp;apply k;clear k;refine az hG hz0 5 fun _ k=>?_;go_simp;apply k;clear k;refine az hG hz0 6 fun _ k=>?_;go_simp;apply k;clear k;clear e3 hG hz0;refine JaI (i:=3) (by kernel_rfl) ⟨_,rfl,?_⟩;intro w31 hb31 K hK
      go_simp
      refine(CE1.out w31 (hb30.trans (hb31.mono hb30.size))).mono ?_;rintro e w4 ⟨rfl,hm⟩;have HM:=hdz hm;refine⟨_,rfl,hK _ _ (fun _=>hm.box) ?_⟩;clear hK K hm;refine JaI (i:=7) (by kernel_rfl) ⟨_,rfl,?_⟩;intro w32 hb32 K hK
      go_simp
      refine(CE2.out w4 HM.out w32 hb32).mono ?_;rintro e w5 ⟨rfl,hC5,hb5,hx5⟩;have HC5:=hdz hC5;have HL5:=hdz hb5;have HX5:=hdz hx5;refine⟨_,rfl,hK _ _ (fun _=>hx5) ?_⟩;clear hK K hC5 hb5 hx5;refine JaI (i:=8) (by kernel_rfl) ⟨_,rfl,?_⟩;intro w33 hb33 K hK
      go_simp
      have hL33:Below w.heap.size w w33:=Below.trans HL5.out (hb33.mono (Below.size HL5.out));refine(CB.out w33 hL33).mono ?_;rintro e w6 ⟨rfl,hb6⟩;have hb36:=hb33.trans (hb6.mono hb33.size);have HC6:Hid _:=CTwo.below HC5.out hb36;have HL6:Hid (Below w.heap.size w w6):=Below.trans HL5.out (hb36.mono (Below.size HL5.out));refine⟨_,rfl,hK _ _ (fun _=>(hb36.block β (alt HX5.out)).trans HX5.out) ?_⟩;clear hK K hb6 hb33 hL33 hb36;refine JaI (i:=9) (by kernel_rfl) ⟨_,rfl,?_⟩;intro w34 hb34 K hK
      go_simp
      refine hK _ _ (fun h=>h) ?_;clear hK K;refine JaA (by kernel_rfl) ?_;intro w7 hb7;have hb67:=hb34.trans (hb7.mono hb34.size);have HC7:Hid _:=CTwo.below HC6.out hb67;have HL7:Hid (Below w.heap.size w w7):=Below.trans HL6.out (hb67.mono (Below.size HL6.out));clear hb30 hb31 hb32 hb34 hb7 hb67;go_wp2
      go_meet
      case rel=>exact⟨_,HC7.out,HL7.out,HS1.out⟩
     case neg =>
      as_aux_lemma =>
      have q0':(qa==0)=false:=beq_eq_false_iff_ne.2 q0;obtain⟨VV1,VV2,RC3,RX1⟩:=RCB.out;obtain⟨p1,c1,e1⟩:=Ja0 RX1;subst e1;obtain⟨_,_,_,_,r4,r5,r6,_⟩:=Jap RC3;have RY:Hid (y<w3.heap.size):=(alt RC3);have M0:=JoJ HC3.out.ok HEL.out;have HX1:=hdz RX1;have HM0:=hdz M0;obtain⟨n1,hn1⟩:∃n1,(Jau S 0).length=n1:=⟨_,rfl⟩;rw[hn1]at HX1 r6;obtain⟨γ,hγ⟩:∃γ,w3.heap.size=γ:=⟨_,rfl⟩;have HGT:Hid (w3.heap.size=γ):=hγ;clear RC3 RX1 M0 hn1;have HG4:Hid ((w3.alloc (.cells #[.int .i64 3,.int .i64 qc,.slice pq qo.length cq] 103)).heap[γ]?=some (.cells #[.int .i64 3,.int .i64 qc,.slice pq qo.length cq] 103 (0,0))):=by
       have:=heap_alloc_new w3 (.cells #[.int .i64 3,.int .i64 qc,.slice pq qo.length cq] 103);rwa[HGT.out]at this
      have HB4:Hid (Below w3.heap.size w3 (w3.alloc (.cells #[.int .i64 3,.int .i64 qc,.slice pq qo.length cq] 103))):=(brf _ _).alloc (nlr _) _;have BLT:Hid (β<w3.heap.size):=(alt HBX.out);have a4:(w3.alloc (.cells #[.int .i64 3,.int .i64 qc,.slice pq qo.length cq] 103)).cell? ⟨y,4,none⟩=some (.int .i64 S.rev):=(HB4.out.cell (p:=⟨y,4,none⟩) RY.out).trans r4;have b0:(w3.alloc (.cells #[.int .i64 3,.int .i64 qc,.slice pq qo.length cq] 103)).cell? ⟨β,0,none⟩=some (.int .i64 qa):=(HB4.out.cell (p:=⟨β,0,none⟩) BLT.out).trans y0
      by_cases q1:qa=1
      case pos =>
       as_aux_lemma =>
       subst q1;go_wp2;obtain⟨t1,t2,t3⟩:=ctk HE.out HU.out HC3.out hk30 HB3.out HX3.out HFW.out.1 HFW.out.2.2.2 (Nat.le_trans HFW.out.2.2.1 (by decide)) HEL.out HB4.out S.rev 3 qc HG4.out;have HS1:Hid ((tkS 7 S S.rev 3 qc qo).seen.length<=100000):=Nat.le_trans (Jms HC3.out.ok S.rev 3 qc qo) (by have:=HEL.out;have:=HFW.out.2.2.2;omega);generalize tkE 7 S S.rev 3 qc qo=EE at *;generalize tkS 7 S S.rev 3 qc qo=S1 at *;refine Jkq w b y γ (k+1) u S S1 EE S.rev 3 qc qo pq qo.length cq HG4.out t1 t2 t3 ?_
       iterate 15 intro
       intro w7 h7;have HC7:=hdz h7.1;have HL7:=hdz h7.2;clear t1 t2 t3 h7;go_wp2
       go_meet
       case rel=>exact⟨_,HC7.out,HL7.out,HS1.out⟩
      case neg =>
       as_aux_lemma =>
       by_cases q2:qa=2
       case pos =>
        as_aux_lemma =>
        subst q2;go_wp2;refine JsN y γ w3.heap.size S.id p1 n1 c1 (.int .i64 3) (.int .i64 qc) (.slice pq qo.length cq) (Nat.lt_of_lt_of_le RY.out HB4.out.size) ((HB4.out.cell (p:=⟨y,5,none⟩) RY.out).trans r5) ((HB4.out.cell (p:=⟨y,6,none⟩) RY.out).trans r6) HG4.out (Nat.le_of_eq HGT.out) ?_
        iterate 9 intro
        intro w4 h4;have h4b:=HB4.out.trans h4.2;have h4h:=h4.1;have HB5:=hdz h4b;have HG5:=hdz h4h;clear h4 h4b h4h;go_wp2;obtain⟨t1,t2,t3⟩:=ctk HE.out HU.out HC3.out hk30 HB3.out HX1.out HM0.out.1 HM0.out.2.1 HM0.out.2.2 HEL.out HB5.out S.rev 7 S.id HG5.out;have HS1:Hid ((tkS 7 S S.rev 7 S.id (Jau S 0)).seen.length<=100000):=Nat.le_trans (Jms HC3.out.ok S.rev 7 S.id (Jau S 0)) (by have:=HEL.out;have:=HM0.out.2.1;omega);generalize tkE 7 S S.rev 7 S.id (Jau S 0)=EE at *;generalize tkS 7 S S.rev 7 S.id (Jau S 0)=S1 at *;refine Jkq w b y γ (k+1) u S S1 EE S.rev 7 S.id (Jau S 0) p1 n1 c1 HG5.out t1 t2 t3 ?_
        iterate 15 intro
        intro w7 h7;have HC7:=hdz h7.1;have HL7:=hdz h7.2;clear t1 t2 t3 h7;go_wp2
        go_meet
        case rel=>exact⟨_,HC7.out,HL7.out,HS1.out⟩
       case neg =>
        as_aux_lemma =>
        by_cases q4:qa=4
        case pos =>
         as_aux_lemma =>
         subst q4;go_wp2;refine JsL β γ w3.heap.size qb (.int .i64 4) (.int .i64 qc) (.slice pq qo.length cq) (.int .i64 3) (.int .i64 qc) (.slice pq qo.length cq) (Jda HBX.out HB4.out) HG4.out (Nat.le_of_eq HGT.out) ?_;intro y3_0 y3_1 y3_2 w4 h4;have h4b:=HB4.out.trans h4.2;have h4h:=h4.1;have HB5:=hdz h4b;have HG5:=hdz h4h;clear h4 h4b h4h;go_wp2;obtain⟨t1,t2,t3⟩:=ctk HE.out HU.out HC3.out hk30 HB3.out HX3.out HFW.out.1 HFW.out.2.2.2 (Nat.le_trans HFW.out.2.2.1 (by decide)) HEL.out HB5.out qb 7 qc HG5.out;have HS1:Hid ((tkS 7 S qb 7 qc qo).seen.length<=100000):=Nat.le_trans (Jms HC3.out.ok qb 7 qc qo) (by have:=HEL.out;have:=HFW.out.2.2.2;omega);generalize tkE 7 S qb 7 qc qo=EE at *;generalize tkS 7 S qb 7 qc qo=S1 at *;refine Jkq w b y γ (k+1) u S S1 EE qb 7 qc qo pq qo.length cq HG5.out t1 t2 t3 ?_
         iterate 15 intro
         intro w7 h7;have HC7:=hdz h7.1;have HL7:=hdz h7.2;clear t1 t2 t3 h7;go_wp2
         go_meet
         case rel=>exact⟨_,HC7.out,HL7.out,HS1.out⟩
        case neg =>
         as_aux_lemma =>
         have q1':(qa==1)=false:=beq_eq_false_iff_ne.2 q1;have q2':(qa==2)=false:=beq_eq_false_iff_ne.2 q2;have q4':(qa==4)=false:=beq_eq_false_iff_ne.2 q4
         by_cases q3:qa=3
         case pos =>
          as_aux_lemma =>
          subst q3;clear q0 q1 q2 q4 q0' q1' q2' q4' HG4 a4 b0;have CR1:Hid (∀(i:Int) (wx:World),Below w3.heap.size w3 wx->Calls Tryz.prog 51 #[.pointer (some ⟨b,0,none⟩),.int .i64 i] wx fun e w'=>e=.returned (.tuple #[])/\isCl w.heap.size w' b 7 u (rfS S i)/\isRc w.heap.size w' y 7 u S/\Below w.heap.size w w'):=fun i wx hb=>by
           have hC:=HC3.out.below hb;have hbw:=HB3.out.trans (hb.mono HB3.out.size);refine(JlT hC.cl i ⟨hC.n3.1,by have:=hC.n3.2;omega⟩).mono ?_;rintro e w' ⟨rfl,a,c⟩;exact⟨rfl,a,Jif hC.rc hC.cl c.1,Jia hbw hC.cl c⟩
          have CR2:Hid (∀(i:Int) w4,isCl w.heap.size w4 b 7 u (rfS S i)->isRc w.heap.size w4 y 7 u S->Below w.heap.size w w4->Calls Tryz.prog 52 #[.pointer (some ⟨y,0,none⟩),.int .i64 i] w4 fun e w'=>e=.returned (.tuple #[])/\CTwo w.heap.size b y u (rfS S i) (k+1) w'/\Below w.heap.size w w'):=fun i w4 h1 h2 h3=>by
           refine(Jll h2 i ⟨HC3.out.n3.1,by have:=HC3.out.n3.2;omega⟩).mono ?_;rintro e w' ⟨rfl,a,c⟩;obtain⟨m1,m2,m3⟩:=Jo4 (i:=i) HC3.out.n1 HC3.out.n2 HC3.out.n3;exact⟨rfl,⟨Jii h1 h2 c,a,Jjd HC3.out.ok i,m1,m2,m3⟩,JmK h3 h2.1 c⟩
          go_wp2_with (first
           | (go_at_call 51;refine(CR1.out _ _ (brf _ _)).mono ?_;rintro e w4 ⟨rfl,m1,m2,m3⟩;have M1:=hdz m1;have M2:=hdz m2;have M3:=hdz m3;clear m1 m2 m3)
           | (go_at_call 52;refine(CR2.out _ _ M1.out M2.out M3.out).mono ?_;rintro e w7 ⟨rfl,m1,m2⟩;have HC7:=hdz m1;have HL7:=hdz m2;clear m1 m2))
          all_goals go_meet
          all_goals exact⟨_,HC7.out,HL7.out,by rw[rf_seen];exact Nat.le_trans HEL.out (by decide)⟩
         case neg =>
          as_aux_lemma =>
          have q3':(qa==3)=false:=beq_eq_false_iff_ne.2 q3;go_wp2
          go_meet
          case rel=>exact⟨S,HC3.out.more (Nat.le_succ k),HB3.out,Nat.le_trans HEL.out (by decide)⟩
    case rest =>
     as_aux_lemma =>
     obtain⟨S2,hC2,hL2,hse2⟩:=hcut;have HC8:=hdz hC2;have HL8:=hdz hL2;clear hC2 hL2 y0 y1 y2 y3 m70 mdl mel
     by_cases hm:S2.mine=[]
     case pos =>
      as_aux_lemma =>
      have CA:Hid _:=Jnj HC8.out.cl hm;have hd8:decide (1<=S2.mine.length)=false:=by rw[hm];rfl
      go_wp2_with (go_at_call 53;refine Calls.mono CA.out ?_;rintro e w8 ⟨rfl,hb8⟩;have HL10:Hid (Below w.heap.size w w8):=Below.trans HL8.out (hb8.mono (Below.size HL8.out));have HC10:Hid (CTwo w.heap.size b y u S2 (k+1) w8):=CTwo.below HC8.out hb8;obtain⟨_,VV1,VV2,RC8,_⟩:=HC10.out.rc;obtain⟨_,_,_,_,_,_,_,_,r8,_⟩:=Jap RC8;rw[hd8]at r8;clear hb8 RC8)
      refine Jrq w.heap.size b y u S2 0 false [] none none 0 0 0 0 ⟨HC10.out.cl,HC10.out.rc,(JbS 0 w8).1,(JbS 0 w8).1⟩ hd8.symm (by decide) ?_
      iterate 75 intro
      intro w9 h9;have HL9:Hid (Below w.heap.size w w9):=Below.trans HL10.out (h9.mono (Below.size HL10.out));have HC9:Hid (CTwo w.heap.size b y u S2 (k+1) w9):=CTwo.below HC10.out h9;clear h9;go_wp2
      go_roundw
      case rel=>exact⟨k+1,by go_num,by omega,S2,HC9.out,HL9.out⟩
      case measure=>simp[intOf];omega
     case neg =>
      as_aux_lemma =>
      have CA:Hid _:=Jni HC8.out.cl hm (JnU HC8.out.ok hm hse2);have HLL:Hid ((JbP S2).length<10000000):=Nat.lt_of_le_of_lt (JnU HC8.out.ok hm hse2) (by decide);have hd8:decide (1<=S2.mine.length)=true:=decide_eq_true (List.length_pos_iff.2 hm)
      go_wp2_with (go_at_call 53;refine Calls.mono CA.out ?_;rintro e w8 ⟨v8,rfl,hv8,hb8⟩;obtain⟨p8,c8,rfl⟩:=Ja0 (hv8 0);have HV8:Hid _:=(hv8 0).1;have HL10:Hid (Below w.heap.size w w8):=Below.trans HL8.out (hb8.mono (Below.size HL8.out));have HC10:Hid (CTwo w.heap.size b y u S2 (k+1) w8):=CTwo.below HC8.out hb8;obtain⟨_,VV1,VV2,RC8,RX8,_⟩:=HC10.out.rc;rw[JqI]at RX8;obtain⟨p9,c9,e9⟩:=Ja0 RX8;subst e9;have HX8:=hdz RX8.1;obtain⟨_,_,_,_,_,r5,r6,_,r8,_⟩:=Jap RC8;have RY:Hid (y<w8.heap.size):=(alt RC8);rw[hd8]at r8;have R5:=hdz r5;have R6:=hdz r6;clear hb8 RC8 hv8 RX8 r5 r6)
      refine JsM y S2.id (.slice p9 (JbP S2).length c9) RY.out R5.out R6.out ?_
      iterate 8 intro
      intro w11 h11;have HL11:Hid (Below w.heap.size w w11):=Below.trans HL10.out (h11.mono (Below.size HL10.out));have HC11:Hid (CTwo w.heap.size b y u S2 (k+1) w11):=CTwo.below HC10.out h11;have HO1:Hid (opAt w11 (.slice p8 (JbP S2).length c8) (JbP S2)):=JaK HV8.out h11 (nlr _);have HO2:Hid (opAt w11 (.slice p9 (JbP S2).length c9) (JbP S2)):=JaK HX8.out h11 (nlr _);clear h11 r8;go_wp2;refine Jrq w.heap.size b y u S2 S2.id true (JbP S2) p8 p9 (JbP S2).length c8 (JbP S2).length c9 ⟨HC11.out.cl,HC11.out.rc,HO1.out,HO2.out⟩ hd8.symm HLL.out ?_
      iterate 75 intro
      intro w9 h9;have HL9:Hid (Below w.heap.size w w9):=Below.trans HL11.out (h9.mono (Below.size HL11.out));have HC9:Hid (CTwo w.heap.size b y u S2 (k+1) w9):=CTwo.below HC11.out h9;clear h9;go_wp2
      go_roundw
      case rel=>exact⟨k+1,by go_num,by omega,S2,HC9.out,HL9.out⟩
      case measure=>simp[intOf];omega
end
section
open Go.RowKit Go.Maps
theorem Jph(u:Int)(s:List UInt8)(v:Value)(l:List Sa)(w:World)(hr:JhJ w v l)(h:400<s.length\/30<l.length\/u<1\/3<u) :
    Calls Tryz.prog 7 #[.int .i64 u,.string ⟨s.toArray⟩,v] w fun e w'=>e=.returned (.bool true)/\Below w.heap.size w w':=by
 have hz:(ByteArray.mk s.toArray).size=s.length:=by simp[ByteArray.size]
 obtain⟨p,c,rfl,d1,d2,_⟩:=hr;unfold maxLen at d2
 by_cases q1:400<s.length
 . have q1':(400:Int)<(s.length:Int):=by omega
   clear h q1
   go_enter Tryz.func7,Tryz.ntmps7
   go_wp2;go_ret;exact⟨rfl,brf _ _⟩
 have q1':¬(400:Int)<(s.length:Int):=by omega
 by_cases q2:30<l.length
 . have q2':(30:Int)<(l.length:Int):=by omega
   clear h q1 q2
   go_enter Tryz.func7,Tryz.ntmps7
   go_wp2;go_ret;exact⟨rfl,brf _ _⟩
 have q2':¬(30:Int)<(l.length:Int):=by omega
 by_cases q3:u<1
 . clear h q1 q2
   go_enter Tryz.func7,Tryz.ntmps7
   go_wp2;go_ret;exact⟨rfl,brf _ _⟩
 . have q4:3<u:=by omega
   clear h q1 q2
   go_enter Tryz.func7,Tryz.ntmps7
   go_wp2;go_ret;exact⟨rfl,brf _ _⟩
theorem Jrr(u:Int)(s:List UInt8)(v:Value)(l:List Sa)(w:World)(hr:JhJ w v l)(hs:s.length<=400)(hl:l.length<=30)(hu:Jaz u)(hsc:(scan s).2=false) :
    Calls Tryz.prog 7 #[.int .i64 u,.string ⟨s.toArray⟩,v] w fun e w'=>e=.returned (.bool true)/\Below w.heap.size w w':=by
 have hz:(ByteArray.mk s.toArray).size=s.length:=by simp[ByteArray.size]
 obtain⟨p,c,rfl,d1,d2,_⟩:=hr;unfold maxLen at d2;have CC0:Hid (∀wx,Calls Tryz.prog 12 #[.string ⟨s.toArray⟩] wx fun e w'=>∃n1 n2 n3 n4 x,e=.returned (.tuple #[.agg #[.int .i64 n1,.int .i64 n2,.int .i64 n3,.int .i64 n4],.agg #[.int .i64 3,.int .i64 x]])/\Below wx.heap.size wx w'):=fun wx=>(Jlf ⟨s.toArray⟩ (by rw[hz];omega) wx hsc).mono fun e w' ⟨h1,h2⟩=>⟨_,_,_,_,_,h2,h1⟩;have h2:¬(400:Int)<(s.length:Int):=by omega
 have h3:¬(30:Int)<(l.length:Int):=by omega
 have h4:¬u<1:=by rcases hu with rfl|rfl|rfl<;>decide
 have h5:¬(3:Int)<u:=by rcases hu with rfl|rfl|rfl<;>decide
 clear hsc hs hl hu
 go_enter Tryz.func7,Tryz.ntmps7
 go_wp2_with (go_at_call 12;refine(CC0.out _).mono ?_;rintro e w1 ⟨n1,n2,n3,n4,x,rfl,hb1⟩;have HB1:Hid (∀o o',Below w.heap.size w ((w1.alloc o).alloc o')):=fun o o'=>(hb1.alloc hb1.size o).alloc (by rw[wsa];have:=hb1.size;omega) o';clear hb1)
 go_ret;exact⟨rfl,HB1.out _ _⟩
theorem Jir(u:Int)(s:ByteArray)(v:Value)(l:List Sa)(w:World)(hg:Jdn w)(hT:Lib.Utf8Tabs 2 3 w)(hr:JhJ w v l)(hwf:∀q∈l,JjI q) :
    Calls Tryz.prog 7 #[.int .i64 u,.string s,v] w fun e w'=>e=.returned (.bool true)/\Below w.heap.size w w':=by
 have es:(ByteArray.mk s.data.toList.toArray)=s:=by cases s;simp
 rw[←es];generalize s.data.toList=t
 by_cases h:400<t.length\/30<l.length\/u<1\/3<u
 . exact Jph u t v l w hr h
 . have hu:Jaz u:=by unfold Jaz;omega
   by_cases hsc:(scan t).2=true
   . exact Jpi u t v l w ⟨hg,hT,blt w _ (hT.1 0 (by decide)),blt w _ (hT.2 0 (by decide)).1⟩ hu hr hwf (by omega) (by omega) (Jg2 hsc)
   . exact Jrr u t v l w hr (by omega) (by omega) hu (by simpa using hsc)
end
end Go.Proofs.YtedgnlgjmnccgabGreatDoor
