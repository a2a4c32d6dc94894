/-
  A part of the texts that the proof uses.
-/
import Derived.Test.YtedgnlgjmnccgabGreatDoorPartA
import Derived.Shelf.Pu.Clone
import Derived.RangeFuncNested
import Derived.RangeFuncBound
import Derived.RangeFuncCalls
import Derived.RangeFuncLeaves
import Derived.WalkKit
import Derived.Shelf.Strings.Builder1
import Derived.Shelf.Small.Utf8
import Derived.Shelf.Strings.BuilderF
import Derived.Shelf.LaysM
import Derived.Shelf.Strconv.Clone
import Derived.Shelf.Strings.Search1
import Derived.Shelf.Strings.RuneCount
import Derived.Shelf.Unicode.DecodeSlow
import Derived.Shelf.Unicode.DecodeAny
import Derived.Test.YtedgnlgjmnccgabGreatDoorProg
import Derived.OwnWalkIn
import Derived.TacticsInMore
import Derived.LoopNIn
import Derived.LoopIn
import Derived.RangeFuncRecord
import Derived.Lib.AppendStr
import Derived.Laws.OwnMore
import Derived.Maps.AppendAt
import Derived.Laws.EntriesVeiled
set_option maxRecDepth 100000
set_option maxHeartbeats 40000000
set_option linter.unusedVariables false
namespace Go.Proofs.YtedgnlgjmnccgabGreatDoor
section
open Go.RowKit
attribute [local go_sem] Ja7 Jbe
theorem Jog(rs:List Nat)(hr:∀r∈rs,Jas r)(hz:C1 rs<=300000000)(w:World)(hT:Lib.Utf8Tabs 2 3 w) :
    Calls Tryz.prog 78 #[.string (Ja1 rs)] w fun e w'=>e=.returned (.tuple #[.agg #[.int .i64 (C1 rs),.int .i64 (C2 rs),.int .i64 (C3 rs),.int .i64 (C4 rs)],.nilIface])/\Below w.heap.size w w':=by
 have hs:(Ja1 rs).size<400000000:=by rw[Jej];rw[Jcf]at hz;omega
 have hsc:scan (Ja1 rs).data.toList=(wide rs,true):=by rw[Jek];exact JbT rs hr
 refine(Je2 _ hs w hT).mono ?_;rintro e w' ⟨v,x,rfl,hb,⟨_,rfl,rfl⟩|⟨h,_⟩⟩
 . refine⟨?_,hb⟩
   rw[hsc];have e3:((wide rs).length:Int)=C3 rs:=by simp[wide,C3]
   simp only[e3];rfl
 . rw[hsc]at h;cases h
end
section
open Go.RowKit
structure But (B:Nat) (A A':World):Prop where
 os:A'.os=A.os
 tape:A'.tape=A.tape
 output:A'.output=A.output
 size:A.heap.size<=A'.heap.size
 block:∀k,k<A.heap.size->k≠B->A'.heap[k]?=A.heap[k]?
theorem But.refl(B:Nat)(A:World):But B A A:=⟨rfl,rfl,rfl,nlr _,fun _ _ _=>rfl⟩
theorem But.trans{B:Nat}{a b c:World}(h:But B a b)(k:But B b c):But B a c :=
 ⟨k.os.trans h.os,k.tape.trans h.tape,k.output.trans h.output,Nat.le_trans h.size k.size,fun i h1 h2=>(k.block i (Nat.lt_of_lt_of_le h1 h.size) h2).trans (h.block i h1 h2)⟩
theorem But.of_below{B:Nat}{A A':World}(h:Below A.heap.size A A'):But B A A':=⟨h.os,h.tape,h.output,h.size,fun k h1 _=>h.block k h1⟩
theorem But.setCell{B:Nat}{A W:World}(h:But B A W){p:Addr}(hp:p.block=B)(v:Value):But B A (W.setCell p v) :=
 h.trans ⟨rfl,rfl,rfl,by simp[World.setCell],fun k _ h2=>Below.heap_setCell W p v k (by rw[hp];exact h2)⟩
theorem But.below{B:Nat}{A A':World}(h:But B A A')(hB:B<=A.heap.size):Below B A A':=⟨h.os,h.tape,h.output,h.size,fun k hk=>h.block k (by omega) (by omega)⟩
theorem But.cell{B:Nat}{A A':World}(h:But B A A'){b o:Nat}{v:Value}(hb:b≠B)(hc:A.cell? ⟨b,o,none⟩=some v):A'.cell? ⟨b,o,none⟩=some v :=
 (World.cell?_of_block (w:=A) (a:=⟨b,o,none⟩) (h.block b (blt A _ hc) hb)).trans hc
structure GrowB (B:Nat) (W:World) (G:World->World):Prop where
 but:∀x,But B W (G x)
 onto:∀w,But B W w->G w=w
theorem GrowB.cell{B:Nat}{W:World}{G:World->World}(hG:GrowB B W G){b o:Nat}{v:Value}(hb:b≠B)(h:W.cell? ⟨b,o,none⟩=some v):∀x,(G x).cell? ⟨b,o,none⟩=some v :=
 fun x=>(hG.but x).cell hb h
section
variable {P : Program} {ops : Array Oper} {md : Region.Mode} {m B : Nat} {W0 : World} {Q : Exit → Act → World → Prop}
end
end
section
variable {n : Nat}
def JfV (b:UInt8):Bool:=Lib.runeStart (b.toNat:Int)
theorem Je7(h:n<256)(h2:n / 64≠2):JfV n.toUInt8=true:=by
 unfold JfV Lib.runeStart;rw[toU8 h,bne_iff_ne];omega
theorem JfF(h:n<64):JfV (128+n).toUInt8=false:=by
 unfold JfV Lib.runeStart;rw[toU8 (by omega),bne_eq_false_iff_eq];omega
theorem Jjm{r:Nat}(hr:Jas r):∃b t,enc r=b :: t/\JfV b=true/\(∀x∈t,JfV x=false)/\t.length<=3:=by
 unfold Jas at hr
 by_cases h1:r<=127
 . rw[enc1 h1];exact⟨_,[],rfl,Je7 (by omega) (by omega),by simp,by simp⟩
 by_cases h2:r<=2047
 . rw[enc2 (by omega) h2]
   exact⟨_,_,rfl,Je7 (by omega) (by omega),fun x hx=>by simp only[List.mem_cons,List.not_mem_nil,or_false]at hx;subst hx;exact JfF (by omega),by simp⟩
 by_cases h3:r<=65535
 . rw[enc3 (by omega)]
   exact⟨_,_,rfl,Je7 (by omega) (by omega),fun x hx=>by simp only[List.mem_cons,List.not_mem_nil,or_false]at hx;rcases hx with rfl|rfl<;>exact JfF (by omega),by simp⟩
 . rw[enc4 (by omega) (by omega)]
   exact⟨_,_,rfl,Je7 (by omega) (by omega),fun x hx=>by simp only[List.mem_cons,List.not_mem_nil,or_false]at hx;rcases hx with rfl|rfl|rfl<;>exact JfF (by omega),by simp⟩
def Jtx (rs:List Nat) (j:Nat):Prop:=∃k,k<=rs.length/\j=(encs (rs.take k)).length
theorem JmZ(rs:List Nat):Jtx rs 0:=⟨0,Nat.zero_le _,by simp[encs]⟩
theorem Jfb:∀{rs:List Nat},(∀r∈rs,Jas r)->∀{j:Nat}{b:UInt8},(encs rs)[j]?=some b->JfV b=true->Jtx rs j
 | [],_,j,b,h,_=>by simp[encs]at h
 | r :: rs,hr,j,b,h,hb=>by
  obtain⟨b0,t,e,h1,h2,_⟩:=Jjm (hr r (by simp));rw[Jco]at h
  by_cases hj:j<(enc r).length
  . rw [List.getElem?_append_left hj,e]at h
    cases j with
    | zero=>exact JmZ _
    | succ j =>
     rw[List.getElem?_cons_succ]at h;have:=h2 b (List.mem_of_getElem? h);rw[this]at hb
     cases hb
  . rw[List.getElem?_append_right (by omega)]at h
    obtain⟨k,hk,e2⟩:=Jfb (fun x hx=>hr x (by simp[hx])) h hb;refine⟨k+1,by simp;omega,?_⟩;rw[List.take_succ_cons,Jco,List.length_append,←e2];omega
end
section
open Go.RowKit
variable {n B : Nat}
structure Same2 (n:Nat) (W W':World):Prop where
 a:W'.heap[n]?=W.heap[n]?
 b:W'.heap[n+1]?=W.heap[n+1]?
theorem Same2.refl(n:Nat)(W:World):Same2 n W W:=⟨rfl,rfl⟩
theorem Same2.trans{n:Nat}{A B C:World}(h:Same2 n A B)(k:Same2 n B C):Same2 n A C:=⟨k.a.trans h.a,k.b.trans h.b⟩
theorem Same2.of_below{W W':World}(h:Below B W W')(hB:n+2<=B):Same2 n W W':=⟨h.block n (by omega),h.block (n+1) (by omega)⟩
theorem Same2.setCell{n:Nat}{A W:World}(h:Same2 n A W){p:Addr}(h1:p.block≠n)(h2:p.block≠n+1)(v:Value):Same2 n A (W.setCell p v) :=
 ⟨(Below.heap_setCell W p v n (fun e=>h1 e.symm)).trans h.a,(Below.heap_setCell W p v (n+1) (fun e=>h2 e.symm)).trans h.b⟩
theorem Same2.alloc{n:Nat}{A W:World}(h:Same2 n A W)(hn:n+2<=W.heap.size)(o:Obj):Same2 n A (W.alloc o) :=
 ⟨(Below.heap_alloc W o n (by omega)).trans h.a,(Below.heap_alloc W o (n+1) (by omega)).trans h.b⟩
theorem Same2.drew{n:Nat}{A W:World}(h:Same2 n A W):Same2 n A W.drew:=⟨h.a,h.b⟩
structure Put1 (n:Nat) (A B:World):Prop where
 os:B.os=A.os
 tape:B.tape=A.tape
 output:B.output=A.output
 size:B.heap.size=A.heap.size
 block:∀k,k≠n->B.heap[k]?=A.heap[k]?
theorem Put1.putObj(n:Nat)(A:World)(o:Obj):Put1 n A (A.putObj n o):=⟨rfl,rfl,rfl,by simp,fun _ h=>World.putObj_heap_other h⟩
theorem Put1.below{A A':World}(h:Put1 n A A')(hB:B<=n):Below B A A':=⟨h.os,h.tape,h.output,Nat.le_of_eq h.size.symm,fun k hk=>h.block k (by omega)⟩
theorem Put1.cell{n:Nat}{A A':World}(h:Put1 n A A'){b o:Nat}(hb:b≠n):A'.cell? ⟨b,o,none⟩=A.cell? ⟨b,o,none⟩:=World.cell?_of_block (w:=A) (a:=⟨b,o,none⟩) (h.block b hb)
theorem Put1.frozen{n:Nat}{A A':World}(h:Put1 n A A'){b o:Nat}(hb:b≠n):A'.frozen? ⟨b,o,none⟩=A.frozen? ⟨b,o,none⟩:=World.frozen?_of_block (w:=A) (a:=⟨b,o,none⟩) (h.block b hb)
def JnB {α:Type} (n:Nat) (Kp:World->World->Prop) (I:List α->World->Prop) (Ix:Code->List α->World->Prop) (xs:List α) (W:World):Exit->Act->World->Prop
 | .normal,_,W'=>Same2 n W W'/\Kp W W'/\I xs W'
 | .ret,_,W'=>Same2 n W W'/\Kp W W'/\Ix .ret xs W'
 | .exit id,_,W'=>Same2 n W W'/\Kp W W'/\Ix (.exit id) xs W'
 | .goto t,_,W'=>Same2 n W W'/\Kp W W'/\Ix (.goto t) xs W'
 | .panic _,_,_=>False
 | .outgrown,_,_=>False
def Jok {α:Type} (P:Program) (g:Nat) (lb:Array Value) (encs:List α->α->Array Value) (It Kp:World->World->Prop) (Z:World->Prop) (S Sp:List α->Prop) (W:World):Prop :=
 ∀ (l : Nat) (J Jx:List α->World->Prop),(∀pre A,J pre A->Z A)->(∀pre A,Jx pre A->Z A)->(∀pre A B,J pre A->It A B->J pre B)->(∀pre A B,Jx pre A->It A B->Jx pre B) ->
  (∀ pre x A,J pre A->Sp (pre++[x])->YieldAt Fence.wide 0 P l (encs pre x) A fun e A' =>
    (e=.returned (.bool true)/\J (pre++[x]) A'/\Kp A A')\/(e=.returned (.bool false)/\Jx (pre++[x]) A'/\Kp A A')) ->
  J [] W ->
  CallsIn Fence.wide 0 P g (#[.func (.yield l) #[] #[]]++lb) W fun e W'=>(∃v,e=.returned v)/\((∃xs,S xs/\J xs W')\/(∃pre,Sp pre/\Jx pre W'))
theorem JgY{α:Type}{P:Program}{g:Operand}{ps:Array Tmp}{assign body:Code}{Q:Exit->Act->World->Prop}{a:Act}{w:World}{n:Nat}
    {gf:Nat} {lb:Array Value} (hg:a.eval g=.func (.func gf) #[] lb) (eg:∀args w,(callFunc gf args).run P w=.ok (.enter gf args) w)
    {encs:List α->α->Array Value} (hps:∀pre x,(encs pre x).size=ps.size)
    {It Kp:World->World->Prop} {Z:World->Prop} {S Sp:List α->Prop}
    (hseq:∀W,W.heap.size=w.heap.size+2->Below w.heap.size w W->Jok P gf lb encs It Kp Z S Sp W)
    (hIt:∀A B,It A B->Same2 w.heap.size A B)
    (hKt:∀{A B C:World},Kp A B->Kp B C->Kp A C) (hKb:∀(A:World) (r:Loop),Kp A (A.putObj (w.heap.size+1) (.loop r)))
    (I:List α->World->Prop) (Ix:Code->List α->World->Prop)
    (hIz:∀pre A,I pre A->Z A) (hIxz:∀c pre A,Ix c pre A->Z A)
    (hI:∀pre A B,I pre A->It A B->I pre B) (hIb:∀pre A (r:Loop),I pre A->I pre (A.putObj (w.heap.size+1) (.loop r)))
    (hIx:∀c pre A B,Ix c pre A->It A B->Ix c pre B) (hIxb:∀c pre A (r:Loop),Ix c pre A->Ix c pre (A.putObj (w.heap.size+1) (.loop r)))
    (h0:∀W,W.heap.size=w.heap.size+2->Below w.heap.size w W->(∃r,W.heap[w.heap.size+1]?=some (.loop r))->I [] W)
    (hround:∀(l:Nat) (pre:List α) (x:α) (W:World),I pre W->w.heap.size+2<=W.heap.size->Sp (pre++[x]) ->
      assign.wpIn (Fence.wide.inRound l) 0 P (Exit.then (fun a₁ w₁=>Same2 w.heap.size W w₁/\Kp W w₁/\∀w₂,Put1 (w.heap.size+1) w₁ w₂->(∃r,w₂.heap[w.heap.size+1]?=some (.loop r))->body.wpIn (Fence.wide.inRound l) 0 P (JnB w.heap.size Kp I Ix (pre++[x]) w₂) a₁ w₂) (fun _ _ _=>False))
       { tmps:=(ps.zip (encs pre x)).foldl (fun t (p,v)=>t.setIfInBounds p v) a.tmps,defers:=[] } W)
    (hdone:∀(xs:List α) (W:World),S xs->I xs W->W.heap[w.heap.size]?=some (.deferred (some []))->Q .normal { a with defers:={ target:=.collected w.heap.size,args:=#[] } :: a.defers } W)
    (hstop:∀(c:Code) (pre:List α) (W:World),Sp pre->Ix c pre W->W.heap[w.heap.size]?=some (.deferred (some []))->c.wpIn Fence.wide n P Q { a with defers:={ target:=.collected w.heap.size,args:=#[] } :: a.defers } W) :
    (Code.rangeFunc g ps assign body).wpIn Fence.wide n P Q a w:=by
 refine wpIn_rangeFunc ?_;intro fn hfn;obtain⟨rec,hrec⟩:∃rec:LoopState->Option Code->Loop,rec=fun st pe=>{ state:=st,pending:=pe,fn,tmps:=a.tmps,params:=ps,assign,body,defers:=w.heap.size }:=⟨_,rfl⟩;obtain⟨W1,hW1⟩:∃W1,(w.alloc (.deferred (some []))).alloc (.loop (rec .ready none))=W1:=⟨_,rfl⟩;have hL1:W1.heap[w.heap.size+1]?=some (.loop (rec .ready none)):=by
  rw[←hW1];have:=World.alloc_heap_new (w.alloc (.deferred (some []))) (.loop (rec .ready none));rwa[World.size_alloc]at this
 have hK1:W1.heap[w.heap.size]?=some (.deferred (some [])):=by
  rw[←hW1];exact(Below.heap_alloc _ _ _ (by simp)).trans (World.alloc_heap_new w _)
 have hs1:W1.heap.size=w.heap.size+2:=by rw[←hW1,World.size_alloc,World.size_alloc]
 have hb1:Below w.heap.size w W1:=by
  rw[←hW1];exact((brf _ w).alloc (nlr _) _).alloc (by simp) _
 have hI1:I [] W1:=h0 W1 hs1 hb1 ⟨_,hL1⟩
 refine ⟨w.heap.size+1,[{ target:=.collected w.heap.size,args:=#[] }],W1,{ target:=.fn (.func gf) lb,args:=#[.func (.yield (w.heap.size+1)) #[] #[]] },W1,gf,
  #[.func (.yield (w.heap.size+1)) #[] #[]]++lb,W1,?_,?_,?_,?_,fun h=>(by cases h),?_⟩
 . rw[←hW1,hrec];exact run_enterLoop_outer _ _ _ _ _
 . simp only[resolve,hg]
   simp[go_sem]
 . intro f' hf';trivial
 . simp[invoke,go_sem,eg]
 . refine CallsIn.more ((hseq W1 hs1 hb1 (w.heap.size+1)
     (fun pre W=>I pre W/\W.heap[w.heap.size+1]?=some (.loop (rec .ready none))/\W.heap[w.heap.size]?=some (.deferred (some [])))
     (fun pre W=>∃c,Ix c pre W/\W.heap[w.heap.size+1]?=some (.loop (rec .done (some c)))/\W.heap[w.heap.size]?=some (.deferred (some [])))
     (fun s A hs=>hIz s A hs.1) (fun s A hs=>(by obtain⟨c,hc,_⟩:=hs;exact hIxz c s A hc))
     (fun s A B hs hg'=>⟨hI s A B hs.1 hg',(hIt A B hg').b.trans hs.2.1,(hIt A B hg').a.trans hs.2.2⟩)
     (fun s A B hs hg'=>by
       obtain⟨c,hc,hl,hk⟩:=hs
       exact⟨c,hIx c s A B hc hg',(hIt A B hg').b.trans hl,(hIt A B hg').a.trans hk⟩)
     ?_ ⟨hI1,hL1,hK1⟩).mono ?_) (Nat.zero_le _)
   . -- one round
     rintro pre x W ⟨hi,hl,hk⟩ hSp;have hlt:w.heap.size+1<W.heap.size:=(alt hl);have hy:=run_yield (P:=P) (args:=encs pre x) hl (by rw[hrec];exact hps pre x);rw[hrec]at hy;refine⟨fn,_,assign,body,hy,roundIn_of_wpIn hfn (wpIn_mono (hround _ pre x W hi (by omega) hSp) ?_)⟩;clear hy;rintro ea a' Wa hq
     cases ea with
     | normal=>?_
     | ret=>exact hq.elim
     | exit id=>exact hq.elim
     | goto t=>exact hq.elim
     | panic c=>exact hq.elim
     | outgrown=>exact hq.elim
     obtain⟨h2a,hkpa,hbody⟩:=hq
     replace hl:=h2a.b.trans hl
     replace hk:=h2a.a.trans hk
     replace hlt:w.heap.size+1<Wa.heap.size:=(alt hl)
     refine⟨_,run_beginRound hl (by rw[hrec]),?_⟩;have hl2:(Wa.putObj (w.heap.size+1) (.loop { rec .ready none with state:=.busy })).heap[w.heap.size+1]?=some (.loop { rec .ready none with state:=.busy }):=World.putObj_heap_same hlt;have hk2:(Wa.putObj (w.heap.size+1) (.loop { rec .ready none with state:=.busy })).heap[w.heap.size]?=some (.deferred (some [])):=(World.putObj_heap_other (by omega)).trans hk;have hw2:Kp Wa (Wa.putObj (w.heap.size+1) (.loop { rec .ready none with state:=.busy })):=hKb _ _;refine wpIn_mono (hbody _ (Put1.putObj _ _ _) ⟨_,hl2⟩) ?_
     have fin:∀(jump:Option Code) (W3:World),Same2 w.heap.size (Wa.putObj (w.heap.size+1) (.loop { rec .ready none with state:=.busy })) W3 ->
         (Instr.endRound (w.heap.size+1) jump).run P W3=.ok (.bool jump.isNone) (W3.putObj (w.heap.size+1) (.loop (rec (if jump.isNone then .ready else .done) jump))) /\
         (W3.putObj (w.heap.size+1) (.loop (rec (if jump.isNone then .ready else .done) jump))).heap[w.heap.size+1]?=some (.loop (rec (if jump.isNone then .ready else .done) jump)) /\
         (W3.putObj (w.heap.size+1) (.loop (rec (if jump.isNone then .ready else .done) jump))).heap[w.heap.size]?=some (.deferred (some [])):=fun jump W3 hk3=>by
      have hl3:=hk3.b.trans hl2;have:=run_endRound (P:=P) jump hl3;rw[hrec]at this ⊢;exact⟨this,World.putObj_heap_same (alt hl3),(World.putObj_heap_other (by omega)).trans (hk3.a.trans hk2)⟩
     rintro e a3 W3 hp
     cases e with
     | normal =>
      obtain⟨hk3,hkp3,hi3⟩:=hp;obtain⟨hr,hl4,hk4⟩:=fin none W3 hk3;exact⟨_,_,hr,.inl ⟨rfl,⟨hIb _ _ _ hi3,hl4,hk4⟩,hKt hkpa (hKt (hKt hw2 hkp3) (hKb _ _))⟩⟩
     | ret =>
      obtain⟨hk3,hkp3,hi3⟩:=hp;obtain⟨hr,hl4,hk4⟩:=fin (some .ret) W3 hk3;exact⟨_,_,hr,.inr ⟨rfl,⟨.ret,hIxb _ _ _ _ hi3,hl4,hk4⟩,hKt hkpa (hKt (hKt hw2 hkp3) (hKb _ _))⟩⟩
     | exit id =>
      obtain⟨hk3,hkp3,hi3⟩:=hp;obtain⟨hr,hl4,hk4⟩:=fin (some (.exit id)) W3 hk3;exact⟨_,_,hr,.inr ⟨rfl,⟨.exit id,hIxb _ _ _ _ hi3,hl4,hk4⟩,hKt hkpa (hKt (hKt hw2 hkp3) (hKb _ _))⟩⟩
     | goto t =>
      obtain⟨hk3,hkp3,hi3⟩:=hp;obtain⟨hr,hl4,hk4⟩:=fin (some (.goto t)) W3 hk3;exact⟨_,_,hr,.inr ⟨rfl,⟨.goto t,hIxb _ _ _ _ hi3,hl4,hk4⟩,hKt hkpa (hKt (hKt hw2 hkp3) (hKb _ _))⟩⟩
     | panic ch=>exact hp.elim
     | outgrown=>exact hp.elim
   . -- behind the iterator
     rintro e W2 ⟨⟨v,rfl⟩,(⟨xs,hS,hi,hl,hk⟩|⟨pre,hSp,c,hi,hl,hk⟩)⟩
     . exact⟨none,_,by have:=run_endLoop (P:=P) hl (by rw[hrec];simp);rw[hrec]at this;exact this,hdone xs _ hS (hIb _ _ _ hi) ((World.putObj_heap_other (by omega)).trans hk)⟩
     . exact⟨some c,_,by have:=run_endLoop (P:=P) hl (by rw[hrec];simp);rw[hrec]at this;exact this,hstop c pre _ hSp (hIxb _ _ _ _ hi) ((World.putObj_heap_other (by omega)).trans hk)⟩
end
end Go.Proofs.YtedgnlgjmnccgabGreatDoor
namespace Go.Proofs
open Go.Shelf
def Tryz.lays120_ren:Go.Shelf.Ren:=⟨fun | 120=>173 | n=>n,fun | 5=>5 | 4=>4 | n=>n,fun | n=>n⟩
theorem Tryz.lays120:Go.Proofs.Lays.n120 Tryz.prog Tryz.lays120_ren:={
 mixed:=by kernel_rfl
 f120:=Tryz.func173.trans (congrArg some (by kernel_rfl))
 t4:=Tryz.underlying4
 a4:=Tryz.isAgg4
 z4:=Tryz.sizeOf4
 v4:=Tryz.zeroValue4
 t5:=Tryz.underlying5
 a5:=Tryz.isAgg5
 z5:=Tryz.sizeOf5
 v5:=Tryz.zeroValue5 }
theorem Tryz.utf8_RuneStart(b:Int)(w:World)(h0:0<=b)(h1:b<256) :
    Calls Tryz.prog 173 #[.int .u8 b] w fun e w'=>e=.returned (.bool (Lib.runeStart b))/\w'=w:=Any.utf8_RuneStart Tryz.lays120 b w h0 h1
end Go.Proofs
namespace Go.Proofs.YtedgnlgjmnccgabGreatDoor
section
open Go.RowKit
section
variable {P : Program} {ops : Array Oper} {md : Region.Mode} {m l0 n : Nat} {Q : Exit → Act → World → Prop}
theorem Jmq{o:Oper}{a:Act}{K:Act->World->Prop}{r:Result Next}(hh:Jbe P o a K r):o.uponIn (Fence.wide.inRound l0) n P a K Q r:=by
 cases r with
 | ok x w =>
  cases x<;>simp only[Jbe]at hh<;>simp only[Oper.uponIn]
  case value=>exact hh
  case skip=>exact hh
  case enter=>exact⟨fun h=>(by cases h),(CallsIn.inRound l0 (callsIn_wide.2 hh)).mono fun e w ⟨v,e1,e2⟩=>by subst e1;exact e2⟩
 | halt x w=>simp only[Jbe]at hh
theorem Jhm(hnd:∀(i:Nat)(o:Oper),ops[i]?=some o->∀c,o.op≠.defer c):∀(fuel:Nat)(listed:Array Bool)(a:Act)(w:World),anyG P md ops m Q fuel listed a w->wpAnyIn (Fence.wide.inRound l0) n P md ops Q fuel listed a w
 | 0,_,_,w,h=>⟨h.1,h.2 w (brf _ _)⟩
 | fuel + 1,listed,a,w,h=>⟨fun h0=>h.1 h0 w (brf _ _),fun i hi=>by
     have h1:=h.2 i hi w (brf _ _);have h2:=Jed (fun a' w'' hh=>Jhm hnd fuel _ a' w'' hh.2) h1;unfold opG at h2;unfold wpOpIn
     split
     . rename_i ho;simp only[ho]at h2;exact h2
     . rename_i o ho
       simp only[ho]at h2
       split
       . rename_i hw
         simp only[hw,if_true]at h2;unfold Oper.wpIn;refine⟨fun _ _=>trivial,?_⟩;rw[Fence.inRound_round,Oper.semAt_some _ _ _ (hnd i o ho)];exact Jmq h2
       . rename_i hw;simp only[hw]at h2;exact⟨fun _ _=>trivial,h2⟩⟩
end
theorem Ji5{P:Program}{Q:Exit->Act->World->Prop}{id l0 k:Nat}{a:Act}{w:World}{l:List Oper}(m n:Nat)(hm:P.follows .mixedOrders=true)(hn:l.length=n)(hnd:JjY l=true)
    (h:∀w',Below w.heap.size w w'->anyG P .any l.toArray m Q n (Array.replicate n false) a w'):(Code.region id l.toArray true).wpIn (Fence.wide.inRound l0) k P Q a w :=
 wpIn_region_any hm (Jhm (fun i o hi=>Jje hnd i o (by simpa using hi)) _ _ _ _ (by subst hn;simpa using h { w with drawn:=w.drawn+1 } (Below.drew (brf _ w))))
end
section
open Go.RowKit
attribute [local go_sem] Oper.semAt_some Ja7 Jbe
theorem But.putObj(B:Nat)(A:World)(o:Obj):But B A (A.putObj B o):=⟨rfl,rfl,rfl,by simp,fun k _ h=>World.putObj_heap_other h⟩
theorem But.frozen{B:Nat}{A A':World}(h:But B A A'){b o:Nat}(hl:b<A.heap.size)(hb:b≠B):A'.frozen? ⟨b,o,none⟩=A.frozen? ⟨b,o,none⟩ :=
 World.frozen?_of_block (w:=A) (a:=⟨b,o,none⟩) (h.block b hl hb)
end
section
open Go.RowKit
attribute [local go_sem] Oper.semAt_some
theorem Jc6(w:World)(n1 n2 n3 n4:Int)(t:TypeId):counted (w.alloc (.cells #[.int .i64 n1,.int .i64 n2,.int .i64 n3,.int .i64 n4] t)) w.heap.size n1 n2 n3 n4:=by
 refine⟨⟨?_,?_,?_,?_⟩,?_,?_,?_,?_⟩<;>simp[go_sem]
theorem JgR{lo:Nat}{w W:World}{B:Nat}(hb:Below lo w W)(hlo:lo<=B)(u0 u1 u2 u3:Value) :
    Below lo w ((((W.setCell ⟨B,0,none⟩ u0).setCell ⟨B,1,none⟩ u1).setCell ⟨B,2,none⟩ u2).setCell ⟨B,3,none⟩ u3) :=
 (((hb.setCell (p:=⟨B,0,none⟩) hlo _).setCell (p:=⟨B,1,none⟩) hlo _).setCell (p:=⟨B,2,none⟩) hlo _).setCell (p:=⟨B,3,none⟩) hlo _
theorem C1_left{a b:List Nat}{k:Int}(h:C1 (a++b)<=k):C1 a<=k:=by rw[Jcg]at h;have:=JdY b;omega
end
section
open Go.RowKit
structure TakesS (W:World) (F:Nat) (cap:Array Value) (l:List (Nat×Nat)) (I Ix:List (Nat×Nat)->World->Prop):Prop where
 enters:∀args w,(callFunc F args).run Tryz.prog w=.ok (.enter F args) w
 stays:∀done w w',I done w->Below w.heap.size w w'->I done w'
 step:∀done p rest,l=done++p :: rest->∀w,I done w->Below W.heap.size W w ->
  Calls Tryz.prog F (#[.int .i32 p.1,.int .i64 p.2]++cap) w fun e w'=>Below W.heap.size W w'/\((e=.returned (.bool true)/\I (done++[p]) w')\/(e=.returned (.bool false)/\Ix (done++[p]) w'))
theorem JoW(s:ByteArray)(hs:s.size<=maxLen)(F:Nat)(cap:Array Value)(W:World)(hT:Lib.Utf8Tabs 2 3 W)(I Ix:List (Nat×Nat)->World->Prop)
    (H:TakesS W F cap (scan s.data.toList).1 I Ix) (w:World) (hw:Below W.heap.size W w) (h0:I [] w) :
    Calls Tryz.prog 135 #[.string s,.func (.func F) #[] cap] w fun e w'=>(∃v,e=.returned v)/\Below W.heap.size W w' /\
     (I (scan s.data.toList).1 w'\/(∃pre rest,(scan s.data.toList).1=pre++rest/\Ix pre w')):=by
 unfold maxLen at hs;have hent:=H.enters
 go_enter Tryz.func135,Tryz.ntmps135
 go_wp2
 go_loopw [5,6,7,12] (fun at_ _ _ _ wr=>∃(k:Nat) (done:List (Nat×Nat)),k<=s.size/\at_=.int .i64 k/\(scan s.data.toList).1=done++(scan (s.data.toList.drop k)).1/\I done wr/\Below W.heap.size W wr) (fun at_ _ _ _ _=>s.size - (intOf at_).toNat)
 case atStart=>exact⟨0,[],Nat.zero_le _,rfl,by rw[List.drop_zero];rfl,h0,hw⟩
 case round =>
  obtain⟨k,done,hk,rfl,hd1,hI,hwr⟩:=hrel;have hTr:=Go.Proofs.Utf8Tabs_below hT hwr
  by_cases hlt:k<s.size
  . have hne:s.data.toList.drop k≠[]:=by
      intro e;have:=congrArg List.length e;rw[List.length_drop,List.length_nil,←Lib.size_eq]at this;omega
    have hdec:Lib.decodeGo (s.extract k s.size)=dec (s.data.toList.drop k):=by
     unfold Lib.decodeGo;rw[if_neg (by rw[ByteArray.size_extract];omega),JgM]
    have hge:=Jfe (s.data.toList.drop k);have hle:=Jjp hne;have hle4:=Jnc (s.data.toList.drop k);have cD:=Tryz.utf8_DecodeRuneInString (s.extract k s.size) wr hTr;rw[hdec]at cD
    by_cases hb:badB (dec (s.data.toList.drop k))=true
    . have hs2:=JfW hne hb
      have hfin:Hid (I (scan s.data.toList).1 wr):=by show I _ wr;rw[hd1,hs2,List.append_nil];exact hI
      have hb':(dec (s.data.toList.drop k)).1=65533/\(dec (s.data.toList.drop k)).2=1:=Jiw hb;rw[hb'.1,hb'.2]at cD;clear hdec hge hle hle4 hb hb' hd1 hs2 hne hI
      go_wp2_with (first | (go_at_call 193;refine cD.mono ?_;rintro e w1 ⟨rfl,hb1⟩) | (go_at_call 163;refine(JfN _ _).mono ?_;rintro e w2 ⟨⟨v,rfl,hv⟩,hb2⟩))
      go_ret;have hb12:Below wr.heap.size wr w2:=hb1.trans (hb2.mono hb1.size);exact⟨⟨_,rfl⟩,hwr.trans (hb12.mono hwr.size),.inl (H.stays _ _ _ hfin hb12)⟩
    . have hb:badB (dec (s.data.toList.drop k))=false:=Bool.eq_false_iff.2 hb
      have hs2:=Jet hne hb;have hl:(scan s.data.toList).1=done++dec (s.data.toList.drop k) :: (scan ((s.data.toList.drop k).drop (dec (s.data.toList.drop k)).2)).1:=by rw[hd1,hs2]
      rw[List.drop_drop]at hl;rw[List.length_drop,←Lib.size_eq]at hle;have hstep:=H.step done _ _ hl;obtain⟨R,hR⟩:∃R,R=(dec (s.data.toList.drop k)).1:=⟨_,rfl⟩;obtain⟨K,hK⟩:∃K,K=(dec (s.data.toList.drop k)).2:=⟨_,rfl⟩;have hp:dec (s.data.toList.drop k)=(R,K):=by rw[hR,hK]
      rw[hp]at cD hb hge hle hle4 hl hstep;have hnext:Hid ((scan s.data.toList).1=done++[(R,K)]++(scan (s.data.toList.drop (k+K))).1):=by
       show _=_;rw[hl,List.append_assoc];rfl
      simp only[]at hge hle;clear hdec hd1 hs2 hne hle4 hl hR hK hp;have hbF:=Jj0 hb;clear hb
      rcases hbF with hr|⟨hr,hr2⟩
      . have hr0:((R:Int)==65533)=false:=by
          rw[beq_eq_false_iff_ne];intro e;exact hr (by omega)
        clear hr
        go_wp2_with (first | (go_at_call 193;refine cD.mono ?_;rintro e w1 ⟨rfl,hb1⟩) | (go_at_fn F;refine(hstep w1 (H.stays _ _ _ hI hb1) (hwr.trans (hb1.mono hwr.size))).mono ?_;rintro e w2 ⟨hb2,⟨rfl,hI2⟩|⟨rfl,hI2⟩⟩))
        . go_roundw
          case rel=>exact⟨k+K,done++[(R,K)],by omega,by go_num,hnext,hI2,hb2⟩
          case measure=>simp[intOf];omega
        . go_ret
          exact⟨⟨_,rfl⟩,hb2,.inr ⟨_,_,hnext,hI2⟩⟩
      . have hr0:((K:Int)==1)=false:=by
          rw[beq_eq_false_iff_ne];intro e;exact hr2 (by omega)
        subst hr;clear hr2
        go_wp2_with (first | (go_at_call 193;refine cD.mono ?_;rintro e w1 ⟨rfl,hb1⟩) | (go_at_fn F;refine(hstep w1 (H.stays _ _ _ hI hb1) (hwr.trans (hb1.mono hwr.size))).mono ?_;rintro e w2 ⟨hb2,⟨rfl,hI2⟩|⟨rfl,hI2⟩⟩))
        . go_roundw
          case rel=>exact⟨k+K,done++[(65533,K)],by omega,by go_num,hnext,hI2,hb2⟩
          case measure=>simp[intOf];omega
        . go_ret
          exact⟨⟨_,rfl⟩,hb2,.inr ⟨_,_,hnext,hI2⟩⟩
  . have hend:s.data.toList.drop k=[]:=List.drop_eq_nil_of_le (by rw[←Lib.size_eq];omega)
    rw[hend,Jfp]at hd1;rw[List.append_nil]at hd1;have hfin:Hid (I (scan s.data.toList).1 wr):=by show I _ wr;rw[hd1];exact hI
    clear hd1 hend hTr;go_wp2;go_ret;exact⟨⟨_,rfl⟩,hwr,.inl hfin⟩
structure KeepUp (lo:Nat) (A B:World):Prop where
 size:A.heap.size<=B.heap.size
 same:∀k,lo<=k->k<A.heap.size->B.heap[k]?=A.heap[k]?
theorem KeepUp.refl(lo:Nat)(A:World):KeepUp lo A A:=⟨nlr _,fun _ _ _=>rfl⟩
theorem KeepUp.trans{lo:Nat}{A B C:World}(h:KeepUp lo A B)(k:KeepUp lo B C):KeepUp lo A C :=
 ⟨Nat.le_trans h.size k.size,fun i h1 h2=>(k.same i h1 (Nat.lt_of_lt_of_le h2 h.size)).trans (h.same i h1 h2)⟩
theorem KeepUp.of_below{lo:Nat}{A B:World}(h:Below A.heap.size A B):KeepUp lo A B:=⟨h.size,fun k _ h2=>h.block k h2⟩
theorem KeepUp.setCell{lo:Nat}{A W:World}(h:KeepUp lo A W){p:Addr}(hp:p.block<lo)(v:Value):KeepUp lo A (W.setCell p v) :=
 h.trans ⟨by simp[World.setCell],fun k h1 _=>Below.heap_setCell W p v k (by omega)⟩
theorem KeepUp.alloc{lo:Nat}{A W:World}(h:KeepUp lo A W)(o:Obj):KeepUp lo A (W.alloc o) :=
 h.trans ⟨by simp,fun k _ h2=>Below.heap_alloc W o k h2⟩
theorem KeepUp.drew{lo:Nat}{A W:World}(h:KeepUp lo A W):KeepUp lo A W.drew:=h.trans ⟨nlr _,fun _ _ _=>rfl⟩
theorem KeepUp.putObj{lo r:Nat}(A:World)(o:Obj)(h:r<lo):KeepUp lo A (A.putObj r o) :=
 ⟨by simp,fun k h1 _=>World.putObj_heap_other (by omega)⟩
theorem KeepUp.counted{lo:Nat}{A B:World}(h:KeepUp lo A B){a:Nat}{n1 n2 n3 n4:Int}(ha:lo<=a)(hc:counted A a n1 n2 n3 n4):counted B a n1 n2 n3 n4:=by
 have hb:=h.same a ha (JdB hc);have e1:∀i,B.cell? ⟨a,i,none⟩=A.cell? ⟨a,i,none⟩:=fun i=>World.cell?_of_block (w:=A) (a:=⟨a,i,none⟩) hb;have e2:∀i,B.frozen? ⟨a,i,none⟩=A.frozen? ⟨a,i,none⟩:=fun i=>World.frozen?_of_block (w:=A) (a:=⟨a,i,none⟩) hb;unfold Go.Proofs.YtedgnlgjmnccgabGreatDoor.counted;rw[e1,e1,e1,e1,e2,e2,e2,e2];exact hc
theorem KeepUp.cell{lo:Nat}{A B:World}(h:KeepUp lo A B){a i:Nat}{v:Value}(ha:lo<=a)(hc:A.cell? ⟨a,i,none⟩=some v):B.cell? ⟨a,i,none⟩=some v:=by
 have hb:=h.same a ha (blt A _ hc);exact(World.cell?_of_block (w:=A) (a:=⟨a,i,none⟩) hb).trans hc
def JfP (pre:List (Nat×Nat)) (p:Nat×Nat):Array Value :=
 #[cnt (sum1 pre) (sum2 pre) pre.length (sum4 pre),cnt p.2 (cH p.1) 1 (cL p.1)]
attribute [local go_sem] Oper.semAt_some
theorem Jom(l:Nat)(b0 b1 lo:Nat)(h0:lo<=b0)(h1:lo<=b1)(hne:b0≠b1)(r:Nat)(n n1 n2 n3 n4:Int)(w:World)(hlw:lo<=w.heap.size)(hc:counted w b1 n1 n2 n3 n4)(hy:w.cell? ⟨b0,0,none⟩=some (.func (.yield l) #[] #[]))
    (R1 R0:World->Prop)
    (hR:∀A,Below w.heap.size w A->YieldAt Fence.wide 0 Tryz.prog l #[cnt n1 n2 n3 n4,cnt n (cH r) 1 (cL r)] A fun e A' =>
      (e=.returned (.bool true)/\R1 A'/\KeepUp lo A A')\/(e=.returned (.bool false)/\R0 A'/\KeepUp lo A A')) :
    Calls Tryz.prog 263 #[.int .i32 r,.int .i64 n,.pointer (some ⟨b0,0,none⟩),.pointer (some ⟨b1,0,none⟩)] w fun e w' =>
     (e = .returned (.bool true)/\counted w' b1 (wrap64 (n1+n)) (wrap64 (n2+cH r)) (wrap64 (n3+1)) (wrap64 (n4+cL r))/\w'.cell? ⟨b0,0,none⟩=some (.func (.yield l) #[] #[]) /\
       ∃A',R1 A'/\Below lo A' w')\/(e=.returned (.bool false)/\R0 w'):=by
 have hlt:=JdB hc;have hlt0:b0<w.heap.size:=blt w _ hy;have HC:=hdz hc;have cO:=fun (w:World)=>Jhi r n w;generalize cH r=x2 at *;generalize cL r=x4 at *;generalize (r:Int)=R at cO ⊢;unfold cnt at hR;refine(callsIn_wide (n:=1)).1 ?_;refine callsIn_of_wp Tryz.func263 rfl trivial ?_ rfl;simp only[Tryz.ntmps263,List.size_toArray,List.length_cons,List.length_nil,Nat.reduceAdd,Nat.reduceSub,Array.replicate_succ,Array.replicate_zero,List.push_toArray,List.append_toArray,List.nil_append,List.cons_append]
 gi_wp2_with (refine⟨trivial,?_⟩;gi_at_call 138;refine(callsIn_wide.2 (cO _)).mono ?_;rintro e w1 ⟨rfl,hb1⟩;have hb2:Below w.heap.size w (w1.alloc (.cells #[.int .i64 n,.int .i64 x2,.int .i64 1,.int .i64 x4] 25)):=hb1.alloc hb1.size _;have HC2:=Jb1 HC.out hb2 hlt;have HB:=hdz hb2;obtain⟨⟨a0,a1,a2,a3⟩,b0',b1',b2',b3'⟩:=HC2;have hy2:=(hb2.cell (p:=⟨b0,0,none⟩) hlt0).trans hy;obtain⟨fn,tmps,assign,body,hyy,hRd⟩:=hR _ hb2;clear hb2)
 refine hRd.mono ?_;rintro e A' (⟨rfl,hR1,hk⟩|⟨rfl,hR0,hk⟩)
 . have HCA:=hk.counted h1 (Jb1 HC.out HB.out hlt)
   have HCN:counted (w1.alloc (.cells #[.int .i64 n,.int .i64 x2,.int .i64 1,.int .i64 x4] 25)) w1.heap.size n x2 1 x4:=by
    refine⟨⟨?_,?_,?_,?_⟩,?_,?_,?_,?_⟩<;>simp[go_sem]
   have HCO:=hk.counted (Nat.le_trans hlw hb1.size) HCN;have hyA:=hk.cell h0 hy2;have HCA':=hdz HCA;have hyA':=hdz hyA;obtain⟨⟨c0,c1,c2,c3⟩,d0,d1,d2,d3⟩:=HCA;obtain⟨⟨e0,e1,e2,e3⟩,f0,f1,f2,f3⟩:=HCO;have hlA:b1<A'.heap.size:=JdB HCA'.out;have hlA0:b0<A'.heap.size:=blt A' _ hyA;clear a0 a1 a2 a3 b0' b1' b2' b3' hy2 hyy hRd hy HC hc cO hR HCN hyA
   gi_wp2_with (refine⟨trivial,?_⟩;gi_at_call 137;refine(callsIn_wide.2 (JjU _ _ _ _ _ _ _ _ _)).mono ?_;rintro e w2 ⟨rfl,hb2⟩;have HC3:=JaB HCA'.out hb2;have HC4:=hdz HC3;obtain⟨⟨g0,g1,g2,g3⟩,k0,k1,k2,k3⟩:=HC3;have hB3:=hdz hb2;clear hb2)
   have hy3:w2.cell? ⟨b0,0,none⟩=some (.func (.yield l) #[] #[]):=(hB3.out.cell (p:=⟨b0,0,none⟩) hlA0).trans hyA'.out;go_ret;exact .inl ⟨rfl,JdT HC4.out,by simp[go_sem,hy3],A',hR1,Jgy (hB3.out.mono (Nat.le_of_lt (Nat.lt_of_le_of_lt h1 hlA))) h1 _ _ _ _⟩
 . gi_wp2
   go_ret;exact .inr ⟨rfl,hR0⟩
theorem Jou(l:Nat)(b0 b1 lo:Nat)(h0:lo<=b0)(h1:lo<=b1)(hne:b0≠b1)(W0:World)(xs:List (Nat×Nat))(hx:xs.length<1000000000)(hx4:∀p∈xs,p.2<=4)(J Jx:List (Nat×Nat)->World->Prop)
    (hz:∀pre A,J pre A->Below W0.heap.size W0 A) (hzx:∀pre A,Jx pre A->Below W0.heap.size W0 A) (hJ:∀pre A B,J pre A->Below lo A B->J pre B)
    (hR:∀pre x A,J pre A->(∃rest,xs=pre++[x]++rest)->YieldAt Fence.wide 0 Tryz.prog l (JfP pre x) A fun e A' =>
      (e=.returned (.bool true)/\J (pre++[x]) A'/\KeepUp lo A A')\/(e=.returned (.bool false)/\Jx (pre++[x]) A'/\KeepUp lo A A')) :
    TakesS W0 263 #[.pointer (some ⟨b0,0,none⟩),.pointer (some ⟨b1,0,none⟩)] xs
     (fun done w=>J done w/\lo<=w.heap.size/\counted w b1 (sum1 done) (sum2 done) (done.length:Int) (sum4 done)/\w.cell? ⟨b0,0,none⟩=some (.func (.yield l) #[] #[]))
     (fun done w=>Jx done w) where
 enters:=enters_of Tryz.func263 (by kernel_rfl) rfl
 stays:=fun done w w' hI hb=>⟨hJ _ _ _ hI.1 (hb.mono hI.2.1),Nat.le_trans hI.2.1 hb.size,JaB hI.2.2.1 hb,(hb.cell (p:=⟨b0,0,none⟩) (blt w _ hI.2.2.2)).trans hI.2.2.2⟩
 step := fun done p rest e w hI hw=>by
  obtain⟨hj,hlw,hc,hy⟩:=hI;have hlen:=congrArg List.length e;rw[List.length_append]at hlen;have k1:=Jmt done fun q hq=>hx4 q (by rw[e];simp[hq]);have k2:=JjB done;have k4:=JjA done;have hp:=hx4 p (by rw[e];simp);have hp2:=JsT p.1;have hp4:=JsS p.1;refine(Jom l b0 b1 lo h0 h1 hne p.1 p.2 _ _ _ _ w hlw hc hy (J (done++[p])) (Jx (done++[p])) fun A hb=>hR done p A (hJ _ _ _ hj (hb.mono hlw)) ⟨rest,by rw[e];simp⟩).mono ?_;rintro e' w' (⟨rfl,c,hy',A',hj',hb'⟩|⟨rfl,hj'⟩)
  . rw[Jax (by omega) (by omega),Jax (by omega) (by omega),Jax (by omega) (by omega),Jax (by omega) (by omega)]at c
    have e1:sum1 (done++[p])=sum1 done+p.2:=by simp[sum1]
    have e2:sum2 (done++[p])=sum2 done+cH p.1:=by simp[sum2]
    have e3:(((done++[p]).length:Nat):Int)=done.length+1:=by simp
    have e4:sum4 (done++[p])=sum4 done+cL p.1:=by simp[sum4]
    have hJw:=hJ _ _ _ hj' hb';refine⟨hz _ _ hJw,.inl ⟨rfl,hJw,Nat.le_trans h1 (Nat.le_of_lt (JdB c)),?_,hy'⟩⟩;rw[e1,e2,e3,e4];exact c
  . exact⟨hzx _ _ hj',.inr ⟨rfl,hj'⟩⟩
theorem Jj5(l:Nat)(w:World):(binOp .eql 352 (.func (.yield l) #[] #[]) .nilFunc).run Tryz.prog w=.ok (.bool false) w:=by kernel_rfl
theorem JrE(s:ByteArray)(hs:s.size<400000000)(W0:World)(hT:Lib.Utf8Tabs 2 3 W0)(sb:Nat)(W:World)(hsb:W.cell? ⟨sb,0,none⟩=some (.string s)) :
    Jok Tryz.prog 262 #[.pointer (some ⟨sb,0,none⟩)] JfP (Below W.heap.size) (KeepUp W.heap.size) (Below W0.heap.size W0)
     (fun xs=>xs=(scan s.data.toList).1) (fun pre=>∃rest,(scan s.data.toList).1=pre++rest) W:=by
 intro l J Jx hz hzx hJ hJx hR hj0;have hlen:=Jfq s.data.toList;rw[←Lib.size_eq]at hlen;have hW:=hz _ _ hj0;have hlt:=blt W _ hsb
 have hb2:Below W.heap.size W ((W.alloc (.cells #[.func (.yield l) #[] #[]] 352)).alloc (.cells #[.int .i64 0,.int .i64 0,.int .i64 0,.int .i64 0] 25)) :=
  ((brf _ W).alloc (nlr _) _).alloc (by rw[wsa];exact Nat.le_succ _) _
 have cE:=JoW s (by unfold maxLen;omega) 263 #[.pointer (some ⟨W.heap.size,0,none⟩),.pointer (some ⟨W.heap.size+1,0,none⟩)] W0 hT _ _
  (Jou l W.heap.size (W.heap.size+1) W.heap.size (nlr _) (Nat.le_succ _) (by omega) W0 (scan s.data.toList).1 (by omega) (Jqf _) J Jx hz hzx hJ hR) _ (hz _ _ (hJ _ _ _ hj0 hb2))
  ⟨hJ _ _ _ hj0 hb2,hb2.size,(by refine⟨⟨?_,?_,?_,?_⟩,?_,?_,?_,?_⟩<;>simp[go_sem,sum1,sum2,sum4]),(by simp[go_sem])⟩
 have hs2:=(((brf _ W).alloc (nlr _) (.cells #[.func (.yield l) #[] #[]] 352)).cell (p:=⟨sb,0,none⟩) hlt).trans hsb;have hs3:=(hb2.cell (p:=⟨sb,0,none⟩) hlt).trans hsb;clear hb2 hR hj0 hW hlen hs;have hnil:∀w,(binOp .eql 352 (.func (.yield l) #[] #[]) .nilFunc).run Tryz.prog w=.ok (.bool false) w:=fun w=>Jj5 l w;refine callsIn_wide.2 ?_;simp only[List.append_toArray,List.cons_append,List.nil_append]
 go_enter Tryz.func262,Tryz.ntmps262
 go_wp2_with (go_at_call 135;refine cE.mono ?_;rintro e w1 ⟨⟨v,rfl⟩,hb1,⟨hj1,_⟩|⟨pre,rest,e1,hj1⟩⟩)
 . go_end0
   exact⟨⟨_,rfl⟩,.inl ⟨_,rfl,hj1⟩⟩
 . go_end0
   exact⟨⟨_,rfl⟩,.inr ⟨pre,⟨rest,e1⟩,hj1⟩⟩
end
section
open Go.RowKit
def Jna (rs:List Nat) (i:Nat):Int:=(encs (rs.take i)).length
def Jrf (rs:List Nat) (i:Nat):Int:=(JbA (rs.take i)).length
def Jre (rs:List Nat) (i:Nat):Int:=Lib.countByte (encs (rs.take i)) 10
def edge (rs:List Nat) (i:Nat):List Value:=[.int .i64 (Jna rs i),.int .i64 (Jrf rs i),.int .i64 i,.int .i64 (Jre rs i)]
def JfK (rs:List Nat) (m:Nat):List Value:=(List.range m).flatMap (edge rs)
theorem JgL(rs:List Nat)(m:Nat):JfK rs (m+1)=JfK rs m++edge rs m:=by simp[JfK,List.range_succ]
theorem info36:(Tryz.prog.info? 25).map (fun i=>(i.zero,i.size,i.bytes))=some (some (.agg #[.int .i64 0,.int .i64 0,.int .i64 0,.int .i64 0]),4,32):=by kernel_rfl
theorem JkF(s:ByteArray)(k:Nat):(s.extract 0 k).data.toList=s.data.toList.take k:=by
 rw[Lib.extract_data,List.drop_zero,Nat.sub_zero]
theorem JoX(s:ByteArray)(hs:s.size<100000000)(rs:List Nat)(he:encs rs=s.data.toList)(hr:∀r∈rs,Jas r)(i:Nat)(hi:i<=rs.length)(w:World) :
    Calls Tryz.prog 12 #[.string (s.extract 0 (encs (rs.take i)).length)] w fun e w'=>e=.returned (.tuple #[.agg #[.int .i64 (Jna rs i),.int .i64 (Jrf rs i),.int .i64 i,.int .i64 (Jre rs i)],.agg #[.int .i64 0,.int .i64 (-1)]])/\Below w.heap.size w w':=by
 have hl:(s.extract 0 (encs (rs.take i)).length).data.toList=encs (rs.take i):=by
  rw[JkF,←he];have e:encs rs=encs (rs.take i)++encs (rs.drop i):=by rw[←JbQ,List.take_append_drop]
  rw[e,List.take_left]
 have hri:∀r∈rs.take i,Jas r:=fun r h=>hr r (List.mem_of_mem_take h);have hsc:=JbT (rs.take i) hri;have hro:Jam (encs (rs.take i))=rs.take i:=by
  unfold Jam;rw[hsc];simp[wide,List.map_map,Function.comp_def]
 have hsz:(s.extract 0 (encs (rs.take i)).length).size=(encs (rs.take i)).length:=by rw[Lib.size_eq,hl]
 have hlt:(s.extract 0 (encs (rs.take i)).length).size<100000000:=by rw[ByteArray.size_extract];omega
 refine(JeB _ hlt w (by rw[hl,hsc])).mono ?_;rintro e w' ⟨hb,rfl⟩;refine⟨?_,hb⟩;rw[hsz,hl,hro,List.length_take,Nat.min_eq_left hi];rfl
theorem Jle(s:ByteArray)(hs:s.size<100000000)(w:World)(hok:(scan s.data.toList).2=true) :
    Calls Tryz.prog 154 #[.string s] w fun e w'=>∃v,e=.returned v/\w'.ownsRow w.heap.size 25 4 v ((Jam s.data.toList).length+1) (JfK (Jam s.data.toList) ((Jam s.data.toList).length+1))/\Below w.heap.size w w':=by
 have hru:∀r∈Jam s.data.toList,Jas r:=fun r h=>JbV h;have he:=JbM hok;have hrl:(Jam s.data.toList).length<100000000:=by
  have:=Jfq s.data.toList;rw[←Lib.size_eq]at this;unfold Jam;rw[List.length_map];omega
 have cR:∀w,Calls Tryz.prog 81 #[.string s] w fun e w'=>Below w.heap.size w w'/\∃p c,e=.returned (.tuple #[.slice p (Jam s.data.toList).length c,.agg #[.int .i64 0,.int .i64 (-1)]])/\reads w' .i32 (.slice p (Jam s.data.toList).length c) (toI (Jam s.data.toList)):=fun w=>by
  refine(Jec s hs w).mono ?_;rintro e w' ⟨hb,⟨_,v,rfl,p,c,rfl,hown⟩|⟨h,_⟩⟩
  . have e1:JaS (scan s.data.toList).1=(toI (Jam s.data.toList)).map (Value.int .i32):=by rw[JkT,Jit]
    have e2:(JaS (scan s.data.toList).1).length=(toI (Jam s.data.toList)).length:=by rw[e1,List.length_map]
    have e3:(toI (Jam s.data.toList)).length=(Jam s.data.toList).length:=by simp[toI]
    rw[e2]at hown;rw[e2,←e3];exact⟨hb,p,c,rfl,Jlj e1 hown⟩
  . rw[hok]at h;cases h
 clear hok;generalize Jam s.data.toList=rs at *;have hel:∀i,(encs (rs.take i)).length<=s.size:=fun i=>by
  have e:encs rs=encs (rs.take i)++encs (rs.drop i):=by rw[←JbQ,List.take_append_drop]
  have:=congrArg List.length (he.symm.trans e);rw[List.length_append,←Lib.size_eq]at this;omega
 have HC:Hid (∀i,i<=rs.length->∀w,_):=fun i hi w=>JoX s hs rs he hru i hi w;have HEL:=hdz hel;have HRU:=hdz hru;obtain⟨n,hn⟩:∃n,n=rs.length:=⟨_,rfl⟩;rw[←hn]at cR hrl ⊢;have HN:=hdz hn;clear hru hn he hel;obtain⟨i0,hi,hz0,hz1,hz2⟩:=info_parts info36
 go_enter Tryz.func154,Tryz.ntmps154
 go_wp2_with (go_at_call 81;refine(cR _).mono ?_;rintro e w1 ⟨hb1,p,c,rfl,hrd⟩;have HRD:=hdz hrd;clear hrd)
 go_loopw [5,6,20] (fun b t i wr=>∃(k:Nat),k<=n/\i=.int .i64 k/\t=.int .i64 (Jna rs k)/\wr.ownsRow w1.heap.size 25 4 b (k+1) (JfK rs (k+1))/\Below w1.heap.size w1 wr) (fun _ _ i _=>n - (intOf i).toNat)
 case atStart =>
  refine⟨0,Nat.zero_le _,rfl,rfl,⟨by simp[JfK,edge],.inr ⟨w1.heap.size+1,1,#[.int .i64 0,.int .i64 0,.int .i64 0,.int .i64 0],rfl,Nat.le_succ _,by rw[←World.size_alloc w1 _];exact World.alloc_heap_new (w1.alloc _) _,nlr _,by unfold maxLen;omega,rfl,rfl⟩⟩,((brf _ w1).alloc (nlr _) _).alloc (by rw[wsa];exact Nat.le_succ _) _⟩
 case round =>
  obtain⟨k,hk,rfl,rfl,hown,hwr⟩:=hrel
  by_cases hlt:k<n
  . have hkr:k<rs.length:=by rw[←HN.out];exact hlt
    have hrd:=JhQ HRD.out hwr (nlr _);obtain⟨p',c',hpc,a1,a2,a3⟩:=hrd;have hne:toI rs≠[]:=by
     intro e;have:=congrArg List.length e;simp[toI]at this;rw[this]at hkr;exact absurd hkr (Nat.not_lt_zero _)
    obtain⟨b,o,hp,hbw,hcell⟩:=a3 hne;have hlen:(toI rs).length=rs.length:=by simp[toI]
    have hc:=hcell k (by rw[hlen];exact hkr);have hze:(toI rs).getD k 0=(rs[k]:Int):=by
     rw[List.getD_eq_getElem?_getD,toI,List.getElem?_map,lgg hkr];rfl
    rw[hze]at hc;obtain⟨hp1,hp2,hp3⟩:=Value.slice.inj hpc;clear hp2;subst hp3;subst hp1;subst hp;have hr:=HRU.out rs[k] (List.getElem_mem _);have hts:rs.take (k+1)=rs.take k++[rs[k]]:=List.take_succ_eq_append_getElem hkr;have h1:(encs (rs.take (k+1))).length=(encs (rs.take k)).length+(⟨(enc rs[k]).toArray⟩:ByteArray).size:=by
     rw[hts,JbQ,List.length_append,Lib.size_eq];simp[encs]
    have hE:(encs (rs.take (k+1))).length<=s.size:=HEL.out (k+1);have cB:=Jfh rs[k] hr;have cC:=HC.out (k+1) hkr;have hes:JfK rs (k+1+1)=JfK rs (k+1)++edge rs (k+1):=JgL rs (k+1);unfold edge at hes;have hE1:Hid (Jna rs (k+1)=((encs (rs.take (k+1))).length:Int)):=rfl;have hE0:Jna rs k=((encs (rs.take k)).length:Int):=rfl;rw[hE1.out]at cC hes;rw[hE0];clear hE0 a1 a2 a3 hcell hne hze hts hr hlen hpc;generalize (⟨(enc rs[k]).toArray⟩:ByteArray)=u at cB h1;generalize (rs[k]:Int)=z at cB hc;clear hkr;generalize (encs (rs.take (k+1))).length=N1 at *;generalize (encs (rs.take k)).length=N0 at *;generalize Jrf rs (k+1)=A2 at *;generalize Jre rs (k+1)=A4 at *;have hE2:N0+u.size<=s.size:=by omega
    have cC2:∀w,Calls Tryz.prog 12 #[.string (s.extract 0 (N0+u.size))] w fun e w'=>e=.returned (.tuple #[.agg #[.int .i64 (N1:Int),.int .i64 A2,.int .i64 ((k+1:Nat):Int),.int .i64 A4],.agg #[.int .i64 0,.int .i64 (-1)]])/\Below w.heap.size w w':=by
     rw[←h1];exact cC
    have H1:=hdz h1;clear cC h1 hE;have hw1:=hwr.size
    have NX:Hid (∀w0 w2 v' o,Below wr.heap.size wr w0->w2.ownsRow w1.heap.size 25 4 v' (k+1+1) (JfK rs (k+1)++[.int .i64 N1,.int .i64 A2,.int .i64 ((k+1:Nat):Int),.int .i64 A4])->(w0.alloc o).grownBy w2 (u5).ownBlock ->
        w2.ownsRow w1.heap.size 25 4 v' (k+1+1) (JfK rs (k+1+1))/\Below w1.heap.size w1 w2):=by
     intro w0 w2 v' o hb0 h3 hg;have hB:Below w1.heap.size wr w2:=((hb0.mono hw1).alloc (Nat.le_trans hw1 hb0.size) o).grown hg (by rw[wsa];have:=hb0.size;omega) fun k hk=>(hown.lt k hk).1;exact⟨by rw[hes];exact h3,hwr.trans hB⟩
    obtain⟨pb,cb,rfl⟩:=Jae hown;clear hes;generalize JfK rs (k+1)=xs at hown NX
    go_wp2_with (first | (go_at_call 203;refine(cB _).mono ?_;rintro e w2 ⟨rfl,hb2⟩) | (go_at_call 12;refine(cC2 _).mono ?_;rintro e w3 ⟨rfl,hb3⟩;have HBB:Below wr.heap.size wr w3:=hb2.trans (hb3.mono hb2.size)) | (at_builtin;refine wpList_append_own _ rfl _ _ 243 rfl w1.heap.size 25 i0 (.agg #[.int .i64 0,.int .i64 0,.int .i64 0,.int .i64 0]) 4 32 Tryz.underlying243 hi hz0 hz1 hz2 rfl (by decide) _ (k+1) xs rfl ((((JaR hown HBB).alloc _).alloc _).alloc _) _ 1 1 [.int .i64 N1,.int .i64 A2,.int .i64 ((k:Int)+1),.int .i64 A4] rfl rfl ?c1 ?c2 ?c3 ?c4 ?c5 ?_))
    case c1 =>
     intro j u hj
     match j,hj with
     | 0,hj=>simp at hj;subst hj;simp[Addr.add,go_sem]
     | 1,hj=>simp at hj;subst hj;simp[Addr.add,go_sem]
     | 2,hj=>simp at hj;subst hj;simp[Addr.add,go_sem]
     | 3,hj=>simp at hj;subst hj;simp[Addr.add,go_sem]
    case c2=>simp[Value.oneCell']
    case c3=>unfold maxLen;omega
    case c4=>omega
    case c5 =>
     have:=HBB.size;simp;omega
    intro v' w4 hown4 hg _;have hR:=NX.out ((w3.alloc _).alloc _) w4 v' _ (HBB.alloc HBB.size _ |>.alloc (by rw[wsa];have:=HBB.size;omega) _) hown4 hg;obtain⟨R1,R2⟩:=hR;obtain⟨p9,c9,hv⟩:=Jae hown4;clear hown4 hg hown hi hz0 hz1 hz2 hc cB cC2 HBB hb2 hb3;rw[hv]at R1 ⊢;go_wp2
    go_roundw
    case rel=>exact⟨k+1,by omega,by go_num,by rw[hE1.out,H1.out];go_num,R1,R2⟩
    case measure=>simp[intOf];omega
  . have hkn:k=n:=by omega
    subst hkn;obtain⟨pb,cb,rfl⟩:=Jae hown;have HO:=hdz hown;clear hown;go_wp2;go_ret;exact⟨_,rfl,JcJ HO.out hb1.size,hb1.trans (hwr.mono hb1.size)⟩
variable {w : World}{B : Nat}
theorem Jin(rs:List Nat)(m:Nat):(JfK rs m).length=m*4:=by
 induction m with
 | zero=>rfl
 | succ m ih=>rw[JgL,List.length_append,ih];simp[edge];omega
theorem Jrc(rs:List Nat)(m i j:Nat)(hi:i<m)(hj:j<4):(JfK rs m)[i*4+j]?=(edge rs i)[j]?:=by
 induction m with
 | zero=>omega
 | succ m ih =>
  rw[JgL]
  by_cases h:i<m
  . rw[List.getElem?_append_left (by rw[Jin];omega)]
    exact ih h
  . have:i=m:=by omega
    subst this;rw[List.getElem?_append_right (by rw[Jin];omega),Jin]
    congr 1
    omega
theorem Jgr{m g c:Nat}{rs:List Nat}(h:w.ownsRow B 25 4 (.slice (some ⟨g,0,none⟩) m c) m (JfK rs m))(i j:Nat)(hi:i<m)(hj:j<4){v:Value}(hv:(edge rs i)[j]?=some v) :
    w.cell? ⟨g,i*4+j,none⟩=some v:=by
 obtain⟨h0,hrow⟩:=h
 rcases hrow with ⟨h1,h2⟩|⟨g',cap,cur,h1,h2,h3,h4,h5,h6,h7⟩
 . omega
 . cases h1
   have hlt:i*4+j<m*4:=by omega
   have hc:cur[i*4+j]?=some v:=by
    rw[←Array.getElem?_toList];have:=congrArg (·[i*4+j]?) h7;simp only[List.getElem?_take,hlt,if_true]at this;rw[this,Jrc rs m i j hi hj,hv]
   unfold World.cell?;simp[h3,hc]
theorem own_pos{e size n:Nat}{v:Value}{xs:List Value}(h:w.ownsRow B e size v n xs)(hn:0<n):∃g c,v=.slice (some ⟨g,0,none⟩) n c/\B<=g/\g<w.heap.size:=by
 rcases h.2 with ⟨_,h2⟩|⟨g,cap,cur,h1,h2,h3,_⟩
 . omega
 . exact⟨g,cap,h1,h2,(alt h3)⟩
end
section
open Go.RowKit
attribute [local go_sem] Oper.semAt_some Ja7 Jbe
theorem Jte(s:ByteArray)(w:World):Calls Tryz.prog 220 #[.string s] w fun e w'=>e=.returned (.func (.func 262) #[] #[.pointer (some ⟨w.heap.size,0,none⟩)])/\w'=w.alloc (.cells #[.string s] 9):=by
 go_enter Tryz.func220,Tryz.ntmps220
 go_wp2;go_ret;exact⟨rfl,rfl⟩
def cntV (rs:List Nat):Value:=.agg #[.int .i64 (C1 rs),.int .i64 (C2 rs),.int .i64 (C3 rs),.int .i64 (C4 rs)]
def seek (f:List Nat->Bool):List Nat->List Nat->Option (List Nat)
 | _,[]=>none
 | pre,r :: rs=>if f (pre++[r]) then some (pre++[r]) else seek f (pre++[r]) rs
theorem JrY(a b:List Nat)(hz:C1 (a++b)<=200000000)(w:World):Calls Tryz.prog 137 #[cntV a,cntV b] w fun e w'=>e=.returned (cntV (a++b))/\Below w.heap.size w w':=by
 have h:=JjU (C1 a) (C2 a) (C3 a) (C4 a) (C1 b) (C2 b) (C3 b) (C4 b) w;rw[Jcg]at hz;have a2:=Jmm a;have a3:=JiG a;have a4:=C4_le a;have b2:=Jmm b;have b3:=JiG b;have b4:=C4_le b;rw[Jax (by omega) (by omega),Jax (by omega) (by omega),Jax (by omega) (by omega),Jax (by omega) (by omega),←Jcg,←Jmn,←Jml,←JrA]at h;exact h
theorem JkA(c1:List Nat)(r:Nat):JfP (wide c1) (r,(enc r).length)=#[cntV c1,cntV [r]]:=by
 simp[JfP,cnt,cntV,C1,C2,C3,C4,wide,sum1,sum2,sum4]
theorem Jtw(a b c d:Int)(w:World):(Instr.field 25 (.agg #[.int .i64 a,.int .i64 b,.int .i64 c,.int .i64 d]) 0).run Tryz.prog w=.ok (.int .i64 a) w:=by kernel_rfl
theorem Jtv(a b c d:Int)(w:World):(Instr.field 25 (.agg #[.int .i64 a,.int .i64 b,.int .i64 c,.int .i64 d]) 3).run Tryz.prog w=.ok (.int .i64 d) w:=by kernel_rfl
attribute [local go_sem] Jtw Jtv
end
section
open Go.RowKit
attribute [local go_sem] Oper.semAt_some Ja7 Jbe
def find (f:List Nat->Bool) (pre rs:List Nat):List Nat:=if f pre then pre else (seek f pre rs).getD (pre++rs)
end
section
open Go.RowKit
attribute [local go_sem] Oper.semAt_some Ja7 Jbe Jtw Jtv
def by_ (u:Int) (rs:List Nat):Int:=if u=1 then C1 rs else if u=2 then C2 rs else if u=3 then C3 rs else 0
theorem Jbp(u:Int)(a b:List Nat):by_ u (a++b)=by_ u a+by_ u b:=by
 unfold by_
 split
 . exact Jcg a b
 . split
   . exact Jmn a b
   . split
     . exact Jml a b
     . rfl
theorem Jdl(u:Int)(a:List Nat):0<=by_ u a:=by
 unfold by_
 split
 . exact JdY a
 . split
   . exact(Jmm a).1
   . split
     . exact(JiG a).1
     . omega
theorem Jmk(u:Int)(rs:List Nat)(w:World):Calls Tryz.prog 23 #[cntV rs,.int .i64 u] w fun e w'=>e=.returned (.int .i64 (by_ u rs))/\Below w.heap.size w w':=by
 have hbw:Below w.heap.size w (w.alloc (.cells #[.int .i64 (C1 rs),.int .i64 (C2 rs),.int .i64 (C3 rs),.int .i64 (C4 rs)] 25)):=(brf _ _).alloc (nlr _) _;unfold cntV by_
 by_cases h1:u=1
 . subst h1
   go_enter Tryz.func23,Tryz.ntmps23
   go_wp2;go_ret;exact⟨rfl,hbw⟩
 . have k1:(u==1)=false:=beq_eq_false_iff_ne.2 h1
   rw[if_neg h1]
   by_cases h2:u=2
   . subst h2
     go_enter Tryz.func23,Tryz.ntmps23
     go_wp2;go_ret;exact⟨rfl,hbw⟩
   . have k2:(u==2)=false:=beq_eq_false_iff_ne.2 h2
     rw[if_neg h2]
     by_cases h3:u=3
     . subst h3
       go_enter Tryz.func23,Tryz.ntmps23
       go_wp2;go_ret;exact⟨rfl,hbw⟩
     . have k3:(u==3)=false:=beq_eq_false_iff_ne.2 h3
       rw[if_neg h3];clear h1 h2 h3
       go_enter Tryz.func23,Tryz.ntmps23
       go_wp2;go_ret;exact⟨rfl,hbw⟩
def JdL (u at_:Int) (rs:List Nat):Bool:=decide (at_<=by_ u rs)
end
section
open Go.RowKit
attribute [local go_sem] Oper.semAt_some
theorem JqW(u:Int)(rs:List Nat):find (JdL u 0) [] rs=[]:=by
 unfold find;have:JdL u 0 []=true:=decide_eq_true (Jdl u []);rw[if_pos this]
theorem Jiu(u:Int):by_ u []=0:=by
 unfold by_
 split
 . rfl
 . split
   . rfl
   . split<;>rfl
end
section
structure Pt where
 keep:Int
 drop:Int
 put:List UInt8
deriving DecidableEq
structure NSt where
 out:List Pt
 put:List UInt8
 drop:Int
deriving DecidableEq
def Jaq (s:NSt):List Pt:=s.out++((if s.put=[] then [] else [⟨0,0,s.put⟩])++(if s.drop=0 then [] else [⟨0,s.drop,[]⟩]))
def Jcm (l:List Pt):Bool:=match l.getLast? with
 | some p=>decide (0<p.keep)
 | none=>false
def JaT (l:List Pt) (k:Int):List Pt:=match l.getLast? with
 | some p=>if 0<p.keep then l.dropLast++[⟨p.keep+k,p.drop,p.put⟩] else l++[⟨k,0,[]⟩]
 | none=>l++[⟨k,0,[]⟩]
def addP (s:NSt) (p:Pt):NSt:=if p.keep=0 then ⟨s.out,s.put++p.put,s.drop+p.drop⟩ else ⟨JaT (Jaq ⟨s.out,s.put++p.put,s.drop+p.drop⟩) p.keep,[],0⟩
def nst0:NSt:=⟨[],[],0⟩
def Jac (op:List Pt):List Pt:=Jaq (op.foldl addP nst0)
theorem JjT(l:List Pt)(a b:Int)(ha:0<a):JaT (JaT l a) b=JaT l (a+b):=by
 unfold JaT
 cases h:l.getLast? with
 | none=>simp[ha]
 | some p =>
  by_cases hp:0<p.keep
  . have h2:0<p.keep+a:=by omega
    simp[hp,h2,Int.add_assoc]
  . simp[hp,ha]
theorem Jfk(l:List Pt):Jaq ⟨l,[],0⟩=l:=by simp[Jaq]
theorem Jb6(s:NSt):addP s ⟨0,0,[]⟩=s:=by simp[addP]
theorem Jp3(s:NSt)(k d:Int)(q:List UInt8):addP s ⟨k,d,q⟩=addP (addP (addP s ⟨0,0,q⟩) ⟨0,d,[]⟩) ⟨k,0,[]⟩:=by
 by_cases h:k=0
 . subst h;simp[addP]
 . simp[addP,h]
theorem Jez(s:NSt)(a b:Int):addP (addP s ⟨0,a,[]⟩) ⟨0,b,[]⟩=addP s ⟨0,a+b,[]⟩:=by simp[addP,Int.add_assoc]
theorem Jg1(s:NSt)(a b:List UInt8):addP (addP s ⟨0,0,a⟩) ⟨0,0,b⟩=addP s ⟨0,0,a++b⟩:=by simp[addP]
theorem Jf3(s:NSt)(a b:Int)(ha:0<a)(hb:0<=b):addP (addP s ⟨a,0,[]⟩) ⟨b,0,[]⟩=addP s ⟨a+b,0,[]⟩:=by
 have h1:a≠0:=by omega
 have h2:a+b≠0:=by omega
 by_cases h:b=0
 . subst h;simp[addP,h1]
 . simp[addP,h,h1,h2,Jfk,JjT _ a b ha]
def Jf5 (d:Bool):Pt:=if d then ⟨0,1,[]⟩ else ⟨1,0,[]⟩
abbrev GSt:=List (List UInt8×Bool)×List UInt8
def tick (d:Bool) (g:GSt):GSt:=(g.1++[(g.2,d)],[])
def JbC (d:Bool):Nat->GSt->GSt
 | 0,g=>g
 | n+1,g=>JbC d n (tick d g)
def Jbh (g:GSt) (p:Pt):GSt:=JbC false p.keep.toNat (JbC true p.drop.toNat (g.1,g.2++p.put))
def Jah (op:List Pt):GSt:=op.foldl Jbh ([],[])
theorem JdI(d:Bool):∀(n:Nat)(g:GSt),(JbC d n g).1.length=g.1.length+n
 | 0,_=>rfl
 | n+1,g=>by rw[JbC,JdI d n,tick,List.length_append,List.length_singleton];omega
theorem Jg9(d:Bool):∀(n:Nat)(g:GSt),JbC d (n+1) g=tick d (JbC d n g)
 | 0,_=>rfl
 | n+1,g=>by rw[JbC,Jg9 d n,JbC]
def lenP (p:Pt):Int:=p.keep+p.drop
theorem Jmv(g:GSt)(p:Pt)(hk:0<=p.keep)(hd:0<=p.drop):((Jbh g p).1.length:Int)=g.1.length+lenP p:=by
 unfold Jbh lenP;rw[JdI,JdI];show((g.1.length+_+_:Nat):Int)=_;omega
def Jhh (s:NSt) (x:List UInt8×Bool):NSt:=addP (addP s ⟨0,0,x.1⟩) (Jf5 x.2)
def runG (g:GSt):NSt:=addP (g.1.foldl Jhh nst0) ⟨0,0,g.2⟩
theorem JkW(d:Bool)(g:GSt):runG (tick d g)=addP (runG g) (Jf5 d):=by
 unfold runG tick;rw[List.foldl_append];show addP (Jhh _ _) ⟨0,0,[]⟩=_;rw[Jb6];rfl
theorem JiV:∀(n:Nat)(g:GSt),runG (JbC true n g)=addP (runG g) ⟨0,n,[]⟩
 | 0,g=>(Jb6 _).symm
 | n+1,g=>by
  rw[JbC,JiV n,JkW];show addP (addP _ ⟨0,1,[]⟩) _=_;rw[Jez]
  congr 2
  omega
theorem JiU:∀(n:Nat)(g:GSt),runG (JbC false n g)=addP (runG g) ⟨n,0,[]⟩
 | 0,g=>(Jb6 _).symm
 | n+1,g=>by
  rw[JbC,JiU n,JkW];show addP (addP _ ⟨1,0,[]⟩) _=_;rw[Jf3 _ _ _ (by omega) (by omega)]
  congr 2
  omega
theorem Jm0(g:GSt)(p:Pt)(hk:0<=p.keep)(hd:0<=p.drop):runG (Jbh g p)=addP (runG g) p:=by
 obtain⟨k,d,q⟩:=p;unfold Jbh;rw[JiU,JiV];have:runG (g.1,g.2++q)=addP (runG g) ⟨0,0,q⟩:=by unfold runG;rw[Jg1]
 rw[this,Jp3 _ k d q];show addP (addP _ ⟨0,(d.toNat:Int),[]⟩) ⟨(k.toNat:Int),0,[]⟩=_;rw[Int.toNat_of_nonneg hk,Int.toNat_of_nonneg hd]
theorem JkX(op:List Pt)(h:∀p∈op,0<=p.keep/\0<=p.drop):runG (Jah op)=op.foldl addP nst0:=by
 have key:∀(l:List Pt) (g:GSt),(∀p∈l,0<=p.keep/\0<=p.drop)->runG (l.foldl Jbh g)=l.foldl addP (runG g):=by
  intro l
  induction l with
  | nil=>intros;rfl
  | cons p l ih =>
   intro g h;rw[List.foldl_cons,List.foldl_cons,ih _ fun x hx=>h x (List.mem_cons_of_mem _ hx),Jm0 g p (h p (List.mem_cons_self ..)).1 (h p (List.mem_cons_self ..)).2]
 exact key op _ h
structure KSt where
 out:List Pt
 put:List UInt8
 drop:Int
 keep:Int
deriving DecidableEq
def kst0:KSt:=⟨[],[],0,0⟩
def Jbm (s:KSt) (q:List UInt8) (d:Bool):KSt:=if q≠[]\/d=true then ⟨if 0<s.keep then s.out++[⟨s.keep,0,[]⟩] else s.out,s.put++q,s.drop,if 0<s.keep then 0 else s.keep⟩ else s
def JcO (s:KSt) (d:Bool):KSt:=if d then ⟨s.out,s.put,s.drop+1,s.keep⟩ else ⟨Jaq ⟨s.out,s.put,s.drop⟩,[],0,s.keep+1⟩
def Jdp (s:KSt) (x:List UInt8×Bool):KSt:=JcO (Jbm s x.1 x.2) x.2
def endK (s:KSt):List Pt:=Jaq ⟨if 0<s.keep then s.out++[⟨s.keep,0,[]⟩] else s.out,s.put,s.drop⟩
def JcY (g:GSt):List Pt:=endK (Jbm (g.1.foldl Jdp kst0) g.2 false)
def nfK (s:KSt):NSt:=if 0<s.keep then ⟨s.out++[⟨s.keep,0,[]⟩],[],0⟩ else ⟨s.out,s.put,s.drop⟩
structure InvK (s:KSt):Prop where
 k0:0<=s.keep
 d0:0<=s.drop
 quiet:0<s.keep->s.put=[]/\s.drop=0/\Jcm s.out=false
 last:s.keep=0->Jcm (Jaq ⟨s.out,s.put,s.drop⟩)=false
theorem Jhb(l:List Pt)(k:Int)(h:Jcm l=false):JaT l k=l++[⟨k,0,[]⟩]:=by
 unfold Jcm at h;unfold JaT
 cases hl:l.getLast? with
 | none=>rfl
 | some p=>simp only[hl,decide_eq_false_iff_not]at h;simp[h]
theorem JjS(l:List Pt)(a k:Int)(h:0<a):JaT (l++[⟨a,0,[]⟩]) k=l++[⟨a+k,0,[]⟩]:=by simp[JaT,h]
theorem Jf9(l:List Pt)(q:List UInt8)(d:Int)(h:q≠[]\/d≠0):Jcm (Jaq ⟨l,q,d⟩)=false:=by
 unfold Jaq
 by_cases hd:d=0
 . have hq:q≠[]:=by rcases h with h|h;exact h;exact absurd hd h
   simp[hd,hq,Jcm]
 . by_cases hq:q=[]
   . simp[hd,hq,Jcm]
   . simp[hd,hq,Jcm]
theorem JgA(s:KSt)(h:InvK s)(q:List UInt8)(d:Bool):nfK (Jbm s q d)=addP (nfK s) ⟨0,0,q⟩/\(q≠[]\/d=true->(Jbm s q d).keep=0)/\(¬(q≠[]\/d=true)->Jbm s q d=s)/\0<=(Jbm s q d).drop:=by
 unfold Jbm;have h0:=h.k0;have hd0:=h.d0
 by_cases hc:q≠[]\/d=true
 . rw [if_pos hc]
   refine⟨?_,?_,fun h=>absurd hc h,?_⟩
   . by_cases hk:0<s.keep
     . obtain⟨q1,q2,_⟩:=h.quiet hk
       simp[hk,nfK,addP,q1,q2]
     . have:s.keep=0:=by omega
       simp[this,nfK,addP]
   . intro _
     by_cases hk:0<s.keep
     . simp[hk]
     . have:s.keep=0:=by omega
       simp[this]
   . exact hd0
 . rw [if_neg hc]
   have hq:q=[]:=by
    by_cases hq:q=[]
    . exact hq
    . exact absurd (.inl hq) hc
   subst hq;exact⟨by simp[addP],fun h=>absurd h hc,fun _=>rfl,hd0⟩
theorem JrO(s:KSt)(h:InvK s)(x:List UInt8×Bool):nfK (Jdp s x)=Jhh (nfK s) x/\InvK (Jdp s x):=by
 obtain⟨q,d⟩:=x;obtain⟨f1,f2,f3,f4⟩:=JgA s h q d;unfold Jhh Jdp;show nfK (JcO (Jbm s q d) d)=addP (addP (nfK s) ⟨0,0,q⟩) (Jf5 d)/\InvK (JcO (Jbm s q d) d);rw[←f1];generalize hs':Jbm s q d=t at *
 cases d with
 | true =>
  have hk:=f2 (.inr rfl);have hne:t.drop+1≠0:=by omega
  refine⟨?_,?_,?_,?_,?_⟩
  . simp[JcO,nfK,hk,Jf5,addP]
  . simp[JcO,hk]
  . simp[JcO];omega
  . simp[JcO,hk]
  . intro _
    exact Jf9 _ _ _ (.inr hne)
 | false =>
  by_cases hq:q≠[]
  . have hk:=f2 (.inl hq)
    have hl:Jcm (Jaq ⟨t.out,t.put,t.drop⟩)=false:=by
     refine Jf9 _ _ _ (.inl ?_);rw[←hs'];simp[Jbm,hq]
    refine⟨?_,?_,?_,?_,?_⟩
    . simp[JcO,nfK,hk,Jf5,addP,Jhb _ _ hl]
    . simp[JcO,hk]
    . simp[JcO]
    . intro _;exact⟨rfl,rfl,hl⟩
    . simp[JcO,hk]
  . obtain rfl:=f3 (by simpa using hq)
    have h0:=h.k0
    by_cases hk:0<t.keep
    . obtain ⟨q1,q2,q3⟩:=h.quiet hk
      refine⟨?_,?_,?_,?_,?_⟩
      . simp[JcO,nfK,hk,Jf5,addP,q1,q2,Jfk,JjS _ _ _ hk]
        omega
      . simp[JcO];omega
      . simp[JcO]
      . intro _
        refine⟨rfl,rfl,?_⟩;show Jcm (Jaq ⟨t.out,t.put,t.drop⟩)=false;rw[q1,q2,Jfk];exact q3
      . simp[JcO];omega
    . have hk0:t.keep=0:=by omega
      have hl:=h.last hk0;refine⟨?_,?_,?_,?_,?_⟩
      . simp[JcO,nfK,hk0,Jf5,addP,Jhb _ _ hl]
      . simp[JcO,hk0]
      . simp[JcO]
      . intro _;exact⟨rfl,rfl,hl⟩
      . simp[JcO,hk0]
theorem inv0:InvK kst0:=⟨by simp[kst0],by simp[kst0],by simp[kst0],by simp[kst0,Jaq,Jcm]⟩
theorem JkN(l:List (List UInt8×Bool)):∀(s:KSt),InvK s->nfK (l.foldl Jdp s)=l.foldl Jhh (nfK s)/\InvK (l.foldl Jdp s):=by
 induction l with
 | nil=>exact fun s h=>⟨rfl,h⟩
 | cons x l ih =>
  intro s h;obtain⟨h1,h2⟩:=JrO s h x;rw[List.foldl_cons,List.foldl_cons,←h1];exact ih _ h2
theorem JqZ(s:KSt)(h:0<s.keep->s.put=[]/\s.drop=0):endK s=Jaq (nfK s):=by
 unfold endK nfK
 by_cases hk:0<s.keep
 . obtain⟨h1,h2⟩:=h hk
   simp[hk,h1,h2]
 . simp[hk]
theorem JmV(op:List Pt)(h:∀p∈op,0<=p.keep/\0<=p.drop):JcY (Jah op)=Jac op:=by
 unfold JcY Jac;obtain⟨h1,h2⟩:=JkN (Jah op).1 kst0 inv0;obtain⟨f1,f2,f3,f4⟩:=JgA _ h2 (Jah op).2 false;rw[JqZ,f1,h1,←JkX op h]
 . rfl
 . intro hk
   by_cases hq:(Jah op).2≠[]\/false=true
   . rw[f2 hq]at hk;omega
   . rw[f3 hq]at hk ⊢
     exact⟨(h2.quiet hk).1,(h2.quiet hk).2.1⟩
end
section
open Go.RowKit
variable {w w' w1 : World}{B e n M a b c : Nat}{v v' : Value}{xs : List Value}{o : Obj}{s : NSt}{p : Option Addr}
def Ja6 (p:Pt):List Value:=[.int .i64 p.keep,.int .i64 p.drop,.string ⟨p.put.toArray⟩]
def JaD (l:List Pt):List Value:=l.flatMap Ja6
theorem Jb3(l:List Pt)(p:Pt):JaD (l++[p])=JaD l++Ja6 p:=by simp[JaD]
theorem JdC(l:List Pt):(JaD l).length=l.length*3:=by
 induction l with
 | nil=>rfl
 | cons p l ih =>
  have:JaD (p :: l)=Ja6 p++JaD l:=rfl;rw[this,List.length_append,ih,List.length_cons];show 3+_=_;omega
theorem Ja4(p:Pt):∀u∈Ja6 p,u.oneCell'=true:=by
 intro u hu;simp only[Ja6,List.mem_cons,List.not_mem_nil,or_false]at hu
 rcases hu with rfl|rfl|rfl<;>rfl
theorem JaW(w:World)(l:List Value)(t:TypeId):∀j u,l[j]?=some u->(w.alloc (.cells l.toArray t)).cell? ((⟨w.heap.size,0,none⟩:Addr).add j)=some u:=by
 intro j u hj;obtain⟨hl,rfl⟩:=List.getElem?_eq_some_iff.1 hj;rw[Addr.add_lit,Nat.zero_add];simp
theorem Jgw(w:World)(a:Addr)(x:Value)(l:List Value)(t:TypeId):∀j u,l[j]?=some u->((w.setCell a x).alloc (.cells l.toArray t)).cell? ((⟨w.heap.size,0,none⟩:Addr).add j)=some u:=by
 have h:=JaW (w.setCell a x) l t;rwa[show(w.setCell a x).heap.size=w.heap.size by simp]at h
theorem Jbf:(Tryz.prog.info? 50).map (fun i=>(i.zero,i.size,i.bytes))=some (some (.agg #[.int .i64 0,.int .i64 0,.string ⟨#[]⟩]),3,32):=by kernel_rfl
theorem Jik:(Tryz.prog.info? 5).map (fun i=>(i.zero,i.size,i.bytes))=some (some (.int .u8 0),1,1):=by kernel_rfl
theorem JiZ{B' e' size size' n':Nat}{xs':List Value}(h:w.ownsRow B e size v n xs)(h':w.ownsRow B' e' size' v' n' xs')(hne:e≠e'):v.ownBlock=none\/v.ownBlock≠v'.ownBlock:=by
 rcases h.2 with ⟨rfl,_⟩|⟨g,cap,cur,rfl,_,hg,_⟩
 . exact .inl rfl
 . rcases h'.2 with ⟨rfl,_⟩ | ⟨g',cap',cur',rfl,_,hg',_⟩
   . exact .inr (by simp[Value.ownBlock])
   . refine .inr fun e=>?_
     simp only[Value.ownBlock,Option.some.injEq]at e;subst e;rw[hg]at hg';simp only[Option.some.injEq,Obj.cells.injEq]at hg';exact hne hg'.2.1
structure gath (M:Nat) (w:World) (a:Nat) (s:NSt):Prop where
 out:∃p c,w.cell? ⟨a,0,none⟩=some (.slice p s.out.length c)/\w.ownsRow M 50 3 (.slice p s.out.length c) s.out.length (JaD s.out)
 outF:w.frozen? ⟨a,0,none⟩=false
 put:∃p c,w.cell? ⟨a+1,0,none⟩=some (.slice p s.put.length c)/\w.ownsRow M 5 1 (.slice p s.put.length c) s.put.length (Lib.byteCells s.put)
 putF:w.frozen? ⟨a+1,0,none⟩=false
 drop:w.cell? ⟨a+2,0,none⟩=some (.int .i64 s.drop)
 dropF:w.frozen? ⟨a+2,0,none⟩=false
 tell:w.cell? ⟨a+3,0,none⟩=some (.func (.func 264) #[] #[.pointer (some ⟨a+1,0,none⟩),.pointer (some ⟨a,0,none⟩),.pointer (some ⟨a+2,0,none⟩)])
 le:a+4<=M
 top:M<=w.heap.size
def KeptG (M a:Nat) (w w':World):Prop:=∀k o,w.heap[k]?=some o->k≠a->k≠a+1->k≠a+2->(∀c fz,M<=k->o≠.cells c 5 fz)->(∀c fz,M<=k->o≠.cells c 50 fz)->w'.heap[k]?=some o
structure BelowG (M a:Nat) (w w':World):Prop where
 below:Below a w w'
 kept:KeptG M a w w'
theorem Jav{k:Nat}(h:w.heap[k]?=some o):k<w.heap.size:=by
 rcases Nat.lt_or_ge k w.heap.size with h' | h'
 . exact h'
 . rw[Array.getElem?_eq_none h']at h;cases h
theorem KeptG.refl(M a:Nat)(w:World):KeptG M a w w:=fun _ _ h _ _ _ _ _=>h
theorem KeptG.trans{x y z:World}(h:KeptG M a x y)(k:KeptG M a y z):KeptG M a x z:=fun i o hi h1 h2 h3 h4 h5=>k i o (h i o hi h1 h2 h3 h4 h5) h1 h2 h3 h4 h5
theorem KeptG.of(h:Below w.heap.size w w'):KeptG M a w w':=fun k o hk _ _ _ _ _=>(h.block k (Jav hk)).trans hk
theorem KeptG.alloc{M:Nat}{a:Nat}{w w':World}(h:KeptG M a w w')(o:Obj):KeptG M a w (w'.alloc o):=h.trans fun k o' hk _ _ _ _ _=>(heap_alloc_old w' o (Jav hk)).trans hk
theorem KeptG.set(h:KeptG M a w w'){b:Nat}(hb:b=a\/b=a+1\/b=a+2)(v:Value):KeptG M a w (w'.setCell ⟨b,0,none⟩ v) :=
 h.trans fun k o' hk h1 h2 h3 _ _=>(Below.heap_setCell _ _ _ _ (by show k≠b;omega)).trans hk
theorem KeptG.grown{size:Nat}{w2:World}(h:KeptG M a w w1)(hr:w1.ownsRow M e size v n xs)(he:e=5\/e=50)(hg:w1.grownBy w2 v.ownBlock):KeptG M a w w2:=by
 refine h.trans fun k o hk _ _ _ h4 h5=>?_;refine(hg.block k (Jav hk) ?_).trans hk;intro e';obtain⟨_,hrow⟩:=hr
 rcases hrow with ⟨hx,_⟩|⟨g,cap,cur,rfl,hge,hgg,_⟩
 . rw[hx]at e';cases e'
 . have e2:some k=some g:=e'
   obtain rfl:=osi e2;rw[hk]at hgg
   rcases he with rfl|rfl
   . exact h4 _ _ hge (osi hgg)
   . exact h5 _ _ hge (osi hgg)
theorem BelowG.size{M:Nat}{a:Nat}{w w':World}(h:BelowG M a w w'):w.heap.size<=w'.heap.size:=h.below.size
theorem BelowG.refl{M:Nat}(a:Nat)(w:World):BelowG M a w w:=⟨.refl a w,.refl M a w⟩
theorem BelowG.trans{M:Nat}{a:Nat}{x y z:World}(h:BelowG M a x y)(k:BelowG M a y z):BelowG M a x z:=⟨h.below.trans k.below,h.kept.trans k.kept⟩
theorem BelowG.of{M:Nat}{a:Nat}{w w':World}(h:Below w.heap.size w w')(ha:a<=w.heap.size):BelowG M a w w':=⟨h.mono ha,.of h⟩
theorem BelowG.drew{M:Nat}{a:Nat}{w w':World}(h:BelowG M a w w'):BelowG M a w w'.drew:=⟨h.below.drew,h.kept⟩
theorem Jb7(h:gath M w a s):a+3<w.heap.size:=blt w _ h.tell
theorem Jbx(h:gath M w a s)(hb:Below w.heap.size w w'):gath M w' a s:=by
 have hM:=h.le;have hT:=h.top;have hlt:=Jb7 h;obtain⟨⟨p,c,h1,h2⟩,h3,⟨p',c',h4,h5⟩,h6,h7,h8,h9⟩:=h
 exact ⟨⟨p,c,(hb.cell (p:=⟨a,0,none⟩) (by show a<_;omega)).trans h1,JaR h2 hb⟩,(hb.frozen (p:=⟨a,0,none⟩) (by show a<_;omega)).trans h3,
  ⟨p',c',(hb.cell (p:=⟨a+1,0,none⟩) (by show a+1<_;omega)).trans h4,JaR h5 hb⟩,(hb.frozen (p:=⟨a+1,0,none⟩) (by show a+1<_;omega)).trans h6,
  (hb.cell (p:=⟨a+2,0,none⟩) (by show a+2<_;omega)).trans h7,(hb.frozen (p:=⟨a+2,0,none⟩) (by show a+2<_;omega)).trans h8,(hb.cell (p:=⟨a+3,0,none⟩) (by show a+3<_;omega)).trans h9,hM,Nat.le_trans hT hb.size⟩
theorem JcI{size:Nat}(h:w.ownsRow B e size v n xs)(hb:b<B)(u:Value):(w.setCell ⟨b,0,none⟩ u).ownsRow B e size v n xs:=by
 obtain⟨h0,hrow⟩:=h;refine⟨h0,?_⟩
 rcases hrow with hn|⟨g,cap,cur,rfl,hg,hgg,rest⟩
 . exact .inl hn
 . exact .inr ⟨g,cap,cur,rfl,hg,(Below.heap_setCell _ _ _ _ (by show g≠b;omega)).trans hgg,rest⟩
theorem Jab{b' o:Nat}(h:b'≠b)(u:Value):(w.setCell ⟨b,0,none⟩ u).cell? ⟨b',o,none⟩=w.cell? ⟨b',o,none⟩:=by
 unfold World.cell?;rw[Below.heap_setCell _ _ _ _ (by show b'≠b;exact h)]
def spare (w:World) (a b:Nat):Prop:=b<w.heap.size/\a+3<b/\∀v,w.cell? ⟨a,0,none⟩=some v->v.ownBlock≠some b
theorem Jfr(hc:w.cell? ⟨a,0,none⟩=some v)(hc1:(w1.cell? ⟨a,0,none⟩).isSome=true)(hg:(w.alloc o).grownBy w1 v.ownBlock)(hat:v'.ownBlock=v.ownBlock\/∃k,v'.ownBlock=some k/\w.heap.size<=k)(h:spare w a b) :
    spare (w1.setCell ⟨a,0,none⟩ v') a b/\(w1.setCell ⟨a,0,none⟩ v').heap[b]?=w.heap[b]?:=by
 obtain⟨h1,h2,h3⟩:=h;have hne:=h3 v hc;have hs:=hg.size;rw[wsa]at hs;refine⟨⟨by simp;omega,h2,?_⟩,?_⟩
 . intro u hu
   obtain⟨v0,hv0⟩:=Option.isSome_iff_exists.1 hc1;rw[World.cell?_setCell_same _ _ _ hv0]at hu;obtain rfl:=osi hu
   rcases hat with e|⟨k,e,hk⟩
   . rw[e];exact hne
   . rw[e]
     intro e;have:=osi e;omega
 . rw[Below.heap_setCell _ _ _ _ (by show b≠a;omega),hg.block b (by rw[wsa];omega) (fun e=>hne e.symm)]
   exact heap_alloc_old w o h1
theorem Jdc(h:spare w a b)(hc:c≠a)(hb:c≠b)(u:Value):spare (w.setCell ⟨c,0,none⟩ u) a b/\(w.setCell ⟨c,0,none⟩ u).heap[b]?=w.heap[b]?:=by
 obtain⟨h1,h2,h3⟩:=h;refine⟨⟨by simpa using h1,h2,fun v hv=>h3 v ?_⟩,Below.heap_setCell _ _ _ _ (by show b≠c;omega)⟩;rwa[Jab (by omega)]at hv
theorem Jev{q:Pt}(h:gath M w a s)(hc:w.cell? ⟨a,0,none⟩=some (.slice p s.out.length c))
    (hown1:w1.ownsRow M 50 3 v' (s.out.length+1) (JaD s.out++Ja6 q)) (hg:(w.alloc o).grownBy w1 (Value.slice p s.out.length c).ownBlock) :
    gath M (w1.setCell ⟨a,0,none⟩ v') a ⟨s.out++[q],s.put,s.drop⟩/\BelowG M a w (w1.setCell ⟨a,0,none⟩ v')/\w1.cell? ⟨a,0,none⟩=some (.slice p s.out.length c)/\w1.frozen? ⟨a,0,none⟩=false:=by
 have hM:=h.le;have hT:=h.top;have hlt:=Jb7 h;obtain⟨⟨p1,c1,h1,h2⟩,h3,⟨p',c',h4,h5⟩,h6,h7,h8,h9⟩:=h;rw[hc]at h1;simp only[Option.some.injEq,Value.slice.injEq,true_and]at h1;obtain⟨rfl,rfl⟩:=h1;have hrow:∀k,(Value.slice p s.out.length c).ownBlock=some k->a+4<=k:=fun k hk=>Nat.le_trans hM (h2.lt k hk).1;have hb1:Below (a+4) w w1:=((brf (a+4) w).alloc (by omega) o).grown hg (by rw[wsa];omega) hrow;have hc1:w1.cell? ⟨a,0,none⟩=some (.slice p s.out.length c):=by rw[hb1.cell (p:=⟨a,0,none⟩) (by show a<_;omega)];exact hc
 have hf1:w1.frozen? ⟨a,0,none⟩=false:=by rw[hb1.frozen (p:=⟨a,0,none⟩) (by show a<_;omega)];exact h3
 have h5':=(h5.alloc o).kept hg (JiZ (h5.alloc o) (h2.alloc o) (by decide));obtain⟨pv,cv,rfl⟩:=Jae hown1;refine⟨⟨⟨pv,cv,?_,?_⟩,?_,⟨p',c',?_,?_⟩,?_,?_,?_,?_,hM,(by have:=hb1.size;simp;omega)⟩,⟨(hb1.mono (show a<=a+4 by omega)).setCell (nlr _) _,(((KeptG.refl M a w).alloc o).grown (h2.alloc o) (.inr rfl) hg).set (.inl rfl) _⟩,hc1,hf1⟩
 . show _=some (Value.slice pv (s.out++[q]).length cv)
   rw[List.length_append];exact World.cell?_setCell_same _ _ _ hc1
 . show World.ownsRow _ _ _ _ (.slice pv (s.out++[q]).length cv) (s.out++[q]).length (JaD (s.out++[q]))
   rw[List.length_append,Jb3];exact JcI hown1 (by omega) _
 . rw[World.frozen?_setCell];exact hf1
 . rw[Jab (by omega)];exact(hb1.cell (p:=⟨a+1,0,none⟩) (by show a+1<_;omega)).trans h4
 . exact JcI h5' (by omega) _
 . rw[World.frozen?_setCell];exact(hb1.frozen (p:=⟨a+1,0,none⟩) (by show a+1<_;omega)).trans h6
 . rw[Jab (by omega)];exact(hb1.cell (p:=⟨a+2,0,none⟩) (by show a+2<_;omega)).trans h7
 . rw[World.frozen?_setCell];exact(hb1.frozen (p:=⟨a+2,0,none⟩) (by show a+2<_;omega)).trans h8
 . rw[Jab (by omega)];exact(hb1.cell (p:=⟨a+3,0,none⟩) (by show a+3<_;omega)).trans h9
theorem Jgo{q:List UInt8}(h:gath M w a s)(hc:w.cell? ⟨a+1,0,none⟩=some (.slice p s.put.length c))
    (hown1:w1.ownsRow M 5 1 v' (s.put.length+q.length) (Lib.byteCells s.put++Lib.byteCells q)) (hg:w.grownBy w1 (Value.slice p s.put.length c).ownBlock) :
    gath M (w1.setCell ⟨a+1,0,none⟩ v') a ⟨s.out,s.put++q,s.drop⟩/\BelowG M a w (w1.setCell ⟨a+1,0,none⟩ v')/\w1.cell? ⟨a+1,0,none⟩=some (.slice p s.put.length c)/\w1.frozen? ⟨a+1,0,none⟩=false:=by
 have hM:=h.le;have hT:=h.top;have hlt:=Jb7 h;obtain⟨⟨p',c',h4,h5⟩,h6,⟨p1,c1,h1,h2⟩,h3,h7,h8,h9⟩:=h;rw[hc]at h1;simp only[Option.some.injEq,Value.slice.injEq,true_and]at h1;obtain⟨rfl,rfl⟩:=h1;have hrow:∀k,(Value.slice p s.put.length c).ownBlock=some k->a+4<=k:=fun k hk=>Nat.le_trans hM (h2.lt k hk).1;have hb1:Below (a+4) w w1:=(brf (a+4) w).grown hg (by omega) hrow;have hc1:w1.cell? ⟨a+1,0,none⟩=some (.slice p s.put.length c):=by rw[hb1.cell (p:=⟨a+1,0,none⟩) (by show a+1<_;omega)];exact hc
 have hf1:w1.frozen? ⟨a+1,0,none⟩=false:=by rw[hb1.frozen (p:=⟨a+1,0,none⟩) (by show a+1<_;omega)];exact h3
 have h5':=h5.kept hg (JiZ h5 h2 (by decide));obtain⟨pv,cv,rfl⟩:=Jae hown1;refine⟨⟨⟨p',c',?_,?_⟩,?_,⟨pv,cv,?_,?_⟩,?_,?_,?_,?_,hM,(by have:=hb1.size;simp;omega)⟩,⟨(hb1.mono (show a<=a+4 by omega)).setCell (by show a<=a+1;omega) _,((KeptG.refl M a w).grown h2 (.inl rfl) hg).set (.inr (.inl rfl)) _⟩,hc1,hf1⟩
 . rw[Jab (by omega)];exact(hb1.cell (p:=⟨a,0,none⟩) (by show a<_;omega)).trans h4
 . exact JcI h5' (by omega) _
 . rw[World.frozen?_setCell];exact(hb1.frozen (p:=⟨a,0,none⟩) (by show a<_;omega)).trans h6
 . show _=some (Value.slice pv (s.put++q).length cv)
   rw[List.length_append];exact World.cell?_setCell_same _ _ _ hc1
 . show World.ownsRow _ _ _ _ (.slice pv (s.put++q).length cv) (s.put++q).length (Lib.byteCells (s.put++q))
   rw[List.length_append,Lib.byteCells_append];exact JcI hown1 (by omega) _
 . rw[World.frozen?_setCell];exact hf1
 . rw[Jab (by omega)];exact(hb1.cell (p:=⟨a+2,0,none⟩) (by show a+2<_;omega)).trans h7
 . rw[World.frozen?_setCell];exact(hb1.frozen (p:=⟨a+2,0,none⟩) (by show a+2<_;omega)).trans h8
 . rw[Jab (by omega)];exact(hb1.cell (p:=⟨a+3,0,none⟩) (by show a+3<_;omega)).trans h9
theorem Jdi(h:gath M w a s)(d:Int):gath M (w.setCell ⟨a+2,0,none⟩ (.int .i64 d)) a ⟨s.out,s.put,d⟩/\BelowG M a w (w.setCell ⟨a+2,0,none⟩ (.int .i64 d)):=by
 have hM:=h.le;have hT:=h.top;have hlt:=Jb7 h;obtain⟨⟨p,c,h1,h2⟩,h3,⟨p',c',h4,h5⟩,h6,h7,h8,h9⟩:=h;refine⟨⟨⟨p,c,?_,JcI h2 (by omega) _⟩,?_,⟨p',c',?_,JcI h5 (by omega) _⟩,?_,World.cell?_setCell_same _ _ _ h7,?_,?_,hM,(by simp;omega)⟩,⟨(brf a w).setCell (by show a<=a+2;omega) _,(KeptG.refl M a w).set (.inr (.inr rfl)) _⟩⟩
 . rw[Jab (by omega)];exact h1
 . rw[World.frozen?_setCell];exact h3
 . rw[Jab (by omega)];exact h4
 . rw[World.frozen?_setCell];exact h6
 . rw[World.frozen?_setCell];exact h8
 . rw[Jab (by omega)];exact h9
theorem Jgp(h:gath M w a s)(hc:w.cell? ⟨a+1,0,none⟩=some (.slice p s.put.length c)) :
    gath M (w.setCell ⟨a+1,0,none⟩ (.slice p 0 c)) a ⟨s.out,[],s.drop⟩/\BelowG M a w (w.setCell ⟨a+1,0,none⟩ (.slice p 0 c)):=by
 have hM:=h.le;have hT:=h.top;have hlt:=Jb7 h;obtain⟨⟨p',c',h4,h5⟩,h6,⟨p1,c1,h1,h2⟩,h3,h7,h8,h9⟩:=h;have hc':=hc;rw[hc]at h1;simp only[Option.some.injEq,Value.slice.injEq,true_and]at h1;obtain⟨rfl,rfl⟩:=h1
 have h2':w.ownsRow M 5 1 (.slice p 0 c) 0 []:=by
  obtain⟨_,hrow⟩:=h2;refine⟨rfl,?_⟩
  rcases hrow with ⟨hn,h0⟩|⟨g,cap,cur,hv,hg,hgg,hnc,rest⟩
  . simp only[Value.slice.injEq]at hn
    obtain⟨rfl,_,rfl⟩:=hn;exact .inl ⟨rfl,rfl⟩
  . simp only[Value.slice.injEq,true_and]at hv
    obtain⟨rfl,rfl⟩:=hv;exact .inr ⟨g,c,cur,rfl,hg,hgg,Nat.zero_le _,rest.1,rest.2.1,by simp⟩
 refine⟨⟨⟨p',c',?_,JcI h5 (by omega) _⟩,?_,⟨p,c,World.cell?_setCell_same _ _ _ hc',JcI h2' (by omega) _⟩,?_,?_,?_,?_,hM,(by simp;omega)⟩,⟨(brf a w).setCell (by show a<=a+1;omega) _,(KeptG.refl M a w).set (.inr (.inl rfl)) _⟩⟩
 . rw[Jab (by omega)];exact h4
 . rw[World.frozen?_setCell];exact h6
 . rw[World.frozen?_setCell];exact h3
 . rw[Jab (by omega)];exact h7
 . rw[World.frozen?_setCell];exact h8
 . rw[Jab (by omega)];exact h9
end
section
open Go.RowKit
variable {M : Nat}
theorem Jfx(w:World):Calls Tryz.prog 222 #[] w fun e w'=>e=.returned (.tuple #[.func (.func 265) #[] #[.pointer (some ⟨w.heap.size+1,0,none⟩),.pointer (some ⟨w.heap.size+2,0,none⟩),.pointer (some ⟨w.heap.size+3,0,none⟩),.pointer (some ⟨w.heap.size,0,none⟩)],
      .func (.func 266) #[] #[.pointer (some ⟨w.heap.size+3,0,none⟩),.pointer (some ⟨w.heap.size,0,none⟩)]])/\(∀M w2,Below w'.heap.size w' w2->w.heap.size+4<=M->M<=w2.heap.size->gath M w2 w.heap.size nst0)/\w'.heap.size=w.heap.size+4/\Below w.heap.size w w':=by
 go_enter Tryz.func222,Tryz.ntmps222
 go_wp2
 go_ret2
 refine⟨rfl,fun M w2 hb hM hT=>?_,by simp[World.size_alloc],?_⟩
 . have hs:=hb.size
   simp only[World.size_alloc]at hs;have hlt:∀k,k<4->w.heap.size+k<w.heap.size+1+1+1+1:=fun k hk=>by omega
   refine⟨⟨none,0,(hb.cell (by simp only[World.size_alloc];omega)).trans (by simp[go_sem,nst0]),World.ownsRow_nil _ _ _ _⟩,(hb.frozen (by simp only[World.size_alloc];omega)).trans (by simp[go_sem]),⟨none,0,(hb.cell (by simp only[World.size_alloc];omega)).trans (by simp[go_sem,nst0]),World.ownsRow_nil _ _ _ _⟩,(hb.frozen (by simp only[World.size_alloc];omega)).trans (by simp[go_sem]),(hb.cell (by simp only[World.size_alloc];omega)).trans (by simp[go_sem,nst0]),(hb.frozen (by simp only[World.size_alloc];omega)).trans (by simp[go_sem]),(hb.cell (by simp only[World.size_alloc];omega)).trans (by simp[go_sem]),hM,hT⟩
 have b1:=(brf w.heap.size w).alloc (nlr _) (.cells #[.slice none 0 0] 23);have b2:=b1.alloc b1.size (.cells #[.slice none 0 0] 158);have b3:=b2.alloc b2.size (.cells #[.int .i64 0] 3);exact b3.alloc b3.size _
theorem Jh2(p:Option Addr)(n c:Nat)(w:World):(Instr.sliceAt 158 (.slice p n c) none (some (.int .i64 0)) none).run Tryz.prog w=.ok (.slice p 0 c) w:=by
 have h:(if c=0 then p else Option.map (fun x=>x.add 0) p)=p:=by
  cases p<;>simp[Addr.add]
 have:=run_sliceAt_slice (P:=Tryz.prog) w 158 (.slice p n c) none (some (.int .i64 0)) none (by kernel_rfl);rw[this];have h2:=run_slice_h (P:=Tryz.prog) w 158 p n c (by kernel_rfl) .i64 0 (by omega) (by omega);rw[h2];have h3:(sizeOf (Tryz.prog.elem 158)).run Tryz.prog w=.ok 1 w:=by kernel_rfl
 rw[h3];simp only[Result.andThen,sliced,Int.toNat_zero,Nat.zero_mul,Nat.sub_zero];rw[h]
theorem tell_oo(a:Nat)(s:NSt)(w:World)(h:gath M w a s)(hlen:s.out.length<1000000000)(hput:s.put.length<1000000000)(hp:s.put=[])(hd:s.drop=0) :
    Calls Tryz.prog 264 #[.pointer (some ⟨a+1,0,none⟩),.pointer (some ⟨a,0,none⟩),.pointer (some ⟨a+2,0,none⟩)] w fun e w'=>(∃v,e=.returned v)/\gath M w' a ⟨s.out,[],0⟩/\BelowG M a w w'/\∀b,spare w a b->w'.heap[b]?=w.heap[b]?:=by
 have hM:=h.le;have hT:=h.top;obtain⟨i0,hi,hz0,hz1,hz2⟩:=info_parts Jbf;have hcut:=Jh2;have hlt:=Jb7 h;have H0:=hdz h;obtain⟨⟨p,c,h1,h2⟩,h3,⟨p',c',h4,h5⟩,h6,h7,h8,h9⟩:=h;have hpl:¬(0:Int)<(s.put.length:Int):=by rw[hp];simp
 have hdb:(s.drop==0)=true:=beq_iff_eq.2 hd;clear h2 h5 h9 hp
 go_enter Tryz.func264,Tryz.ntmps264
 have HK0:=hdz h4;go_wp2;go_end0;have F1:=Jgp H0.out HK0.out;have F2:=Jdi F1.1 0;refine⟨⟨_,rfl⟩,F2.1,F1.2.trans F2.2,fun b hb=>?_⟩;have hb0:=hb.2.1;have e0:w.heap[b]?=w.heap[b]?:=rfl;have s0:=hb;have e1:=e0;have s1:=s0;have e2:=e1;have s2:=s1;have s3:=Jdc s2 (c:=a+1) (by omega) (by omega) (.slice p' 0 c');exact((Jdc s3.1 (c:=a+2) (by omega) (by omega) (.int .i64 0)).2.trans s3.2).trans e2
theorem tell_od(a:Nat)(s:NSt)(w:World)(h:gath M w a s)(hlen:s.out.length<1000000000)(hput:s.put.length<1000000000)(hp:s.put=[])(hd:s.drop≠0) :
    Calls Tryz.prog 264 #[.pointer (some ⟨a+1,0,none⟩),.pointer (some ⟨a,0,none⟩),.pointer (some ⟨a+2,0,none⟩)] w fun e w'=>(∃v,e=.returned v)/\gath M w' a ⟨s.out++[⟨0,s.drop,[]⟩],[],0⟩/\BelowG M a w w'/\∀b,spare w a b->w'.heap[b]?=w.heap[b]?:=by
 have hM:=h.le;have hT:=h.top;obtain⟨i0,hi,hz0,hz1,hz2⟩:=info_parts Jbf;have hcut:=Jh2;have hlt:=Jb7 h;have H0:=hdz h;obtain⟨⟨p,c,h1,h2⟩,h3,⟨p',c',h4,h5⟩,h6,h7,h8,h9⟩:=h;have HO:=hdz h2;have HC:=hdz h1;have hpl:¬(0:Int)<(s.put.length:Int):=by rw[hp];simp
 have hdb:(s.drop==0)=false:=beq_eq_false_iff_ne.2 hd;clear h2 h5 h9 hp
 go_enter Tryz.func264,Tryz.ntmps264
 go_wp2_with (at_builtin;refine wpList_append_own_at _ rfl _ _ 23 rfl M 50 i0 (.agg #[.int .i64 0,.int .i64 0,.string ⟨#[]⟩]) 3 32 Tryz.underlying23 hi hz0 hz1 hz2 rfl (by decide) _ _ _ rfl (HO.out.alloc _) ⟨w.heap.size,0,none⟩ 1 1 (Ja6 ⟨0,s.drop,[]⟩) rfl rfl (JaW _ _ _) (Ja4 _) (by unfold maxLen;omega) (by omega) (by first | omega | (simp;omega)) ?_)
 intro v2 w2 hown2 hg2 _ hat2;have P2:=Jev (q:=⟨0,s.drop,[]⟩) H0.out HC.out hown2 hg2;have hb2:Below (a+4) w w2:=((brf (a+4) w).alloc (by omega) _).grown hg2 (by rw[wsa];omega) fun k hk=>Nat.le_trans hM (HO.out.lt k hk).1;have z4:=h4;have z6:=h6;have z7:=h7;have z8:=h8;obtain⟨p2,q2,hv2⟩:=Jae hown2;rw[hv2]at P2 ⊢;rw[hv2]at hat2;obtain⟨G2,B2,t1,t2⟩:=P2;have HS2:Hid (∀b,spare (w) a b->spare (w2.setCell ⟨a,0,none⟩ (.slice p2 (s.out.length+1) q2)) a b/\(w2.setCell ⟨a,0,none⟩ (.slice p2 (s.out.length+1) q2)).heap[b]?=(w).heap[b]?):=fun b hb=>Jfr HC.out (by rw[t1];rfl) hg2 (hat2.imp id fun e=>⟨_,e,by simp⟩) hb;clear hat2;have HG2:=hdz G2;have HB2:=hdz B2;have y4:=(hb2.cell (p:=⟨a+1,0,none⟩) (by show a+1<_;omega)).trans z4;have y6:=(hb2.frozen (p:=⟨a+1,0,none⟩) (by show a+1<_;omega)).trans z6;have y7:=(hb2.cell (p:=⟨a+2,0,none⟩) (by show a+2<_;omega)).trans z7;have y8:=(hb2.frozen (p:=⟨a+2,0,none⟩) (by show a+2<_;omega)).trans z8;have hs2:=hb2.size;have HK5:Hid ((w2.setCell ⟨a,0,none⟩ (.slice p2 (s.out.length+1) q2)).cell? ⟨a+1,0,none⟩=some (.slice p' s.put.length c')):=(Jab (by omega) _).trans y4;clear z4 z6 z7 z8 G2 B2 hown2 hg2 hb2 hv2;clear h1 h3 h4 h6 h7 h8;go_wp2;go_end0;have F1:=Jgp HG2.out HK5.out;have F2:=Jdi F1.1 0;refine⟨⟨_,rfl⟩,F2.1,(HB2.out).trans (F1.2.trans F2.2),fun b hb=>?_⟩;have hb0:=hb.2.1;have e0:w.heap[b]?=w.heap[b]?:=rfl;have s0:=hb;have e1:=e0;have s1:=s0;have e2:=((HS2.out b s1).2).trans e1;have s2:=(HS2.out b s1).1;have s3:=Jdc s2 (c:=a+1) (by omega) (by omega) (.slice p' 0 c');exact((Jdc s3.1 (c:=a+2) (by omega) (by omega) (.int .i64 0)).2.trans s3.2).trans e2
theorem tell_po(a:Nat)(s:NSt)(w:World)(h:gath M w a s)(hlen:s.out.length<1000000000)(hput:s.put.length<1000000000)(hp:s.put≠[])(hd:s.drop=0) :
    Calls Tryz.prog 264 #[.pointer (some ⟨a+1,0,none⟩),.pointer (some ⟨a,0,none⟩),.pointer (some ⟨a+2,0,none⟩)] w fun e w'=>(∃v,e=.returned v)/\gath M w' a ⟨s.out++[⟨0,0,s.put⟩],[],0⟩/\BelowG M a w w'/\∀b,spare w a b->w'.heap[b]?=w.heap[b]?:=by
 have hM:=h.le;have hT:=h.top;obtain⟨i0,hi,hz0,hz1,hz2⟩:=info_parts Jbf;have hcut:=Jh2;have hlt:=Jb7 h;have H0:=hdz h;obtain⟨⟨p,c,h1,h2⟩,h3,⟨p',c',h4,h5⟩,h6,h7,h8,h9⟩:=h;have HO:=hdz h2;have HC:=hdz h1;have hpl:(0:Int)<(s.put.length:Int):=by have:=List.length_pos_iff.2 hp;omega
 have hconv:(convert 158 9 (.slice p' s.put.length c')).run Tryz.prog w=.ok (.string ⟨s.put.toArray⟩) w:=Jfl rfl h5;have hdb:(s.drop==0)=true:=beq_iff_eq.2 hd;clear h2 h5 h9 hp
 go_enter Tryz.func264,Tryz.ntmps264
 go_wp2_with (at_builtin;refine wpList_append_own_at _ rfl _ _ 23 rfl M 50 i0 (.agg #[.int .i64 0,.int .i64 0,.string ⟨#[]⟩]) 3 32 Tryz.underlying23 hi hz0 hz1 hz2 rfl (by decide) _ _ _ rfl (HO.out.alloc _) ⟨w.heap.size,0,none⟩ 1 1 (Ja6 ⟨0,0,s.put⟩) rfl rfl (JaW _ _ _) (Ja4 _) (by unfold maxLen;omega) (by omega) (by first | omega | (simp;omega)) ?_)
 intro v1 w1 hown1 hg1 _ hat1;have P1:=Jev (q:=⟨0,0,s.put⟩) H0.out HC.out hown1 hg1;have hb1:Below (a+4) w w1:=((brf (a+4) w).alloc (by omega) _).grown hg1 (by rw[wsa];omega) fun k hk=>Nat.le_trans hM (HO.out.lt k hk).1;obtain⟨p1,q1,hv1⟩:=Jae hown1;rw[hv1]at P1 hown1 ⊢;rw[hv1]at hat1;obtain⟨G1,B1,r1,r2⟩:=P1;have HS1:Hid (∀b,spare w a b->spare (w1.setCell ⟨a,0,none⟩ (.slice p1 (s.out.length+1) q1)) a b/\(w1.setCell ⟨a,0,none⟩ (.slice p1 (s.out.length+1) q1)).heap[b]?=w.heap[b]?):=fun b hb=>Jfr HC.out (by rw[r1];rfl) hg1 (hat1.imp id fun e=>⟨_,e,by simp⟩) hb;clear hat1;have HG1:=hdz G1;have HB1:=hdz B1;have k4:=(hb1.cell (p:=⟨a+1,0,none⟩) (by show a+1<_;omega)).trans h4;have k6:=(hb1.frozen (p:=⟨a+1,0,none⟩) (by show a+1<_;omega)).trans h6;have k7:=(hb1.cell (p:=⟨a+2,0,none⟩) (by show a+2<_;omega)).trans h7;have k8:=(hb1.frozen (p:=⟨a+2,0,none⟩) (by show a+2<_;omega)).trans h8;have hs1:=hb1.size;have HK4:Hid ((w1.setCell ⟨a,0,none⟩ (.slice p1 (s.out.length+1) q1)).cell? ⟨a+1,0,none⟩=some (.slice p' s.put.length c')):=(Jab (by omega) _).trans k4;clear h1 h3 h4 h6 h7 h8 G1 B1 hown1 hg1 hconv hb1 hv1;go_wp2;go_end0;have F1:=Jgp HG1.out HK4.out;have F2:=Jdi F1.1 0;refine⟨⟨_,rfl⟩,F2.1,(HB1.out).trans (F1.2.trans F2.2),fun b hb=>?_⟩;have hb0:=hb.2.1;have e0:w.heap[b]?=w.heap[b]?:=rfl;have s0:=hb;have e1:=(HS1.out b s0).2;have s1:=(HS1.out b s0).1;have e2:=e1;have s2:=s1;have s3:=Jdc s2 (c:=a+1) (by omega) (by omega) (.slice p' 0 c');exact((Jdc s3.1 (c:=a+2) (by omega) (by omega) (.int .i64 0)).2.trans s3.2).trans e2
theorem tell_pd(a:Nat)(s:NSt)(w:World)(h:gath M w a s)(hlen:s.out.length<1000000000)(hput:s.put.length<1000000000)(hp:s.put≠[])(hd:s.drop≠0) :
    Calls Tryz.prog 264 #[.pointer (some ⟨a+1,0,none⟩),.pointer (some ⟨a,0,none⟩),.pointer (some ⟨a+2,0,none⟩)] w fun e w'=>(∃v,e=.returned v)/\gath M w' a ⟨s.out++[⟨0,0,s.put⟩,⟨0,s.drop,[]⟩],[],0⟩/\BelowG M a w w'/\∀b,spare w a b->w'.heap[b]?=w.heap[b]?:=by
 have hM:=h.le;have hT:=h.top;obtain⟨i0,hi,hz0,hz1,hz2⟩:=info_parts Jbf;have hcut:=Jh2;have hlt:=Jb7 h;have H0:=hdz h;obtain⟨⟨p,c,h1,h2⟩,h3,⟨p',c',h4,h5⟩,h6,h7,h8,h9⟩:=h;have HO:=hdz h2;have HC:=hdz h1;have hpl:(0:Int)<(s.put.length:Int):=by have:=List.length_pos_iff.2 hp;omega
 have hconv:(convert 158 9 (.slice p' s.put.length c')).run Tryz.prog w=.ok (.string ⟨s.put.toArray⟩) w:=Jfl rfl h5;have hdb:(s.drop==0)=false:=beq_eq_false_iff_ne.2 hd;clear h2 h5 h9 hp
 go_enter Tryz.func264,Tryz.ntmps264
 go_wp2_with (at_builtin;refine wpList_append_own_at _ rfl _ _ 23 rfl M 50 i0 (.agg #[.int .i64 0,.int .i64 0,.string ⟨#[]⟩]) 3 32 Tryz.underlying23 hi hz0 hz1 hz2 rfl (by decide) _ _ _ rfl (HO.out.alloc _) ⟨w.heap.size,0,none⟩ 1 1 (Ja6 ⟨0,0,s.put⟩) rfl rfl (JaW _ _ _) (Ja4 _) (by unfold maxLen;omega) (by omega) (by first | omega | (simp;omega)) ?_)
 intro v1 w1 hown1 hg1 _ hat1;have P1:=Jev (q:=⟨0,0,s.put⟩) H0.out HC.out hown1 hg1;have hb1:Below (a+4) w w1:=((brf (a+4) w).alloc (by omega) _).grown hg1 (by rw[wsa];omega) fun k hk=>Nat.le_trans hM (HO.out.lt k hk).1;obtain⟨p1,q1,hv1⟩:=Jae hown1;rw[hv1]at P1 hown1 ⊢;rw[hv1]at hat1;obtain⟨G1,B1,r1,r2⟩:=P1;have HS1:Hid (∀b,spare w a b->spare (w1.setCell ⟨a,0,none⟩ (.slice p1 (s.out.length+1) q1)) a b/\(w1.setCell ⟨a,0,none⟩ (.slice p1 (s.out.length+1) q1)).heap[b]?=w.heap[b]?):=fun b hb=>Jfr HC.out (by rw[r1];rfl) hg1 (hat1.imp id fun e=>⟨_,e,by simp⟩) hb;clear hat1;have HG1:=hdz G1;have HB1:=hdz B1;have HO1:Hid ((w1.setCell ⟨a,0,none⟩ (.slice p1 (s.out.length+1) q1)).ownsRow M 50 3 (.slice p1 (s.out.length+1) q1) (s.out.length+1) (JaD s.out++Ja6 ⟨0,0,s.put⟩)):=JcI hown1 (show a<M by omega) (.slice p1 (s.out.length+1) q1);have k4:=(hb1.cell (p:=⟨a+1,0,none⟩) (by show a+1<_;omega)).trans h4;have k6:=(hb1.frozen (p:=⟨a+1,0,none⟩) (by show a+1<_;omega)).trans h6;have k7:=(hb1.cell (p:=⟨a+2,0,none⟩) (by show a+2<_;omega)).trans h7;have k8:=(hb1.frozen (p:=⟨a+2,0,none⟩) (by show a+2<_;omega)).trans h8;have hs1:=hb1.size;have HK1:Hid ((w1.setCell ⟨a,0,none⟩ (.slice p1 (s.out.length+1) q1)).cell? ⟨a,0,none⟩=some (.slice p1 (s.out.length+1) q1)):=World.cell?_setCell_same _ _ _ r1;have HK4:Hid ((w1.setCell ⟨a,0,none⟩ (.slice p1 (s.out.length+1) q1)).cell? ⟨a+1,0,none⟩=some (.slice p' s.put.length c')):=(Jab (by omega) _).trans k4;clear h1 h3 h4 h6 h7 h8 G1 B1 hown1 hg1 hconv hb1 hv1
 go_wp2_with (at_builtin;refine wpList_append_own_at _ rfl _ _ 23 rfl M 50 i0 (.agg #[.int .i64 0,.int .i64 0,.string ⟨#[]⟩]) 3 32 Tryz.underlying23 hi hz0 hz1 hz2 rfl (by decide) _ _ _ rfl (HO1.out.alloc _) ⟨w1.heap.size,0,none⟩ 1 1 (Ja6 ⟨0,s.drop,[]⟩) rfl rfl (Jgw _ _ _ _ _) (Ja4 _) (by unfold maxLen;omega) (by omega) (by first | omega | (simp;omega)) ?_)
 intro v2 w2 hown2 hg2 _ hat2;have hown2':w2.ownsRow M 50 3 v2 ((s.out++[(⟨0,0,s.put⟩:Pt)]).length+1) (JaD (s.out++[(⟨0,0,s.put⟩:Pt)])++Ja6 ⟨0,s.drop,[]⟩):=by
  rw[Jb3,List.length_append,List.append_assoc];exact hown2
 have hls:(s.out++[(⟨0,0,s.put⟩:Pt)]).length=s.out.length+1:=by rw[List.length_append];rfl
 have HK1':(w1.setCell ⟨a,0,none⟩ (.slice p1 (s.out.length+1) q1)).cell? ⟨a,0,none⟩=some (.slice p1 (s.out++[(⟨0,0,s.put⟩:Pt)]).length q1):=by rw[hls];exact HK1.out
 have P2:=Jev (q:=⟨0,s.drop,[]⟩) HG1.out HK1' hown2' (by rw[hls];exact hg2);have hb2:Below (a+4) (w1.setCell ⟨a,0,none⟩ (.slice p1 (s.out.length+1) q1)) w2:=((brf (a+4) _).alloc (by simp;omega) _).grown hg2 (by rw[wsa];simp;omega) fun k hk=>Nat.le_trans hM (HO1.out.lt k hk).1;have z4:=HK4.out;have z6:(w1.setCell ⟨a,0,none⟩ (.slice p1 (s.out.length+1) q1)).frozen? ⟨a+1,0,none⟩=false:=by rw[World.frozen?_setCell];exact k6
 have z7:(w1.setCell ⟨a,0,none⟩ (.slice p1 (s.out.length+1) q1)).cell? ⟨a+2,0,none⟩=some (.int .i64 s.drop):=(Jab (by omega) _).trans k7;have z8:(w1.setCell ⟨a,0,none⟩ (.slice p1 (s.out.length+1) q1)).frozen? ⟨a+2,0,none⟩=false:=by rw[World.frozen?_setCell];exact k8
 clear HK1';obtain⟨p2,q2,hv2⟩:=Jae hown2;rw[hv2]at P2 ⊢;rw[hv2]at hat2;obtain⟨G2,B2,t1,t2⟩:=P2;have HS2:Hid (∀b,spare (w1.setCell ⟨a,0,none⟩ (.slice p1 (s.out.length+1) q1)) a b->spare (w2.setCell ⟨a,0,none⟩ (.slice p2 ((s.out.length+1)+1) q2)) a b/\(w2.setCell ⟨a,0,none⟩ (.slice p2 ((s.out.length+1)+1) q2)).heap[b]?=(w1.setCell ⟨a,0,none⟩ (.slice p1 (s.out.length+1) q1)).heap[b]?):=fun b hb=>Jfr HK1.out (by rw[t1];rfl) hg2 (hat2.imp id fun e=>⟨_,e,by simp⟩) hb;clear hat2;have HG2:=hdz G2;have HB2:=hdz B2;have y4:=(hb2.cell (p:=⟨a+1,0,none⟩) (by show a+1<_;omega)).trans z4;have y6:=(hb2.frozen (p:=⟨a+1,0,none⟩) (by show a+1<_;omega)).trans z6;have y7:=(hb2.cell (p:=⟨a+2,0,none⟩) (by show a+2<_;omega)).trans z7;have y8:=(hb2.frozen (p:=⟨a+2,0,none⟩) (by show a+2<_;omega)).trans z8;have hs2:=hb2.size;have HK5:Hid ((w2.setCell ⟨a,0,none⟩ (.slice p2 ((s.out.length+1)+1) q2)).cell? ⟨a+1,0,none⟩=some (.slice p' s.put.length c')):=(Jab (by omega) _).trans y4;clear z4 z6 z7 z8 G2 B2 hown2 hg2 hb2 hv2;clear k4 k6 k7 k8 r1 r2;clear hown2';go_wp2;go_end0;have F1:=Jgp HG2.out HK5.out;have F2:=Jdi F1.1 0;have F3:=F2.1;rw[List.append_assoc]at F3;refine⟨⟨_,rfl⟩,F3,(HB1.out.trans HB2.out).trans (F1.2.trans F2.2),fun b hb=>?_⟩;have hb0:=hb.2.1;have e0:w.heap[b]?=w.heap[b]?:=rfl;have s0:=hb;have e1:=(HS1.out b s0).2;have s1:=(HS1.out b s0).1;have e2:=((HS2.out b s1).2).trans e1;have s2:=(HS2.out b s1).1;have s3:=Jdc s2 (c:=a+1) (by omega) (by omega) (.slice p' 0 c');exact((Jdc s3.1 (c:=a+2) (by omega) (by omega) (.int .i64 0)).2.trans s3.2).trans e2
theorem Jhw(a:Nat)(s:NSt)(w:World)(h:gath M w a s)(hlen:s.out.length<1000000000)(hput:s.put.length<1000000000) :
    Calls Tryz.prog 264 #[.pointer (some ⟨a+1,0,none⟩),.pointer (some ⟨a,0,none⟩),.pointer (some ⟨a+2,0,none⟩)] w fun e w'=>(∃v,e=.returned v)/\gath M w' a ⟨Jaq s,[],0⟩/\BelowG M a w w'/\∀b,spare w a b->w'.heap[b]?=w.heap[b]?:=by
 have hM:=h.le;have hT:=h.top;unfold Jaq
 by_cases hp:s.put=[]
 . by_cases hd:s.drop=0
   . have:=tell_oo a s w h hlen hput hp hd
     simpa[hp,hd] using this
   . have:=tell_od a s w h hlen hput hp hd
     simpa[hp,hd] using this
 . by_cases hd:s.drop=0
   . have:=tell_po a s w h hlen hput hp hd
     simpa[hp,hd] using this
   . have:=tell_pd a s w h hlen hput hp hd
     simpa[hp,hd] using this
end
section
open Go.RowKit
variable {M g n c : Nat}{w : World}{init : List Pt}{q : Pt}
def JaO (p:Pt):Value:=.agg #[.int .i64 p.keep,.int .i64 p.drop,.string ⟨p.put.toArray⟩]
theorem Jch(p:Pt)(w:World):Calls Tryz.prog 107 #[JaO p] w fun e w'=>e=.returned (.bool (decide (0<p.keep)))/\Below w.heap.size w w':=by
 unfold JaO
 go_enter Tryz.func107,Tryz.ntmps107
 go_wp2;go_ret;exact⟨rfl,(brf _ _).alloc (nlr _) _⟩
theorem Jd7(p:Pt)(w:World):Calls Tryz.prog 211 #[JaO p] w fun e w'=>e=.returned (.bool (decide (0<p.drop)))/\Below w.heap.size w w':=by
 unfold JaO
 go_enter Tryz.func211,Tryz.ntmps211
 go_wp2;go_ret;exact⟨rfl,(brf _ _).alloc (nlr _) _⟩
theorem Jgs(a:Nat)(s:NSt)(w:World)(h:gath M w a s)(hlen:s.out.length<1000000000)(hput:s.put.length<1000000000) :
    Calls Tryz.prog 266 #[.pointer (some ⟨a+3,0,none⟩),.pointer (some ⟨a,0,none⟩)] w fun e w'=>∃v,e=.returned v/\w'.ownsRow M 50 3 v (Jaq s).length (JaD (Jaq s))/\BelowG M a w w':=by
 have hM:=h.le;have hT:=h.top;have cT:=Jhw a s w h hlen hput;have h9:=h.tell;clear h
 go_enter Tryz.func266,Tryz.ntmps266
 go_wp2_with (go_at_call 264;refine cT.mono ?_;rintro e w1 ⟨⟨v,rfl⟩,⟨⟨p,c,h1,h2⟩,_⟩,hb,_⟩)
 go_ret;exact⟨_,rfl,h2,hb⟩
theorem JqN{a:Nat}(h:gath M w a ⟨init++[q],[],0⟩)(hc:w.cell? ⟨a,0,none⟩=some (.slice (some ⟨g,0,none⟩) n c))(hn:n=(init++[q]).length)(k:Int) :
    gath M (w.setCell ⟨g,init.length*3,none⟩ (.int .i64 k)) a ⟨init++[⟨k,q.drop,q.put⟩],[],0⟩/\BelowG M a w (w.setCell ⟨g,init.length*3,none⟩ (.int .i64 k)):=by
 have hM:=h.le;have hT:=h.top;subst hn;obtain⟨⟨p1,c1,h1,h2⟩,h3,⟨p',c',h4,h5⟩,h6,h7,h8,h9⟩:=h;rw[hc]at h1;simp only[Option.some.injEq,Value.slice.injEq,true_and]at h1;obtain⟨rfl,rfl⟩:=h1;have hlt:=h2.lt g rfl;obtain⟨r1,r2⟩:=h2.stored (init.length*3) (.int .i64 k);have hx:(JaD (init++[q])).set (init.length*3) (.int .i64 k)=JaD (init++[⟨k,q.drop,q.put⟩]):=by
  rw[Jb3,Jb3,List.set_append_right _ _ (by rw[JdC];exact nlr _),JdC,Nat.sub_self];rfl
 rw[hx]at r1;have hl:(init++[(⟨k,q.drop,q.put⟩:Pt)]).length=(init++[q]).length:=by simp
 have r3:=h5.kept r2 (JiZ h5 h2 (by decide));refine⟨⟨⟨some ⟨g,0,none⟩,c,?_,?_⟩,?_,⟨p',c',?_,r3⟩,?_,?_,?_,?_,hM,(by simp;omega)⟩,⟨(brf a w).setCell (by show a<=g;omega) _,(KeptG.refl M a w).grown h2 (.inr rfl) r2⟩⟩
 . show _=some (Value.slice _ (init++[(⟨k,q.drop,q.put⟩:Pt)]).length c)
   rw[hl];exact(World.cell?_of_block (a:=⟨a,0,none⟩) (r2.block a (by omega) (by intro e;have:=osi e;omega))).trans hc
 . show World.ownsRow _ _ _ _ (.slice _ (init++[(⟨k,q.drop,q.put⟩:Pt)]).length c) (init++[(⟨k,q.drop,q.put⟩:Pt)]).length _
   rw[hl];exact r1
 . rw[World.frozen?_setCell];exact h3
 . exact(World.cell?_of_block (a:=⟨a+1,0,none⟩) (r2.block (a+1) (by omega) (by intro e;have:=osi e;omega))).trans h4
 . rw[World.frozen?_setCell];exact h6
 . exact(World.cell?_of_block (a:=⟨a+2,0,none⟩) (r2.block (a+2) (by omega) (by intro e;have:=osi e;omega))).trans h7
 . rw[World.frozen?_setCell];exact h8
 . exact(World.cell?_of_block (a:=⟨a+3,0,none⟩) (r2.block (a+3) (by omega) (by intro e;have:=osi e;omega))).trans h9
theorem Jjf{B:Nat}(h:w.ownsRow B 50 3 (.slice (some ⟨g,0,none⟩) n c) n (JaD (init++[q])))(hn:n=(init++[q]).length) :
    w.cell? ⟨g,init.length*3,none⟩=some (.int .i64 q.keep)/\w.cell? ⟨g,init.length*3+1,none⟩=some (.int .i64 q.drop)/\w.cell? ⟨g,init.length*3+2,none⟩=some (.string ⟨q.put.toArray⟩)/\w.frozen? ⟨g,init.length*3,none⟩=false:=by
 subst hn;have hn:(init++[q]).length=init.length+1:=by simp
 have e:∀j,j<3->(JaD (init++[q]))[init.length*3+j]?=(Ja6 q)[j]?:=by
  intro j hj;rw[Jb3,List.getElem?_append_right (by rw[JdC];omega),JdC]
  congr 1
  omega
 refine⟨?_,?_,?_,h.frozenAt _⟩
 . rw[h.cellAt _ (by rw[hn];omega)];exact e 0 (by omega)
 . rw[h.cellAt _ (by rw[hn];omega)];exact e 1 (by omega)
 . rw[h.cellAt _ (by rw[hn];omega)];exact e 2 (by omega)
theorem add_zero(a:Nat)(s:NSt)(p:Pt)(w:World)(h:gath M w a s)(hput:s.put.length+p.put.length<1000000000)(hd: -9223372036854775808<=s.drop+p.drop)(hd':s.drop+p.drop<9223372036854775808)(hout:s.out.length<100000000)
     :
    Calls Tryz.prog 265 #[(.agg #[.int .i64 0,.int .i64 p.drop,.string ⟨p.put.toArray⟩]),.pointer (some ⟨a+1,0,none⟩),.pointer (some ⟨a+2,0,none⟩),.pointer (some ⟨a+3,0,none⟩),.pointer (some ⟨a,0,none⟩)] w fun e w'=>(∃v,e=.returned v)/\gath M w' a ⟨s.out,s.put++p.put,s.drop+p.drop⟩/\BelowG M a w w':=by
 have hM:=h.le;have hT:=h.top;obtain⟨i0,hi,hz0,hz1,hz2⟩:=info_parts Jbf;obtain⟨i1,hj,hy0,hy1,hy2⟩:=info_parts Jik;have hlt:=Jb7 h;have hb0':Below w.heap.size w (w.alloc (.cells #[.int .i64 0,.int .i64 p.drop,.string ⟨p.put.toArray⟩] 50)):=(brf _ _).alloc (nlr _) _;have HG0:=hdz (Jbx h hb0');have HB0:Hid (BelowG M a w (w.alloc (.cells #[.int .i64 0,.int .i64 p.drop,.string ⟨p.put.toArray⟩] 50))):=.of hb0' (by omega);have x0:(w.alloc (.cells #[.int .i64 0,.int .i64 p.drop,.string ⟨p.put.toArray⟩] 50)).cell? ⟨w.heap.size,0,none⟩=some (.int .i64 0):=by simp[go_sem]
 have x1:(w.alloc (.cells #[.int .i64 0,.int .i64 p.drop,.string ⟨p.put.toArray⟩] 50)).cell? ⟨w.heap.size,1,none⟩=some (.int .i64 p.drop):=by simp[go_sem]
 obtain⟨⟨pp,c,h1,h2⟩,h3,⟨p',c',h4,h5⟩,h6,h7,h8,h9⟩:=h;have HL1:Hid (∀k,(Value.slice pp s.out.length c).ownBlock=some k->k<w.heap.size):=fun k hk'=>(h2.lt k hk').2;have HL2:Hid (∀k,(Value.slice p' s.put.length c').ownBlock=some k->k<w.heap.size):=fun k hk'=>(h5.lt k hk').2;have hP:(w.alloc (.cells #[.int .i64 0,.int .i64 p.drop,.string ⟨p.put.toArray⟩] 50)).ownsRow M 5 1 (.slice p' s.put.length c') s.put.length (Lib.byteCells s.put):=h5.alloc _;have hC:(w.alloc (.cells #[.int .i64 0,.int .i64 p.drop,.string ⟨p.put.toArray⟩] 50)).cell? ⟨a+1,0,none⟩=some (.slice p' s.put.length c'):=(hb0'.cell (p:=⟨a+1,0,none⟩) (by show a+1<_;omega)).trans h4;have hC0:(w.alloc (.cells #[.int .i64 0,.int .i64 p.drop,.string ⟨p.put.toArray⟩] 50)).cell? ⟨a,0,none⟩=some (.slice pp s.out.length c):=(hb0'.cell (p:=⟨a,0,none⟩) (by show a<_;omega)).trans h1;have hD2:(w.alloc (.cells #[.int .i64 0,.int .i64 p.drop,.string ⟨p.put.toArray⟩] 50)).cell? ⟨a+2,0,none⟩=some (.int .i64 s.drop):=(hb0'.cell (p:=⟨a+2,0,none⟩) (by show a+2<_;omega)).trans h7;have hF2:(w.alloc (.cells #[.int .i64 0,.int .i64 p.drop,.string ⟨p.put.toArray⟩] 50)).frozen? ⟨a+2,0,none⟩=false:=(hb0'.frozen (p:=⟨a+2,0,none⟩) (by show a+2<_;omega)).trans h8;have hD3:(w.alloc (.cells #[.int .i64 0,.int .i64 p.drop,.string ⟨p.put.toArray⟩] 50)).cell? ⟨a+3,0,none⟩=some (.func (.func 264) #[] #[.pointer (some ⟨a+1,0,none⟩),.pointer (some ⟨a,0,none⟩),.pointer (some ⟨a+2,0,none⟩)]):=(hb0'.cell (p:=⟨a+3,0,none⟩) (by show a+3<_;omega)).trans h9;have HP:=hdz hP
 have HX:Hid (∀w1 v1,w1.ownsRow M 5 1 v1 (s.put.length+(ByteArray.mk p.put.toArray).size) (Lib.byteCells s.put++Lib.strCells ⟨p.put.toArray⟩)->(w.alloc (.cells #[.int .i64 0,.int .i64 p.drop,.string ⟨p.put.toArray⟩] 50)).grownBy w1 (Value.slice p' s.put.length c').ownBlock ->
     gath M ((w1.setCell ⟨a+1,0,none⟩ v1).setCell ⟨a+2,0,none⟩ (.int .i64 (s.drop+p.drop))) a ⟨s.out,s.put++p.put,s.drop+p.drop⟩/\BelowG M a w ((w1.setCell ⟨a+1,0,none⟩ v1).setCell ⟨a+2,0,none⟩ (.int .i64 (s.drop+p.drop))) /\
     spare ((w1.setCell ⟨a+1,0,none⟩ v1).setCell ⟨a+2,0,none⟩ (.int .i64 (s.drop+p.drop))) a w.heap.size /\
     w1.cell? ⟨a+1,0,none⟩=some (.slice p' s.put.length c')/\w1.frozen? ⟨a+1,0,none⟩=false/\w1.cell? ⟨a+2,0,none⟩=some (.int .i64 s.drop)/\w1.frozen? ⟨a+2,0,none⟩=false /\
     w1.cell? ⟨a+3,0,none⟩=some (.func (.func 264) #[] #[.pointer (some ⟨a+1,0,none⟩),.pointer (some ⟨a,0,none⟩),.pointer (some ⟨a+2,0,none⟩)]) /\
     (∀o,w1.cell? ⟨w.heap.size,o,none⟩=(w.alloc (.cells #[.int .i64 0,.int .i64 p.drop,.string ⟨p.put.toArray⟩] 50)).cell? ⟨w.heap.size,o,none⟩)/\w.heap.size<w1.heap.size):=by
  intro w1 v1 q1 q2;have hz:(ByteArray.mk p.put.toArray).size=p.put.length:=by simp[ByteArray.size]
  rw[hz]at q1;obtain⟨g1,g2,g3,g4⟩:=Jgo (q:=p.put) HG0.out hC q1 q2;obtain⟨g5,g6⟩:=Jdi g1 (s.drop+p.drop);have hlow:∀k,(Value.slice p' s.put.length c').ownBlock=some k->a+4<=k:=fun k hk=>Nat.le_trans hM (hP.lt k hk).1;have hbb:Below (a+4) (w.alloc (.cells #[.int .i64 0,.int .i64 p.drop,.string ⟨p.put.toArray⟩] 50)) w1:=(brf _ _).grown q2 (by rw[wsa];omega) hlow;have hsz:=q2.size;rw[wsa]at hsz;refine⟨g5,HB0.out.trans (g2.trans g6),⟨by simp;omega,hlt,?_⟩,g3,g4,(hbb.cell (p:=⟨a+2,0,none⟩) (by show a+2<_;omega)).trans hD2,(hbb.frozen (p:=⟨a+2,0,none⟩) (by show a+2<_;omega)).trans hF2,(hbb.cell (p:=⟨a+3,0,none⟩) (by show a+3<_;omega)).trans hD3,?_,by omega⟩
  . intro v hv
    rw[Jab (by omega),Jab (by omega),(hbb.cell (p:=⟨a,0,none⟩) (by show a<_;omega)),hC0]at hv;obtain rfl:=osi hv;intro e;have:=HL1.out _ e;omega
  . intro o
    exact World.cell?_of_block (a:=⟨w.heap.size,o,none⟩) (q2.block w.heap.size (by rw[wsa];omega) (by intro e;have:=HL2.out _ e.symm;omega))
 clear h2 h5 hP hC hC0 hD2 hF2 hD3 hb0' h1 h3 h6 h7 h8 h9;have n0:a+1<w.heap.size:=by omega
 have HZ:Hid ((ByteArray.mk p.put.toArray).size=p.put.length):=by show _=_;simp[ByteArray.size]
 have n1:¬(a+1=w.heap.size):=by omega
 have n2:¬(w.heap.size=a+1):=by omega
 have n3:¬(a+2=w.heap.size):=by omega
 have n4:¬(w.heap.size=a+2):=by omega
 have hwrap:IntKind.i64.wrap (s.drop+p.drop)=s.drop+p.drop:=by rw[IntKind.wrap_i64];omega
 go_enter Tryz.func265,Tryz.ntmps265
 go_wp2_with (at_builtin;refine Lib.wpList_append_own_string _ rfl _ _ 158 9 rfl M 5 i1 Tryz.underlying158 Tryz.underlying9 hj hy0 hy1 hy2 _ _ _ rfl HP.out _ rfl (by rw[HZ.out];unfold maxLen;omega) (by rw[HZ.out];omega) (by simp;omega) ?_)
 intro v1 w1 hown1 hg1 _;have R:=HX.out w1 v1 hown1 hg1;obtain⟨pv,cv,rfl⟩:=Jae hown1;obtain⟨G2,B2,S2,r1,r2,r3,r4,r5,r6,r7⟩:=R;have y0:=(r6 0).trans x0;have y1:=(r6 1).trans x1;have HG2:=hdz G2;have HB2:=hdz B2;clear hown1 hg1 x0 x1 r6 G2 B2 S2 HX HL1 HL2 HP HG0 HB0 h4;go_wp2;refine bodyPost_ret (results_none rfl _ _ _) rfl ?_;exact⟨⟨_,rfl⟩,HG2.out,HB2.out⟩
theorem Jta(a:Nat)(s:NSt)(p:Pt)(w:World)(h:gath M w a s)(hput:s.put.length+p.put.length<1000000000)(hd: -9223372036854775808<=s.drop+p.drop)(hd':s.drop+p.drop<9223372036854775808)(hout:s.out.length<100000000)
    (hk:p.keep≠0) (L:List Pt) (hL:Jaq ⟨s.out,s.put++p.put,s.drop+p.drop⟩=L) (hLq:L=[]) :
    Calls Tryz.prog 265 #[(JaO p),.pointer (some ⟨a+1,0,none⟩),.pointer (some ⟨a+2,0,none⟩),.pointer (some ⟨a+3,0,none⟩),.pointer (some ⟨a,0,none⟩)] w fun e w'=>(∃v,e=.returned v)/\gath M w' a ⟨L++[⟨p.keep,0,[]⟩],[],0⟩/\BelowG M a w w':=by
 have hM:=h.le;have hT:=h.top;obtain⟨i0,hi,hz0,hz1,hz2⟩:=info_parts Jbf;obtain⟨i1,hj,hy0,hy1,hy2⟩:=info_parts Jik;have hlt:=Jb7 h;have hb0':Below w.heap.size w (w.alloc (.cells #[.int .i64 p.keep,.int .i64 p.drop,.string ⟨p.put.toArray⟩] 50)):=(brf _ _).alloc (nlr _) _;have HG0:=hdz (Jbx h hb0');have HB0:Hid (BelowG M a w (w.alloc (.cells #[.int .i64 p.keep,.int .i64 p.drop,.string ⟨p.put.toArray⟩] 50))):=.of hb0' (by omega);have x0:(w.alloc (.cells #[.int .i64 p.keep,.int .i64 p.drop,.string ⟨p.put.toArray⟩] 50)).cell? ⟨w.heap.size,0,none⟩=some (.int .i64 p.keep):=by simp[go_sem]
 have x1:(w.alloc (.cells #[.int .i64 p.keep,.int .i64 p.drop,.string ⟨p.put.toArray⟩] 50)).cell? ⟨w.heap.size,1,none⟩=some (.int .i64 p.drop):=by simp[go_sem]
 obtain⟨⟨pp,c,h1,h2⟩,h3,⟨p',c',h4,h5⟩,h6,h7,h8,h9⟩:=h;have HL1:Hid (∀k,(Value.slice pp s.out.length c).ownBlock=some k->k<w.heap.size):=fun k hk'=>(h2.lt k hk').2;have HL2:Hid (∀k,(Value.slice p' s.put.length c').ownBlock=some k->k<w.heap.size):=fun k hk'=>(h5.lt k hk').2;have hP:(w.alloc (.cells #[.int .i64 p.keep,.int .i64 p.drop,.string ⟨p.put.toArray⟩] 50)).ownsRow M 5 1 (.slice p' s.put.length c') s.put.length (Lib.byteCells s.put):=h5.alloc _;have hC:(w.alloc (.cells #[.int .i64 p.keep,.int .i64 p.drop,.string ⟨p.put.toArray⟩] 50)).cell? ⟨a+1,0,none⟩=some (.slice p' s.put.length c'):=(hb0'.cell (p:=⟨a+1,0,none⟩) (by show a+1<_;omega)).trans h4;have hC0:(w.alloc (.cells #[.int .i64 p.keep,.int .i64 p.drop,.string ⟨p.put.toArray⟩] 50)).cell? ⟨a,0,none⟩=some (.slice pp s.out.length c):=(hb0'.cell (p:=⟨a,0,none⟩) (by show a<_;omega)).trans h1;have hD2:(w.alloc (.cells #[.int .i64 p.keep,.int .i64 p.drop,.string ⟨p.put.toArray⟩] 50)).cell? ⟨a+2,0,none⟩=some (.int .i64 s.drop):=(hb0'.cell (p:=⟨a+2,0,none⟩) (by show a+2<_;omega)).trans h7;have hF2:(w.alloc (.cells #[.int .i64 p.keep,.int .i64 p.drop,.string ⟨p.put.toArray⟩] 50)).frozen? ⟨a+2,0,none⟩=false:=(hb0'.frozen (p:=⟨a+2,0,none⟩) (by show a+2<_;omega)).trans h8;have hD3:(w.alloc (.cells #[.int .i64 p.keep,.int .i64 p.drop,.string ⟨p.put.toArray⟩] 50)).cell? ⟨a+3,0,none⟩=some (.func (.func 264) #[] #[.pointer (some ⟨a+1,0,none⟩),.pointer (some ⟨a,0,none⟩),.pointer (some ⟨a+2,0,none⟩)]):=(hb0'.cell (p:=⟨a+3,0,none⟩) (by show a+3<_;omega)).trans h9;have HP:=hdz hP
 have HX:Hid (∀w1 v1,w1.ownsRow M 5 1 v1 (s.put.length+(ByteArray.mk p.put.toArray).size) (Lib.byteCells s.put++Lib.strCells ⟨p.put.toArray⟩)->(w.alloc (.cells #[.int .i64 p.keep,.int .i64 p.drop,.string ⟨p.put.toArray⟩] 50)).grownBy w1 (Value.slice p' s.put.length c').ownBlock ->
     gath M ((w1.setCell ⟨a+1,0,none⟩ v1).setCell ⟨a+2,0,none⟩ (.int .i64 (s.drop+p.drop))) a ⟨s.out,s.put++p.put,s.drop+p.drop⟩/\BelowG M a w ((w1.setCell ⟨a+1,0,none⟩ v1).setCell ⟨a+2,0,none⟩ (.int .i64 (s.drop+p.drop))) /\
     spare ((w1.setCell ⟨a+1,0,none⟩ v1).setCell ⟨a+2,0,none⟩ (.int .i64 (s.drop+p.drop))) a w.heap.size /\
     w1.cell? ⟨a+1,0,none⟩=some (.slice p' s.put.length c')/\w1.frozen? ⟨a+1,0,none⟩=false/\w1.cell? ⟨a+2,0,none⟩=some (.int .i64 s.drop)/\w1.frozen? ⟨a+2,0,none⟩=false /\
     w1.cell? ⟨a+3,0,none⟩=some (.func (.func 264) #[] #[.pointer (some ⟨a+1,0,none⟩),.pointer (some ⟨a,0,none⟩),.pointer (some ⟨a+2,0,none⟩)]) /\
     (∀o,w1.cell? ⟨w.heap.size,o,none⟩=(w.alloc (.cells #[.int .i64 p.keep,.int .i64 p.drop,.string ⟨p.put.toArray⟩] 50)).cell? ⟨w.heap.size,o,none⟩)/\w.heap.size<w1.heap.size):=by
  intro w1 v1 q1 q2;have hz:(ByteArray.mk p.put.toArray).size=p.put.length:=by simp[ByteArray.size]
  rw[hz]at q1;obtain⟨g1,g2,g3,g4⟩:=Jgo (q:=p.put) HG0.out hC q1 q2;obtain⟨g5,g6⟩:=Jdi g1 (s.drop+p.drop);have hlow:∀k,(Value.slice p' s.put.length c').ownBlock=some k->a+4<=k:=fun k hk=>Nat.le_trans hM (hP.lt k hk).1;have hbb:Below (a+4) (w.alloc (.cells #[.int .i64 p.keep,.int .i64 p.drop,.string ⟨p.put.toArray⟩] 50)) w1:=(brf _ _).grown q2 (by rw[wsa];omega) hlow;have hsz:=q2.size;rw[wsa]at hsz;refine⟨g5,HB0.out.trans (g2.trans g6),⟨by simp;omega,hlt,?_⟩,g3,g4,(hbb.cell (p:=⟨a+2,0,none⟩) (by show a+2<_;omega)).trans hD2,(hbb.frozen (p:=⟨a+2,0,none⟩) (by show a+2<_;omega)).trans hF2,(hbb.cell (p:=⟨a+3,0,none⟩) (by show a+3<_;omega)).trans hD3,?_,by omega⟩
  . intro v hv
    rw[Jab (by omega),Jab (by omega),(hbb.cell (p:=⟨a,0,none⟩) (by show a<_;omega)),hC0]at hv;obtain rfl:=osi hv;intro e;have:=HL1.out _ e;omega
  . intro o
    exact World.cell?_of_block (a:=⟨w.heap.size,o,none⟩) (q2.block w.heap.size (by rw[wsa];omega) (by intro e;have:=HL2.out _ e.symm;omega))
 clear h2 h5 hP hC hC0 hD2 hF2 hD3 hb0' h1 h3 h6 h7 h8 h9;have n0:a+1<w.heap.size:=by omega
 have HZ:Hid ((ByteArray.mk p.put.toArray).size=p.put.length):=by show _=_;simp[ByteArray.size]
 have n1:¬(a+1=w.heap.size):=by omega
 have n2:¬(w.heap.size=a+1):=by omega
 have n3:¬(a+2=w.heap.size):=by omega
 have n4:¬(w.heap.size=a+2):=by omega
 have hwrap:IntKind.i64.wrap (s.drop+p.drop)=s.drop+p.drop:=by rw[IntKind.wrap_i64];omega
 unfold JaO
 go_enter Tryz.func265,Tryz.ntmps265
 go_wp2_with (at_builtin;refine Lib.wpList_append_own_string _ rfl _ _ 158 9 rfl M 5 i1 Tryz.underlying158 Tryz.underlying9 hj hy0 hy1 hy2 _ _ _ rfl HP.out _ rfl (by rw[HZ.out];unfold maxLen;omega) (by rw[HZ.out];omega) (by simp;omega) ?_)
 intro v1 w1 hown1 hg1 _;have R:=HX.out w1 v1 hown1 hg1;obtain⟨pv,cv,rfl⟩:=Jae hown1;obtain⟨G2,B2,S2,r1,r2,r3,r4,r5,r6,r7⟩:=R;have y0:=(r6 0).trans x0;have y1:=(r6 1).trans x1;have HG2:=hdz G2;have HB2:=hdz B2;have HS2:=hdz S2;clear hown1 hg1 x0 x1 r6 G2 B2 S2 HX HL1 HL2 HP HG0 HB0 h4;have hkb:(p.keep==0)=false:=beq_eq_false_iff_ne.2 hk
 go_wp2_with (go_at_call 9999)
 refine(Jhw a _ _ HG2.out (by show s.out.length<_;omega) (by show(s.put++p.put).length<_;rw[List.length_append];exact hput)).mono ?_;rintro e w3 ⟨⟨v3,rfl⟩,G3,B3,S3⟩;have hS3:=S3 _ HS2.out;have z0:w3.cell? ⟨w.heap.size,0,none⟩=some (.int .i64 p.keep):=(World.cell?_of_block (a:=⟨w.heap.size,0,none⟩) hS3).trans (by rw[Jab (by omega),Jab (by omega)];exact y0);rw[hL]at G3;have HB3:=hdz (HB2.out.trans B3);have hs3:w.heap.size<=w3.heap.size:=HB3.out.size;clear S3 hS3 B3 HB2 HS2 HG2 y0 y1 r1 r2 r3 r4 r5 r7;subst hLq;have HG3:=hdz G3;have hlt3:=Jb7 G3;obtain⟨⟨p3,c3,u1,u2⟩,u3,_,_,_,_,_⟩:=G3;have HU1:Hid (w3.cell? ⟨a,0,none⟩=some (.slice p3 0 c3)):=u1;have HU2:Hid (w3.ownsRow M 50 3 (.slice p3 0 c3) 0 (JaD [])):=u2;have u1':w3.cell? ⟨a,0,none⟩=some (.slice p3 0 c3):=u1;clear u1 u2
 go_wp2_with (at_builtin;refine wpList_append_own_at _ rfl _ _ 23 rfl M 50 i0 (.agg #[.int .i64 0,.int .i64 0,.string ⟨#[]⟩]) 3 32 Tryz.underlying23 hi hz0 hz1 hz2 rfl (by decide) _ _ _ rfl (HU2.out.alloc _) ⟨w3.heap.size,0,none⟩ 1 1 (Ja6 ⟨p.keep,0,[]⟩) rfl rfl (JaW _ _ _) (Ja4 _) (by unfold maxLen;omega) (by omega) (by first | omega | (simp;omega)) ?_)
 intro v5 w5 hown5 hg5 _ _;have P5:=Jev (q:=⟨p.keep,0,[]⟩) HG3.out HU1.out hown5 hg5;obtain⟨p5,q5,rfl⟩:=Jae hown5;obtain⟨G5,B5,t1,t2⟩:=P5;have HG5:=hdz G5;have HB5:=hdz B5;clear hown5 hg5 G5 B5 u1' u3 z0;go_wp2;go_end0;exact⟨⟨_,rfl⟩,HG5.out,HB3.out.trans HB5.out⟩
theorem Jp2(a:Nat)(s:NSt)(p:Pt)(w:World)(h:gath M w a s)(hput:s.put.length+p.put.length<1000000000)(hd: -9223372036854775808<=s.drop+p.drop)(hd':s.drop+p.drop<9223372036854775808)(hout:s.out.length<100000000)
    (hk:p.keep≠0) (L:List Pt) (hL:Jaq ⟨s.out,s.put++p.put,s.drop+p.drop⟩=L) (init:List Pt) (q:Pt) (hLq:L=init++[q]) (hq:¬0<q.keep) :
    Calls Tryz.prog 265 #[(JaO p),.pointer (some ⟨a+1,0,none⟩),.pointer (some ⟨a+2,0,none⟩),.pointer (some ⟨a+3,0,none⟩),.pointer (some ⟨a,0,none⟩)] w fun e w'=>(∃v,e=.returned v)/\gath M w' a ⟨L++[⟨p.keep,0,[]⟩],[],0⟩/\BelowG M a w w':=by
 have hM:=h.le;have hT:=h.top;obtain⟨i0,hi,hz0,hz1,hz2⟩:=info_parts Jbf;obtain⟨i1,hj,hy0,hy1,hy2⟩:=info_parts Jik;have hlt:=Jb7 h;have hb0':Below w.heap.size w (w.alloc (.cells #[.int .i64 p.keep,.int .i64 p.drop,.string ⟨p.put.toArray⟩] 50)):=(brf _ _).alloc (nlr _) _;have HG0:=hdz (Jbx h hb0');have HB0:Hid (BelowG M a w (w.alloc (.cells #[.int .i64 p.keep,.int .i64 p.drop,.string ⟨p.put.toArray⟩] 50))):=.of hb0' (by omega);have x0:(w.alloc (.cells #[.int .i64 p.keep,.int .i64 p.drop,.string ⟨p.put.toArray⟩] 50)).cell? ⟨w.heap.size,0,none⟩=some (.int .i64 p.keep):=by simp[go_sem]
 have x1:(w.alloc (.cells #[.int .i64 p.keep,.int .i64 p.drop,.string ⟨p.put.toArray⟩] 50)).cell? ⟨w.heap.size,1,none⟩=some (.int .i64 p.drop):=by simp[go_sem]
 obtain⟨⟨pp,c,h1,h2⟩,h3,⟨p',c',h4,h5⟩,h6,h7,h8,h9⟩:=h;have HL1:Hid (∀k,(Value.slice pp s.out.length c).ownBlock=some k->k<w.heap.size):=fun k hk'=>(h2.lt k hk').2;have HL2:Hid (∀k,(Value.slice p' s.put.length c').ownBlock=some k->k<w.heap.size):=fun k hk'=>(h5.lt k hk').2;have hP:(w.alloc (.cells #[.int .i64 p.keep,.int .i64 p.drop,.string ⟨p.put.toArray⟩] 50)).ownsRow M 5 1 (.slice p' s.put.length c') s.put.length (Lib.byteCells s.put):=h5.alloc _;have hC:(w.alloc (.cells #[.int .i64 p.keep,.int .i64 p.drop,.string ⟨p.put.toArray⟩] 50)).cell? ⟨a+1,0,none⟩=some (.slice p' s.put.length c'):=(hb0'.cell (p:=⟨a+1,0,none⟩) (by show a+1<_;omega)).trans h4;have hC0:(w.alloc (.cells #[.int .i64 p.keep,.int .i64 p.drop,.string ⟨p.put.toArray⟩] 50)).cell? ⟨a,0,none⟩=some (.slice pp s.out.length c):=(hb0'.cell (p:=⟨a,0,none⟩) (by show a<_;omega)).trans h1;have hD2:(w.alloc (.cells #[.int .i64 p.keep,.int .i64 p.drop,.string ⟨p.put.toArray⟩] 50)).cell? ⟨a+2,0,none⟩=some (.int .i64 s.drop):=(hb0'.cell (p:=⟨a+2,0,none⟩) (by show a+2<_;omega)).trans h7;have hF2:(w.alloc (.cells #[.int .i64 p.keep,.int .i64 p.drop,.string ⟨p.put.toArray⟩] 50)).frozen? ⟨a+2,0,none⟩=false:=(hb0'.frozen (p:=⟨a+2,0,none⟩) (by show a+2<_;omega)).trans h8;have hD3:(w.alloc (.cells #[.int .i64 p.keep,.int .i64 p.drop,.string ⟨p.put.toArray⟩] 50)).cell? ⟨a+3,0,none⟩=some (.func (.func 264) #[] #[.pointer (some ⟨a+1,0,none⟩),.pointer (some ⟨a,0,none⟩),.pointer (some ⟨a+2,0,none⟩)]):=(hb0'.cell (p:=⟨a+3,0,none⟩) (by show a+3<_;omega)).trans h9;have HP:=hdz hP
 have HX:Hid (∀w1 v1,w1.ownsRow M 5 1 v1 (s.put.length+(ByteArray.mk p.put.toArray).size) (Lib.byteCells s.put++Lib.strCells ⟨p.put.toArray⟩)->(w.alloc (.cells #[.int .i64 p.keep,.int .i64 p.drop,.string ⟨p.put.toArray⟩] 50)).grownBy w1 (Value.slice p' s.put.length c').ownBlock ->
     gath M ((w1.setCell ⟨a+1,0,none⟩ v1).setCell ⟨a+2,0,none⟩ (.int .i64 (s.drop+p.drop))) a ⟨s.out,s.put++p.put,s.drop+p.drop⟩/\BelowG M a w ((w1.setCell ⟨a+1,0,none⟩ v1).setCell ⟨a+2,0,none⟩ (.int .i64 (s.drop+p.drop))) /\
     spare ((w1.setCell ⟨a+1,0,none⟩ v1).setCell ⟨a+2,0,none⟩ (.int .i64 (s.drop+p.drop))) a w.heap.size /\
     w1.cell? ⟨a+1,0,none⟩=some (.slice p' s.put.length c')/\w1.frozen? ⟨a+1,0,none⟩=false/\w1.cell? ⟨a+2,0,none⟩=some (.int .i64 s.drop)/\w1.frozen? ⟨a+2,0,none⟩=false /\
     w1.cell? ⟨a+3,0,none⟩=some (.func (.func 264) #[] #[.pointer (some ⟨a+1,0,none⟩),.pointer (some ⟨a,0,none⟩),.pointer (some ⟨a+2,0,none⟩)]) /\
     (∀o,w1.cell? ⟨w.heap.size,o,none⟩=(w.alloc (.cells #[.int .i64 p.keep,.int .i64 p.drop,.string ⟨p.put.toArray⟩] 50)).cell? ⟨w.heap.size,o,none⟩)/\w.heap.size<w1.heap.size):=by
  intro w1 v1 q1 q2;have hz:(ByteArray.mk p.put.toArray).size=p.put.length:=by simp[ByteArray.size]
  rw[hz]at q1;obtain⟨g1,g2,g3,g4⟩:=Jgo (q:=p.put) HG0.out hC q1 q2;obtain⟨g5,g6⟩:=Jdi g1 (s.drop+p.drop);have hlow:∀k,(Value.slice p' s.put.length c').ownBlock=some k->a+4<=k:=fun k hk=>Nat.le_trans hM (hP.lt k hk).1;have hbb:Below (a+4) (w.alloc (.cells #[.int .i64 p.keep,.int .i64 p.drop,.string ⟨p.put.toArray⟩] 50)) w1:=(brf _ _).grown q2 (by rw[wsa];omega) hlow;have hsz:=q2.size;rw[wsa]at hsz;refine⟨g5,HB0.out.trans (g2.trans g6),⟨by simp;omega,hlt,?_⟩,g3,g4,(hbb.cell (p:=⟨a+2,0,none⟩) (by show a+2<_;omega)).trans hD2,(hbb.frozen (p:=⟨a+2,0,none⟩) (by show a+2<_;omega)).trans hF2,(hbb.cell (p:=⟨a+3,0,none⟩) (by show a+3<_;omega)).trans hD3,?_,by omega⟩
  . intro v hv
    rw[Jab (by omega),Jab (by omega),(hbb.cell (p:=⟨a,0,none⟩) (by show a<_;omega)),hC0]at hv;obtain rfl:=osi hv;intro e;have:=HL1.out _ e;omega
  . intro o
    exact World.cell?_of_block (a:=⟨w.heap.size,o,none⟩) (q2.block w.heap.size (by rw[wsa];omega) (by intro e;have:=HL2.out _ e.symm;omega))
 clear h2 h5 hP hC hC0 hD2 hF2 hD3 hb0' h1 h3 h6 h7 h8 h9;have n0:a+1<w.heap.size:=by omega
 have HZ:Hid ((ByteArray.mk p.put.toArray).size=p.put.length):=by show _=_;simp[ByteArray.size]
 have n1:¬(a+1=w.heap.size):=by omega
 have n2:¬(w.heap.size=a+1):=by omega
 have n3:¬(a+2=w.heap.size):=by omega
 have n4:¬(w.heap.size=a+2):=by omega
 have hwrap:IntKind.i64.wrap (s.drop+p.drop)=s.drop+p.drop:=by rw[IntKind.wrap_i64];omega
 unfold JaO
 go_enter Tryz.func265,Tryz.ntmps265
 go_wp2_with (at_builtin;refine Lib.wpList_append_own_string _ rfl _ _ 158 9 rfl M 5 i1 Tryz.underlying158 Tryz.underlying9 hj hy0 hy1 hy2 _ _ _ rfl HP.out _ rfl (by rw[HZ.out];unfold maxLen;omega) (by rw[HZ.out];omega) (by simp;omega) ?_)
 intro v1 w1 hown1 hg1 _;have R:=HX.out w1 v1 hown1 hg1;obtain⟨pv,cv,rfl⟩:=Jae hown1;obtain⟨G2,B2,S2,r1,r2,r3,r4,r5,r6,r7⟩:=R;have y0:=(r6 0).trans x0;have y1:=(r6 1).trans x1;have HG2:=hdz G2;have HB2:=hdz B2;have HS2:=hdz S2;clear hown1 hg1 x0 x1 r6 G2 B2 S2 HX HL1 HL2 HP HG0 HB0 h4;have hkb:(p.keep==0)=false:=beq_eq_false_iff_ne.2 hk
 go_wp2_with (go_at_call 9999)
 refine(Jhw a _ _ HG2.out (by show s.out.length<_;omega) (by show(s.put++p.put).length<_;rw[List.length_append];exact hput)).mono ?_;rintro e w3 ⟨⟨v3,rfl⟩,G3,B3,S3⟩;have hS3:=S3 _ HS2.out;have z0:w3.cell? ⟨w.heap.size,0,none⟩=some (.int .i64 p.keep):=(World.cell?_of_block (a:=⟨w.heap.size,0,none⟩) hS3).trans (by rw[Jab (by omega),Jab (by omega)];exact y0);rw[hL]at G3;have HB3:=hdz (HB2.out.trans B3);have hs3:w.heap.size<=w3.heap.size:=HB3.out.size;clear S3 hS3 B3 HB2 HS2 HG2 y0 y1 r1 r2 r3 r4 r5 r7;obtain⟨m,hm⟩:∃m,m=init.length:=⟨_,rfl⟩;have hLn:L.length=m+1:=by rw[hLq,hm];simp
 have HLN:=hdz hLn
 have hbig:m+1<1000000000:=by
  have h1:L.length<=s.out.length+2:=by
   rw[←hL,Jaq];simp only[List.length_append]
   split<;>split<;>simp
  omega
 have HG3:=hdz G3;have hlt3:=Jb7 G3;obtain⟨⟨p3,c3,u1,u2⟩,u3,_,_,_,_,_⟩:=G3;have u1':w3.cell? ⟨a,0,none⟩=some (.slice p3 (m+1) c3):=by rw[←hLn];exact u1
 have u2':w3.ownsRow M 50 3 (.slice p3 (m+1) c3) (m+1) (JaD L):=by rw[←hLn];exact u2
 obtain ⟨g,rfl⟩:∃g,p3=some ⟨g,0,none⟩:=by
  rcases u2'.2 with ⟨_,h0⟩|⟨g,cap,cur,hv,_⟩
  . exact absurd h0 (by omega)
  . simp only[Value.slice.injEq]at hv
    exact⟨g,hv.1⟩
 have hgl:=(u2'.lt g rfl);have hlc:=Jjf (by rw[hLq]at u2';exact u2') (show m+1=_ by rw[←hLq];exact hLn.symm);rw[←hm]at hlc;obtain⟨l0,l1,l2,l3⟩:=hlc;have HU2:=hdz u2';have hwm:IntKind.i64.wrap (((m+1:Nat):Int) - 1)=(m:Int):=by rw[IntKind.wrap_i64];omega
 have hge:(0:Int)<=(m:Int):=by omega
 have hlm:(m:Int)<((m+1:Nat):Int):=by omega
 clear u1 u2 u2' hLn hm hLq
 go_wp2_with (go_at_call 9999)
 refine(Jch q _).mono ?_;rintro e w4 ⟨rfl,hb4⟩;have G4:=Jbx HG3.out hb4;have HG4:=hdz G4;have HB4:Hid (BelowG M a w w4):=HB3.out.trans (.of hb4 (by omega));have s0:=(hb4.cell (p:=⟨w.heap.size,0,none⟩) (blt w3 _ z0)).trans z0;have s1:=(hb4.cell (p:=⟨a,0,none⟩) (blt w3 _ u1')).trans u1';have sF:=(hb4.frozen (p:=⟨a,0,none⟩) (blt w3 _ u1')).trans u3;have s2:=(hb4.cell (p:=⟨g,m*3,none⟩) (blt w3 _ l0)).trans l0;have s3:=(hb4.frozen (p:=⟨g,m*3,none⟩) (blt w3 _ l0)).trans l3;have s4:=JaR HU2.out hb4;have HS4:=hdz s4;have HS1:=hdz s1;have hs4:=hb4.size;clear hb4 s4 G4 u1' u3 l0 l1 l2 l3 z0;have hqd:decide (0<q.keep)=false:=decide_eq_false (by omega);rw[hqd]
 go_wp2_with (at_builtin;refine wpList_append_own_at _ rfl _ _ 23 rfl M 50 i0 (.agg #[.int .i64 0,.int .i64 0,.string ⟨#[]⟩]) 3 32 Tryz.underlying23 hi hz0 hz1 hz2 rfl (by decide) _ _ _ rfl (HS4.out.alloc _) ⟨w4.heap.size,0,none⟩ 1 1 (Ja6 ⟨p.keep,0,[]⟩) rfl rfl (JaW _ _ _) (Ja4 _) (by unfold maxLen;omega) (by omega) (by first | omega | (simp;omega)) ?_)
 intro v5 w5 hown5 hg5 _ _;have P5:=Jev (q:=⟨p.keep,0,[]⟩) HG4.out (show w4.cell? ⟨a,0,none⟩=some (.slice (some ⟨g,0,none⟩) L.length c3) by rw[HLN.out];exact HS1.out) (by show World.ownsRow _ _ _ _ _ (L.length+1) _;rw[HLN.out];exact hown5) (by show World.grownBy _ _ (Value.slice _ L.length _).ownBlock;rw[HLN.out];exact hg5);obtain⟨p5,q5,rfl⟩:=Jae hown5;obtain⟨G5,B5,t1,t2⟩:=P5;have HG5:=hdz G5;have HB5:=hdz B5;have t1':w5.cell? ⟨a,0,none⟩=some (.slice (some ⟨g,0,none⟩) (m+1) c3):=by rw[t1];show some (Value.slice _ L.length _)=_;rw[HLN.out]
 clear hown5 hg5 G5 B5 s0 s1 s2 s3 sF t1;go_wp2;go_end0;exact⟨⟨_,rfl⟩,HG5.out,HB4.out.trans HB5.out⟩
theorem Jr4(a:Nat)(s:NSt)(p:Pt)(w:World)(h:gath M w a s)(hput:s.put.length+p.put.length<1000000000)(hd: -9223372036854775808<=s.drop+p.drop)(hd':s.drop+p.drop<9223372036854775808)(hout:s.out.length<100000000)
    (hk:p.keep≠0) (L:List Pt) (hL:Jaq ⟨s.out,s.put++p.put,s.drop+p.drop⟩=L) (init:List Pt) (q:Pt) (hLq:L=init++[q]) (hq:0<q.keep) (hb0: -9223372036854775808<=q.keep+p.keep) (hb1:q.keep+p.keep<9223372036854775808) :
    Calls Tryz.prog 265 #[(JaO p),.pointer (some ⟨a+1,0,none⟩),.pointer (some ⟨a+2,0,none⟩),.pointer (some ⟨a+3,0,none⟩),.pointer (some ⟨a,0,none⟩)] w fun e w'=>(∃v,e=.returned v)/\gath M w' a ⟨init++[⟨q.keep+p.keep,q.drop,q.put⟩],[],0⟩/\BelowG M a w w':=by
 have hM:=h.le;have hT:=h.top;obtain⟨i0,hi,hz0,hz1,hz2⟩:=info_parts Jbf;obtain⟨i1,hj,hy0,hy1,hy2⟩:=info_parts Jik;have hlt:=Jb7 h;have hb0':Below w.heap.size w (w.alloc (.cells #[.int .i64 p.keep,.int .i64 p.drop,.string ⟨p.put.toArray⟩] 50)):=(brf _ _).alloc (nlr _) _;have HG0:=hdz (Jbx h hb0');have HB0:Hid (BelowG M a w (w.alloc (.cells #[.int .i64 p.keep,.int .i64 p.drop,.string ⟨p.put.toArray⟩] 50))):=.of hb0' (by omega);have x0:(w.alloc (.cells #[.int .i64 p.keep,.int .i64 p.drop,.string ⟨p.put.toArray⟩] 50)).cell? ⟨w.heap.size,0,none⟩=some (.int .i64 p.keep):=by simp[go_sem]
 have x1:(w.alloc (.cells #[.int .i64 p.keep,.int .i64 p.drop,.string ⟨p.put.toArray⟩] 50)).cell? ⟨w.heap.size,1,none⟩=some (.int .i64 p.drop):=by simp[go_sem]
 obtain⟨⟨pp,c,h1,h2⟩,h3,⟨p',c',h4,h5⟩,h6,h7,h8,h9⟩:=h;have HL1:Hid (∀k,(Value.slice pp s.out.length c).ownBlock=some k->k<w.heap.size):=fun k hk'=>(h2.lt k hk').2;have HL2:Hid (∀k,(Value.slice p' s.put.length c').ownBlock=some k->k<w.heap.size):=fun k hk'=>(h5.lt k hk').2;have hP:(w.alloc (.cells #[.int .i64 p.keep,.int .i64 p.drop,.string ⟨p.put.toArray⟩] 50)).ownsRow M 5 1 (.slice p' s.put.length c') s.put.length (Lib.byteCells s.put):=h5.alloc _;have hC:(w.alloc (.cells #[.int .i64 p.keep,.int .i64 p.drop,.string ⟨p.put.toArray⟩] 50)).cell? ⟨a+1,0,none⟩=some (.slice p' s.put.length c'):=(hb0'.cell (p:=⟨a+1,0,none⟩) (by show a+1<_;omega)).trans h4;have hC0:(w.alloc (.cells #[.int .i64 p.keep,.int .i64 p.drop,.string ⟨p.put.toArray⟩] 50)).cell? ⟨a,0,none⟩=some (.slice pp s.out.length c):=(hb0'.cell (p:=⟨a,0,none⟩) (by show a<_;omega)).trans h1;have hD2:(w.alloc (.cells #[.int .i64 p.keep,.int .i64 p.drop,.string ⟨p.put.toArray⟩] 50)).cell? ⟨a+2,0,none⟩=some (.int .i64 s.drop):=(hb0'.cell (p:=⟨a+2,0,none⟩) (by show a+2<_;omega)).trans h7;have hF2:(w.alloc (.cells #[.int .i64 p.keep,.int .i64 p.drop,.string ⟨p.put.toArray⟩] 50)).frozen? ⟨a+2,0,none⟩=false:=(hb0'.frozen (p:=⟨a+2,0,none⟩) (by show a+2<_;omega)).trans h8;have hD3:(w.alloc (.cells #[.int .i64 p.keep,.int .i64 p.drop,.string ⟨p.put.toArray⟩] 50)).cell? ⟨a+3,0,none⟩=some (.func (.func 264) #[] #[.pointer (some ⟨a+1,0,none⟩),.pointer (some ⟨a,0,none⟩),.pointer (some ⟨a+2,0,none⟩)]):=(hb0'.cell (p:=⟨a+3,0,none⟩) (by show a+3<_;omega)).trans h9;have HP:=hdz hP
 have HX:Hid (∀w1 v1,w1.ownsRow M 5 1 v1 (s.put.length+(ByteArray.mk p.put.toArray).size) (Lib.byteCells s.put++Lib.strCells ⟨p.put.toArray⟩)->(w.alloc (.cells #[.int .i64 p.keep,.int .i64 p.drop,.string ⟨p.put.toArray⟩] 50)).grownBy w1 (Value.slice p' s.put.length c').ownBlock ->
     gath M ((w1.setCell ⟨a+1,0,none⟩ v1).setCell ⟨a+2,0,none⟩ (.int .i64 (s.drop+p.drop))) a ⟨s.out,s.put++p.put,s.drop+p.drop⟩/\BelowG M a w ((w1.setCell ⟨a+1,0,none⟩ v1).setCell ⟨a+2,0,none⟩ (.int .i64 (s.drop+p.drop))) /\
     spare ((w1.setCell ⟨a+1,0,none⟩ v1).setCell ⟨a+2,0,none⟩ (.int .i64 (s.drop+p.drop))) a w.heap.size /\
     w1.cell? ⟨a+1,0,none⟩=some (.slice p' s.put.length c')/\w1.frozen? ⟨a+1,0,none⟩=false/\w1.cell? ⟨a+2,0,none⟩=some (.int .i64 s.drop)/\w1.frozen? ⟨a+2,0,none⟩=false /\
     w1.cell? ⟨a+3,0,none⟩=some (.func (.func 264) #[] #[.pointer (some ⟨a+1,0,none⟩),.pointer (some ⟨a,0,none⟩),.pointer (some ⟨a+2,0,none⟩)]) /\
     (∀o,w1.cell? ⟨w.heap.size,o,none⟩=(w.alloc (.cells #[.int .i64 p.keep,.int .i64 p.drop,.string ⟨p.put.toArray⟩] 50)).cell? ⟨w.heap.size,o,none⟩)/\w.heap.size<w1.heap.size):=by
  intro w1 v1 q1 q2;have hz:(ByteArray.mk p.put.toArray).size=p.put.length:=by simp[ByteArray.size]
  rw[hz]at q1;obtain⟨g1,g2,g3,g4⟩:=Jgo (q:=p.put) HG0.out hC q1 q2;obtain⟨g5,g6⟩:=Jdi g1 (s.drop+p.drop);have hlow:∀k,(Value.slice p' s.put.length c').ownBlock=some k->a+4<=k:=fun k hk=>Nat.le_trans hM (hP.lt k hk).1;have hbb:Below (a+4) (w.alloc (.cells #[.int .i64 p.keep,.int .i64 p.drop,.string ⟨p.put.toArray⟩] 50)) w1:=(brf _ _).grown q2 (by rw[wsa];omega) hlow;have hsz:=q2.size;rw[wsa]at hsz;refine⟨g5,HB0.out.trans (g2.trans g6),⟨by simp;omega,hlt,?_⟩,g3,g4,(hbb.cell (p:=⟨a+2,0,none⟩) (by show a+2<_;omega)).trans hD2,(hbb.frozen (p:=⟨a+2,0,none⟩) (by show a+2<_;omega)).trans hF2,(hbb.cell (p:=⟨a+3,0,none⟩) (by show a+3<_;omega)).trans hD3,?_,by omega⟩
  . intro v hv
    rw[Jab (by omega),Jab (by omega),(hbb.cell (p:=⟨a,0,none⟩) (by show a<_;omega)),hC0]at hv;obtain rfl:=osi hv;intro e;have:=HL1.out _ e;omega
  . intro o
    exact World.cell?_of_block (a:=⟨w.heap.size,o,none⟩) (q2.block w.heap.size (by rw[wsa];omega) (by intro e;have:=HL2.out _ e.symm;omega))
 clear h2 h5 hP hC hC0 hD2 hF2 hD3 hb0' h1 h3 h6 h7 h8 h9;have n0:a+1<w.heap.size:=by omega
 have HZ:Hid ((ByteArray.mk p.put.toArray).size=p.put.length):=by show _=_;simp[ByteArray.size]
 have n1:¬(a+1=w.heap.size):=by omega
 have n2:¬(w.heap.size=a+1):=by omega
 have n3:¬(a+2=w.heap.size):=by omega
 have n4:¬(w.heap.size=a+2):=by omega
 have hwrap:IntKind.i64.wrap (s.drop+p.drop)=s.drop+p.drop:=by rw[IntKind.wrap_i64];omega
 unfold JaO
 go_enter Tryz.func265,Tryz.ntmps265
 go_wp2_with (at_builtin;refine Lib.wpList_append_own_string _ rfl _ _ 158 9 rfl M 5 i1 Tryz.underlying158 Tryz.underlying9 hj hy0 hy1 hy2 _ _ _ rfl HP.out _ rfl (by rw[HZ.out];unfold maxLen;omega) (by rw[HZ.out];omega) (by simp;omega) ?_)
 intro v1 w1 hown1 hg1 _;have R:=HX.out w1 v1 hown1 hg1;obtain⟨pv,cv,rfl⟩:=Jae hown1;obtain⟨G2,B2,S2,r1,r2,r3,r4,r5,r6,r7⟩:=R;have y0:=(r6 0).trans x0;have y1:=(r6 1).trans x1;have HG2:=hdz G2;have HB2:=hdz B2;have HS2:=hdz S2;clear hown1 hg1 x0 x1 r6 G2 B2 S2 HX HL1 HL2 HP HG0 HB0 h4;have hkb:(p.keep==0)=false:=beq_eq_false_iff_ne.2 hk
 go_wp2_with (go_at_call 9999)
 refine(Jhw a _ _ HG2.out (by show s.out.length<_;omega) (by show(s.put++p.put).length<_;rw[List.length_append];exact hput)).mono ?_;rintro e w3 ⟨⟨v3,rfl⟩,G3,B3,S3⟩;have hS3:=S3 _ HS2.out;have z0:w3.cell? ⟨w.heap.size,0,none⟩=some (.int .i64 p.keep):=(World.cell?_of_block (a:=⟨w.heap.size,0,none⟩) hS3).trans (by rw[Jab (by omega),Jab (by omega)];exact y0);rw[hL]at G3;have HB3:=hdz (HB2.out.trans B3);have hs3:w.heap.size<=w3.heap.size:=HB3.out.size;clear S3 hS3 B3 HB2 HS2 HG2 y0 y1 r1 r2 r3 r4 r5 r7;obtain⟨m,hm⟩:∃m,m=init.length:=⟨_,rfl⟩;have hLn:L.length=m+1:=by rw[hLq,hm];simp
 have HLN:=hdz hLn
 have hbig:m+1<1000000000:=by
  have h1:L.length<=s.out.length+2:=by
   rw[←hL,Jaq];simp only[List.length_append]
   split<;>split<;>simp
  omega
 have HG3:=hdz G3;have hlt3:=Jb7 G3;obtain⟨⟨p3,c3,u1,u2⟩,u3,_,_,_,_,_⟩:=G3;have u1':w3.cell? ⟨a,0,none⟩=some (.slice p3 (m+1) c3):=by rw[←hLn];exact u1
 have u2':w3.ownsRow M 50 3 (.slice p3 (m+1) c3) (m+1) (JaD L):=by rw[←hLn];exact u2
 obtain ⟨g,rfl⟩:∃g,p3=some ⟨g,0,none⟩:=by
  rcases u2'.2 with ⟨_,h0⟩|⟨g,cap,cur,hv,_⟩
  . exact absurd h0 (by omega)
  . simp only[Value.slice.injEq]at hv
    exact⟨g,hv.1⟩
 have hgl:=(u2'.lt g rfl);have hlc:=Jjf (by rw[hLq]at u2';exact u2') (show m+1=_ by rw[←hLq];exact hLn.symm);rw[←hm]at hlc;obtain⟨l0,l1,l2,l3⟩:=hlc;have HU2:=hdz u2';have hwm:IntKind.i64.wrap (((m+1:Nat):Int) - 1)=(m:Int):=by rw[IntKind.wrap_i64];omega
 have hge:(0:Int)<=(m:Int):=by omega
 have hlm:(m:Int)<((m+1:Nat):Int):=by omega
 have HM:=hdz hm;have HLQ:=hdz hLq;clear u1 u2 u2' hLn hm hLq
 go_wp2_with (go_at_call 9999)
 refine(Jch q _).mono ?_;rintro e w4 ⟨rfl,hb4⟩;have G4:=Jbx HG3.out hb4;have HG4:=hdz G4;have HB4:Hid (BelowG M a w w4):=HB3.out.trans (.of hb4 (by omega));have s0:=(hb4.cell (p:=⟨w.heap.size,0,none⟩) (blt w3 _ z0)).trans z0;have s1:=(hb4.cell (p:=⟨a,0,none⟩) (blt w3 _ u1')).trans u1';have sF:=(hb4.frozen (p:=⟨a,0,none⟩) (blt w3 _ u1')).trans u3;have s2:=(hb4.cell (p:=⟨g,m*3,none⟩) (blt w3 _ l0)).trans l0;have s3:=(hb4.frozen (p:=⟨g,m*3,none⟩) (blt w3 _ l0)).trans l3;have s4:=JaR HU2.out hb4;have HS1:=hdz s1;have hs4:=hb4.size;clear hb4 s4 G4 u1' u3 l0 l1 l2 l3 z0;have hqd:decide (0<q.keep)=true:=decide_eq_true (by omega);rw[hqd];have hwk:IntKind.i64.wrap (q.keep+p.keep)=q.keep+p.keep:=by rw[IntKind.wrap_i64];omega
 have HG5:Hid (gath M w4.drew a ⟨init++[q],[],0⟩):=by
  have:=Jbx HG4.out (brf _ w4).drew;rw[HLQ.out]at this;exact this
 have P5:=JqN (k:=q.keep+p.keep) HG5.out (show w4.drew.cell? ⟨a,0,none⟩=some (.slice (some ⟨g,0,none⟩) (m+1) c3) from HS1.out) (by rw[←HLQ.out];exact HLN.out.symm);rw[←HM.out]at P5;have HP5:=hdz P5;have HBD:=hdz HB4.out.drew;clear P5;go_wp2
 go_region
 all_goals
  go_wp2;refine bodyPost_ret (results_none rfl _ _ _) rfl ?_;exact⟨⟨_,rfl⟩,HP5.out.1,HBD.out.trans HP5.out.2⟩
theorem Joj(a:Nat)(s:NSt)(p:Pt)(w:World)(h:gath M w a s)(hput:s.put.length+p.put.length<1000000000)(hd:0<=s.drop)(hd':s.drop+p.drop<4611686018427387904)(hp:0<=p.drop)(hk:0<=p.keep)(hout:s.out.length<100000000)
    (hkb:∀q∈s.out,0<=q.keep/\q.keep+p.keep<4611686018427387904) (hkk:p.keep<4611686018427387904) :
    Calls Tryz.prog 265 #[JaO p,.pointer (some ⟨a+1,0,none⟩),.pointer (some ⟨a+2,0,none⟩),.pointer (some ⟨a+3,0,none⟩),.pointer (some ⟨a,0,none⟩)] w fun e w'=>(∃v,e=.returned v)/\gath M w' a (addP s p)/\BelowG M a w w':=by
 have hM:=h.le;have hT:=h.top
 by_cases hk0:p.keep=0
 . have:=add_zero a s p w h hput (by omega) (by omega) hout
   unfold addP JaO;rw[if_pos hk0,hk0];exact this
 . obtain ⟨L,hL⟩:∃L,Jaq ⟨s.out,s.put++p.put,s.drop+p.drop⟩=L:=⟨_,rfl⟩
   unfold addP;rw[if_neg hk0,hL]
   have hmem:∀q∈L,0<=q.keep/\q.keep+p.keep<4611686018427387904:=by
    intro q hq;rw[←hL,Jaq]at hq;simp only[List.mem_append]at hq
    rcases hq with hq|hq|hq
    . exact hkb q hq
    . split at hq
      . simp at hq
      . rw[List.mem_singleton.1 hq];exact⟨by simp,by simpa using hkk⟩
    . split at hq
      . simp at hq
      . rw[List.mem_singleton.1 hq];exact⟨by simp,by simpa using hkk⟩
   rcases List.eq_nil_or_concat L with hn|⟨init,q,hLq⟩
   . have:=Jta a s p w h hput (by omega) (by omega) hout hk0 L hL hn
     subst hn;exact this
   . have hq:=hmem q (by rw[hLq];simp)
     have hgl:L.getLast?=some q:=by rw[hLq];simp
     by_cases hqk:0<q.keep
     . have:=Jr4 a s p w h hput (by omega) (by omega) hout hk0 L hL init q (by simpa using hLq) hqk (by omega) (by omega)
       have e:JaT L p.keep=init++[⟨q.keep+p.keep,q.drop,q.put⟩]:=by simp[JaT,hqk,hLq]
       rw[e];exact this
     . have:=Jp2 a s p w h hput (by omega) (by omega) hout hk0 L hL init q (by simpa using hLq) hqk
       have e:JaT L p.keep=L++[⟨p.keep,0,[]⟩]:=by simp[JaT,hgl,hqk]
       rw[e];exact this
theorem Jtc(a:Nat)(s:NSt)(p:Pt)(w:World)(h:gath M w a s)(hput:s.put.length+p.put.length<1000000000)(hd:0<=s.drop)(hd':s.drop+p.drop<4611686018427387904)(hp:0<=p.drop)(hk:0<=p.keep)(hout:s.out.length<100000000)
    (hkb:∀q∈s.out,0<=q.keep/\q.keep+p.keep<4611686018427387904) (hkk:p.keep<4611686018427387904) :
    Calls Tryz.prog 265 #[JaO p,.pointer (some ⟨a+1,0,none⟩),.pointer (some ⟨a+2,0,none⟩),.pointer (some ⟨a+3,0,none⟩),.pointer (some ⟨a,0,none⟩)] w fun e w'=>(∃v,e=.returned v)/\gath M w' a (addP s p)/\Below a w w' :=
 (Joj a s p w h hput hd hd' hp hk hout hkb hkk).mono fun e w' h=>⟨h.1,h.2.1,h.2.2.below⟩
theorem JsA(a:Nat)(s:NSt)(w:World)(h:gath M w a s)(hlen:s.out.length<1000000000)(hput:s.put.length<1000000000) :
    Calls Tryz.prog 266 #[.pointer (some ⟨a+3,0,none⟩),.pointer (some ⟨a,0,none⟩)] w fun e w'=>∃v,e=.returned v/\w'.ownsRow M 50 3 v (Jaq s).length (JaD (Jaq s))/\Below a w w' :=
 (Jgs a s w h hlen hput).mono fun e w' h=>(by obtain⟨v,h1,h2,h3⟩:=h;exact⟨v,h1,h2,h3.below⟩)
end
section
open Go.RowKit
variable {w : World}{v : Value}{ps : List Pt}{B C : Nat}
def opAt (w:World) (v:Value) (ps:List Pt):Prop :=
 ∃ p c,v=.slice p ps.length c/\ps.length<=c/\c<=maxLen/\(ps≠[]->∃b o,p=some ⟨b,o,none⟩/\b<w.heap.size/\∀i q,ps[i]?=some q ->
  w.cell? ⟨b,o+i*3,none⟩=some (.int .i64 q.keep)/\w.cell? ⟨b,o+i*3+1,none⟩=some (.int .i64 q.drop)/\w.cell? ⟨b,o+i*3+2,none⟩=some (.string ⟨q.put.toArray⟩))
theorem JaK{w':World}(h:opAt w v ps){B:Nat}(hb:Below B w w')(hB:w.heap.size<=B):opAt w' v ps:=by
 obtain⟨p,c,rfl,h1,h2,h3⟩:=h;refine⟨p,c,rfl,h1,h2,fun hne=>?_⟩;obtain⟨b,o,e1,e2,e3⟩:=h3 hne;refine⟨b,o,e1,Nat.lt_of_lt_of_le e2 hb.size,fun i q hi=>?_⟩;obtain⟨f1,f2,f3⟩:=e3 i q hi;exact⟨(hb.cell (p:=⟨b,o+i*3,none⟩) (Nat.lt_of_lt_of_le e2 hB)).trans f1,(hb.cell (p:=⟨b,o+i*3+1,none⟩) (Nat.lt_of_lt_of_le e2 hB)).trans f2,(hb.cell (p:=⟨b,o+i*3+2,none⟩) (Nat.lt_of_lt_of_le e2 hB)).trans f3⟩
theorem Jfz(ps:List Pt)(i:Nat)(q:Pt)(hi:ps[i]?=some q):∀j,j<3->(JaD ps)[i*3+j]?=(Ja6 q)[j]?:=by
 induction ps generalizing i with
 | nil=>simp at hi
 | cons p ps ih =>
  intro j hj;have e:JaD (p :: ps)=Ja6 p++JaD ps:=rfl;have hl:(Ja6 p).length=3:=rfl;rw[e]
  cases i with
  | zero =>
   simp only[List.getElem?_cons_zero,Option.some.injEq]at hi;subst hi;rw[Nat.zero_mul,Nat.zero_add,List.getElem?_append_left (by rw[hl];exact hj)]
  | succ i =>
   rw[List.getElem?_append_right (by rw[hl];omega),hl,←ih i (by simpa using hi) j hj]
   congr 1
   omega
theorem JeF(h:w.ownsRow B 50 3 v ps.length (JaD ps)):opAt w v ps:=by
 have h':=h
 rcases h.2 with ⟨rfl,h2⟩|⟨g,cap,cur,rfl,h2,h3,h4,h5,h6,h7⟩
 . obtain rfl:ps=[]:=List.eq_nil_of_length_eq_zero h2
   exact⟨none,0,rfl,nlr _,Nat.zero_le _,fun h=>absurd rfl h⟩
 . refine⟨_,cap,rfl,h4,h5,fun _=>⟨g,0,rfl,(alt h3),fun i q hi=>?_⟩⟩
   have hlt:=(llt hi);have hc:=Jfz ps i q hi;refine⟨?_,?_,?_⟩
   . rw[Nat.zero_add,h'.cellAt _ (by omega)];exact hc 0 (by omega)
   . rw[Nat.zero_add,h'.cellAt _ (by omega)];exact hc 1 (by omega)
   . rw[Nat.zero_add,h'.cellAt _ (by omega)];exact hc 2 (by omega)
def opN (B:Nat) (w:World) (v:Value) (ps:List Pt):Prop:=opAt w v ps/\∀k,v.ownBlock=some k->B<=k/\∃cs fz,w.heap[k]?=some (.cells cs 50 fz)
theorem JeE(hB:C<=B)(h:w.ownsRow B 50 3 v ps.length (JaD ps)):opN C w v ps:=by
 refine⟨JeF h,fun k hk=>⟨Nat.le_trans hB (h.lt k hk).1,?_⟩⟩
 rcases h.2 with ⟨rfl,_⟩|⟨g,cap,cur,rfl,_,hg,_⟩
 . cases hk
 . obtain rfl:g=k:=osi hk
   exact⟨cur,_,hg⟩
theorem JbS(B:Nat)(w:World):opN B w (.slice none 0 0) []:=⟨⟨none,0,rfl,nlr _,Nat.zero_le _,fun h=>absurd rfl h⟩,fun k hk=>by cases hk⟩
theorem opN.mono(h:opN B w v ps)(hB:C<=B):opN C w v ps:=⟨h.1,fun k hk=>⟨Nat.le_trans hB (h.2 k hk).1,(h.2 k hk).2⟩⟩
def Jbc (p:Pt):Prop:=0<=p.keep/\0<=p.drop
def wtP (p:Pt):Int:=p.keep+p.drop+p.put.length
def wts (ps:List Pt):Int:=(ps.map wtP).sum
theorem Je3(ps:List Pt)(p:Pt):wts (ps++[p])=wts ps+wtP p:=by simp[wts]
theorem Jfi(h:∀p∈ps,Jbc p):0<=wts ps:=by
 induction ps with
 | nil=>simp[wts]
 | cons p ps ih =>
  have h1:=h p (List.mem_cons_self ..);have h2:=ih fun q hq=>h q (List.mem_cons_of_mem _ hq);unfold wts at h2 ⊢;rw[List.map_cons,List.sum_cons];unfold Jbc at h1;have:0<=wtP p:=by unfold wtP;omega
  omega
theorem Jht(h:∀p∈ps,Jbc p)(k:Nat):wts (ps.take k)<=wts ps:=by
 have h1:wts ps=wts (ps.take k)+wts (ps.drop k):=by
  unfold wts;rw[←List.sum_append,←List.map_append,List.take_append_drop]
 have h2:=Jfi (ps:=ps.drop k) fun q hq=>h q (List.mem_of_mem_drop hq);omega
structure Bd (s:NSt) (T:Int) (n:Nat):Prop where
 put:(s.put.length:Int)<=T
 d0:0<=s.drop
 dT:s.drop<=T
 keep:∀q∈s.out,0<=q.keep/\q.keep<=T
 len:s.out.length<=3*n
theorem bd0:Bd nst0 0 0:=⟨by simp[nst0],by simp[nst0],by simp[nst0],by simp[nst0],by simp[nst0]⟩
theorem Bd.add{s:NSt}{T:Int}{n:Nat}(h:Bd s T n)(p:Pt)(hp:Jbc p):Bd (addP s p) (T+wtP p) (n+1):=by
 obtain⟨k,d,q⟩:=p;obtain⟨p1,p2⟩:=hp;obtain⟨h1,h2,h3,h4,h5⟩:=h;have hw:wtP ⟨k,d,q⟩=k+d+q.length:=rfl;have e1:(0:Int)<=k:=p1;have e2:(0:Int)<=d:=p2;have hT:0<=T:=Int.le_trans h2 h3;rw[hw];unfold addP
 by_cases hk:k=0
 . rw [if_pos hk]
   refine⟨?_,?_,?_,?_,?_⟩
   . show((s.put++q).length:Int)<=_
     rw[List.length_append];omega
   . show 0<=s.drop+d;omega
   . show s.drop+d<=_;omega
   . intro x hx
     have:=h4 x hx;omega
   . show s.out.length<=_;omega
 . rw [if_neg hk]
   obtain⟨L,hL⟩:∃L,Jaq ⟨s.out,s.put++q,s.drop+d⟩=L:=⟨_,rfl⟩
   have hm:∀x∈L,0<=x.keep/\x.keep<=T:=by
    intro x hx;rw[←hL,Jaq]at hx;simp only[List.mem_append]at hx
    rcases hx with hx|hx|hx
    . exact h4 x hx
    . split at hx
      . simp at hx
      . rw[List.mem_singleton.1 hx];exact⟨by simp,hT⟩
    . split at hx
      . simp at hx
      . rw[List.mem_singleton.1 hx];exact⟨by simp,hT⟩
   have hl:L.length<=s.out.length+2:=by
    rw[←hL,Jaq];simp only[List.length_append]
    split<;>split<;>simp
   have key:(∀x∈JaT L k,0<=x.keep/\x.keep<=T+k)/\(JaT L k).length<=L.length+1:=by
    have hsnoc:(∀x∈L++[⟨k,0,[]⟩],0<=x.keep/\x.keep<=T+k)/\(L++[(⟨k,0,[]⟩:Pt)]).length<=L.length+1:=by
     refine⟨fun x hx=>?_,by simp⟩
     rcases List.mem_append.1 hx with hx|hx
     . have:=hm x hx;omega
     . rw[List.mem_singleton.1 hx];exact⟨e1,by show k<=_;omega⟩
    unfold JaT
    split
    . rename_i q0 hq0
      split
      . rename_i hq1
        have hin:q0∈L:=List.mem_of_getLast? hq0;have:=hm q0 hin;refine⟨fun x hx=>?_,by simp⟩
        rcases List.mem_append.1 hx with hx|hx
        . have:=hm x (List.dropLast_subset _ hx);omega
        . rw[List.mem_singleton.1 hx];exact⟨by show 0<=q0.keep+k;omega,by show q0.keep+k<=_;omega⟩
      . exact hsnoc
    . exact hsnoc
   rw[hL];refine⟨?_,by simp,?_,?_,?_⟩
   . show((0:Nat):Int)<=_;omega
   . show(0:Int)<=_;omega
   . intro x hx
     have:=key.1 x hx;show 0<=x.keep/\x.keep<=T+(k+d+q.length);omega
   . have:=key.2
     show(JaT L k).length<=_;omega
theorem bds(ps:List Pt)(h:∀p∈ps,Jbc p):Bd (ps.foldl addP nst0) (wts ps) ps.length:=by
 have key:∀n,n<=ps.length->Bd ((ps.take n).foldl addP nst0) (wts (ps.take n)) n:=by
  intro n
  induction n with
  | zero=>intro _;exact bd0
  | succ n ih =>
   intro hn;have:=ih (by omega);rw[List.take_succ_eq_append_getElem (by omega),List.foldl_append,Je3];exact this.add _ (h _ (List.getElem_mem _))
 have:=key ps.length (nlr _);rwa[List.take_length]at this
theorem Je1(v:Value)(ps:List Pt)(w:World)(hr:opAt w v ps)(hs:∀p∈ps,Jbc p)(hw:wts ps<1000000000)(hl:ps.length<10000000) :
    Calls Tryz.prog 224 #[v] w fun e w'=>∃v',e=.returned v'/\w'.ownsRow w.heap.size 50 3 v' (Jac ps).length (JaD (Jac ps))/\Below w.heap.size w w'/\w.heap.size+4<=w'.heap.size:=by
 obtain⟨p,c,rfl,r1,r2,r3⟩:=hr;obtain⟨n,hn⟩:∃n,n=ps.length:=⟨_,rfl⟩;rw[←hn]at r1 hl ⊢;have HN:=hdz hn;clear hn
 have R3:Hid (ps≠[]->∃b o,p=some ⟨b,o,none⟩/\b<w.heap.size/\∀i q,ps[i]?=some q ->
  w.cell? ⟨b,o+i*3,none⟩=some (.int .i64 q.keep)/\w.cell? ⟨b,o+i*3+1,none⟩=some (.int .i64 q.drop)/\w.cell? ⟨b,o+i*3+2,none⟩=some (.string ⟨q.put.toArray⟩)):=r3
 have HS:=hdz hs;have HW:=hdz hw;clear r3 hs hw
 go_enter Tryz.func224,Tryz.ntmps224
 go_wp2_with (go_at_call 222;refine(Jfx w).mono ?_;rintro e w1 ⟨rfl,hG1,hz1,hb1⟩;have HG1:Hid (gath (w.heap.size+4) w1 w.heap.size nst0):=hG1 _ _ (brf _ _) (nlr _) (by omega);clear hz1;have HB1:=hdz hb1;clear hG1 hb1)
 go_loopw [13] (fun i wr=>∃(k:Nat),k<=n/\i=.int .i64 k/\gath (w.heap.size+4) wr w.heap.size ((ps.take k).foldl addP nst0)/\Below w.heap.size w wr) (fun i _=>n - (intOf i).toNat)
 case atStart=>exact⟨0,Nat.zero_le _,rfl,HG1.out,HB1.out⟩
 case round =>
  obtain⟨k,hk,rfl,hg,hwr⟩:=hrel
  by_cases hlt:k<n
  . have hkr:k<ps.length:=by rw[←HN.out];exact hlt
    have hne:ps≠[]:=by intro e;rw[e]at hkr;exact absurd hkr (Nat.not_lt_zero _)
    obtain⟨b,o,rfl,hbw,hcell⟩:=R3.out hne;obtain⟨c0,c1,c2⟩:=hcell k ps[k] (lgg hkr);have g0:=(hwr.cell (p:=⟨b,o+k*3,none⟩) hbw).trans c0;have g1:=(hwr.cell (p:=⟨b,o+k*3+1,none⟩) hbw).trans c1;have g2:=(hwr.cell (p:=⟨b,o+k*3+2,none⟩) hbw).trans c2;have hB:=bds (ps.take k) fun q hq=>HS.out q (List.mem_of_mem_take hq);have hB1:=bds (ps.take (k+1)) fun q hq=>HS.out q (List.mem_of_mem_take hq);have hT1:=Jht HS.out (k+1);have hT0:=Jht HS.out k;have hT2:=HW.out;have hsp:=HS.out ps[k] (List.getElem_mem _);have hts:ps.take (k+1)=ps.take k++[ps[k]]:=List.take_succ_eq_append_getElem hkr;have hlk:(ps.take k).length<=k:=by rw[List.length_take];omega
    rw[hts,Je3]at hT1;have hnx:(ps.take (k+1)).foldl addP nst0=addP ((ps.take k).foldl addP nst0) ps[k]:=by rw[hts,List.foldl_append];rfl
    have hwp:wtP ps[k]=ps[k].keep+ps[k].drop+ps[k].put.length:=rfl;have HNX:=hdz hnx;clear hcell c0 c1 c2 hts hnx hB1;generalize ps[k]=q at *;obtain⟨s,hse⟩:∃s,s=(ps.take k).foldl addP nst0:=⟨_,rfl⟩;rw[←hse]at hg hB HNX;obtain⟨sp1,sp2⟩:=hsp;have hsize:=hwr.size;have CA:Hid (∀wx,Below wr.heap.size wr wx->Calls Tryz.prog 265 #[JaO q,.pointer (some ⟨w.heap.size+1,0,none⟩),.pointer (some ⟨w.heap.size+2,0,none⟩),.pointer (some ⟨w.heap.size+3,0,none⟩),.pointer (some ⟨w.heap.size,0,none⟩)] wx fun e w'=>(∃v,e=.returned v)/\gath (w.heap.size+4) w' w.heap.size (addP s q)/\Below w.heap.size wx w'):=by
     intro wx hbx;have h1:=hB.put;have h2:=hB.d0;have h3:=hB.dT;have h5:=hB.len;exact Jtc w.heap.size s q wx (Jbx hg hbx) (by omega) h2 (by omega) sp2 sp1 (by omega) (fun x hx=>by have:=hB.keep x hx;omega) (by omega)
    have HWR:=hdz hwr;unfold JaO at CA;clear hg hB hT1 hT0 hT2 hlk hwp hse sp1 sp2 hwr HG1 HB1
    go_wp2_with (go_at_call 265;refine(CA.out _ ((brf _ wr).alloc (nlr _) _)).mono ?_;rintro e w2 ⟨⟨v2,rfl⟩,hg2,hb2⟩;have HG2:=hdz hg2;have HB2:Hid (Below w.heap.size w w2):=(HWR.out.alloc hsize _).trans hb2;clear hg2 hb2)
    go_roundw
    case rel=>exact⟨k+1,by omega,by go_num,by rw[HNX.out];exact HG2.out,HB2.out⟩
    case measure=>simp[intOf];omega
  . have e:ps.take k=ps:=List.take_of_length_le (by rw[←HN.out];omega)
    rw[e]at hg;have hB:=bds ps HS.out;have hT2:=HW.out
    have cD:Hid (Calls Tryz.prog 266 #[.pointer (some ⟨w.heap.size+3,0,none⟩),.pointer (some ⟨w.heap.size,0,none⟩)] wr fun e w'=>∃v,e=.returned v/\w'.ownsRow (w.heap.size+4) 50 3 v (Jac ps).length (JaD (Jac ps))/\Below w.heap.size wr w') :=
     JsA w.heap.size _ wr hg (by have:=hB.len;have:=HN.out;omega) (by have:=hB.put;omega)
    have hlt4:=Jb7 hg;clear e hg hB hT2 R3 HS HW HG1 HB1
    go_wp2_with (go_at_call 266;refine cD.out.mono ?_;rintro e w2 ⟨v2,rfl,ho2,hb2⟩)
    obtain⟨p2,q2,rfl⟩:=Jae ho2;go_ret;exact⟨_,rfl,JcJ ho2 (by omega),hwr.trans hb2,by have:=hb2.size;omega⟩
end
end Go.Proofs.YtedgnlgjmnccgabGreatDoor
