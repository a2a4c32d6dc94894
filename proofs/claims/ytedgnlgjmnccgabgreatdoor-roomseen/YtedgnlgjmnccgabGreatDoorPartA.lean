/-
  A part of the texts that the proof uses.
-/
import Derived.WalkKit
import Derived.BigQuiet
import Derived.OrdersIn
import Derived.CallsIn
import Derived.TacticsIn
import Derived.RangeFuncCalls
import Derived.RegionTactic
import Derived.Shelf.Strings.Builder1
import Derived.Shelf.Strings.Builder2
import Derived.Shelf.Small.Utf8
import Derived.Shelf.Strings.BuilderF
import Derived.Shelf.Strings.BuilderK
import Derived.Shelf.Utf8.AppendRunePlain
import Derived.Shelf.Utf8.RuneCount
import Derived.Shelf.Strings.Builder2Cap
import Derived.Shelf.LaysM
import Derived.Shelf.Strconv.Clone
import Derived.Shelf.Strings.Search1
import Derived.Shelf.Strings.Search2
import Derived.Shelf.Strings.Search3
import Derived.Shelf.Strings.Cut
import Derived.Shelf.Strings.Count
import Derived.Shelf.Strings.Shaped
import Derived.Shelf.Strings.RuneCount
import Derived.Shelf.Unicode.DecodeSlow
import Derived.Shelf.Unicode.DecodeAny
import Derived.Shelf.Strings.BuilderCap
import Derived.Test.YtedgnlgjmnccgabGreatDoorProg
import Derived.Lib.DecodeN
import Derived.Lib.RuneBytes
import Derived.Lib.Strings
import Derived.WalkSpells
import Derived.WalkLawsBesides
import Derived.OwnWalk
import Derived.Lib.QuoteBits
import Derived.Laws.IdiomStrings
import Derived.Lib.UnsafeStr
import Derived.Deep.QuietTactic
import Derived.Deep.RegionWith
import Derived.Shelf.Pu.Clone
import Derived.RangeFuncNested
import Derived.RangeFuncBound
import Derived.RangeFuncLeaves
import Derived.OwnWalkIn
import Derived.TacticsInMore
import Derived.LoopNIn
import Derived.LoopIn
import Derived.RangeFuncRecord
import Derived.Lib.Builder
set_option maxRecDepth 100000
set_option maxHeartbeats 40000000
set_option linter.unusedVariables false
namespace Go.Proofs.YtedgnlgjmnccgabGreatDoor
open Go.RowKit
theorem nlr (n : Nat) : n ≤ n := Nat.le_refl n
theorem chp {w : World} {b : Nat} {cs : Array Value} {T : TypeId} {fr : Nat × Nat} (hb : w.heap[b]? = some (.cells cs T fr)) (j : Nat) : w.cell? ⟨b, j, none⟩ = cs[j]? := Lib.cell_of_heap hb j
theorem brf (n : Nat) (w : World) : Below n w w := Below.refl n w
theorem wsa (w : World) (o : Obj) : (w.alloc o).heap.size = w.heap.size + 1 := World.size_alloc w o
theorem hdz {p : Prop} (h : p) : Hid p := h
theorem alt {α : Type} {xs : Array α} {i : Nat} {a : α} (h : xs[i]? = some a) : i < xs.size := (Array.getElem?_eq_some_iff.1 h).1
theorem llt {α : Type} {xs : List α} {i : Nat} {a : α} (h : xs[i]? = some a) : i < xs.length := (List.getElem?_eq_some_iff.1 h).1
theorem lgg {α : Type} {xs : List α} {i : Nat} (h : i < xs.length) : xs[i]? = some xs[i] := List.getElem?_eq_getElem h
theorem blt (w : World) (p : Addr) {v : Value} (h : w.cell? p = some v) : p.block < w.heap.size := World.block_lt_of_cell? w p h
theorem osi {α : Type} {a b : α} (h : some a = some b) : a = b := Option.some.inj h
end Go.Proofs.YtedgnlgjmnccgabGreatDoor
namespace Go.Proofs.YtedgnlgjmnccgabGreatDoor
section
open Go.RowKit
structure Growth (W:World) (G:World->World):Prop where
 below:∀x,Below W.heap.size W (G x)
 onto:∀w,Below W.heap.size W w->G w=w
open Classical in
theorem Jet(W:World):∃G,Growth W G :=
 ⟨fun x=>if Below W.heap.size W x then x else W,fun x=>by
  show Below W.heap.size W (if Below W.heap.size W x then x else W)
  split
  . assumption
  . exact brf _ _,fun w h=>if_pos h⟩
theorem Growth.cell{W:World}{G:World->World}(hG:Growth W G){b o:Nat}{v:Value}(h:W.cell? ⟨b,o,none⟩=some v):∀x,(G x).cell? ⟨b,o,none⟩=some v :=
 fun x=>((hG.below x).cell (p:=⟨b,o,none⟩) (blt W _ h)).trans h
section
variable {P : Program} {ops : Array Oper} {md : Region.Mode} {C : World → Prop} {l0 n : Nat}
def Jj2:List Oper->Bool
 | []=>true
 | o :: l=>(match o.op with | .defer _=>false | _=>true) && Jj2 l
theorem JiA:∀{l:List Oper},Jj2 l=true->∀(i:Nat)(o:Oper),l[i]?=some o->∀c,o.op≠.defer c
 | [],_,i,o,hi=>by simp at hi
 | o' :: l,h,i,o,hi=>by
  rw[Jj2,Bool.and_eq_true]at h
  cases i with
  | zero =>
   simp at hi;subst hi;intro c e;rw[e]at h;exact absurd h.1 (by simp)
  | succ i=>exact JiA h.2 i o (by simpa using hi)
end
end
section
open Go.RowKit
section
variable {P : Program} {ops : Array Oper} {md : Region.Mode} {m : Nat} {Q : Exit → Act → World → Prop}
def JaV (P:Program) (o:Oper) (a:Act) (K:Act->World->Prop):Result Next->Prop
 | .ok (.value v) w'=>K (a.put o.dst v) w'
 | .ok .skip w'=>K (a.put o.dst undef) w'
 | .ok (.enter f args) w'=>Calls P f args w' fun e w''=>∃v,e=.returned v/\K (a.put o.dst v) w''
 | _=>False
theorem JlP{o:Oper}{a:Act}{K K':Act->World->Prop}(h:∀a w,K a w->K' a w){r:Result Next}(hh:JaV P o a K r):JaV P o a K' r:=by
 cases r with
 | ok n w =>
  cases n<;>simp only[JaV]at hh ⊢
  case value=>exact h _ _ hh
  case skip=>exact h _ _ hh
  case enter=>exact hh.mono fun e w ⟨v,e1,e2⟩=>⟨v,e1,h _ _ e2⟩
 | halt x w=>simp only[JaV]at hh
theorem Jif{o:Oper}{a:Act}{K:Act->World->Prop}{r:Result Next}(hh:JaV P o a K r):o.upon P a K Q r:=by
 cases r with
 | ok n w =>
  cases n<;>simp only[JaV]at hh<;>simp only[Oper.upon]
  case value=>exact hh
  case skip=>exact hh
  case enter=>exact hh.mono fun e w ⟨v,e1,e2⟩=>by subst e1;exact e2
 | halt x w=>simp only[JaV]at hh
def opG (P:Program) (ops:Array Oper) (i:Nat) (K:Act->World->Prop) (a:Act) (w:World):Prop :=
 match ops[i]? with
 | none=>K a w
 | some o=>if Region.wanted o (yielded ops a.tmps) then JaV P o a K ((execOp a.eval o).run P w) else K (a.put o.dst undef) w
theorem JeQ{i:Nat}{K K':Act->World->Prop}{a:Act}{w:World}(h:∀a w,K a w->K' a w)(hh:opG P ops i K a w):opG P ops i K' a w:=by
 unfold opG at *
 split
 . rename_i ho;simp only[ho]at hh;exact h _ _ hh
 . rename_i o ho
   simp only[ho]at hh
   split
   . rename_i hw;simp only[hw,if_true]at hh;exact JlP h hh
   . rename_i hw;simp only[hw]at hh;exact h _ _ hh
def anyG (P:Program) (md:Region.Mode) (ops:Array Oper) (m:Nat) (Q:Exit->Act->World->Prop):Nat->Array Bool->Act->World->Prop
 | 0,listed,a,w=>Region.ready md ops listed=[]/\∀w',Below w.heap.size w w'->Q .normal a w'
 | fuel+1,listed,a,w =>
  (Region.ready md ops listed=[]->∀w',Below w.heap.size w w'->Q .normal a w') /\
  ∀i∈Region.ready md ops listed,∀w',Below w.heap.size w w'->opG P ops i (fun a' w''=>(i<m->Below w'.heap.size w' w'')/\anyG P md ops m Q fuel (listed.setIfInBounds i true) a' w'') a w'
theorem JhO:∀(fuel:Nat)(listed:Array Bool)(a:Act)(w:World),anyG P md ops m Q fuel listed a w->wpAny P md ops Q fuel listed a w
 | 0,_,_,w,h=>⟨h.1,h.2 w (brf _ _)⟩
 | fuel + 1,listed,a,w,h=>⟨fun h0=>h.1 h0 w (brf _ _),fun i hi=>by
     have h1:=h.2 i hi w (brf _ _);have h2:=JeQ (fun a' w'' hh=>JhO fuel _ a' w'' hh.2) h1;unfold opG at h2;unfold wpOp
     split
     . rename_i ho;simp only[ho]at h2;exact h2
     . rename_i o ho
       simp only[ho]at h2
       split
       . rename_i hw;simp only[hw,if_true]at h2;exact .inl (Jif h2)
       . rename_i hw;simp only[hw]at h2;exact h2⟩
theorem Jja:∀{fuel:Nat}{listed:Array Bool}{a:Act}{w w2:World},anyG P md ops m Q fuel listed a w->Below w.heap.size w w2->anyG P md ops m Q fuel listed a w2
 | 0,_,_,_,_,h,hb=>⟨h.1,fun w' hb'=>h.2 w' (hb.trans (hb'.mono hb.size))⟩
 | _+1,_,_,_,_,h,hb=>⟨fun h0 w' hb'=>h.1 h0 w' (hb.trans (hb'.mono hb.size)),fun i hi w' hb'=>h.2 i hi w' (hb.trans (hb'.mono hb.size))⟩
def Ja2 (P:Program) (w:World) (v:Value):Result Next->Prop
 | .ok (.value u) w'=>w'=w/\u=v
 | .ok .skip w'=>w'=w/\v=undef
 | .ok (.enter f args) w'=>w'=w/\Calls P f args w (fun e w''=>e=.returned v/\Below w.heap.size w w'')
 | _=>False
def Jdc (P:Program) (ops:Array Oper) (o:Oper) (v:Value) (a:Act) (w:World):Prop :=
 if Region.wanted o (yielded ops a.tmps) then ∀w',Below w.heap.size w w'->Ja2 P w' v ((execOp a.eval o).run P w') else v=undef
theorem Jgu{o:Oper}{v:Value}{a a':Act}{w w2:World}(hy:Jdc P ops o v a w)(he:execOp a'.eval o=execOp a.eval o)
    (hw:Region.wanted o (yielded ops a'.tmps)=Region.wanted o (yielded ops a.tmps)) (hb:Below w.heap.size w w2):Jdc P ops o v a' w2:=by
 unfold Jdc at *;rw[hw]
 split
 . rename_i h
   rw[if_pos h]at hy;intro w' hb';rw[he];exact hy w' (hb.trans (hb'.mono hb.size))
 . rename_i h
   rw[if_neg h]at hy;exact hy
theorem Jf9{i:Nat}{o:Oper}{v:Value}{a:Act}{w w':World}(hi:ops[i]?=some o)(hy:Jdc P ops o v a w)(hb:Below w.heap.size w w'){K:Act->World->Prop}
    (h:∀w'',Below w'.heap.size w' w''->K (a.put o.dst v) w''):opG P ops i K a w':=by
 unfold opG;simp only[hi];unfold Jdc at hy
 split
 . rename_i hw
   rw[if_pos hw]at hy;have h3:=hy w' hb;generalize (execOp a.eval o).run P w'=r at *
   cases r with
   | ok n w2 =>
    cases n<;>simp only[Ja2]at h3<;>simp only[JaV]
    case value u =>
     obtain⟨e1,e2⟩:=h3;rw[e2];exact h _ (by rw[e1];exact brf _ _)
    case skip =>
     obtain⟨e1,e2⟩:=h3;rw[←e2];exact h _ (by rw[e1];exact brf _ _)
    case enter f args =>
     obtain⟨e1,hc⟩:=h3;rw[e1];exact hc.mono fun e w'' ⟨he,hw''⟩=>⟨v,he,h _ hw''⟩
   | halt x w2=>simp only[Ja2]at h3
 . rename_i hw
   rw[if_neg hw]at hy;rw[←hy];exact h _ (brf _ _)
theorem opG_put{j:Nat}{oi oj:Oper}{v:Value}(hj:ops[j]?=some oj)(hap:oi.apart ops oj=true)(hsi:∀cs b,oi.op≠.select cs b)(hsj:∀cs b,oj.op≠.select cs b)
    {K:Act->World->Prop} {a:Act} {w0 w:World} (hy:Jdc P ops oi v a w0) (h:opG P ops j K (a.put oi.dst v) w) :
    opG P ops j (fun a' w'=>Jdc P ops oi v a' w0/\K (a'.put oi.dst v) w') a w:=by
 obtain⟨h1,h2,h3⟩:=Oper.apart_spec hap;have keep:∀u,Jdc P ops oi v (a.put oj.dst u) w0:=fun u=>Jgu hy (execOp_put oi hsi a oj.dst u h3) (wanted_put oi a oj.dst u h3) (brf _ _)
 unfold opG at *;simp only[hj]at *;rw[wanted_put oj a oi.dst v h1]at h
 split
 . rename_i hw
   simp only[hw,if_true]at h;rw[execOp_put oj hsj a oi.dst v h1]at h;generalize (execOp a.eval oj).run P w=r at *
   cases r with
   | ok n w2 =>
    cases n<;>simp only[JaV]at h ⊢
    case value u=>exact⟨keep u,by rw[←Act.put_comm a v u h2];exact h⟩
    case skip=>exact⟨keep _,by rw[←Act.put_comm a v undef h2];exact h⟩
    case enter f args=>exact h.mono fun e w'' ⟨u,e1,e2⟩=>⟨u,e1,keep u,by rw[←Act.put_comm a v u h2];exact e2⟩
   | halt x w2=>simp only[JaV]at h
 . rename_i hw
   simp only[hw]at h;exact⟨keep _,by rw[←Act.put_comm a v undef h2];exact h⟩
def Jg1 (md:Region.Mode) (ops:Array Oper) (m:Nat):Bool :=
 (List.range ops.size).all fun j=>j<m || match ops[j]? with
   | some o=>(List.range m).all fun i=>o.after.any fun e=>Region.binds md e && e.on==i
   | none=>true
theorem Jh1(h:Jg1 md ops m=true){j i:Nat}{o:Oper}(hj:ops[j]?=some o)(hm:¬j<m)(hi:i<m):∃e∈o.after,Region.binds md e=true/\e.on=i:=by
 unfold Jg1 at h;rw[List.all_eq_true]at h;have h1:=h j (List.mem_range.2 (alt hj));simp only[hj,hm,decide_false,Bool.false_or,List.all_eq_true,List.mem_range]at h1;obtain⟨e,he,hb⟩:=Array.any_eq_true'.1 (h1 i hi);rw[Bool.and_eq_true,beq_iff_eq]at hb;exact⟨e,he,hb.1,hb.2⟩
theorem Jof{i:Nat}{oi:Oper}{v:Value}(hi:ops[i]?=some oi)(him:i<m)(hsel:∀(j:Nat)(o:Oper) cs b,ops[j]?=some o->o.op≠.select cs b)(hlate:Jg1 md ops m=true) :
    ∀ (fuel:Nat) (listed:Array Bool) (a:Act) (w:World),
     (∀j oj,ops[j]?=some oj->j≠i->listed.getD j true=false->(∀e∈oj.after,Region.binds md e=true->e.on≠i)->oi.apart ops oj=true) ->
     i∈Region.ready md ops listed->Jdc P ops oi v a w ->
     anyG P md ops m Q fuel (listed.setIfInBounds i true) (a.put oi.dst v) w->anyG P md ops m Q (fuel+1) listed a w:=by
 intro fuel
 induction fuel with
 | zero =>
  intro listed a w _ hr hy H;refine⟨fun h=>(by rw[h]at hr;cases hr),fun j hj w' hb=>?_⟩
  by_cases hji:j=i
  . subst hji;exact Jf9 hi hy hb fun w'' hb'=>⟨fun _=>hb',Jja H (hb.trans (hb'.mono hb.size))⟩
  . have:=ready_mono hj hji
    rw[H.1]at this
    cases this
 | succ fuel ih =>
  intro listed a w hfree hr hy H;refine⟨fun h=>(by rw[h]at hr;cases hr),fun j hj w' hb=>?_⟩
  by_cases hji:j=i
  . subst hji;exact Jf9 hi hy hb fun w'' hb'=>⟨fun _=>hb',Jja H (hb.trans (hb'.mono hb.size))⟩
  . have h1:=H.2 j (ready_mono hj hji) w' hb
    obtain⟨hjun,oj,hoj,hall⟩:=mem_ready.1 hj;have hnot:∀e∈oj.after,Region.binds md e=true->e.on≠i:=fun e he hb heq=>by
     have h1:=hall e he hb;have h0:=(mem_ready.1 hr).1;rw[heq]at h1
     rcases Nat.lt_or_ge i listed.size with h' | h'
     . simp[h']at h0 h1;rw[h0]at h1;cases h1
     . simp[Array.getElem?_eq_none h']at h1
    have hjm:j<m:=by
     by_cases hjm:j<m
     . exact hjm
     . obtain⟨e,he,hb,hon⟩:=Jh1 hlate hoj hjm him
       exact absurd hon (hnot e he hb)
    have h2:=opG_put hoj (hfree j oj hoj hji hjun hnot) (fun cs b=>hsel i oi cs b hi) (fun cs b=>hsel j oj cs b hoj) hy h1
    have hfree':∀k ok,ops[k]?=some ok->k≠i->(listed.setIfInBounds j true).getD k true=false ->
        (∀e∈ok.after,Region.binds md e=true->e.on≠i)->oi.apart ops ok=true:=fun k ok hk hki hun hno=>by
     refine hfree k ok hk hki ?_ hno
     by_cases hjk:j=k
     . subst hjk;exact hjun
     . rw[getD_set_ne true hjk]at hun;exact hun
    refine JeQ (fun a' w'' h3=>?_) h2;obtain⟨h3y,h3g,h3a⟩:=h3;have hg:=h3g hjm;refine⟨fun _=>hg,ih (listed.setIfInBounds j true) a' w'' hfree' (ready_mono hr (Ne.symm hji)) (Jgu h3y rfl rfl (hb.trans (hg.mono hb.size))) ?_⟩;rw[Array.setIfInBounds_comm _ _ hji];exact h3a
theorem Jle{i fuel:Nat}{oi:Oper}{v:Value}{listed:Array Bool}{a:Act}{w:World}(hi:ops[i]?=some oi)(him:i<m)(hs:(Region.noSelect ops && Jg1 md ops m)=true)
    (hf:(Region.free md ops listed i && (Region.ready md ops listed).contains i)=true) (hy:Jdc P ops oi v a w) (H:anyG P md ops m Q fuel (listed.setIfInBounds i true) (a.put oi.dst v) w):anyG P md ops m Q (fuel+1) listed a w:=by
 rw[Bool.and_eq_true]at hs hf;exact Jof hi him (Region.noSelect_spec hs.1) hs.2 fuel listed a w (Region.free_spec hi hf.1) (by simpa using hf.2) hy H
theorem JaX{i fuel:Nat}{o:Oper}{listed:Array Bool}{a:Act}{w:World}{G:World->World}(hG:Growth w G)(hi:ops[i]?=some o)(him:decide (i<m)=true)(hs:(Region.noSelect ops && Jg1 md ops m)=true)
    (hf:(Region.free md ops listed i && (Region.ready md ops listed).contains i)=true)
    (h:∀K:Act->Prop,(∀a,anyG P md ops m Q fuel (listed.setIfInBounds i true) a w->K a)->if Region.wanted o (yielded ops a.tmps) then ∃v,(∀x,Ja2 P (G x) v ((execOp a.eval o).run P (G x)))/\K (a.put o.dst v) else K (a.put o.dst undef)) :
    anyG P md ops m Q (fuel+1) listed a w:=by
 have h1:=h _ fun _ h=>h
 have him':i<m:=of_decide_eq_true him
 split at h1
 . rename_i hw
   obtain⟨v,h2,h3⟩:=h1;refine Jle hi him' hs hf ?_ h3;unfold Jdc;rw[if_pos hw];intro w' hb;have:=h2 w';rw[hG.onto w' hb]at this;exact this
 . rename_i hw
   refine Jle hi him' hs hf ?_ h1;unfold Jdc;rw[if_neg hw]
theorem JjM{fuel:Nat}{listed:Array Bool}{a:Act}{w:World}(hr:Region.ready md ops listed=[])(h:∀w',Below w.heap.size w w'->Q .normal a w'):anyG P md ops m Q fuel listed a w:=by
 cases fuel with
 | zero=>exact⟨hr,h⟩
 | succ n=>exact⟨fun _=>h,fun i hi=>(by rw[hr]at hi;cases hi)⟩
theorem Jfu{id:Nat}{a:Act}{w:World}{l:List Oper}(m n:Nat)(hm:P.follows .mixedOrders=true)(hn:l.length=n)
    (h:∀w',Below w.heap.size w w'->anyG P .any l.toArray m Q n (Array.replicate n false) a w'):(Code.region id l.toArray true).wp P Q a w :=
 wp_region_any hm (JhO _ _ _ _ (by subst hn;simpa using h { w with drawn:=w.drawn+1 } (Below.drew (brf _ w))))
end
end
end Go.Proofs.YtedgnlgjmnccgabGreatDoor
namespace Go.Proofs
open Go.Shelf
def Tryz.lays119_ren:Go.Shelf.Ren:=⟨fun | 119=>162 | n=>n,fun | 21=>21 | 4=>4 | n=>n,fun | n=>n⟩
theorem Tryz.lays119:Go.Proofs.Lays.n119 Tryz.prog Tryz.lays119_ren:={
 mixed:=by kernel_rfl
 f119:=Tryz.func162.trans (congrArg some (by kernel_rfl))
 t4:=Tryz.underlying4
 a4:=Tryz.isAgg4
 z4:=Tryz.sizeOf4
 v4:=Tryz.zeroValue4
 t21:=Tryz.underlying21
 a21:=Tryz.isAgg21
 z21:=Tryz.sizeOf21
 v21:=Tryz.zeroValue21 }
theorem Tryz.utf8_ValidRune(r:Int)(w:World) :
    Calls Tryz.prog 162 #[.int .i32 r] w fun e w'=>e=.returned (.bool (Lib.validRune r))/\w'=w:=Any.utf8_ValidRune Tryz.lays119 r w
def Tryz.lays242_ren:Go.Shelf.Ren:=⟨fun | 242=>164 | 278=>215 | n=>n,fun | 37=>158 | 21=>21 | 51=>325 | 4=>4 | 5=>5 | 46=>86 | n=>n,fun | n=>n⟩
theorem Tryz.lays242:Go.Proofs.Lays.n242 Tryz.prog Tryz.lays242_ren:={
 mixed:=by kernel_rfl
 f242:=Tryz.func164.trans (congrArg some (by kernel_rfl))
 f278:=Tryz.func215.trans (congrArg some (by kernel_rfl))
 t4:=Tryz.underlying4
 a4:=Tryz.isAgg4
 z4:=Tryz.sizeOf4
 v4:=Tryz.zeroValue4
 t5:=Tryz.underlying5
 a5:=Tryz.isAgg5
 z5:=Tryz.sizeOf5
 v5:=Tryz.zeroValue5
 t21:=Tryz.underlying21
 a21:=Tryz.isAgg21
 z21:=Tryz.sizeOf21
 v21:=Tryz.zeroValue21
 t37:=Tryz.underlying158
 a37:=Tryz.isAgg158
 z37:=Tryz.sizeOf158
 v37:=Tryz.zeroValue158
 t46:=Tryz.underlying86
 a46:=Tryz.isAgg86
 z46:=Tryz.sizeOf86
 v46:=Tryz.zeroValue86
 t51:=Tryz.underlying325
 a51:=Tryz.isAgg325
 z51:=Tryz.sizeOf325
 v51:=Tryz.zeroValue325 }
open Go.RowKit in
theorem Tryz.utf8_AppendRune_plain(B:Nat)(v:Value)(n:Nat)(xs:List Value)(r:Int)(hr0: -2147483648<=r)(hr1:r<=2147483647)(w:World)(hown:w.ownsRow B 5 1 v n xs)(hlen:n+4<=140737488355328)(hBw:B<=w.heap.size) :
    Calls Tryz.prog 164 #[v,.int .i32 r] w fun e w'=>∃v',e=.returned v'/\w'.ownsRow B 5 1 v' (n+(Lib.runeCells r).length) (xs++Lib.runeCells r)/\∃o,(w.alloc o).grownBy w' v.ownBlock:=Any.utf8_AppendRune_plain Tryz.lays242 (by kernel_rfl) B v n xs r hr0 hr1 w hown hlen hBw
def Tryz.lays260_ren:Go.Shelf.Ren:=⟨fun | 260=>230 | n=>n,fun | 9=>9 | 21=>21 | 3=>3 | 4=>4 | 5=>5 | 119=>320 | 0=>0 | 46=>86 | 139=>323 | 138=>322 | n=>n,fun | 3=>2 | 4=>3 | n=>n⟩
theorem Tryz.lays260:Go.Proofs.Lays.n260 Tryz.prog Tryz.lays260_ren:={
 mixed:=by kernel_rfl
 f260:=Tryz.func230.trans (congrArg some (by kernel_rfl))
 t0:=Tryz.underlying0
 a0:=Tryz.isAgg0
 z0:=Tryz.sizeOf0
 v0:=Tryz.zeroValue0
 t3:=Tryz.underlying3
 a3:=Tryz.isAgg3
 z3:=Tryz.sizeOf3
 v3:=Tryz.zeroValue3
 t4:=Tryz.underlying4
 a4:=Tryz.isAgg4
 z4:=Tryz.sizeOf4
 v4:=Tryz.zeroValue4
 t5:=Tryz.underlying5
 a5:=Tryz.isAgg5
 z5:=Tryz.sizeOf5
 v5:=Tryz.zeroValue5
 t9:=Tryz.underlying9
 a9:=Tryz.isAgg9
 z9:=Tryz.sizeOf9
 v9:=Tryz.zeroValue9
 t21:=Tryz.underlying21
 a21:=Tryz.isAgg21
 z21:=Tryz.sizeOf21
 v21:=Tryz.zeroValue21
 t46:=Tryz.underlying86
 a46:=Tryz.isAgg86
 z46:=Tryz.sizeOf86
 v46:=Tryz.zeroValue86
 t119:=Tryz.underlying320
 a119:=Tryz.isAgg320
 z119:=Tryz.sizeOf320
 t138:=Tryz.underlying322
 a138:=Tryz.isAgg322
 z138:=Tryz.sizeOf322
 v138:=Tryz.zeroValue322
 t139:=Tryz.underlying323
 a139:=Tryz.isAgg323
 z139:=Tryz.sizeOf323
 v139:=Tryz.zeroValue323
 g3:=by kernel_rfl
 g4:=by kernel_rfl }
def Tryz.lays197_ren:Go.Shelf.Ren:=⟨fun | 197=>193 | 260=>230 | n=>n,fun | 9=>9 | 21=>21 | 3=>3 | 4=>4 | 5=>5 | 105=>232 | 119=>320 | 0=>0 | 46=>86 | 139=>323 | 138=>322 | n=>n,fun | 3=>2 | 4=>3 | n=>n⟩
theorem Tryz.lays197:Go.Proofs.Lays.n197 Tryz.prog Tryz.lays197_ren:={
 mixed:=by kernel_rfl
 f197:=Tryz.func193.trans (congrArg some (by kernel_rfl))
 f260:=Tryz.func230.trans (congrArg some (by kernel_rfl))
 t0:=Tryz.underlying0
 a0:=Tryz.isAgg0
 z0:=Tryz.sizeOf0
 v0:=Tryz.zeroValue0
 t3:=Tryz.underlying3
 a3:=Tryz.isAgg3
 z3:=Tryz.sizeOf3
 v3:=Tryz.zeroValue3
 t4:=Tryz.underlying4
 a4:=Tryz.isAgg4
 z4:=Tryz.sizeOf4
 v4:=Tryz.zeroValue4
 t5:=Tryz.underlying5
 a5:=Tryz.isAgg5
 z5:=Tryz.sizeOf5
 v5:=Tryz.zeroValue5
 t9:=Tryz.underlying9
 a9:=Tryz.isAgg9
 z9:=Tryz.sizeOf9
 v9:=Tryz.zeroValue9
 t21:=Tryz.underlying21
 a21:=Tryz.isAgg21
 z21:=Tryz.sizeOf21
 v21:=Tryz.zeroValue21
 t46:=Tryz.underlying86
 a46:=Tryz.isAgg86
 z46:=Tryz.sizeOf86
 v46:=Tryz.zeroValue86
 t105:=Tryz.underlying232
 a105:=Tryz.isAgg232
 z105:=Tryz.sizeOf232
 v105:=Tryz.zeroValue232
 t119:=Tryz.underlying320
 a119:=Tryz.isAgg320
 z119:=Tryz.sizeOf320
 t138:=Tryz.underlying322
 a138:=Tryz.isAgg322
 z138:=Tryz.sizeOf322
 v138:=Tryz.zeroValue322
 t139:=Tryz.underlying323
 a139:=Tryz.isAgg323
 z139:=Tryz.sizeOf323
 v139:=Tryz.zeroValue323
 g3:=by kernel_rfl
 g4:=by kernel_rfl }
open Go.RowKit Go.Lib in
theorem Tryz.utf8_DecodeRuneInString(s:ByteArray)(w:World)(hT:Lib.Utf8Tabs 2 3 w) :
    Calls Tryz.prog 193 #[.string s] w fun e w'=>e=.returned (.tuple #[.int .i32 (Lib.decodeGo s).1,.int .i64 (Lib.decodeGo s).2])/\Below w.heap.size w w':=Any.utf8_DecodeRuneInString Tryz.lays197 s w hT
end Go.Proofs
namespace Go.Proofs.YtedgnlgjmnccgabGreatDoor
section
open Go.Lib
variable {l : List UInt8}{r n : Nat}{p : Nat × Nat}
def dec (l:List UInt8):Nat×Nat:=decodeN l.length (l.getD 0 0).toNat (l.getD 1 0).toNat (l.getD 2 0).toNat (l.getD 3 0).toNat
theorem Jrm(n b0 b1 b2 b3:Nat):1<=(decodeN n b0 b1 b2 b3).2:=by
 unfold decodeN
 repeat' split
 all_goals simp
theorem Jrl(n b0 b1 b2 b3:Nat):(decodeN n b0 b1 b2 b3).2<=4:=by
 unfold decodeN
 repeat' split
 all_goals simp
theorem decN_le(n b0 b1 b2 b3:Nat)(h:1<=n):(decodeN n b0 b1 b2 b3).2<=n:=by
 unfold decodeN
 repeat' split
 all_goals simp
 all_goals omega
theorem Jgk(l:List UInt8):1<=(dec l).2:=Jrm _ _ _ _ _
theorem JpF(l:List UInt8):(dec l).2<=4:=Jrl _ _ _ _ _
theorem JpG(h:l≠[]):(dec l).2<=l.length:=decN_le _ _ _ _ _ (by cases l<;>simp_all)
def badB (p:Nat×Nat):Bool:=p.1==65533 && p.2==1
def Jjr:Nat->List UInt8->List (Nat×Nat)×Bool
 | 0,_=>([],true)
 | n+1,l=>if l=[] then ([],true) else if badB (dec l) then ([],false) else (dec l :: (Jjr n (l.drop (dec l).2)).1,(Jjr n (l.drop (dec l).2)).2)
theorem Jho:∀(n m:Nat)(l:List UInt8),l.length<=n->l.length<=m->Jjr n l=Jjr m l
 | 0,m,l,hn,_=>by
  obtain rfl:l=[]:=List.eq_nil_of_length_eq_zero (by omega)
  cases m<;>simp[Jjr]
 | n+1,0,l,_,hm=>by
  obtain rfl:l=[]:=List.eq_nil_of_length_eq_zero (by omega);simp[Jjr]
 | n + 1,m+1,l,hn,hm=>by
  unfold Jjr
  by_cases h:l=[]
  . simp[h]
  . have h1:=Jgk l
    have h2:l.length≠0:=by simpa using h
    rw[Jho n m (l.drop (dec l).2) (by rw[List.length_drop];omega) (by rw[List.length_drop];omega)]
def scan (l:List UInt8):List (Nat×Nat)×Bool:=Jjr l.length l
theorem Jku(l:List UInt8)(h:l≠[]):scan l=if badB (dec l) then ([],false) else (dec l :: (scan (l.drop (dec l).2)).1,(scan (l.drop (dec l).2)).2):=by
 have h1:=Jgk l;have h2:l.length≠0:=by simpa using h
 unfold scan;rw[Jho l.length ((l.length - 1)+1) l (nlr _) (by omega),Jjr,if_neg h,Jho (l.length - 1) (l.drop (dec l).2).length _ (by rw[List.length_drop];omega) (nlr _)]
theorem Jf3:scan []=([],true):=rfl
theorem JgP(h:l≠[])(hb:badB (dec l)=true):scan l=([],false):=by rw[Jku l h,hb];rfl
theorem Je2(h:l≠[])(hb:badB (dec l)=false):scan l=(dec l :: (scan (l.drop (dec l).2)).1,(scan (l.drop (dec l).2)).2):=by
 rw[Jku l h,hb];rfl
def Jaw (r:Nat):Prop:=r<55296\/(57344<=r/\r<=1114111)
def enc (r:Nat):List UInt8:=encodeRune r
theorem enc1(h:r<=127):enc r=[r.toUInt8]:=by
 unfold enc encodeRune;rw[encodeRuneZ_one (by omega) (by omega)];simp
theorem enc2(h0:128<=r)(h1:r<=2047):enc r=[(192+r / 64).toUInt8,(128+r % 64).toUInt8]:=by
 unfold enc encodeRune;rw[encodeRuneZ_two (by omega) (by omega)];simp only[List.map_cons,List.map_nil];rw[show(192+(r:Int) / 64).toNat=192+r / 64 by omega,show(128+(r:Int) % 64).toNat=128+r % 64 by omega]
theorem enc3(h:(2048<=r/\r<55296)\/(57343<r/\r<=65535)):enc r=[(224+r / 4096).toUInt8,(128+r / 64 % 64).toUInt8,(128+r % 64).toUInt8]:=by
 unfold enc encodeRune;rw[encodeRuneZ_three (by omega)];simp only[List.map_cons,List.map_nil];rw[show(224+(r:Int) / 4096).toNat=224+r / 4096 by omega,show(128+(r:Int) / 64 % 64).toNat=128+r / 64 % 64 by omega,show(128+(r:Int) % 64).toNat=128+r % 64 by omega]
theorem enc4(h0:65536<=r)(h1:r<=1114111):enc r=[(240+r / 262144).toUInt8,(128+r / 4096 % 64).toUInt8,(128+r / 64 % 64).toUInt8,(128+r % 64).toUInt8]:=by
 unfold enc encodeRune;rw[encodeRuneZ_four (by omega) (by omega)];simp only[List.map_cons,List.map_nil];rw[show(240+(r:Int) / 262144).toNat=240+r / 262144 by omega,show(128+(r:Int) / 4096 % 64).toNat=128+r / 4096 % 64 by omega,show(128+(r:Int) / 64 % 64).toNat=128+r / 64 % 64 by omega,show(128+(r:Int) % 64).toNat=128+r % 64 by omega]
theorem toU8(h:n<256):n.toUInt8.toNat=n:=by simp[Nat.toUInt8];omega
theorem Jjj{a:UInt8}(h:n=a.toNat):n.toUInt8=a:=by
 subst h;simp[Nat.toUInt8]
theorem Jrk(h:l≠[])(hb:badB (dec l)=false):Jaw (dec l).1/\l.take (dec l).2=enc (dec l).1:=by
 revert hb;unfold badB dec Jaw;have z0:(l.getD 0 0).toNat<256:=(l.getD 0 0).toNat_lt;have z1:(l.getD 1 0).toNat<256:=(l.getD 1 0).toNat_lt;have z2:(l.getD 2 0).toNat<256:=(l.getD 2 0).toNat_lt;have z3:(l.getD 3 0).toNat<256:=(l.getD 3 0).toNat_lt;obtain⟨a,t,rfl⟩:=List.exists_cons_of_ne_nil h;unfold decodeN
 split
 . intro _
   refine⟨by simp only[List.getD_cons_zero]at *;omega,?_⟩;rw[enc1 (by omega)];simp
 split
 . rename_i c
   split
   . intro _
     obtain⟨c1,c2,c3⟩:=c;obtain⟨b,t,rfl⟩:∃b t',t=b :: t':=by cases t with|nil=>simp at c2|cons b t=>exact⟨b,t,rfl⟩
     simp only[List.getD_cons_zero,List.getD_cons_succ]at *;refine⟨by omega,?_⟩;rw[enc2 (by omega) (by omega)];simp only[List.take_succ_cons,List.take_zero];rw[Jjj (a:=a) (by omega),Jjj (a:=b) (by omega)]
   . intro hb;simp at hb
 split
 . rename_i c
   split
   . intro _
     obtain⟨c1,⟨c2,c3⟩,c4,c5⟩:=c;obtain⟨b,t,rfl⟩:∃b t',t=b :: t':=by cases t with|nil=>simp at c2|cons b t=>exact⟨b,t,rfl⟩
     obtain⟨d,t,rfl⟩:∃b t',t=b :: t':=by cases t with|nil=>simp at c4|cons b t=>exact⟨b,t,rfl⟩
     simp only[List.getD_cons_zero,List.getD_cons_succ]at *;refine⟨by omega,?_⟩;rw[enc3 (by omega)];simp only[List.take_succ_cons,List.take_zero];rw[Jjj (a:=a) (by omega),Jjj (a:=b) (by omega),Jjj (a:=d) (by omega)]
   . intro hb;simp at hb
 split
 . rename_i c
   split
   . intro _
     obtain⟨c1,⟨c2,c3⟩,⟨c4,c5⟩,c6,c7⟩:=c;obtain⟨b,t,rfl⟩:∃b t',t=b :: t':=by cases t with|nil=>simp at c2|cons b t=>exact⟨b,t,rfl⟩
     obtain⟨d,t,rfl⟩:∃b t',t=b :: t':=by cases t with|nil=>simp at c4|cons b t=>exact⟨b,t,rfl⟩
     obtain⟨e,t,rfl⟩:∃b t',t=b :: t':=by cases t with|nil=>simp at c6|cons b t=>exact⟨b,t,rfl⟩
     simp only[List.getD_cons_zero,List.getD_cons_succ]at *;refine⟨by omega,?_⟩;rw[enc4 (by omega) (by omega)];simp only[List.take_succ_cons,List.take_zero];rw[Jjj (a:=a) (by omega),Jjj (a:=b) (by omega),Jjj (a:=d) (by omega),Jjj (a:=e) (by omega)]
   . intro hb;simp at hb
 . intro hb;simp at hb
theorem JhD(hr:Jaw r)(t:List UInt8):dec (enc r++t)=(r,(enc r).length)/\badB (dec (enc r++t))=false:=by
 have key:dec (enc r++t)=(r,(enc r).length)/\((enc r).length=1->r<=127):=by
  unfold Jaw at hr
  by_cases h1:r<=127
  . rw[enc1 h1]
    simp only[dec,List.cons_append,List.nil_append,List.getD_cons_zero,toU8 (show r<256 by omega),List.length_cons,List.length_nil];exact⟨by simp[decodeN,show r<128 by omega],fun _=>h1⟩
  by_cases h2:r<=2047
  . rw[enc2 (by omega) h2]
    simp only[dec,List.cons_append,List.nil_append,List.getD_cons_zero,List.getD_cons_succ,toU8 (show 192+r / 64<256 by omega),toU8 (show 128+r % 64<256 by omega),List.length_cons,List.length_nil];refine⟨?_,by simp⟩;unfold decodeN;rw[if_neg (by omega),if_pos ⟨by omega,by omega,by omega⟩,if_pos (by omega)];simp;omega
  by_cases h3:r<=65535
  . rw[enc3 (by omega)]
    simp only[dec,List.cons_append,List.nil_append,List.getD_cons_zero,List.getD_cons_succ,toU8 (show 224+r / 4096<256 by omega),toU8 (show 128+r / 64 % 64<256 by omega),toU8 (show 128+r % 64<256 by omega),List.length_cons,List.length_nil];refine⟨?_,by simp⟩;unfold decodeN;rw[if_neg (by omega),if_neg (by omega),if_pos ⟨by omega,⟨by omega,by omega⟩,by omega,by omega⟩,if_pos (by omega)];simp;omega
  . rw[enc4 (by omega) (by omega)]
    simp only[dec,List.cons_append,List.nil_append,List.getD_cons_zero,List.getD_cons_succ,toU8 (show 240+r / 262144<256 by omega),toU8 (show 128+r / 4096 % 64<256 by omega),toU8 (show 128+r / 64 % 64<256 by omega),toU8 (show 128+r % 64<256 by omega),List.length_cons,List.length_nil];refine⟨?_,by simp⟩;unfold decodeN;rw[if_neg (by omega),if_neg (by omega),if_neg (by omega),if_pos ⟨by omega,⟨by omega,by omega⟩,⟨by omega,by omega⟩,by omega,by omega⟩,if_pos (by omega)];simp;omega
 refine⟨key.1,?_⟩;rw[key.1];unfold badB
 by_cases hl:(enc r).length=1
 . have:=key.2 hl;simp;omega
 . simp[hl]
theorem JmS(r:Nat):enc r≠[]:=by
 have:=(encodeRuneZ_length r).1;intro h;have h2:=congrArg List.length h;simp[enc,encodeRune]at h2;rw[h2]at this;simp at this
def wide (rs:List Nat):List (Nat×Nat):=rs.map fun r=>(r,(enc r).length)
def encs (rs:List Nat):List UInt8:=rs.flatMap enc
theorem Jc2(r:Nat)(rs:List Nat):encs (r :: rs)=enc r++encs rs:=rfl
theorem Jc6(a b:List Nat):encs (a++b)=encs a++encs b:=by simp[encs]
theorem Jcx:∀(rs:List Nat),(∀r∈rs,Jaw r)->scan (encs rs)=(wide rs,true)
 | [],_=>Jf3
 | r :: rs,h=>by
  have hr:=h r (by simp);obtain⟨h1,h2⟩:=JhD hr (encs rs);have hne:encs (r :: rs)≠[]:=by rw[Jc2];simp[JmS]
  rw[Jc2]at hne ⊢;rw[Je2 hne h2,h1];simp only[List.drop_left];rw[Jcx rs (fun x hx=>h x (by simp[hx]))];rfl
theorem Je1(n:Nat):∀(l:List UInt8),l.length<=n->(∀p∈(scan l).1,Jaw p.1/\p.2=(enc p.1).length)/\(∃t,l=encs ((scan l).1.map (·.1))++t/\((scan l).2=true->t=[])/\((scan l).2=false->t≠[]/\badB (dec t)=true)):=by
 induction n with
 | zero =>
  intro l hl;obtain rfl:l=[]:=by cases l<;>simp_all
  rw[Jf3];exact⟨by simp,[],by simp[encs]⟩
 | succ n ih =>
  intro l hl
  by_cases h:l=[]
  . subst h;rw[Jf3];exact⟨by simp,[],by simp[encs]⟩
  by_cases hb:badB (dec l)=true
  . rw[JgP h hb];exact⟨by simp,l,by simp[encs],by simp,fun _=>⟨h,hb⟩⟩
  have hb:badB (dec l)=false:=by simpa using hb
  obtain⟨g1,g2⟩:=Jrk h hb;have w1:=Jgk l;have w2:=JpG h;obtain⟨i1,t,i2,i3,i4⟩:=ih (l.drop (dec l).2) (by simp;omega);rw[Je2 h hb];have hw:(dec l).2=(enc (dec l).1).length:=by rw[←g2];simp;omega
  refine⟨?_,t,?_,i3,i4⟩
  . intro p hp
    rcases List.mem_cons.1 hp with rfl|hp
    . exact⟨g1,hw⟩
    . exact i1 p hp
  . simp only[List.map_cons,Jc2]
    rw[←g2,List.append_assoc,←i2];exact(List.take_append_drop _ _).symm
def Jal (l:List UInt8):List Nat:=(scan l).1.map (·.1)
theorem JcW(h:r∈Jal l):Jaw r:=by
 obtain⟨p,hp,rfl⟩:=List.mem_map.1 h;exact((Je1 l.length l (nlr _)).1 p hp).1
theorem Jcm(h:(scan l).2=true):encs (Jal l)=l:=by
 obtain⟨_,t,h1,h2,_⟩:=Je1 l.length l (nlr _);rw[h2 h]at h1;exact(h1.trans (List.append_nil _)).symm
theorem Jeu(rs:List Nat):rs.length<=(encs rs).length:=by
 induction rs with
 | nil=>simp[encs]
 | cons r rs ih =>
  have h:(enc r).length≠0:=by simpa using JmS r
  rw[Jc2,List.length_append,List.length_cons];omega
theorem JgO(l:List UInt8):(scan l).1.length<=l.length:=by
 obtain⟨_,t,h1,_⟩:=Je1 l.length l (nlr _);have h:=Jeu ((scan l).1.map (·.1));rw[List.length_map]at h;have h2:=congrArg List.length h1;rw[List.length_append]at h2;omega
theorem JoM(l:List UInt8):∀p∈(scan l).1,p.2<=4:=by
 intro p hp;rw[((Je1 l.length l (nlr _)).1 p hp).2];have:=(encodeRuneZ_length p.1).2;simpa[enc,encodeRune] using this
/-! ### Halves -/
def hal (r:Nat):List Nat:=if r<65536 then [r] else [55296+(r - 65536) / 1024,56320+(r - 65536) % 1024]
def hals (rs:List Nat):List Nat:=rs.flatMap hal
theorem get!_getD (s:ByteArray)(i:Nat):s.get! i=s.data.toList.getD i 0:=by
 simp only[ByteArray.get!,List.getD_eq_getElem?_getD,Array.getElem?_toList]
 cases h:s.data[i]? with
 | none=>rw[getElem!_def];simp[h];rfl
 | some x=>rw[getElem!_def];simp[h]
theorem Jgj(s:ByteArray)(k:Nat):Utf8.decode (s.extract k s.size) 0=dec (s.data.toList.drop k):=by
 have e1:(s.extract k s.size).data.toList=s.data.toList.drop k:=by
  rw[extract_data,List.take_of_length_le (by rw[List.length_drop,Array.length_toList];exact nlr _)]
 have e:(s.extract k s.size).size=(s.data.toList.drop k).length:=by rw[←e1,Array.length_toList];rfl
 rw[decode_at,e,get!_getD,get!_getD,get!_getD,get!_getD,e1];rfl
def JhY (l:List UInt8):Nat:=((scan l).1.map (·.2)).sum
theorem JhJ(h:badB p=true):p.1=65533/\p.2=1:=by simpa[badB] using h
theorem JiW(h:badB p=false):p.1≠65533\/(p.1=65533/\p.2≠1):=by
 simp[badB]at h
 by_cases h1:p.1=65533
 . exact .inr ⟨h1,h h1⟩
 . exact .inl h1
end
section
open Go.RowKit
def isAt (w w':World) (v:Value) (at_:Int):Prop :=
 ∃b,v=.iface 273 (.pointer (some ⟨b,0,none⟩))/\w.heap.size<=b/\b<w'.heap.size/\w'.cell? ⟨b,0,none⟩=some (.int .i64 3)/\w'.cell? ⟨b,1,none⟩=some (.int .i64 at_)
theorem Jft(n:Int)(w:World) :
    Calls Tryz.prog 163 #[.int .i64 n] w fun e w'=>(∃v,e=.returned v/\isAt w w' v n)/\Below w.heap.size w w':=by
 go_enter Tryz.func163,Tryz.ntmps163
 go_wp2;go_ret;refine⟨⟨_,rfl,w.heap.size,rfl,nlr _,by simp,by simp[go_sem],by simp[go_sem]⟩,(brf _ _).alloc (nlr _) _⟩
theorem Jh5{w0 w w':World}{v:Value}{n:Int}(h:isAt w w' v n)(hb:w0.heap.size<=w.heap.size):isAt w0 w' v n:=by
 obtain⟨b,rfl,h1,h2⟩:=h;exact⟨b,rfl,Nat.le_trans hb h1,h2⟩
structure Takes (W:World) (F:Nat) (cap:Array Value) (l:List (Nat×Nat)) (I:List (Nat×Nat)->World->Prop):Prop where
 enters:∀args w,(callFunc F args).run Tryz.prog w=.ok (.enter F args) w
 stays:∀done w w',I done w->Below w.heap.size w w'->I done w'
 step:∀done p rest,l=done++p :: rest->∀w,I done w->Below W.heap.size W w ->
  Calls Tryz.prog F (#[.int .i32 p.1,.int .i64 p.2]++cap) w fun e w'=>e=.returned (.bool true)/\I (done++[p]) w'/\Below W.heap.size W w'
theorem JjB(s:ByteArray)(hs:s.size<=maxLen)(F:Nat)(cap:Array Value)(W:World)(hT:Lib.Utf8Tabs 2 3 W)(I:List (Nat×Nat)->World->Prop)
    (H:Takes W F cap (scan s.data.toList).1 I) (w:World) (hw:Below W.heap.size W w) (h0:I [] w) :
    Calls Tryz.prog 135 #[.string s,.func (.func F) #[] cap] w fun e w'=>Below W.heap.size W w'/\I (scan s.data.toList).1 w' /\
     (((scan s.data.toList).2=true/\e=.returned .nilIface)\/((scan s.data.toList).2=false/\∃v,e=.returned v/\isAt W w' v (JhY s.data.toList))):=by
 unfold maxLen at hs;have hent:=H.enters
 have key:∀done k,(scan s.data.toList).1=done++(scan (s.data.toList.drop k)).1->(done.map (·.2)).sum=k->(scan s.data.toList).2=(scan (s.data.toList.drop k)).2 ->
     (scan (s.data.toList.drop k)).1=[]->JhY s.data.toList=k:=by
  intro done k h1 h2 _ h4;unfold JhY;rw[h1,h4,List.append_nil,h2]
 go_enter Tryz.func135,Tryz.ntmps135
 go_wp2
 go_loopw [5,6,7,12] (fun at_ _ _ _ wr=>∃(k:Nat) (done:List (Nat×Nat)),k<=s.size/\at_=.int .i64 k/\(scan s.data.toList).1=done++(scan (s.data.toList.drop k)).1/\(done.map (·.2)).sum=k /\
     (scan s.data.toList).2=(scan (s.data.toList.drop k)).2/\I done wr/\Below W.heap.size W wr) (fun at_ _ _ _ _=>s.size - (intOf at_).toNat)
 case atStart=>exact⟨0,[],Nat.zero_le _,rfl,by rw[List.drop_zero];rfl,rfl,by rw[List.drop_zero],h0,hw⟩
 case round =>
  obtain⟨k,done,hk,rfl,hd1,hd2,hd3,hI,hwr⟩:=hrel;have hTr:=Go.Proofs.Utf8Tabs_below hT hwr
  by_cases hlt:k<s.size
  . have hne:s.data.toList.drop k≠[]:=by
      intro e;have:=congrArg List.length e;rw[List.length_drop,List.length_nil,←Lib.size_eq]at this;omega
    have hdec:Lib.decodeGo (s.extract k s.size)=dec (s.data.toList.drop k):=by
     unfold Lib.decodeGo;rw[if_neg (by rw[ByteArray.size_extract];omega),Jgj]
    have hge:=Jgk (s.data.toList.drop k);have hle:=JpG hne;have hle4:=JpF (s.data.toList.drop k);have cD:=Tryz.utf8_DecodeRuneInString (s.extract k s.size) wr hTr;rw[hdec]at cD
    by_cases hb:badB (dec (s.data.toList.drop k))=true
    . have hs2:=JgP hne hb
      have hpl:Hid (JhY s.data.toList=k):=key done k hd1 hd2 hd3 (by rw[hs2]);have hf:(scan s.data.toList).2=false:=by rw[hd3,hs2]
      have hfin:Hid (I (scan s.data.toList).1 wr):=by show I _ wr;rw[hd1,hs2,List.append_nil];exact hI
      have hb':(dec (s.data.toList.drop k)).1=65533/\(dec (s.data.toList.drop k)).2=1:=JhJ hb;rw[hb'.1,hb'.2]at cD;clear hdec hge hle hle4 hb hb' hd1 hd2 hd3 hs2 hne key hI
      go_wp2_with (first | (go_at_call 193;refine cD.mono ?_;rintro e w1 ⟨rfl,hb1⟩) | (go_at_call 163;refine(Jft _ _).mono ?_;rintro e w2 ⟨⟨v,rfl,hv⟩,hb2⟩) | fail)
      go_ret;have hb12:Below wr.heap.size wr w2:=hb1.trans (hb2.mono hb1.size);refine⟨hwr.trans (hb12.mono hwr.size),H.stays _ _ _ hfin hb12,.inr ⟨hf,v,rfl,?_⟩⟩;rw[hpl];exact Jh5 hv (Nat.le_trans hwr.size hb1.size)
    . have hb:badB (dec (s.data.toList.drop k))=false:=Bool.eq_false_iff.2 hb
      have hs2:=Je2 hne hb;have hl:(scan s.data.toList).1=done++dec (s.data.toList.drop k) :: (scan ((s.data.toList.drop k).drop (dec (s.data.toList.drop k)).2)).1:=by rw[hd1,hs2]
      have hl':(scan s.data.toList).2=(scan ((s.data.toList.drop k).drop (dec (s.data.toList.drop k)).2)).2:=by rw[hd3,hs2]
      rw[List.drop_drop]at hl hl';rw[List.length_drop,←Lib.size_eq]at hle;have hstep:=H.step done _ _ hl;obtain⟨R,hR⟩:∃R,R=(dec (s.data.toList.drop k)).1:=⟨_,rfl⟩;obtain⟨K,hK⟩:∃K,K=(dec (s.data.toList.drop k)).2:=⟨_,rfl⟩;have hp:dec (s.data.toList.drop k)=(R,K):=by rw[hR,hK]
      rw[hp]at cD hb hge hle hle4 hl hl' hstep;have hnext:Hid ((scan s.data.toList).1=done++[(R,K)]++(scan (s.data.toList.drop (k+K))).1):=by
       show _=_;rw[hl,List.append_assoc];rfl
      have hnext2:Hid (((done++[(R,K)]).map (·.2)).sum=k+K):=by
       show _=_;rw[List.map_append,List.sum_append,hd2];rfl
      have hnext3:Hid ((scan s.data.toList).2=(scan (s.data.toList.drop (k+K))).2):=hl';simp only[]at hge hle;clear hdec hd1 hd2 hd3 hs2 hne key hle4 hl hl' hR hK hp;have hbF:=JiW hb;clear hb
      rcases hbF with hr|⟨hr,hr2⟩
      . have hr0:((R:Int)==65533)=false:=by
          rw[beq_eq_false_iff_ne];intro e;exact hr (by omega)
        clear hr
        go_wp2_with (first | (go_at_call 193;refine cD.mono ?_;rintro e w1 ⟨rfl,hb1⟩) | (go_at_fn F;refine(hstep w1 (H.stays _ _ _ hI hb1) (hwr.trans (hb1.mono hwr.size))).mono ?_;rintro e w2 ⟨rfl,hI2,hb2⟩) | fail)
        go_roundw
        case rel=>exact⟨k+K,done++[(R,K)],by omega,by go_num,hnext,hnext2,hnext3,hI2,hb2⟩
        case measure=>simp[intOf];omega
      . have hr0:((K:Int)==1)=false:=by
          rw[beq_eq_false_iff_ne];intro e;exact hr2 (by omega)
        subst hr;clear hr2
        go_wp2_with (first | (go_at_call 193;refine cD.mono ?_;rintro e w1 ⟨rfl,hb1⟩) | (go_at_fn F;refine(hstep w1 (H.stays _ _ _ hI hb1) (hwr.trans (hb1.mono hwr.size))).mono ?_;rintro e w2 ⟨rfl,hI2,hb2⟩) | fail)
        go_roundw
        case rel=>exact⟨k+K,done++[(65533,K)],by omega,by go_num,hnext,hnext2,hnext3,hI2,hb2⟩
        case measure=>simp[intOf];omega
  . have hend:s.data.toList.drop k=[]:=List.drop_eq_nil_of_le (by rw[←Lib.size_eq];omega)
    rw[hend,Jf3]at hd1 hd3;rw[List.append_nil]at hd1;have hfin:Hid (I (scan s.data.toList).1 wr):=by show I _ wr;rw[hd1];exact hI
    clear hd1 hend key hTr;go_wp2;go_ret;refine⟨hwr,hfin,?_⟩
    first | exact rfl | exact .inl ⟨hd3,rfl⟩
variable {w w' : World}{B e size n a : Nat}{v : Value}{xs : List Value}
theorem Jaj(h:w.ownsRow B e size v n xs)(hb:Below w.heap.size w w'):w'.ownsRow B e size v n xs:=by
 refine⟨h.1,?_⟩
 rcases h.2 with hn|⟨g,cap,cur,rfl,hg,hgg,rest⟩
 . exact .inl hn
 . exact .inr ⟨g,cap,cur,rfl,hg,by rw[hb.block g (alt hgg)];exact hgg,rest⟩
theorem Jad(h:w.ownsRow B e size v n xs):∃p c,v=.slice p n c:=by
 rcases h.2 with ⟨rfl,rfl⟩|⟨g,cap,cur,rfl,_⟩
 . exact⟨_,_,rfl⟩
 . exact⟨_,_,rfl⟩
def Jd8 (w:World) (e a:Nat) (xs:List Value):Prop :=
 ∃p c,w.cell? ⟨a,0,none⟩=some (.slice p xs.length c)/\w.frozen? ⟨a,0,none⟩=false/\w.ownsRow (a+1) e 1 (.slice p xs.length c) xs.length xs
theorem Jgi(h:Jd8 w e a xs):a<w.heap.size:=by
 obtain⟨p,c,h1,_⟩:=h;exact blt w _ h1
theorem JfG(h:Jd8 w e a xs)(hb:Below w.heap.size w w'):Jd8 w' e a xs:=by
 have hlt:=Jgi h;obtain⟨p,c,h1,h2,h3⟩:=h;exact⟨p,c,by rw[hb.cell (p:=⟨a,0,none⟩) hlt];exact h1,by rw[hb.frozen (p:=⟨a,0,none⟩) hlt];exact h2,Jaj h3 hb⟩
theorem Jg7(w:World)(e T:Nat):Jd8 (w.alloc (.cells #[.slice none 0 0] T)) e w.heap.size [] :=
 ⟨none,0,by simp[go_sem],by simp[go_sem],World.ownsRow_nil _ _ _ _⟩
theorem Jg6{w w1:World}{e a:Nat}{xs ys:List Value}{p:Option Addr}{c:Nat}{o:Obj}{v':Value}(hlt:a<w.heap.size)(h2:w.frozen? ⟨a,0,none⟩=false)(hc:w.cell? ⟨a,0,none⟩=some (.slice p xs.length c))
    (hown:w.ownsRow (a+1) e 1 (.slice p xs.length c) xs.length xs)
    (hown1:w1.ownsRow (a+1) e 1 v' (xs.length+ys.length) (xs++ys)) (hg:(w.alloc o).grownBy w1 (Value.slice p xs.length c).ownBlock) :
    Jd8 (w1.setCell ⟨a,0,none⟩ v') e a (xs++ys)/\Below a w (w1.setCell ⟨a,0,none⟩ v')/\w1.cell? ⟨a,0,none⟩=some (.slice p xs.length c)/\w1.frozen? ⟨a,0,none⟩=false/\w.heap.size<=w1.heap.size:=by
 have hrow:∀k,(Value.slice p xs.length c).ownBlock=some k->a+1<=k:=fun k hk=>(hown.lt k hk).1
 have hb1:Below (a+1) w w1:=((brf (a+1) w).alloc hlt o).grown hg (by rw[wsa];omega) hrow;have hc1:w1.cell? ⟨a,0,none⟩=some (.slice p xs.length c):=by rw[hb1.cell (p:=⟨a,0,none⟩) (Nat.lt_succ_self a)];exact hc
 have hf1:w1.frozen? ⟨a,0,none⟩=false:=by rw[hb1.frozen (p:=⟨a,0,none⟩) (Nat.lt_succ_self a)];exact h2
 obtain⟨p',c',rfl⟩:=Jad hown1;refine⟨⟨p',c',?_,?_,?_⟩,(hb1.mono (Nat.le_succ a)).setCell (nlr _) _,hc1,hf1,hb1.size⟩
 . rw[List.length_append];exact World.cell?_setCell_same _ _ _ hc1
 . rw[World.frozen?_setCell];exact hf1
 . rw[List.length_append];exact ownsRow_setCell_below hown1 (Nat.lt_succ_self a) _
theorem info21:(Tryz.prog.info? 21).map (fun i=>(i.zero,i.size,i.bytes))=some (some (.int .i32 0),1,4):=by kernel_rfl
theorem JrK:(Tryz.prog.info? 167).map (fun i=>(i.zero,i.size,i.bytes))=some (some (.int .u16 0),1,2):=by kernel_rfl
theorem Jns(r n:Int)(a:Nat)(w:World)(xs:List Value)(h:Jd8 w 21 a xs)(hlen:xs.length<1000000000) :
    Calls Tryz.prog 168 #[.int .i32 r,.int .i64 n,.pointer (some ⟨a,0,none⟩)] w fun e w'=>e=.returned (.bool true)/\Jd8 w' 21 a (xs++[.int .i32 r])/\Below a w w':=by
 obtain⟨i0,hi,hz0,hz1,hz2⟩:=info_parts info21;have hlt:=Jgi h;obtain⟨p,c,hc,hf,hown⟩:=h
 go_enter Tryz.func168,Tryz.ntmps168
 go_wp2_with (first
  | (at_builtin;refine wpList_append_own _ rfl _ _ 141 rfl (a+1) 21 i0 (.int .i32 0) 1 4 Tryz.underlying141 hi hz0 hz1 hz2 rfl (by decide) _ _ _ rfl (hown.alloc _) ⟨w.heap.size,0,none⟩ 1 1 [.int .i32 r] rfl rfl (cell_one_new _ _ _) (ints_oneCell .i32 [r]) ?c3 ?c4 ?c5 ?_)
  | fail)
 case c3=>unfold maxLen;omega
 case c4=>omega
 case c5=>first | omega | (simp;omega)
 intro v' w1 hown1 hg _;obtain⟨R1,R2,R3,R4,R5⟩:=Jg6 (ys:=[.int .i32 r]) hlt hf hc hown hown1 hg;obtain⟨p',c',hv⟩:=Jad hown1;clear hown hown1 hg hc hf;rw[hv]at R1 R2 ⊢;go_wp2;go_ret;exact⟨rfl,R1,R2⟩
def JcH (r:Nat):List Value:=(hal r).map fun h:Nat=>Value.int .u16 (h:Int)
theorem and1023(r:Int)(h0:0<=r)(h1:r<=1114111):bits BinOp.and IntKind.i32 r 1023=r % 1024:=by
 obtain⟨x,rfl⟩:∃x:Nat,r=x:=⟨r.toNat,by omega⟩;show IntKind.i32.wrap ((BitVec.ofInt 32 (x:Int) &&& BitVec.ofInt 32 ((1023:Nat):Int)).toNat:Int)=_;have hm:x &&& 1023=x % 1024:=Nat.and_two_pow_sub_one_eq_mod x 10;rw[BitVec.toNat_and,ofInt_u32 x (by omega),ofInt_u32 1023 (by omega),hm];exact(Lib.wrap_i32_small _ (by omega)).trans (Int.natCast_emod x 1024)
theorem JgH(r:Int)(h0:0<=r)(h1:r<65536)(B n:Nat)(w:World)(v:Value)(xs:List Value)(hown:w.ownsRow B 167 1 v n xs)(hlen:n<1000000000)(hB:B<=w.heap.size) :
    Calls Tryz.prog 166 #[v,.int .i32 r] w fun e w'=>∃v' o,e=.returned v'/\w'.ownsRow B 167 1 v' (n+1) (xs++[.int .u16 r])/\(w.alloc o).grownBy w' v.ownBlock:=by
 obtain⟨i0,hi,hz0,hz1,hz2⟩:=info_parts JrK;obtain⟨p,c,rfl⟩:=Jad hown
 go_enter Tryz.func166,Tryz.ntmps166
 go_wp2_with (first
  | (at_builtin;refine wpList_append_own _ rfl _ _ 144 rfl B 167 i0 (.int .u16 0) 1 2 Tryz.underlying144 hi hz0 hz1 hz2 rfl (by decide) _ _ _ rfl (hown.alloc _) ⟨w.heap.size,0,none⟩ 1 1 [.int .u16 r] rfl rfl (cell_one_new _ _ _) (ints_oneCell .u16 [r]) ?c3 ?c4 ?c5 ?_)
  | fail)
 case c3=>unfold maxLen;omega
 case c4=>omega
 case c5=>first | omega | (simp;omega)
 intro v' w1 hown1 hg _;obtain⟨p',c',hv⟩:=Jad hown1;clear hown hi hz0 hz1 hz2;rw[hv]at hown1 ⊢;go_wp2;go_ret;exact⟨_,_,rfl,hown1,hg⟩
theorem JgG(r:Int)(h1:¬r<65536)(h2:r<=1114111)(B n:Nat)(w:World)(v:Value)(xs:List Value)(hown:w.ownsRow B 167 1 v n xs)(hlen:n<1000000000)(hB:B<=w.heap.size) :
    Calls Tryz.prog 166 #[v,.int .i32 r] w fun e w'=>∃v' o,e=.returned v'/\w'.ownsRow B 167 1 v' (n+2) (xs++[.int .u16 (55296+(r - 65536) / 1024),.int .u16 (56320+(r - 65536) % 1024)])/\(w.alloc o).grownBy w' v.ownBlock:=by
 obtain⟨i0,hi,hz0,hz1,hz2⟩:=info_parts JrK;obtain⟨p,c,rfl⟩:=Jad hown;have ha:=and1023 (r - 65536) (by omega) (by omega)
 go_enter Tryz.func166,Tryz.ntmps166
 go_wp2_with (first
  | (at_builtin;refine wpList_append_own _ rfl _ _ 144 rfl B 167 i0 (.int .u16 0) 1 2 Tryz.underlying144 hi hz0 hz1 hz2 rfl (by decide) _ _ _ rfl (hown.alloc _) ⟨w.heap.size,0,none⟩ 2 2 [.int .u16 (55296+(r - 65536) / 1024),.int .u16 (56320+(r - 65536) % 1024)] rfl rfl (cell_two_new _ _ _ _) (ints_oneCell .u16 [55296+(r - 65536) / 1024,56320+(r - 65536) % 1024]) ?c3 ?c4 ?c5 ?_)
  | fail)
 case c3=>unfold maxLen;omega
 case c4=>omega
 case c5=>first | omega | (simp;omega)
 intro v' w1 hown1 hg _;obtain⟨p',c',hv⟩:=Jad hown1;clear hown hi hz0 hz1 hz2;rw[hv]at hown1 ⊢;go_wp2;go_ret;exact⟨_,_,rfl,hown1,hg⟩
end
section
open Go.RowKit
variable {r a B : Nat}{w w' : World}{n1 n2 n3 n4 : Int}
theorem Jg5(h:r<65536):JcH r=[.int .u16 r]:=by simp[JcH,hal,h]
theorem Jg4(h:¬r<65536):JcH r=[.int .u16 (55296+((r:Int) - 65536) / 1024),.int .u16 (56320+((r:Int) - 65536) % 1024)]:=by
 simp only[JcH,hal,h,if_false,List.map_cons,List.map_nil];rw[show((55296+(r - 65536) / 1024:Nat):Int)=55296+((r:Int) - 65536) / 1024 by omega,show((56320+(r - 65536) % 1024:Nat):Int)=56320+((r:Int) - 65536) % 1024 by omega]
theorem Jmc(r:Nat):(JcH r).length<=2:=by
 by_cases h:r<65536
 . rw[Jg5 h];simp
 . rw[Jg4 h];simp
theorem JgI(r:Nat)(h2:r<=1114111)(B n:Nat)(w:World)(v:Value)(xs:List Value)(hown:w.ownsRow B 167 1 v n xs)(hlen:n<1000000000)(hB:B<=w.heap.size) :
    Calls Tryz.prog 166 #[v,.int .i32 r] w fun e w'=>∃p c o m,e=.returned (.slice p m c)/\m=n+(JcH r).length/\w'.ownsRow B 167 1 (.slice p m c) m (xs++JcH r)/\(w.alloc o).grownBy w' v.ownBlock:=by
 by_cases h:r<65536
 . rw[Jg5 h]
   refine(JgH r (by omega) (by omega) B n w v xs hown hlen hB).mono ?_
   rintro e w' ⟨v',o,rfl,h1,h2⟩;obtain⟨p,c,rfl⟩:=Jad h1;exact⟨p,c,o,_,rfl,rfl,h1,h2⟩
 . rw[Jg4 h]
   refine(JgG r (by omega) (by omega) B n w v xs hown hlen hB).mono ?_
   rintro e w' ⟨v',o,rfl,h1,h2⟩;obtain⟨p,c,rfl⟩:=Jad h1;exact⟨p,c,o,_,rfl,rfl,h1,h2⟩
theorem Jmb(r:Nat)(hr:r<=1114111)(n:Int)(a:Nat)(w:World)(xs:List Value)(h:Jd8 w 167 a xs)(hlen:xs.length<1000000000) :
    Calls Tryz.prog 165 #[.int .i32 r,.int .i64 n,.pointer (some ⟨a,0,none⟩)] w fun e w'=>e=.returned (.bool true)/\Jd8 w' 167 a (xs++JcH r)/\Below a w w':=by
 have hlt:=Jgi h;obtain⟨p,c,hc,hf,hown⟩:=h;have cA:=JgI r hr (a+1) xs.length w _ xs hown hlen hlt;obtain⟨ys,hys⟩:∃ys,ys=JcH r:=⟨_,rfl⟩;rw[←hys]at cA ⊢;clear hr hys;generalize (r:Int)=R at cA ⊢;have NX:=fun (w1:World) (o:Obj) (v':Value)=>@Jg6 w w1 167 a xs ys p c o v' hlt hf hc hown
 have HN:Hid (∀(w1:World) (o:Obj) (v':Value),w1.ownsRow (a+1) 167 1 v' (xs.length+ys.length) (xs++ys)->(w.alloc o).grownBy w1 (Value.slice p xs.length c).ownBlock->_):=NX;clear NX hown
 go_enter Tryz.func165,Tryz.ntmps165
 go_wp2_with (first | (go_at_call 166;refine cA.mono ?_;rintro e w1 ⟨p',c',o,m,rfl,hm,hown1,hg⟩;have Rs:=HN.out w1 o _ (by rw[←hm];exact hown1) hg;obtain⟨R1,R2,R3,R4,R5⟩:=Rs;clear hown1 hg hm) | fail)
 go_ret;exact⟨rfl,R1,R2⟩
theorem Jjx(a1 a2 a3 a4 b1 b2 b3 b4:Int)(w:World) :
    Calls Tryz.prog 137 #[.agg #[.int .i64 a1,.int .i64 a2,.int .i64 a3,.int .i64 a4],.agg #[.int .i64 b1,.int .i64 b2,.int .i64 b3,.int .i64 b4]] w
     fun e w'=>e=.returned (.agg #[.int .i64 (wrap64 (a1+b1)),.int .i64 (wrap64 (a2+b2)),.int .i64 (wrap64 (a3+b3)),.int .i64 (wrap64 (a4+b4))])/\Below w.heap.size w w':=by
 go_enter Tryz.func137,Tryz.ntmps137
 go_wp2;refine bodyPost_ret (v:=.agg #[.int .i64 (wrap64 (a1+b1)),.int .i64 (wrap64 (a2+b2)),.int .i64 (wrap64 (a3+b3)),.int .i64 (wrap64 (a4+b4))]) (by simp[results,Tryz.results137,go_sem]) rfl ⟨rfl,?_⟩;exact(((brf _ _).alloc (nlr _) _).alloc (by simp) _).alloc (by simp[Nat.le_add_right,Nat.add_assoc]) _
def cH (r:Nat):Int:=if r<65536 then 1 else 2
def cL (r:Nat):Int:=if r=10 then 1 else 0
theorem Jg8(r:Nat)(n:Int)(w:World) :
    Calls Tryz.prog 138 #[.int .i32 r,.int .i64 n] w
     fun e w'=>e=.returned (.agg #[.int .i64 n,.int .i64 (cH r),.int .i64 1,.int .i64 (cL r)])/\Below w.heap.size w w':=by
 by_cases h1:r<65536
 . have e1:cH r=1:=if_pos h1
   by_cases h2:r=10
   . have e2:cL r=1:=if_pos h2
     rw[e1,e2];subst h2;clear h1 e1 e2
     go_enter Tryz.func138,Tryz.ntmps138
     go_wp2;refine bodyPost_ret (v:=.agg #[.int .i64 n,.int .i64 1,.int .i64 1,.int .i64 1]) (by simp[results,Tryz.results138,go_sem]) rfl ⟨rfl,?_⟩;exact((brf _ _).alloc (nlr _) _).alloc (by simp) _
   . have e2:cL r=0:=if_neg h2
     rw[e1,e2];have k1:(r:Int)<65536:=by omega
     have k2:((r:Int)==10)=false:=by rw[beq_eq_false_iff_ne];omega
     clear e1 e2 h1 h2;generalize (r:Int)=R at k1 k2 ⊢
     go_enter Tryz.func138,Tryz.ntmps138
     go_wp2;refine bodyPost_ret (v:=.agg #[.int .i64 n,.int .i64 1,.int .i64 1,.int .i64 0]) (by simp[results,Tryz.results138,go_sem]) rfl ⟨rfl,?_⟩;exact((brf _ _).alloc (nlr _) _).alloc (by simp) _
 . have e1:cH r=2:=if_neg h1
   have e2:cL r=0:=if_neg (by omega);rw[e1,e2]
   . have k1:¬(r:Int)<65536:=by omega
     have k2:((r:Int)==10)=false:=by rw[beq_eq_false_iff_ne];omega
     clear e1 e2 h1;generalize (r:Int)=R at k1 k2 ⊢
     go_enter Tryz.func138,Tryz.ntmps138
     go_wp2;refine bodyPost_ret (v:=.agg #[.int .i64 n,.int .i64 2,.int .i64 1,.int .i64 0]) (by simp[results,Tryz.results138,go_sem]) rfl ⟨rfl,?_⟩;exact((brf _ _).alloc (nlr _) _).alloc (by simp) _
def counted (w:World) (a:Nat) (n1 n2 n3 n4:Int):Prop :=
 (w.cell? ⟨a,0,none⟩=some (.int .i64 n1)/\w.cell? ⟨a,1,none⟩=some (.int .i64 n2)/\w.cell? ⟨a,2,none⟩=some (.int .i64 n3)/\w.cell? ⟨a,3,none⟩=some (.int .i64 n4)) /\
 (w.frozen? ⟨a,0,none⟩=false/\w.frozen? ⟨a,1,none⟩=false/\w.frozen? ⟨a,2,none⟩=false/\w.frozen? ⟨a,3,none⟩=false)
theorem Jdq(h:counted w a n1 n2 n3 n4):a<w.heap.size:=blt w _ h.1.1
theorem Jb1(h:counted w a n1 n2 n3 n4)(hb:Below B w w')(hlt:a<B):counted w' a n1 n2 n3 n4:=by
 obtain⟨⟨a0,a1,a2,a3⟩,b0,b1,b2,b3⟩:=h;refine⟨⟨?_,?_,?_,?_⟩,?_,?_,?_,?_⟩
 . rw[hb.cell (p:=⟨a,0,none⟩) hlt];exact a0
 . rw[hb.cell (p:=⟨a,1,none⟩) hlt];exact a1
 . rw[hb.cell (p:=⟨a,2,none⟩) hlt];exact a2
 . rw[hb.cell (p:=⟨a,3,none⟩) hlt];exact a3
 . rw[hb.frozen (p:=⟨a,0,none⟩) hlt];exact b0
 . rw[hb.frozen (p:=⟨a,1,none⟩) hlt];exact b1
 . rw[hb.frozen (p:=⟨a,2,none⟩) hlt];exact b2
 . rw[hb.frozen (p:=⟨a,3,none⟩) hlt];exact b3
theorem Jbf(h:counted w a n1 n2 n3 n4)(hb:Below w.heap.size w w'):counted w' a n1 n2 n3 n4:=Jb1 h hb (Jdq h)
theorem Jfr{m1 m2 m3 m4:Int}(h:counted w a n1 n2 n3 n4) :
    counted ((((w.setCell ⟨a,0,none⟩ (.int .i64 m1)).setCell ⟨a,1,none⟩ (.int .i64 m2)).setCell ⟨a,2,none⟩ (.int .i64 m3)).setCell ⟨a,3,none⟩ (.int .i64 m4)) a m1 m2 m3 m4:=by
 obtain⟨⟨a0,a1,a2,a3⟩,b0,b1,b2,b3⟩:=h;refine⟨⟨?_,?_,?_,?_⟩,?_,?_,?_,?_⟩
 all_goals simp[go_sem,a0,a1,a2,a3,b0,b1,b2,b3]
theorem JfP(hb:Below B w w')(hB:B<=a)(v1 v2 v3 v4:Value) :
    Below B w ((((w'.setCell ⟨a,0,none⟩ v1).setCell ⟨a,1,none⟩ v2).setCell ⟨a,2,none⟩ v3).setCell ⟨a,3,none⟩ v4) :=
 (((hb.setCell (p:=⟨a,0,none⟩) hB _).setCell (p:=⟨a,1,none⟩) hB _).setCell (p:=⟨a,2,none⟩) hB _).setCell (p:=⟨a,3,none⟩) hB _
theorem JiM(r:Nat)(n:Int)(a:Nat)(w:World)(n1 n2 n3 n4:Int)(h:counted w a n1 n2 n3 n4) :
    Calls Tryz.prog 136 #[.int .i32 r,.int .i64 n,.pointer (some ⟨a,0,none⟩)] w fun e w'=>e=.returned (.bool true) /\
     counted w' a (wrap64 (n1+n)) (wrap64 (n2+cH r)) (wrap64 (n3+1)) (wrap64 (n4+cL r))/\Below a w w':=by
 have hlt:=Jdq h;have HC:Hid (counted w a n1 n2 n3 n4):=h;obtain⟨⟨a0,a1,a2,a3⟩,b0,b1,b2,b3⟩:=h;have cO:=fun (w:World)=>Jg8 r n w
 generalize cH r=x2 at cO ⊢;generalize cL r=x4 at cO ⊢;generalize (r:Int)=R at cO ⊢
 go_enter Tryz.func136,Tryz.ntmps136
 go_wp2
 go_region_with (first | (go_at_call 138;refine(cO _).mono ?_;rintro e w1 ⟨rfl,hb1⟩;have HC1:counted w1 a n1 n2 n3 n4:=Jb1 (w:=w.drew) HC.out hb1 hlt;have HD1:Hid (counted w1 a n1 n2 n3 n4):=HC1;obtain⟨⟨c0,c1,c2,c3⟩,d0,d1,d2,d3⟩:=HC1) | (go_at_call 137;refine(Jjx _ _ _ _ _ _ _ _ _).mono ?_;rintro e w2 ⟨rfl,hb2⟩;have HC2:counted w2 a n1 n2 n3 n4:=Jb1 (w:=w1) HD1.out hb2 (Nat.lt_of_lt_of_le hlt hb1.size);have HD2:Hid (counted w2 a n1 n2 n3 n4):=HC2;obtain⟨⟨c0,c1,c2,c3⟩,d0,d1,d2,d3⟩:=HC2))
 all_goals
  have hbb:Below a w w2:=(Below.drew (brf a w)).trans ((hb1.trans (hb2.mono hb1.size)).mono (Nat.le_of_lt hlt));clear a0 a1 a2 a3 b0 b1 b2 b3 HC HD1 hb1 hb2 c0 c1 c2 c3 d0 d1 d2 d3;go_wp2;go_ret;exact⟨rfl,Jfr HD2.out,JfP hbb (nlr _) _ _ _ _⟩
/-! ### What is gathered over runes -/
def JcJ (l:List (Nat×Nat)):List Value:=l.map fun p=>Value.int .i32 (p.1:Int)
def Jcn (l:List (Nat×Nat)):List Value:=l.flatMap fun p=>JcH p.1
def sum1 (l:List (Nat×Nat)):Int:=(l.map fun p=>(p.2:Int)).sum
def sum2 (l:List (Nat×Nat)):Int:=(l.map fun p=>cH p.1).sum
def sum4 (l:List (Nat×Nat)):Int:=(l.map fun p=>cL p.1).sum
theorem Jl6(W:World)(a:Nat)(l:List (Nat×Nat))(ha:W.heap.size<=a)(hl:l.length<1000000000) :
    Takes W 168 #[.pointer (some ⟨a,0,none⟩)] l fun done w=>Jd8 w 21 a (JcJ done) where
 enters:=enters_of Tryz.func168 (by kernel_rfl) rfl
 stays:=fun _ _ _ h hb=>JfG h hb
 step := fun done p rest e w hI hw=>by
  have hlen:(JcJ done).length<1000000000:=by
   have:=congrArg List.length e;rw[List.length_append]at this;unfold JcJ;rw[List.length_map];omega
  refine(Jns p.1 p.2 a w _ hI hlen).mono ?_
  rintro e w' ⟨rfl,h1,h2⟩;refine⟨rfl,?_,hw.trans (h2.mono ha)⟩;unfold JcJ;rw[List.map_append];exact h1
theorem Jla(l:List (Nat×Nat)):(Jcn l).length<=2*l.length:=by
 induction l with
 | nil=>simp[Jcn]
 | cons p l ih =>
  have:=Jmc p.1;unfold Jcn at ih ⊢;rw[List.flatMap_cons,List.length_append,List.length_cons];omega
theorem JkC(W:World)(a:Nat)(l:List (Nat×Nat))(ha:W.heap.size<=a)(hl:l.length<500000000)(hr:∀p∈l,Jaw p.1) :
    Takes W 165 #[.pointer (some ⟨a,0,none⟩)] l fun done w=>Jd8 w 167 a (Jcn done) where
 enters:=enters_of Tryz.func165 (by kernel_rfl) rfl
 stays:=fun _ _ _ h hb=>JfG h hb
 step := fun done p rest e w hI hw=>by
  have hlen:(Jcn done).length<1000000000:=by
   have:=congrArg List.length e;rw[List.length_append]at this;have:=Jla done;omega
  have hp:p.1<=1114111:=by
   have:=hr p (by rw[e];simp);unfold Jaw at this;omega
  refine(Jmb p.1 hp p.2 a w _ hI hlen).mono ?_
  rintro e w' ⟨rfl,h1,h2⟩;refine⟨rfl,?_,hw.trans (h2.mono ha)⟩;unfold Jcn;rw[List.flatMap_append,List.flatMap_cons,List.flatMap_nil,List.append_nil];exact h1
theorem Jrz(r:Nat):0<=cH r/\cH r<=2:=by unfold cH;split<;>omega
theorem Jry(r:Nat):0<=cL r/\cL r<=1:=by unfold cL;split<;>omega
theorem Jjn(l:List (Nat×Nat)):0<=sum2 l/\sum2 l<=2*l.length:=by
 induction l with
 | nil=>simp[sum2]
 | cons p l ih=>have:=Jrz p.1;unfold sum2 at ih ⊢;rw[List.map_cons,List.sum_cons,List.length_cons];omega
theorem Jjm(l:List (Nat×Nat)):0<=sum4 l/\sum4 l<=l.length:=by
 induction l with
 | nil=>simp[sum4]
 | cons p l ih=>have:=Jry p.1;unfold sum4 at ih ⊢;rw[List.map_cons,List.sum_cons,List.length_cons];omega
theorem Jlq(l:List (Nat×Nat))(h:∀p∈l,p.2<=4):0<=sum1 l/\sum1 l<=4*l.length:=by
 induction l with
 | nil=>simp[sum1]
 | cons p l ih =>
  have h1:=h p (by simp);have:=ih fun q hq=>h q (by simp[hq])
  unfold sum1 at this ⊢;rw[List.map_cons,List.sum_cons,List.length_cons];omega
theorem Ja0{n:Int}(h0:0<=n)(h1:n<9223372036854775808):wrap64 n=n:=by unfold wrap64;omega
theorem Jmg(W:World)(a:Nat)(l:List (Nat×Nat))(ha:W.heap.size<=a)(hl:l.length<1000000000)(hr:∀p∈l,p.2<=4) :
    Takes W 136 #[.pointer (some ⟨a,0,none⟩)] l fun done w=>counted w a (sum1 done) (sum2 done) (done.length:Int) (sum4 done) where
 enters:=enters_of Tryz.func136 (by kernel_rfl) rfl
 stays:=fun _ _ _ h hb=>Jbf h hb
 step:=fun done p rest e w hI hw=>by
  have hlen:=congrArg List.length e;rw[List.length_append]at hlen;have h1:=Jlq done fun q hq=>hr q (by rw[e];simp[hq])
  have h2:=Jjn done;have h4:=Jjm done;have hp:=hr p (by rw[e];simp);have hp2:=Jrz p.1;have hp4:=Jry p.1;refine(JiM p.1 p.2 a w _ _ _ _ hI).mono ?_
  rintro e w' ⟨rfl,k1,k2⟩;refine⟨rfl,?_,hw.trans (k2.mono ha)⟩;rw[Ja0 (by omega) (by omega),Ja0 (by omega) (by omega),Ja0 (by omega) (by omega),Ja0 (by omega) (by omega)]at k1;have e1:sum1 (done++[p])=sum1 done+p.2:=by simp[sum1]
  have e2:sum2 (done++[p])=sum2 done+cH p.1:=by simp[sum2]
  have e3:(((done++[p]).length:Nat):Int)=done.length+1:=by simp
  have e4:sum4 (done++[p])=sum4 done+cL p.1:=by simp[sum4]
  rw[e1,e2,e3,e4];exact k1
end
section
open Go.RowKit
def JqR (w w':World) (e:Nat) (v:Value) (xs:List Value):Prop:=∃p c,v=.slice p xs.length c/\w'.ownsRow w.heap.size e 1 v xs.length xs
theorem Jj0{w:World}{B B' e size n:Nat}{v:Value}{xs:List Value}(h:w.ownsRow B e size v n xs)(hB:B'<=B):w.ownsRow B' e size v n xs:=by
 refine⟨h.1,?_⟩
 rcases h.2 with hn|⟨g,cap,cur,rfl,hg,rest⟩
 . exact .inl hn
 . exact .inr ⟨g,cap,cur,rfl,Nat.le_trans hB hg,rest⟩
theorem Jqd(s:ByteArray)(hs:s.size<400000000)(w:World)(hT:Lib.Utf8Tabs 2 3 w) :
    Calls Tryz.prog 103 #[.string s] w fun e w'=>∃v x,e=.returned (.tuple #[v,x])/\Below w.heap.size w w' /\
     (((scan s.data.toList).2=true/\x=.nilIface/\JqR w w' 21 v (JcJ (scan s.data.toList).1)) \/
      ((scan s.data.toList).2=false/\v=.slice none 0 0/\isAt w w' x (JhY s.data.toList))):=by
 have hlen:=JgO s.data.toList;rw[←Lib.size_eq]at hlen;have hb0:Below w.heap.size w (w.alloc (.cells #[.slice none 0 0] 141)):=(brf _ _).alloc (nlr _) _;have cE:=JjB s (by unfold maxLen;omega) 168 #[.pointer (some ⟨w.heap.size,0,none⟩)] w hT _ (Jl6 w w.heap.size (scan s.data.toList).1 (nlr _) (by omega)) _ hb0 (Jg7 w 21 141);clear hlen hs hb0;generalize JhY s.data.toList=pl at cE ⊢;generalize scan s.data.toList=sc at cE ⊢;obtain⟨rs,ok⟩:=sc;simp only[]at cE ⊢;generalize JcJ rs=xs at cE ⊢
 go_enter Tryz.func103,Tryz.ntmps103
 go_wp2_with (first | (go_at_call 135;refine cE.mono ?_;rintro e w1 ⟨hb1,⟨p,c,g1,g2,g3⟩,⟨rfl,rfl⟩|⟨rfl,v,rfl,⟨b,rfl,v1,v2,v3,v4⟩⟩⟩) | fail)
 . go_ret2
   have hr:JqR w w1 21 (.slice p xs.length c) xs:=⟨_,_,rfl,Jj0 g3 (Nat.le_succ _)⟩;refine⟨_,_,rfl,hb1,?_⟩
   first | exact⟨rfl,hr⟩ | exact .inl ⟨rfl,rfl,hr⟩
 . go_ret2
   have hv:isAt w w1 (.iface 273 (.pointer (some ⟨b,0,none⟩))) pl:=⟨b,rfl,v1,v2,v3,v4⟩;refine⟨_,_,rfl,hb1,?_⟩
   first | exact⟨rfl,hv⟩ | exact .inr ⟨rfl,rfl,hv⟩
theorem Joj(s:ByteArray)(hs:s.size<400000000)(w:World)(hT:Lib.Utf8Tabs 2 3 w) :
    Calls Tryz.prog 99 #[.string s] w fun e w'=>∃v x,e=.returned (.tuple #[v,x])/\Below w.heap.size w w' /\
     (((scan s.data.toList).2=true/\x=.nilIface/\JqR w w' 167 v (Jcn (scan s.data.toList).1)) \/
      ((scan s.data.toList).2=false/\v=.slice none 0 0/\isAt w w' x (JhY s.data.toList))):=by
 have hlen:=JgO s.data.toList;rw[←Lib.size_eq]at hlen;have hb0:Below w.heap.size w (w.alloc (.cells #[.slice none 0 0] 144)):=(brf _ _).alloc (nlr _) _;have cE:=JjB s (by unfold maxLen;omega) 165 #[.pointer (some ⟨w.heap.size,0,none⟩)] w hT _ (JkC w w.heap.size (scan s.data.toList).1 (nlr _) (by omega) fun p hp=>((Je1 s.data.toList.length _ (nlr _)).1 p hp).1) _ hb0 (Jg7 w 167 144);clear hlen hs hb0;generalize JhY s.data.toList=pl at cE ⊢;generalize scan s.data.toList=sc at cE ⊢;obtain⟨rs,ok⟩:=sc;simp only[]at cE ⊢;generalize Jcn rs=xs at cE ⊢
 go_enter Tryz.func99,Tryz.ntmps99
 go_wp2_with (first | (go_at_call 135;refine cE.mono ?_;rintro e w1 ⟨hb1,⟨p,c,g1,g2,g3⟩,⟨rfl,rfl⟩|⟨rfl,v,rfl,⟨b,rfl,v1,v2,v3,v4⟩⟩⟩) | fail)
 . go_ret2
   have hr:JqR w w1 167 (.slice p xs.length c) xs:=⟨_,_,rfl,Jj0 g3 (Nat.le_succ _)⟩;refine⟨_,_,rfl,hb1,?_⟩
   first | exact⟨rfl,hr⟩ | exact .inl ⟨rfl,rfl,hr⟩
 . go_ret2
   have hv:isAt w w1 (.iface 273 (.pointer (some ⟨b,0,none⟩))) pl:=⟨b,rfl,v1,v2,v3,v4⟩;refine⟨_,_,rfl,hb1,?_⟩
   first | exact⟨rfl,hv⟩ | exact .inr ⟨rfl,rfl,hv⟩
theorem JkQ(w:World):counted ((w.alloc (.cells #[.int .i64 0,.int .i64 0,.int .i64 0,.int .i64 0] 25)).alloc (.cells #[.int .i64 0,.int .i64 0,.int .i64 0,.int .i64 0] 25)) w.heap.size 0 0 0 0:=by
 refine⟨⟨?_,?_,?_,?_⟩,?_,?_,?_,?_⟩<;>simp[go_sem]
theorem JkP(w:World):counted ((w.alloc (.cells #[.int .i64 0,.int .i64 0,.int .i64 0,.int .i64 0] 25)).alloc (.cells #[.int .i64 0,.int .i64 0,.int .i64 0,.int .i64 0] 25)) (w.heap.size+1) (sum1 []) (sum2 []) (([]:List (Nat×Nat)).length:Int) (sum4 []):=by
 refine⟨⟨?_,?_,?_,?_⟩,?_,?_,?_,?_⟩<;>simp[go_sem,sum1,sum2,sum4]
theorem JkR(w:World)(l:List (Nat×Nat))(hl:l.length<1000000000)(hr:∀p∈l,p.2<=4) :
    Takes w 136 #[.pointer (some ⟨w.heap.size+1,0,none⟩)] l fun done w'=>counted w' (w.heap.size+1) (sum1 done) (sum2 done) (done.length:Int) (sum4 done)/\counted w' w.heap.size 0 0 0 0:=by
 have T:=Jmg w (w.heap.size+1) l (Nat.le_succ _) hl hr;refine⟨T.enters,fun done w1 w2 h hb=>⟨T.stays done w1 w2 h.1 hb,Jbf h.2 hb⟩,fun done p rest e w1 hI hw=>?_⟩;have h1:=Jlq done fun q hq=>hr q (by rw[e];simp[hq])
 have hlen:=congrArg List.length e;rw[List.length_append]at hlen;have h2:=Jjn done;have h4:=Jjm done;have hp:=hr p (by rw[e];simp);have hp2:=Jrz p.1;have hp4:=Jry p.1;refine(JiM p.1 p.2 (w.heap.size+1) w1 _ _ _ _ hI.1).mono ?_
 rintro e w2 ⟨rfl,k1,k2⟩;refine⟨rfl,⟨?_,Jb1 hI.2 k2 (Nat.lt_succ_self _)⟩,hw.trans (k2.mono (Nat.le_succ _))⟩;rw[Ja0 (by omega) (by omega),Ja0 (by omega) (by omega),Ja0 (by omega) (by omega),Ja0 (by omega) (by omega)]at k1;have e1:sum1 (done++[p])=sum1 done+p.2:=by simp[sum1]
 have e2:sum2 (done++[p])=sum2 done+cH p.1:=by simp[sum2]
 have e3:(((done++[p]).length:Nat):Int)=done.length+1:=by simp
 have e4:sum4 (done++[p])=sum4 done+cL p.1:=by simp[sum4]
 rw[e1,e2,e3,e4];exact k1
def cnt (n1 n2 n3 n4:Int):Value:=.agg #[.int .i64 n1,.int .i64 n2,.int .i64 n3,.int .i64 n4]
theorem JcK(s:ByteArray)(hs:s.size<400000000)(w:World)(hT:Lib.Utf8Tabs 2 3 w) :
    Calls Tryz.prog 78 #[.string s] w fun e w'=>∃v x,e=.returned (.tuple #[v,x])/\Below w.heap.size w w' /\
     (((scan s.data.toList).2=true/\x=.nilIface/\v=cnt (sum1 (scan s.data.toList).1) (sum2 (scan s.data.toList).1) (scan s.data.toList).1.length (sum4 (scan s.data.toList).1)) \/
      ((scan s.data.toList).2=false/\v=cnt 0 0 0 0/\isAt w w' x (JhY s.data.toList))):=by
 have hlen:=JgO s.data.toList;rw[←Lib.size_eq]at hlen;have hb0:Below w.heap.size w ((w.alloc (.cells #[.int .i64 0,.int .i64 0,.int .i64 0,.int .i64 0] 25)).alloc (.cells #[.int .i64 0,.int .i64 0,.int .i64 0,.int .i64 0] 25)):=((brf _ _).alloc (nlr _) _).alloc (by rw[wsa];omega) _
 have cE:=JjB s (by unfold maxLen;omega) 136 #[.pointer (some ⟨w.heap.size+1,0,none⟩)] w hT
  (fun done w'=>counted w' (w.heap.size+1) (sum1 done) (sum2 done) (done.length:Int) (sum4 done)/\counted w' w.heap.size 0 0 0 0)
  (JkR w (scan s.data.toList).1 (by omega) (JoM _)) _ hb0 ⟨JkP w,JkQ w⟩
 clear hlen hs hb0;generalize JhY s.data.toList=pl at cE ⊢;generalize scan s.data.toList=sc at cE ⊢;obtain⟨rs,ok⟩:=sc;simp only[]at cE ⊢;generalize sum1 rs=n1 at cE ⊢;generalize sum2 rs=n2 at cE ⊢;generalize sum4 rs=n4 at cE ⊢;generalize (rs.length:Int)=n3 at cE ⊢
 go_enter Tryz.func78,Tryz.ntmps78
 go_wp2_with (first | (go_at_call 135;refine cE.mono ?_;rintro e w1 ⟨hb1,⟨⟨⟨a0,a1,a2,a3⟩,b0,b1,b2,b3⟩,⟨c0,c1,c2,c3⟩,d0,d1,d2,d3⟩,⟨rfl,rfl⟩|⟨rfl,v,rfl,⟨b,rfl,v1,v2,v3,v4⟩⟩⟩) | fail)
 . refine bodyPost_ret (v:=.tuple #[cnt n1 n2 n3 n4,.nilIface]) (by simp[results,Tryz.results78,go_sem,cnt,c0,c1,c2,c3]) rfl ?_
   refine⟨_,_,rfl,?_,?_⟩
   . exact JfP hb1 (nlr _) _ _ _ _
   . first | exact⟨rfl,rfl⟩ | exact .inl ⟨rfl,rfl,rfl⟩
 . have hne:b≠w.heap.size:=by
     intro e;subst e;rw[c0]at v3
     cases v3
   refine bodyPost_ret (v:=.tuple #[cnt 0 0 0 0,.iface 273 (.pointer (some ⟨b,0,none⟩))]) (by simp[results,Tryz.results78,go_sem,cnt,c0,c1,c2,c3]) rfl ?_
   refine⟨_,_,rfl,?_,?_⟩
   . exact JfP hb1 (nlr _) _ _ _ _
   . have hv:isAt w ((((w1.setCell ⟨w.heap.size,0,none⟩ (.int .i64 0)).setCell ⟨w.heap.size,1,none⟩ (.int .i64 0)).setCell ⟨w.heap.size,2,none⟩ (.int .i64 0)).setCell ⟨w.heap.size,3,none⟩ (.int .i64 0)) (.iface 273 (.pointer (some ⟨b,0,none⟩))) pl :=
       ⟨b,rfl,v1,by simpa using v2,by simp[go_sem,v3],by simp[go_sem,v4]⟩
     first | exact⟨rfl,hv⟩ | exact .inr ⟨rfl,rfl,hv⟩
variable {w : World}{B : Nat}{v : Value}
def reads (w:World) (k:IntKind) (v:Value) (zs:List Int):Prop :=
 ∃p c,v=.slice p zs.length c/\zs.length<=c/\c<=maxLen/\(zs≠[]->∃b o,p=some ⟨b,o,none⟩/\b<w.heap.size/\∀i,i<zs.length->w.cell? ⟨b,o+i,none⟩=some (.int k (zs.getD i 0)))
theorem JeN{n:Nat}{l:List UInt8}(hn:n=l.length)(h:w.ownsRow B 5 1 v n (Lib.byteCells l)):(convert 158 9 v).run Tryz.prog w=.ok (.string ⟨l.toArray⟩) w:=by
 subst hn;obtain⟨h0,hrow⟩:=h
 rcases hrow with ⟨rfl,h2⟩|⟨g,cap,cur,rfl,h2,h3,h4,h5,h6,h7⟩
 . obtain rfl:l=[]:=List.eq_nil_of_length_eq_zero h2
   kernel_rfl
 . refine run_convert_bytes_back w 158 9 5 ⟨g,0,none⟩ cap l Tryz.underlying158 Tryz.underlying5 Tryz.underlying9 fun j hj=>?_
   rw[Nat.mul_one]at h7;have hc:cur[j]?=some (.int .u8 (l[j].toNat:Int)):=by
    rw[←Array.getElem?_toList];have:=congrArg (·[j]?) h7;simp only[List.getElem?_take,hj,if_true,Lib.byteCells,List.getElem?_map]at this;rw[this,lgg hj];rfl
   have ea:(⟨g,0,none⟩:Addr).add j=⟨g,j,none⟩:=by simp[Addr.add]<;>omega
   rw[ea];unfold World.cell?;simp[h3,hc]
def encZ (zs:List Int):List UInt8:=zs.flatMap Lib.encodeRune
theorem JpB(zs:List Int)(z:Int):encZ (zs++[z])=encZ zs++Lib.encodeRune z:=by simp[encZ]
theorem JmU(zs:List Int):(encZ zs).length<=4*zs.length:=by
 induction zs with
 | nil=>simp[encZ]
 | cons z zs ih =>
  have:=Lib.runeCells_le z;rw[Lib.runeCells_length]at this;unfold encZ at ih ⊢;rw[List.flatMap_cons,List.length_append,List.length_cons];omega
theorem JiT{w1 wr:World}{v':Value}{o:Obj}{zs:List Int}{z:Int}(hB:B=w.heap.size)(hw:Below B w wr)(hown:wr.ownsRow B 5 1 v (encZ zs).length (Lib.byteCells (encZ zs)))
    (h1:w1.ownsRow B 5 1 v' ((encZ zs).length+(Lib.runeCells z).length) (Lib.byteCells (encZ zs)++Lib.runeCells z)) (hg:(wr.alloc o).grownBy w1 v.ownBlock) :
    w1.ownsRow B 5 1 v' (encZ (zs++[z])).length (Lib.byteCells (encZ (zs++[z])))/\Below B w w1:=by
 subst hB;rw[JpB,List.length_append,Lib.byteCells_append,Lib.byteCells_encodeRune,←Lib.runeCells_length];exact⟨h1,(hw.alloc hw.size o).grown hg (by rw[wsa];have:=hw.size;omega) fun k hk=>(hown.lt k hk).1⟩
theorem Jo5(zs:List Int)(k:Nat)(h:k<zs.length):zs.take (k+1)=zs.take k++[zs.getD k 0]:=by
 rw[List.take_succ_eq_append_getElem h,List.getD_eq_getElem?_getD,lgg h];rfl
theorem JrA(v:Value)(zs:List Int)(w:World)(hz:∀z∈zs,-2147483648<=z/\z<=2147483647)(hr:reads w .i32 v zs)(hl:zs.length<100000000) :
    Calls Tryz.prog 101 #[v] w fun e w'=>∃s x,e=.returned (.tuple #[.string s,x])/\Below w.heap.size w w' /\
     (((∀z∈zs,Lib.validRune z=true)/\x=.nilIface/\s=⟨(encZ zs).toArray⟩) \/
      (∃k:Nat,k<zs.length/\(∀z∈zs.take k,Lib.validRune z=true)/\Lib.validRune (zs.getD k 0)=false/\s=⟨#[]⟩/\isAt w w' x k)):=by
 obtain⟨p,c,rfl,r1,r2,r3⟩:=hr;obtain⟨n,hn⟩:∃n,n=zs.length:=⟨_,rfl⟩;rw[←hn]at r1 r3 hl ⊢;have HN:Hid (n=zs.length):=hn;clear hn;have R3:Hid (zs≠[]->∃b o,p=some ⟨b,o,none⟩/\b<w.heap.size/\∀i,i<n->w.cell? ⟨b,o+i,none⟩=some (.int .i32 (zs.getD i 0))):=r3;have HZ:Hid (∀z∈zs,-2147483648<=z/\z<=2147483647):=hz;clear r3 hz
 go_enter Tryz.func101,Tryz.ntmps101
 go_wp2
 go_loopw [4,9] (fun b i wr=>∃k:Nat,k<=n/\i=.int .i64 k/\(∀z∈zs.take k,Lib.validRune z=true)/\wr.ownsRow w.heap.size 5 1 b (encZ (zs.take k)).length (Lib.byteCells (encZ (zs.take k)))/\Below w.heap.size w wr) (fun _ i _=>n - (intOf i).toNat)
 case atStart=>exact⟨0,Nat.zero_le _,rfl,by simp,World.ownsRow_nil _ _ _ _,brf _ _⟩
 case round =>
  obtain⟨k,hk,rfl,hval,hown,hwr⟩:=hrel
  by_cases hlt:k<n
  . have hne:zs≠[]:=by intro e;rw[HN.out,e]at hlt;exact absurd hlt (Nat.not_lt_zero _)
    obtain⟨b,o,rfl,hbw,hcell⟩:=R3.out hne;have hc:=(hwr.cell (p:=⟨b,o+k,none⟩) hbw).trans (hcell k hlt);obtain⟨z,hz⟩:∃z,z=zs.getD k 0:=⟨_,rfl⟩;rw[←hz]at hc;have hzr:=HZ.out z (by rw[hz,List.getD_eq_getElem?_getD,lgg (by rw[←HN.out];exact hlt)];exact List.getElem_mem _);have hzk:Hid (z=zs.getD k 0):=hz;have hts:Hid (zs.take (k+1)=zs.take k++[z]):=by rw[hz];exact Jo5 zs k (by rw[←HN.out];exact hlt)
    clear hz hcell hne;have cV:=Tryz.utf8_ValidRune z wr;have hlen:=JmU (zs.take k);rw[List.length_take]at hlen;have hlen4:(encZ (zs.take k)).length+4<=140737488355328:=by omega
    have cA:=Tryz.utf8_AppendRune_plain w.heap.size _ _ _ z hzr.1 hzr.2 wr hown hlen4 hwr.size;clear hlen hlen4
    by_cases hv:Lib.validRune z=true
    . rw [hv]at cV
      have hval':Hid (∀y∈zs.take (k+1),Lib.validRune y=true):=by
       show ∀y∈zs.take (k+1),Lib.validRune y=true;rw[hts.out];intro y hy
       rcases List.mem_append.1 hy with hy|hy
       . exact hval y hy
       . rw[List.mem_singleton.1 hy];exact hv
      have NX:Hid (∀w1 v' o,w1.ownsRow w.heap.size 5 1 v' ((encZ (zs.take k)).length+(Lib.runeCells z).length) (Lib.byteCells (encZ (zs.take k))++Lib.runeCells z)->(wr.alloc o).grownBy w1 u4.ownBlock ->
          w1.ownsRow w.heap.size 5 1 v' (encZ (zs.take (k+1))).length (Lib.byteCells (encZ (zs.take (k+1))))/\Below w.heap.size w w1):=by
       intro w1 v' o h1 hg;rw[hts.out];exact JiT rfl hwr hown h1 hg
      clear hval hown hv hzk hts hzr R3 HZ
      go_wp2_with (first | (go_at_call 162;refine cV.mono ?_;rintro e wx ⟨rfl,rfl⟩) | (go_at_call 164;refine cA.mono ?_;rintro e w1 ⟨v',rfl,h1,o',hg⟩;have hnx:=NX.out w1 v' o' h1 hg;clear h1 hg) | fail)
      go_roundw
      case rel=>exact⟨k+1,by omega,by go_num,hval'.out,hnx.1,hnx.2⟩
      case measure=>simp[intOf];omega
    . have hv:Lib.validRune z=false:=Bool.eq_false_iff.2 hv
      rw[hv]at cV;have hfin:Hid (∀y∈zs.take k,Lib.validRune y=true):=hval;have hbad:Hid (Lib.validRune (zs.getD k 0)=false):=by rw[←hzk.out];exact hv
      clear hval hown hv hzk hts hzr R3 HZ cA
      go_wp2_with (first | (go_at_call 162;refine cV.mono ?_;rintro e wx ⟨rfl,rfl⟩) | (go_at_call 163;refine(Jft _ _).mono ?_;rintro e w1 ⟨⟨x,rfl,hx⟩,hb1⟩) | fail)
      go_ret2
      refine⟨_,_,rfl,hwr.trans (hb1.mono hwr.size),.inr ⟨k,hlt,hfin.out,hbad.out,rfl,Jh5 hx hwr.size⟩⟩
  . have e:zs.take k=zs:=List.take_of_length_le (by rw[←HN.out];omega)
    rw[e]at hval hown;have hval':Hid (∀y∈zs,Lib.validRune y=true):=hval;have hs:=JeN rfl hown;clear hval hown e R3 HZ;go_wp2
    go_ret2
    refine⟨_,_,rfl,hwr,.inl ⟨hval'.out,rfl,rfl⟩⟩
end
section
open Go.RowKit
variable {zs : List Int}
theorem or1024(x y:Int)(h0:0<=x)(h1:x<1024)(h2:0<=y)(h3:y<1024):bits BinOp.or IntKind.i32 (x*1024) y=x*1024+y:=by
 obtain⟨a,rfl⟩:∃a:Nat,x=a:=⟨x.toNat,by omega⟩;obtain⟨b,rfl⟩:∃b:Nat,y=b:=⟨y.toNat,by omega⟩;have e:(a:Int)*1024=((a*1024:Nat):Int):=by omega
 rw[e];show IntKind.i32.wrap ((BitVec.ofInt 32 ((a*1024:Nat):Int) ||| BitVec.ofInt 32 (b:Int)).toNat:Int)=_;have hm:a*1024 ||| b=a*1024+b:=by
  have:=Nat.shiftLeft_add_eq_or_of_lt (i:=10) (b:=b) (by omega) a;rw[Nat.shiftLeft_eq]at this;exact this.symm
 rw[BitVec.toNat_or,ofInt_u32 _ (by omega),ofInt_u32 _ (by omega),hm];exact(Lib.wrap_i32_small _ (by omega)).trans (by omega)
def Jff (h:Int):Bool:=decide (55296<=h/\h<56320)
def Jeg (h:Int):Bool:=decide (56320<=h/\h<57344)
def Jbz:List Int->Int×Nat
 | []=>(0,1)
 | [a]=>(a,1)
 | a :: b :: _=>if Jff a && Jeg b then (65536+((a - 55296)*1024+(b - 56320)),2) else (a,1)
theorem JfB(zs:List Int):1<=(Jbz zs).2:=by
 unfold Jbz
 split
 . simp
 . simp
 . split<;>simp
theorem JqN(h:zs≠[]):(Jbz zs).2<=zs.length:=by
 unfold Jbz
 split
 . exact absurd rfl h
 . simp
 . split<;>simp
theorem JqO(h:∀z∈zs,0<=z/\z<65536):0<=(Jbz zs).1/\(Jbz zs).1<=1114111:=by
 unfold Jbz
 split
 . simp
 . rename_i a
   have:=h a (by simp);simp only[];omega
 . rename_i a b t
   have h1:=h a (by simp);have h2:=h b (by simp)
   split
   . rename_i hc
     rw[Bool.and_eq_true]at hc;have h3:=of_decide_eq_true hc.1;have h4:=of_decide_eq_true hc.2;simp only[];omega
   . simp only[]
     omega
def Jf5:Nat->List Int->List (Int×Nat)×Bool
 | 0,_=>([],true)
 | n+1,zs=>if zs=[] then ([],true) else if Lib.validRune (Jbz zs).1 then (Jbz zs :: (Jf5 n (zs.drop (Jbz zs).2)).1,(Jf5 n (zs.drop (Jbz zs).2)).2) else ([],false)
theorem Jgb:∀(n m:Nat)(l:List Int),l.length<=n->l.length<=m->Jf5 n l=Jf5 m l
 | 0,m,l,hn,_=>by
  obtain rfl:l=[]:=List.eq_nil_of_length_eq_zero (by omega)
  cases m<;>simp[Jf5]
 | n+1,0,l,_,hm=>by
  obtain rfl:l=[]:=List.eq_nil_of_length_eq_zero (by omega);simp[Jf5]
 | n + 1,m+1,l,hn,hm=>by
  unfold Jf5
  by_cases h:l=[]
  . simp[h]
  . have h1:=JfB l
    have h2:l.length≠0:=by simpa using h
    rw[Jgb n m (l.drop (Jbz l).2) (by rw[List.length_drop];omega) (by rw[List.length_drop];omega)]
def JcV (zs:List Int):List (Int×Nat)×Bool:=Jf5 zs.length zs
theorem Ji1(l:List Int)(h:l≠[]):JcV l=if Lib.validRune (Jbz l).1 then (Jbz l :: (JcV (l.drop (Jbz l).2)).1,(JcV (l.drop (Jbz l).2)).2) else ([],false):=by
 have h1:=JfB l;have h2:l.length≠0:=by simpa using h
 unfold JcV;rw[Jgb l.length ((l.length - 1)+1) l (nlr _) (by omega),Jf5,if_neg h,Jgb (l.length - 1) (l.drop (Jbz l).2).length _ (by rw[List.length_drop];omega) (nlr _)]
theorem Jf4:JcV []=([],true):=rfl
theorem Jkv(h:zs≠[])(hb:Lib.validRune (Jbz zs).1=false):JcV zs=([],false):=by rw[Ji1 zs h,hb];rfl
theorem Jga(h:zs≠[])(hb:Lib.validRune (Jbz zs).1=true):JcV zs=(Jbz zs :: (JcV (zs.drop (Jbz zs).2)).1,(JcV (zs.drop (Jbz zs).2)).2):=by
 rw[Ji1 zs h,hb];rfl
def JoX (zs:List Int):Nat:=((JcV zs).1.map (·.2)).sum
theorem Jh4(h:Int)(w:World):Calls Tryz.prog 213 #[.int .u16 h] w fun e w'=>e=.returned (.bool (Jff h))/\w'=w:=by
 by_cases h1:55296<=h
 . by_cases h2:h<56320
   . have e:Jff h=true:=decide_eq_true ⟨h1,h2⟩
     rw[e];clear e
     go_enter Tryz.func213,Tryz.ntmps213
     go_wp2;go_ret;exact⟨rfl,rfl⟩
   . have e:Jff h=false:=decide_eq_false fun c=>h2 c.2
     rw[e];clear e
     go_enter Tryz.func213,Tryz.ntmps213
     go_wp2;go_ret;exact⟨rfl,rfl⟩
 . have e:Jff h=false:=decide_eq_false fun c=>h1 c.1
   rw[e];clear e
   go_enter Tryz.func213,Tryz.ntmps213
   go_wp2;go_ret;exact⟨rfl,rfl⟩
theorem Jg2(h:Int)(w:World):Calls Tryz.prog 214 #[.int .u16 h] w fun e w'=>e=.returned (.bool (Jeg h))/\w'=w:=by
 by_cases h1:56320<=h
 . by_cases h2:h<57344
   . have e:Jeg h=true:=decide_eq_true ⟨h1,h2⟩
     rw[e];clear e
     go_enter Tryz.func214,Tryz.ntmps214
     go_wp2;go_ret;exact⟨rfl,rfl⟩
   . have e:Jeg h=false:=decide_eq_false fun c=>h2 c.2
     rw[e];clear e
     go_enter Tryz.func214,Tryz.ntmps214
     go_wp2;go_ret;exact⟨rfl,rfl⟩
 . have e:Jeg h=false:=decide_eq_false fun c=>h1 c.1
   rw[e];clear e
   go_enter Tryz.func214,Tryz.ntmps214
   go_wp2;go_ret;exact⟨rfl,rfl⟩
theorem JqL(b o c:Nat)(h:Int)(w:World)(hc:w.cell? ⟨b,o,none⟩=some (.int .u16 h))(h0:0<=h)(h1:h<65536) :
    Calls Tryz.prog 161 #[.slice (some ⟨b,o,none⟩) 1 c] w fun e w'=>e=.returned (.tuple #[.int .i32 h,.int .i64 1])/\Below w.heap.size w w':=by
 go_enter Tryz.func161,Tryz.ntmps161
 go_wp2
 go_ret2
 exact⟨rfl,brf _ _⟩
theorem JqK(b o n c:Nat)(h g:Int)(w:World)(hn:2<=n)(hcap:n<=c)(hm:c<=maxLen)(hc:w.cell? ⟨b,o,none⟩=some (.int .u16 h))(hd:w.cell? ⟨b,o+1,none⟩=some (.int .u16 g))(h0:0<=h)(h1:h<65536)(g0:0<=g)(g1:g<65536) :
    Calls Tryz.prog 161 #[.slice (some ⟨b,o,none⟩) n c] w fun e w'=>e=.returned (.tuple #[.int .i32 (Jbz [h,g]).1,.int .i64 (Jbz [h,g]).2])/\Below w.heap.size w w':=by
 unfold maxLen at hm;have hn1:(1:Int)<(n:Int):=by omega
 by_cases hf:Jff h=true
 . have cF:=Jh4 h
   rw[hf]at cF
   by_cases hs:Jeg g=true
   . have cS:=Jg2 g
     rw[hs]at cS;have e:Jbz [h,g]=(65536+((h - 55296)*1024+(g - 56320)),2):=by simp[Jbz,hf,hs]
     rw[e];have hf':=of_decide_eq_true hf;have hs':=of_decide_eq_true hs;have ho:=or1024 (h - 55296) (g - 56320) (by omega) (by omega) (by omega) (by omega);clear e hf hs;obtain⟨f1,f2⟩:=hf';obtain⟨s1,s2⟩:=hs'
     go_enter Tryz.func161,Tryz.ntmps161
     go_wp2_with (first | (go_at_call 213;refine(cF _).mono ?_;rintro e wx ⟨rfl,rfl⟩) | (go_at_call 214;refine(cS _).mono ?_;rintro e wx ⟨rfl,rfl⟩) | fail)
     go_quiet (fail)
     go_wp2
     go_ret2
     exact⟨rfl,below_drewN (brf _ _) nq⟩
   . have hs:Jeg g=false:=Bool.eq_false_iff.2 hs
     have cS:=Jg2 g;rw[hs]at cS;have e:Jbz [h,g]=(h,1):=by simp[Jbz,hs]
     rw[e];clear e hf hs
     go_enter Tryz.func161,Tryz.ntmps161
     go_wp2_with (first | (go_at_call 213;refine(cF _).mono ?_;rintro e wx ⟨rfl,rfl⟩) | (go_at_call 214;refine(cS _).mono ?_;rintro e wx ⟨rfl,rfl⟩) | fail)
     go_ret2
     exact⟨rfl,brf _ _⟩
 . have hf:Jff h=false:=Bool.eq_false_iff.2 hf
   have cF:=Jh4 h;rw[hf]at cF;have e:Jbz [h,g]=(h,1):=by simp[Jbz,hf]
   rw[e];clear e hf
   go_enter Tryz.func161,Tryz.ntmps161
   go_wp2_with (first | (go_at_call 213;refine(cF _).mono ?_;rintro e wx ⟨rfl,rfl⟩) | fail)
   go_ret2
   exact⟨rfl,brf _ _⟩
theorem JqM(b o n c k:Nat)(zs:List Int)(w:World)(hn:n=zs.length)(hk:k<n)(hcap:n<=c)(hm:c<=maxLen)(hc:∀i,i<n->w.cell? ⟨b,o+i,none⟩=some (.int .u16 (zs.getD i 0)))(hz:∀z∈zs,0<=z/\z<65536) :
    Calls Tryz.prog 161 #[.slice (some ⟨b,o+k,none⟩) (n - k:Nat) (c - k)] w fun e w'=>e=.returned (.tuple #[.int .i32 (Jbz (zs.drop k)).1,.int .i64 (Jbz (zs.drop k)).2])/\Below w.heap.size w w':=by
 have hk':k<zs.length:=by omega
 have e1:zs.drop k=zs[k] :: zs.drop (k+1):=List.drop_eq_getElem_cons hk';have m1:=hz zs[k] (List.getElem_mem _);have c1:=hc k hk;have d1:zs.getD k 0=zs[k]:=by rw[List.getD_eq_getElem?_getD,lgg hk'];rfl
 rw[d1]at c1
 by_cases h1:n - k=1
 . have e2:zs.drop (k+1)=[]:=List.drop_eq_nil_of_le (by omega)
   rw[e1,e2,h1];exact JqL b (o+k) (c - k) _ w c1 m1.1 m1.2
 . have hk2:k+1<zs.length:=by omega
   have e2:zs.drop (k+1)=zs[k+1] :: zs.drop (k+1+1):=List.drop_eq_getElem_cons hk2;have m2:=hz zs[k+1] (List.getElem_mem _);have c2:=hc (k+1) (by omega);have d2:zs.getD (k+1) 0=zs[k+1]:=by rw[List.getD_eq_getElem?_getD,lgg hk2];rfl
   rw[d2]at c2;have e3:Jbz (zs.drop k)=Jbz [zs[k],zs[k+1]]:=by rw[e1,e2];rfl
   rw[e3];exact JqK b (o+k) (n - k) (c - k) _ _ w (by omega) (by omega) (by omega) c1 c2 m1.1 m1.2 m2.1 m2.2
theorem Jfg(v:Value)(zs:List Int)(w:World)(hz:∀z∈zs,0<=z/\z<65536)(hr:reads w .u16 v zs)(hl:zs.length<100000000) :
    Calls Tryz.prog 97 #[v] w fun e w'=>∃s x,e=.returned (.tuple #[.string s,x])/\Below w.heap.size w w' /\
     (((JcV zs).2=true/\x=.nilIface/\s=⟨(encZ ((JcV zs).1.map (·.1))).toArray⟩) \/
      ((JcV zs).2=false/\s=⟨#[]⟩/\isAt w w' x (JoX zs))):=by
 obtain⟨p,c,rfl,r1,r2,r3⟩:=hr;obtain⟨n,hn⟩:∃n,n=zs.length:=⟨_,rfl⟩;rw[←hn]at r1 r3 hl ⊢;have HN:Hid (n=zs.length):=hn;clear hn;have R3:Hid (zs≠[]->∃b o,p=some ⟨b,o,none⟩/\b<w.heap.size/\∀i,i<n->w.cell? ⟨b,o+i,none⟩=some (.int .u16 (zs.getD i 0))):=r3;have HZ:Hid (∀z∈zs,0<=z/\z<65536):=hz;clear r3 hz
 go_enter Tryz.func97,Tryz.ntmps97
 go_wp2
 go_loopw [4,5] (fun b i wr=>∃(k:Nat) (done:List (Int×Nat)),k<=n/\i=.int .i64 k/\(JcV zs).1=done++(JcV (zs.drop k)).1/\(done.map (·.2)).sum=k/\(JcV zs).2=(JcV (zs.drop k)).2/\done.length<=k /\
     wr.ownsRow w.heap.size 5 1 b (encZ (done.map (·.1))).length (Lib.byteCells (encZ (done.map (·.1))))/\Below w.heap.size w wr) (fun _ i _=>n - (intOf i).toNat)
 case atStart=>exact⟨0,[],Nat.zero_le _,rfl,by rw[List.drop_zero];rfl,rfl,by rw[List.drop_zero],nlr _,World.ownsRow_nil _ _ _ _,brf _ _⟩
 case round =>
  obtain⟨k,done,hk,rfl,hd1,hd2,hd3,hdl,hown,hwr⟩:=hrel
  by_cases hlt:k<n
  . have hne:zs≠[]:=by intro e;rw[HN.out,e]at hlt;exact absurd hlt (Nat.not_lt_zero _)
    have hne2:zs.drop k≠[]:=by
     intro e;have:=congrArg List.length e;rw[List.length_drop,List.length_nil,←HN.out]at this;omega
    obtain⟨b,o,rfl,hbw,hcell⟩:=R3.out hne;have cL:=JqM b o n c k zs wr HN.out hlt r1 r2 (fun i hi=>(hwr.cell (p:=⟨b,o+i,none⟩) hbw).trans (hcell i hi)) HZ.out;have hge:=JfB (zs.drop k);have hle:=JqN hne2;rw[List.length_drop,←HN.out]at hle;have hzb: -2147483648<=(Jbz (zs.drop k)).1/\(Jbz (zs.drop k)).1<=2147483647:=by
     have:=JqO (zs:=zs.drop k) fun z hz=>HZ.out z (List.mem_of_mem_drop hz)
     omega
    obtain⟨z,hzz⟩:∃z,z=(Jbz (zs.drop k)).1:=⟨_,rfl⟩;obtain⟨m,hmm⟩:∃m,m=(Jbz (zs.drop k)).2:=⟨_,rfl⟩;have hp:Jbz (zs.drop k)=(z,m):=by rw[hzz,hmm]
    have cV:=Tryz.utf8_ValidRune z;have hlen:=JmU (done.map (·.1));rw[List.length_map]at hlen;have hlen4:(encZ (done.map (·.1))).length+4<=140737488355328:=by omega
    rw[←hzz]at hzb;have cA:=fun (wx:World) (hx:Below wr.heap.size wr wx)=>Tryz.utf8_AppendRune_plain w.heap.size _ _ _ z hzb.1 hzb.2 wx (Jaj hown hx) hlen4 (Nat.le_trans hwr.size hx.size)
    rw[hp]at cL hge hle;simp only[]at hge hle;clear hlen hlen4 hzb
    by_cases hv:Lib.validRune z=true
    . have hs2:=Jga hne2 (by rw[hp];exact hv)
      rw[hp]at hs2;rw[hv]at cV;have hnext:Hid ((JcV zs).1=done++[(z,m)]++(JcV (zs.drop (k+m))).1):=by
       show _=_;rw[hd1,hs2,List.append_assoc];simp only[List.drop_drop];rfl
      have hnext2:Hid (((done++[(z,m)]).map (·.2)).sum=k+m):=by
       show _=_;rw[List.map_append,List.sum_append,hd2];rfl
      have hnext3:Hid ((JcV zs).2=(JcV (zs.drop (k+m))).2):=by
       show _=_;rw[hd3,hs2];simp only[List.drop_drop]
      have hnext4:Hid ((done++[(z,m)]).length<=k+m):=by
       show _<=_;rw[List.length_append];simp;omega
      have NX:Hid (∀wx w1 v' o,Below wr.heap.size wr wx->w1.ownsRow w.heap.size 5 1 v' ((encZ (done.map (·.1))).length+(Lib.runeCells z).length) (Lib.byteCells (encZ (done.map (·.1)))++Lib.runeCells z)->(wx.alloc o).grownBy w1 u4.ownBlock ->
          w1.ownsRow w.heap.size 5 1 v' (encZ ((done++[(z,m)]).map (·.1))).length (Lib.byteCells (encZ ((done++[(z,m)]).map (·.1))))/\Below w.heap.size w w1):=by
       intro wx w1 v' o hx h1 hg;rw[List.map_append];exact JiT rfl (hwr.trans (hx.mono hwr.size)) (Jaj hown hx) h1 hg
      clear hd1 hd2 hd3 hdl hs2 hown hv hzz hmm hp R3 HZ hcell hne hne2
      go_wp2_with (first | (go_at_call 161;refine cL.mono ?_;rintro e w0 ⟨rfl,hb0⟩) | (go_at_call 162;refine(cV _).mono ?_;rintro e wx ⟨rfl,rfl⟩) | (go_at_call 164;refine(cA _ hb0).mono ?_;rintro e w1 ⟨v',rfl,h1,o',hg⟩;have hnx:=NX.out _ w1 v' o' hb0 h1 hg;clear h1 hg) | fail)
      go_roundw
      case rel=>exact⟨k+m,_,by omega,by go_num,hnext.out,hnext2.out,hnext3.out,hnext4.out,hnx.1,hnx.2⟩
      case measure=>simp[intOf];omega
    . have hv:Lib.validRune z=false:=Bool.eq_false_iff.2 hv
      have hs2:=Jkv hne2 (by rw[hp];exact hv);rw[hv]at cV;have hpl:Hid (JoX zs=k):=by
       show _=_;unfold JoX;rw[hd1,hs2,List.append_nil,hd2]
      have hf:Hid ((JcV zs).2=false):=by show _=_;rw[hd3,hs2]
      clear hd1 hd2 hd3 hdl hs2 hown hv hzz hmm hp R3 HZ hcell hne hne2 cA
      go_wp2_with (first | (go_at_call 161;refine cL.mono ?_;rintro e w0 ⟨rfl,hb0⟩) | (go_at_call 162;refine(cV _).mono ?_;rintro e wx ⟨rfl,rfl⟩) | (go_at_call 163;refine(Jft _ _).mono ?_;rintro e w1 ⟨⟨x,rfl,hx⟩,hb1⟩) | fail)
      go_ret2
      have hb01:Below wr.heap.size wr w1:=hb0.trans (hb1.mono hb0.size);refine⟨_,_,rfl,hwr.trans (hb01.mono hwr.size),.inr ⟨hf.out,rfl,?_⟩⟩;rw[hpl.out];exact Jh5 hx (Nat.le_trans hwr.size hb0.size)
  . have e:zs.drop k=[]:=List.drop_eq_nil_of_le (by rw[←HN.out];omega)
    rw[e,Jf4]at hd1 hd3;rw[List.append_nil]at hd1;rw[←hd1]at hown;have hs:=JeN rfl hown;have hf:Hid ((JcV zs).2=true):=hd3;clear hown e R3 HZ hd1 hd3;go_wp2
    go_ret2
    refine⟨_,_,rfl,hwr,.inl ⟨hf.out,rfl,rfl⟩⟩
end
section
variable {r : Nat}{rs : List Nat}
def toI (l:List Nat):List Int:=l.map fun n:Nat=>(n:Int)
theorem JeL(a b:List Nat):toI (a++b)=toI a++toI b:=by simp[toI]
theorem Jfw(h:Jaw r):Lib.validRune (r:Int)=true:=by
 unfold Jaw at h;unfold Lib.validRune;apply decide_eq_true;omega
theorem Jjs{z:Int}(h:Lib.validRune z=true):∃r:Nat,z=r/\Jaw r:=by
 have:=of_decide_eq_true h;exact⟨z.toNat,by omega,by unfold Jaw;omega⟩
theorem Joo(h:∀r∈rs,Jaw r):∀z∈toI rs,Lib.validRune z=true:=by
 intro z hz;obtain⟨r,hr,rfl⟩:=List.mem_map.1 hz;exact Jfw (h r hr)
theorem JmT(rs:List Nat):encZ (toI rs)=encs rs:=by
 induction rs with
 | nil=>rfl
 | cons r rs ih =>
  show Lib.encodeRune (r:Int)++encZ (toI rs)=enc r++encs rs;rw[ih];rfl
theorem Jj7(h:Jaw r)(t:List Int):Jbz (toI (hal r)++t)=((r:Int),(hal r).length):=by
 unfold Jaw at h
 by_cases h1:r<65536
 . have e:hal r=[r]:=by simp[hal,h1]
   rw[e];have hf:Jff (r:Int)=false:=decide_eq_false (by omega)
   cases t with
   | nil=>rfl
   | cons b t=>simp[toI,Jbz,hf]
 . have e:hal r=[55296+(r - 65536) / 1024,56320+(r - 65536) % 1024]:=by simp[hal,h1]
   rw[e];have hf:Jff ((55296+(r - 65536) / 1024:Nat):Int)=true:=decide_eq_true (by omega);have hs:Jeg ((56320+(r - 65536) % 1024:Nat):Int)=true:=decide_eq_true (by omega);show Jbz (((55296+(r - 65536) / 1024:Nat):Int) :: ((56320+(r - 65536) % 1024:Nat):Int) :: t)=_;simp only[Jbz,hf,hs,Bool.and_self,if_true];refine Prod.ext ?_ rfl;show(65536+((((55296+(r - 65536) / 1024:Nat):Int) - 55296)*1024+(((56320+(r - 65536) % 1024:Nat):Int) - 56320)):Int)=(r:Int);omega
theorem Jp3(r:Nat):hal r≠[]:=by unfold hal;split<;>simp
theorem JfE(r:Nat)(rs:List Nat):hals (r :: rs)=hal r++hals rs:=rfl
theorem Ji2:∀(rs:List Nat),(∀r∈rs,Jaw r)->JcV (toI (hals rs))=(rs.map fun r:Nat=>((r:Int),(hal r).length),true)
 | [],_=>Jf4
 | r :: rs,h=>by
  have hr:=h r (by simp);have h1:=Jj7 hr (toI (hals rs));have e:toI (hals (r :: rs))=toI (hal r)++toI (hals rs):=by rw[JfE,JeL]
  have hne:toI (hals (r :: rs))≠[]:=by
   rw[e];intro c;have:=congrArg List.length c;rw[List.length_append]at this;have h0:(hal r).length≠0:=by simpa using Jp3 r
   simp[toI]at this;exact Jp3 r this.1
  rw[←e]at h1;rw[Jga hne (by rw[h1];exact Jfw hr),h1,e];have ed:(toI (hal r)++toI (hals rs)).drop (hal r).length=toI (hals rs):=List.drop_left' (by simp[toI]);simp only[ed];rw[Ji2 rs (fun x hx=>h x (by simp[hx]))];rfl
theorem JnG(n:Nat):∀(zs:List Int),zs.length<=n->(∀z∈zs,0<=z/\z<65536)->(JcV zs).2=true ->
    ∃rs:List Nat,(JcV zs).1.map (·.1)=toI rs/\(∀r∈rs,Jaw r)/\zs=toI (hals rs):=by
 induction n with
 | zero =>
  intro zs hl _ _;obtain rfl:zs=[]:=by cases zs<;>simp_all
  rw[Jf4];exact⟨[],rfl,by simp,rfl⟩
 | succ n ih =>
  intro zs hl hb hg
  by_cases h:zs=[]
  . subst h;rw[Jf4];exact⟨[],rfl,by simp,rfl⟩
  by_cases hv:Lib.validRune (Jbz zs).1=true
  . rw [Jga h hv]at hg ⊢
    have w1:=JfB zs;obtain⟨rs,i1,i2,i3⟩:=ih (zs.drop (Jbz zs).2) (by rw[List.length_drop];omega) (fun z hz=>hb z (List.mem_of_mem_drop hz)) hg;obtain⟨r,e1,e2⟩:=Jjs hv
    have key:zs.take (Jbz zs).2=toI (hal r):=by
     match zs,h with
     | [a],_ =>
      have ha:=hb a (by simp);simp only[Jbz]at e1 ⊢;subst e1;have:(r:Nat)<65536:=by omega
      simp[hal,this,toI]
     | a :: b :: t,_ =>
      have ha:=hb a (by simp);have hb':=hb b (by simp)
      by_cases c:(Jff a && Jeg b)=true
      . have el:Jbz (a :: b :: t)=(65536+((a - 55296)*1024+(b - 56320)),2):=by simp only[Jbz,c,if_true]
        rw[el]at e1 ⊢;rw[Bool.and_eq_true]at c;have c1:=of_decide_eq_true c.1;have c2:=of_decide_eq_true c.2;simp only[]at e1;have hr:¬r<65536:=by omega
        simp only[List.take_succ_cons,List.take_zero,hal,if_neg hr,toI,List.map_cons,List.map_nil];rw[show((55296+(r - 65536) / 1024:Nat):Int)=a by omega,show((56320+(r - 65536) % 1024:Nat):Int)=b by omega]
      . have el:Jbz (a :: b :: t)=(a,1):=by simp only[Jbz,c];rfl
        rw[el]at e1 ⊢;simp only[]at e1;subst e1;have:(r:Nat)<65536:=by omega
        simp[hal,this,toI]
    refine⟨r :: rs,?_,?_,?_⟩
    . rw[List.map_cons,i1,e1];rfl
    . intro x hx
      rcases List.mem_cons.1 hx with rfl|hx
      . exact e2
      . exact i2 x hx
    . rw[JfE,JeL,←key,←i3]
      exact(List.take_append_drop _ _).symm
  . rw[Jkv h (Bool.eq_false_iff.2 hv)]at hg
    cases hg
theorem Jrb(rs:List Nat):(hals rs).length<=2*rs.length/\rs.length<=(hals rs).length:=by
 induction rs with
 | nil=>simp[hals]
 | cons r rs ih =>
  have h0:(hal r).length≠0:=by simpa using Jp3 r
  have h1:(hal r).length<=2:=by unfold hal;split<;>simp
  rw[JfE,List.length_append,List.length_cons];omega
theorem JnV(l:List UInt8):JcJ (scan l).1=(toI (Jal l)).map (Value.int .i32):=by
 unfold JcJ Jal toI;rw[List.map_map,List.map_map];rfl
theorem JnU(l:List UInt8):Jcn (scan l).1=(toI (hals (Jal l))).map (Value.int .u16):=by
 unfold Jcn Jal hals toI;generalize (scan l).1=ps
 induction ps with
 | nil=>rfl
 | cons p ps ih =>
  rw[List.flatMap_cons,ih,List.map_cons,List.flatMap_cons,List.map_append,List.map_append]
  congr 1
  unfold JcH;rw[List.map_map];rfl
theorem toI_bd(h:∀r∈rs,Jaw r):∀z∈toI rs,-2147483648<=z/\z<=2147483647:=by
 intro z hz;obtain⟨r,hr,rfl⟩:=List.mem_map.1 hz;have:=h r hr;unfold Jaw at this;omega
theorem Jp1(h:∀r∈rs,Jaw r):∀z∈toI (hals rs),0<=z/\z<65536:=by
 intro z hz;obtain⟨n,hn,rfl⟩:=List.mem_map.1 hz;obtain⟨r,hr,hn⟩:=List.mem_flatMap.1 hn;have:=h r hr;unfold Jaw at this;unfold hal at hn
 split at hn
 . simp at hn;omega
 . simp at hn;omega
end
section
theorem Jo8(rs:List Nat):sum1 (wide rs)=((encs rs).length:Int):=by
 induction rs with
 | nil=>rfl
 | cons r rs ih =>
  have e:sum1 (wide (r :: rs))=((enc r).length:Int)+sum1 (wide rs):=by simp[sum1,wide]
  rw[e,ih,Jc2,List.length_append]
  push_cast
  rfl
end
section
open Go.RowKit
/-! ### What runes count -/
def C1 (rs:List Nat):Int:=sum1 (wide rs)
def C2 (rs:List Nat):Int:=sum2 (wide rs)
def C3 (rs:List Nat):Int:=rs.length
def C4 (rs:List Nat):Int:=sum4 (wide rs)
theorem Jdv(a b:List Nat):wide (a++b)=wide a++wide b:=by simp[wide]
theorem Jcp(a b:List Nat):C1 (a++b)=C1 a+C1 b:=by unfold C1 sum1;rw[Jdv,List.map_append,List.sum_append]
theorem Jli(a b:List Nat):C2 (a++b)=C2 a+C2 b:=by unfold C2 sum2;rw[Jdv,List.map_append,List.sum_append]
theorem Jlh(a b:List Nat):C3 (a++b)=C3 a+C3 b:=by unfold C3;rw[List.length_append];push_cast;rfl
theorem Jqf(a b:List Nat):C4 (a++b)=C4 a+C4 b:=by unfold C4 sum4;rw[Jdv,List.map_append,List.sum_append]
theorem JbU(rs:List Nat):C1 rs=(encs rs).length:=Jo8 rs
theorem Jok(rs:List Nat):0<=C3 rs/\C3 rs<=C1 rs:=by
 have:=Jeu rs;rw[JbU];unfold C3;omega
theorem C4_le(rs:List Nat):0<=C4 rs/\C4 rs<=C1 rs:=by
 have h:=Jjm (wide rs);have h3:=Jok rs;have e:(wide rs).length=rs.length:=by simp[wide]
 rw[e]at h;unfold C4;unfold C3 at h3;omega
theorem Jqg(rs:List Nat):0<=C2 rs/\C2 rs<=2*C1 rs:=by
 have h:=Jjn (wide rs);have h3:=Jok rs;have e:(wide rs).length=rs.length:=by simp[wide]
 rw[e]at h;unfold C2;unfold C3 at h3;omega
def Jao (rs:List Nat):ByteArray:=⟨(encs rs).toArray⟩
theorem JdK(rs:List Nat):(Jao rs).size=(encs rs).length:=by simp[Jao,ByteArray.size]
theorem JdL(rs:List Nat):(Jao rs).data.toList=encs rs:=rfl
inductive T where
 | nil
 | node (l:T) (rs:List Nat) (r:T)
def T.size:T->Nat
 | .nil=>0
 | .node l _ r=>1+l.size+r.size
theorem Jav{W W':World}(hb:Below W.heap.size W W'){b o:Nat}{v:Value}(h:W.cell? ⟨b,o,none⟩=some v):W'.cell? ⟨b,o,none⟩=some v :=
 (hb.cell (p:=⟨b,o,none⟩) (blt W _ h)).trans h
end
section
theorem JdM(rs:List Nat):0<=C1 rs:=by rw[JbU];omega
end
section
open Go.RowKit
attribute [local go_sem] Ja2 JaV
theorem JmY(rs:List Nat)(hr:∀r∈rs,Jaw r)(hz:C1 rs<=300000000)(w:World)(hT:Lib.Utf8Tabs 2 3 w) :
    Calls Tryz.prog 78 #[.string (Jao rs)] w fun e w'=>e=.returned (.tuple #[.agg #[.int .i64 (C1 rs),.int .i64 (C2 rs),.int .i64 (C3 rs),.int .i64 (C4 rs)],.nilIface])/\Below w.heap.size w w':=by
 have hs:(Jao rs).size<400000000:=by rw[JdK];rw[JbU]at hz;omega
 have hsc:scan (Jao rs).data.toList=(wide rs,true):=by rw[JdL];exact Jcx rs hr
 refine(JcK _ hs w hT).mono ?_
 rintro e w' ⟨v,x,rfl,hb,⟨_,rfl,rfl⟩|⟨h,_⟩⟩
 . refine⟨?_,hb⟩
   rw[hsc];have e3:((wide rs).length:Int)=C3 rs:=by simp[wide,C3]
   simp only[e3];rfl
 . rw[hsc]at h;cases h
end
section
open Go.RowKit
structure But (B:Nat) (A A':World):Prop where
 os:A'.os=A.os
 tape:A'.tape=A.tape
 output:A'.output=A.output
 size:A.heap.size<=A'.heap.size
 block:∀k,k<A.heap.size->k≠B->A'.heap[k]?=A.heap[k]?
theorem But.refl(B:Nat)(A:World):But B A A:=⟨rfl,rfl,rfl,nlr _,fun _ _ _=>rfl⟩
theorem But.trans{B:Nat}{a b c:World}(h:But B a b)(k:But B b c):But B a c :=
 ⟨k.os.trans h.os,k.tape.trans h.tape,k.output.trans h.output,Nat.le_trans h.size k.size,fun i h1 h2=>(k.block i (Nat.lt_of_lt_of_le h1 h.size) h2).trans (h.block i h1 h2)⟩
theorem But.of_below{B:Nat}{A A':World}(h:Below A.heap.size A A'):But B A A':=⟨h.os,h.tape,h.output,h.size,fun k h1 _=>h.block k h1⟩
theorem But.setCell{B:Nat}{A W:World}(h:But B A W){p:Addr}(hp:p.block=B)(v:Value):But B A (W.setCell p v) :=
 h.trans ⟨rfl,rfl,rfl,by simp[World.setCell],fun k _ h2=>Below.heap_setCell W p v k (by rw[hp];exact h2)⟩
theorem But.below{B:Nat}{A A':World}(h:But B A A')(hB:B<=A.heap.size):Below B A A':=⟨h.os,h.tape,h.output,h.size,fun k hk=>h.block k (by omega) (by omega)⟩
theorem But.cell{B:Nat}{A A':World}(h:But B A A'){b o:Nat}{v:Value}(hb:b≠B)(hc:A.cell? ⟨b,o,none⟩=some v):A'.cell? ⟨b,o,none⟩=some v :=
 (World.cell?_of_block (w:=A) (a:=⟨b,o,none⟩) (h.block b (blt A _ hc) hb)).trans hc
structure GrowB (B:Nat) (W:World) (G:World->World):Prop where
 but:∀x,But B W (G x)
 onto:∀w,But B W w->G w=w
theorem GrowB.cell{B:Nat}{W:World}{G:World->World}(hG:GrowB B W G){b o:Nat}{v:Value}(hb:b≠B)(h:W.cell? ⟨b,o,none⟩=some v):∀x,(G x).cell? ⟨b,o,none⟩=some v :=
 fun x=>(hG.but x).cell hb h
section
variable {P : Program} {ops : Array Oper} {md : Region.Mode} {m B : Nat} {W0 : World} {Q : Exit → Act → World → Prop}
end
end
section
variable {n : Nat}
def Jf0 (b:UInt8):Bool:=Lib.runeStart (b.toNat:Int)
theorem Jee(h:n<256)(h2:n / 64≠2):Jf0 n.toUInt8=true:=by
 unfold Jf0 Lib.runeStart;rw[toU8 h,bne_iff_ne];omega
theorem Jfi(h:n<64):Jf0 (128+n).toUInt8=false:=by
 unfold Jf0 Lib.runeStart;rw[toU8 (by omega),bne_eq_false_iff_eq];omega
theorem JiI{r:Nat}(hr:Jaw r):∃b t,enc r=b :: t/\Jf0 b=true/\(∀x∈t,Jf0 x=false)/\t.length<=3:=by
 unfold Jaw at hr
 by_cases h1:r<=127
 . rw[enc1 h1];exact⟨_,[],rfl,Jee (by omega) (by omega),by simp,by simp⟩
 by_cases h2:r<=2047
 . rw[enc2 (by omega) h2]
   exact⟨_,_,rfl,Jee (by omega) (by omega),fun x hx=>by simp only[List.mem_cons,List.not_mem_nil,or_false]at hx;subst hx;exact Jfi (by omega),by simp⟩
 by_cases h3:r<=65535
 . rw[enc3 (by omega)]
   exact⟨_,_,rfl,Jee (by omega) (by omega),fun x hx=>by simp only[List.mem_cons,List.not_mem_nil,or_false]at hx;rcases hx with rfl|rfl<;>exact Jfi (by omega),by simp⟩
 . rw[enc4 (by omega) (by omega)]
   exact⟨_,_,rfl,Jee (by omega) (by omega),fun x hx=>by simp only[List.mem_cons,List.not_mem_nil,or_false]at hx;rcases hx with rfl|rfl|rfl<;>exact Jfi (by omega),by simp⟩
def JrN (rs:List Nat) (j:Nat):Prop:=∃k,k<=rs.length/\j=(encs (rs.take k)).length
theorem Jme(rs:List Nat):JrN rs 0:=⟨0,Nat.zero_le _,by simp[encs]⟩
theorem JeD:∀{rs:List Nat},(∀r∈rs,Jaw r)->∀{j:Nat}{b:UInt8},(encs rs)[j]?=some b->Jf0 b=true->JrN rs j
 | [],_,j,b,h,_=>by simp[encs]at h
 | r :: rs,hr,j,b,h,hb=>by
  obtain⟨b0,t,e,h1,h2,_⟩:=JiI (hr r (by simp));rw[Jc2]at h
  by_cases hj:j<(enc r).length
  . rw [List.getElem?_append_left hj,e]at h
    cases j with
    | zero=>exact Jme _
    | succ j =>
     rw[List.getElem?_cons_succ]at h;have:=h2 b (List.mem_of_getElem? h);rw[this]at hb
     cases hb
  . rw[List.getElem?_append_right (by omega)]at h
    obtain⟨k,hk,e2⟩:=JeD (fun x hx=>hr x (by simp[hx])) h hb;refine⟨k+1,by simp;omega,?_⟩;rw[List.take_succ_cons,Jc2,List.length_append,←e2];omega
end
section
open Go.RowKit
variable {n B : Nat}
structure Same2 (n:Nat) (W W':World):Prop where
 a:W'.heap[n]?=W.heap[n]?
 b:W'.heap[n+1]?=W.heap[n+1]?
theorem Same2.refl(n:Nat)(W:World):Same2 n W W:=⟨rfl,rfl⟩
theorem Same2.trans{n:Nat}{A B C:World}(h:Same2 n A B)(k:Same2 n B C):Same2 n A C:=⟨k.a.trans h.a,k.b.trans h.b⟩
theorem Same2.of_below{W W':World}(h:Below B W W')(hB:n+2<=B):Same2 n W W':=⟨h.block n (by omega),h.block (n+1) (by omega)⟩
theorem Same2.setCell{n:Nat}{A W:World}(h:Same2 n A W){p:Addr}(h1:p.block≠n)(h2:p.block≠n+1)(v:Value):Same2 n A (W.setCell p v) :=
 ⟨(Below.heap_setCell W p v n (fun e=>h1 e.symm)).trans h.a,(Below.heap_setCell W p v (n+1) (fun e=>h2 e.symm)).trans h.b⟩
theorem Same2.alloc{n:Nat}{A W:World}(h:Same2 n A W)(hn:n+2<=W.heap.size)(o:Obj):Same2 n A (W.alloc o) :=
 ⟨(Below.heap_alloc W o n (by omega)).trans h.a,(Below.heap_alloc W o (n+1) (by omega)).trans h.b⟩
theorem Same2.drew{n:Nat}{A W:World}(h:Same2 n A W):Same2 n A W.drew:=⟨h.a,h.b⟩
structure Put1 (n:Nat) (A B:World):Prop where
 os:B.os=A.os
 tape:B.tape=A.tape
 output:B.output=A.output
 size:B.heap.size=A.heap.size
 block:∀k,k≠n->B.heap[k]?=A.heap[k]?
theorem Put1.putObj(n:Nat)(A:World)(o:Obj):Put1 n A (A.putObj n o):=⟨rfl,rfl,rfl,by simp,fun _ h=>World.putObj_heap_other h⟩
theorem Put1.below{A A':World}(h:Put1 n A A')(hB:B<=n):Below B A A':=⟨h.os,h.tape,h.output,Nat.le_of_eq h.size.symm,fun k hk=>h.block k (by omega)⟩
theorem Put1.cell{n:Nat}{A A':World}(h:Put1 n A A'){b o:Nat}(hb:b≠n):A'.cell? ⟨b,o,none⟩=A.cell? ⟨b,o,none⟩:=World.cell?_of_block (w:=A) (a:=⟨b,o,none⟩) (h.block b hb)
theorem Put1.frozen{n:Nat}{A A':World}(h:Put1 n A A'){b o:Nat}(hb:b≠n):A'.frozen? ⟨b,o,none⟩=A.frozen? ⟨b,o,none⟩:=World.frozen?_of_block (w:=A) (a:=⟨b,o,none⟩) (h.block b hb)
def JmF {α:Type} (n:Nat) (Kp:World->World->Prop) (I:List α->World->Prop) (Ix:Code->List α->World->Prop) (xs:List α) (W:World):Exit->Act->World->Prop
 | .normal,_,W'=>Same2 n W W'/\Kp W W'/\I xs W'
 | .ret,_,W'=>Same2 n W W'/\Kp W W'/\Ix .ret xs W'
 | .exit id,_,W'=>Same2 n W W'/\Kp W W'/\Ix (.exit id) xs W'
 | .goto t,_,W'=>Same2 n W W'/\Kp W W'/\Ix (.goto t) xs W'
 | .panic _,_,_=>False
 | .outgrown,_,_=>False
def Jnc {α:Type} (P:Program) (g:Nat) (lb:Array Value) (encs:List α->α->Array Value) (It Kp:World->World->Prop) (Z:World->Prop) (S Sp:List α->Prop) (W:World):Prop :=
 ∀ (l : Nat) (J Jx:List α->World->Prop),(∀pre A,J pre A->Z A)->(∀pre A,Jx pre A->Z A)->(∀pre A B,J pre A->It A B->J pre B)->(∀pre A B,Jx pre A->It A B->Jx pre B) ->
  (∀ pre x A,J pre A->Sp (pre++[x])->YieldAt Fence.wide 0 P l (encs pre x) A fun e A' =>
    (e=.returned (.bool true)/\J (pre++[x]) A'/\Kp A A')\/(e=.returned (.bool false)/\Jx (pre++[x]) A'/\Kp A A')) ->
  J [] W ->
  CallsIn Fence.wide 0 P g (#[.func (.yield l) #[] #[]]++lb) W fun e W'=>(∃v,e=.returned v)/\((∃xs,S xs/\J xs W')\/(∃pre,Sp pre/\Jx pre W'))
theorem Jgv{α:Type}{P:Program}{g:Operand}{ps:Array Tmp}{assign body:Code}{Q:Exit->Act->World->Prop}{a:Act}{w:World}{n:Nat}
    {gf:Nat} {lb:Array Value} (hg:a.eval g=.func (.func gf) #[] lb) (eg:∀args w,(callFunc gf args).run P w=.ok (.enter gf args) w)
    {encs:List α->α->Array Value} (hps:∀pre x,(encs pre x).size=ps.size)
    {It Kp:World->World->Prop} {Z:World->Prop} {S Sp:List α->Prop}
    (hseq:∀W,W.heap.size=w.heap.size+2->Below w.heap.size w W->Jnc P gf lb encs It Kp Z S Sp W)
    (hIt:∀A B,It A B->Same2 w.heap.size A B)
    (hKt:∀{A B C:World},Kp A B->Kp B C->Kp A C) (hKb:∀(A:World) (r:Loop),Kp A (A.putObj (w.heap.size+1) (.loop r)))
    (I:List α->World->Prop) (Ix:Code->List α->World->Prop)
    (hIz:∀pre A,I pre A->Z A) (hIxz:∀c pre A,Ix c pre A->Z A)
    (hI:∀pre A B,I pre A->It A B->I pre B) (hIb:∀pre A (r:Loop),I pre A->I pre (A.putObj (w.heap.size+1) (.loop r)))
    (hIx:∀c pre A B,Ix c pre A->It A B->Ix c pre B) (hIxb:∀c pre A (r:Loop),Ix c pre A->Ix c pre (A.putObj (w.heap.size+1) (.loop r)))
    (h0:∀W,W.heap.size=w.heap.size+2->Below w.heap.size w W->(∃r,W.heap[w.heap.size+1]?=some (.loop r))->I [] W)
    (hround:∀(l:Nat) (pre:List α) (x:α) (W:World),I pre W->w.heap.size+2<=W.heap.size->Sp (pre++[x]) ->
      assign.wpIn (Fence.wide.inRound l) 0 P (Exit.then (fun a₁ w₁=>Same2 w.heap.size W w₁/\Kp W w₁/\∀w₂,Put1 (w.heap.size+1) w₁ w₂->(∃r,w₂.heap[w.heap.size+1]?=some (.loop r))->body.wpIn (Fence.wide.inRound l) 0 P (JmF w.heap.size Kp I Ix (pre++[x]) w₂) a₁ w₂) (fun _ _ _=>False))
       { tmps:=(ps.zip (encs pre x)).foldl (fun t (p,v)=>t.setIfInBounds p v) a.tmps,defers:=[] } W)
    (hdone:∀(xs:List α) (W:World),S xs->I xs W->W.heap[w.heap.size]?=some (.deferred (some []))->Q .normal { a with defers:={ target:=.collected w.heap.size,args:=#[] } :: a.defers } W)
    (hstop:∀(c:Code) (pre:List α) (W:World),Sp pre->Ix c pre W->W.heap[w.heap.size]?=some (.deferred (some []))->c.wpIn Fence.wide n P Q { a with defers:={ target:=.collected w.heap.size,args:=#[] } :: a.defers } W) :
    (Code.rangeFunc g ps assign body).wpIn Fence.wide n P Q a w:=by
 refine wpIn_rangeFunc ?_
 intro fn hfn;obtain⟨rec,hrec⟩:∃rec:LoopState->Option Code->Loop,rec=fun st pe=>{ state:=st,pending:=pe,fn,tmps:=a.tmps,params:=ps,assign,body,defers:=w.heap.size }:=⟨_,rfl⟩
 obtain⟨W1,hW1⟩:∃W1,(w.alloc (.deferred (some []))).alloc (.loop (rec .ready none))=W1:=⟨_,rfl⟩;have hL1:W1.heap[w.heap.size+1]?=some (.loop (rec .ready none)):=by
  rw[←hW1];have:=World.alloc_heap_new (w.alloc (.deferred (some []))) (.loop (rec .ready none));rwa[World.size_alloc]at this
 have hK1:W1.heap[w.heap.size]?=some (.deferred (some [])):=by
  rw[←hW1];exact(Below.heap_alloc _ _ _ (by simp)).trans (World.alloc_heap_new w _)
 have hs1:W1.heap.size=w.heap.size+2:=by rw[←hW1,World.size_alloc,World.size_alloc]
 have hb1:Below w.heap.size w W1:=by
  rw[←hW1];exact((brf _ w).alloc (nlr _) _).alloc (by simp) _
 have hI1:I [] W1:=h0 W1 hs1 hb1 ⟨_,hL1⟩
 refine ⟨w.heap.size+1,[{ target:=.collected w.heap.size,args:=#[] }],W1,{ target:=.fn (.func gf) lb,args:=#[.func (.yield (w.heap.size+1)) #[] #[]] },W1,gf,
  #[.func (.yield (w.heap.size+1)) #[] #[]]++lb,W1,?_,?_,?_,?_,fun h=>(by cases h),?_⟩
 . rw[←hW1,hrec];exact run_enterLoop_outer _ _ _ _ _
 . simp only[resolve,hg]
   simp[go_sem]
 . intro f' hf';trivial
 . simp[invoke,go_sem,eg]
 . refine CallsIn.more ((hseq W1 hs1 hb1 (w.heap.size+1)
     (fun pre W=>I pre W/\W.heap[w.heap.size+1]?=some (.loop (rec .ready none))/\W.heap[w.heap.size]?=some (.deferred (some [])))
     (fun pre W=>∃c,Ix c pre W/\W.heap[w.heap.size+1]?=some (.loop (rec .done (some c)))/\W.heap[w.heap.size]?=some (.deferred (some [])))
     (fun s A hs=>hIz s A hs.1) (fun s A hs=>(by obtain⟨c,hc,_⟩:=hs;exact hIxz c s A hc))
     (fun s A B hs hg'=>⟨hI s A B hs.1 hg',(hIt A B hg').b.trans hs.2.1,(hIt A B hg').a.trans hs.2.2⟩)
     (fun s A B hs hg'=>by
       obtain⟨c,hc,hl,hk⟩:=hs
       exact⟨c,hIx c s A B hc hg',(hIt A B hg').b.trans hl,(hIt A B hg').a.trans hk⟩)
     ?_ ⟨hI1,hL1,hK1⟩).mono ?_) (Nat.zero_le _)
   . -- one round
     rintro pre x W ⟨hi,hl,hk⟩ hSp;have hlt:w.heap.size+1<W.heap.size:=(alt hl);have hy:=run_yield (P:=P) (args:=encs pre x) hl (by rw[hrec];exact hps pre x);rw[hrec]at hy;refine⟨fn,_,assign,body,hy,roundIn_of_wpIn hfn (wpIn_mono (hround _ pre x W hi (by omega) hSp) ?_)⟩;clear hy;rintro ea a' Wa hq
     cases ea with
     | normal=>?_
     | ret=>exact hq.elim
     | exit id=>exact hq.elim
     | goto t=>exact hq.elim
     | panic c=>exact hq.elim
     | outgrown=>exact hq.elim
     obtain⟨h2a,hkpa,hbody⟩:=hq
     replace hl:=h2a.b.trans hl
     replace hk:=h2a.a.trans hk
     replace hlt:w.heap.size+1<Wa.heap.size:=(alt hl)
     refine⟨_,run_beginRound hl (by rw[hrec]),?_⟩;have hl2:(Wa.putObj (w.heap.size+1) (.loop { rec .ready none with state:=.busy })).heap[w.heap.size+1]?=some (.loop { rec .ready none with state:=.busy }):=World.putObj_heap_same hlt;have hk2:(Wa.putObj (w.heap.size+1) (.loop { rec .ready none with state:=.busy })).heap[w.heap.size]?=some (.deferred (some [])):=(World.putObj_heap_other (by omega)).trans hk;have hw2:Kp Wa (Wa.putObj (w.heap.size+1) (.loop { rec .ready none with state:=.busy })):=hKb _ _;refine wpIn_mono (hbody _ (Put1.putObj _ _ _) ⟨_,hl2⟩) ?_
     have fin:∀(jump:Option Code) (W3:World),Same2 w.heap.size (Wa.putObj (w.heap.size+1) (.loop { rec .ready none with state:=.busy })) W3 ->
         (Instr.endRound (w.heap.size+1) jump).run P W3=.ok (.bool jump.isNone) (W3.putObj (w.heap.size+1) (.loop (rec (if jump.isNone then .ready else .done) jump))) /\
         (W3.putObj (w.heap.size+1) (.loop (rec (if jump.isNone then .ready else .done) jump))).heap[w.heap.size+1]?=some (.loop (rec (if jump.isNone then .ready else .done) jump)) /\
         (W3.putObj (w.heap.size+1) (.loop (rec (if jump.isNone then .ready else .done) jump))).heap[w.heap.size]?=some (.deferred (some [])):=fun jump W3 hk3=>by
      have hl3:=hk3.b.trans hl2;have:=run_endRound (P:=P) jump hl3;rw[hrec]at this ⊢;exact⟨this,World.putObj_heap_same (alt hl3),(World.putObj_heap_other (by omega)).trans (hk3.a.trans hk2)⟩
     rintro e a3 W3 hp
     cases e with
     | normal =>
      obtain⟨hk3,hkp3,hi3⟩:=hp;obtain⟨hr,hl4,hk4⟩:=fin none W3 hk3;exact⟨_,_,hr,.inl ⟨rfl,⟨hIb _ _ _ hi3,hl4,hk4⟩,hKt hkpa (hKt (hKt hw2 hkp3) (hKb _ _))⟩⟩
     | ret =>
      obtain⟨hk3,hkp3,hi3⟩:=hp;obtain⟨hr,hl4,hk4⟩:=fin (some .ret) W3 hk3;exact⟨_,_,hr,.inr ⟨rfl,⟨.ret,hIxb _ _ _ _ hi3,hl4,hk4⟩,hKt hkpa (hKt (hKt hw2 hkp3) (hKb _ _))⟩⟩
     | exit id =>
      obtain⟨hk3,hkp3,hi3⟩:=hp;obtain⟨hr,hl4,hk4⟩:=fin (some (.exit id)) W3 hk3;exact⟨_,_,hr,.inr ⟨rfl,⟨.exit id,hIxb _ _ _ _ hi3,hl4,hk4⟩,hKt hkpa (hKt (hKt hw2 hkp3) (hKb _ _))⟩⟩
     | goto t =>
      obtain⟨hk3,hkp3,hi3⟩:=hp;obtain⟨hr,hl4,hk4⟩:=fin (some (.goto t)) W3 hk3;exact⟨_,_,hr,.inr ⟨rfl,⟨.goto t,hIxb _ _ _ _ hi3,hl4,hk4⟩,hKt hkpa (hKt (hKt hw2 hkp3) (hKb _ _))⟩⟩
     | panic ch=>exact hp.elim
     | outgrown=>exact hp.elim
   . -- behind the iterator
     rintro e W2 ⟨⟨v,rfl⟩,(⟨xs,hS,hi,hl,hk⟩|⟨pre,hSp,c,hi,hl,hk⟩)⟩
     . exact⟨none,_,by have:=run_endLoop (P:=P) hl (by rw[hrec];simp);rw[hrec]at this;exact this,hdone xs _ hS (hIb _ _ _ hi) ((World.putObj_heap_other (by omega)).trans hk)⟩
     . exact⟨some c,_,by have:=run_endLoop (P:=P) hl (by rw[hrec];simp);rw[hrec]at this;exact this,hstop c pre _ hSp (hIxb _ _ _ _ hi) ((World.putObj_heap_other (by omega)).trans hk)⟩
end
end Go.Proofs.YtedgnlgjmnccgabGreatDoor
namespace Go.Proofs
open Go.Shelf
def Tryz.lays120_ren:Go.Shelf.Ren:=⟨fun | 120=>173 | n=>n,fun | 5=>5 | 4=>4 | n=>n,fun | n=>n⟩
theorem Tryz.lays120:Go.Proofs.Lays.n120 Tryz.prog Tryz.lays120_ren:={
 mixed:=by kernel_rfl
 f120:=Tryz.func173.trans (congrArg some (by kernel_rfl))
 t4:=Tryz.underlying4
 a4:=Tryz.isAgg4
 z4:=Tryz.sizeOf4
 v4:=Tryz.zeroValue4
 t5:=Tryz.underlying5
 a5:=Tryz.isAgg5
 z5:=Tryz.sizeOf5
 v5:=Tryz.zeroValue5 }
theorem Tryz.utf8_RuneStart(b:Int)(w:World)(h0:0<=b)(h1:b<256) :
    Calls Tryz.prog 173 #[.int .u8 b] w fun e w'=>e=.returned (.bool (Lib.runeStart b))/\w'=w:=Any.utf8_RuneStart Tryz.lays120 b w h0 h1
end Go.Proofs
namespace Go.Proofs.YtedgnlgjmnccgabGreatDoor
section
open Go.RowKit
section
variable {P : Program} {ops : Array Oper} {md : Region.Mode} {m l0 n : Nat} {Q : Exit → Act → World → Prop}
theorem Jlj{o:Oper}{a:Act}{K:Act->World->Prop}{r:Result Next}(hh:JaV P o a K r):o.uponIn (Fence.wide.inRound l0) n P a K Q r:=by
 cases r with
 | ok x w =>
  cases x<;>simp only[JaV]at hh<;>simp only[Oper.uponIn]
  case value=>exact hh
  case skip=>exact hh
  case enter=>exact⟨fun h=>(by cases h),(CallsIn.inRound l0 (callsIn_wide.2 hh)).mono fun e w ⟨v,e1,e2⟩=>by subst e1;exact e2⟩
 | halt x w=>simp only[JaV]at hh
theorem JgB(hnd:∀(i:Nat)(o:Oper),ops[i]?=some o->∀c,o.op≠.defer c):∀(fuel:Nat)(listed:Array Bool)(a:Act)(w:World),anyG P md ops m Q fuel listed a w->wpAnyIn (Fence.wide.inRound l0) n P md ops Q fuel listed a w
 | 0,_,_,w,h=>⟨h.1,h.2 w (brf _ _)⟩
 | fuel + 1,listed,a,w,h=>⟨fun h0=>h.1 h0 w (brf _ _),fun i hi=>by
     have h1:=h.2 i hi w (brf _ _);have h2:=JeQ (fun a' w'' hh=>JgB hnd fuel _ a' w'' hh.2) h1;unfold opG at h2;unfold wpOpIn
     split
     . rename_i ho;simp only[ho]at h2;exact h2
     . rename_i o ho
       simp only[ho]at h2
       split
       . rename_i hw
         simp only[hw,if_true]at h2;unfold Oper.wpIn;refine⟨fun _ _=>trivial,?_⟩;rw[Fence.inRound_round,Oper.semAt_some _ _ _ (hnd i o ho)];exact Jlj h2
       . rename_i hw;simp only[hw]at h2;exact⟨fun _ _=>trivial,h2⟩⟩
end
theorem JhS{P:Program}{Q:Exit->Act->World->Prop}{id l0 k:Nat}{a:Act}{w:World}{l:List Oper}(m n:Nat)(hm:P.follows .mixedOrders=true)(hn:l.length=n)(hnd:Jj2 l=true)
    (h:∀w',Below w.heap.size w w'->anyG P .any l.toArray m Q n (Array.replicate n false) a w'):(Code.region id l.toArray true).wpIn (Fence.wide.inRound l0) k P Q a w :=
 wpIn_region_any hm (JgB (fun i o hi=>JiA hnd i o (by simpa using hi)) _ _ _ _ (by subst hn;simpa using h { w with drawn:=w.drawn+1 } (Below.drew (brf _ w))))
end
section
open Go.RowKit
attribute [local go_sem] Oper.semAt_some Ja2 JaV
theorem But.putObj(B:Nat)(A:World)(o:Obj):But B A (A.putObj B o):=⟨rfl,rfl,rfl,by simp,fun k _ h=>World.putObj_heap_other h⟩
theorem But.frozen{B:Nat}{A A':World}(h:But B A A'){b o:Nat}(hl:b<A.heap.size)(hb:b≠B):A'.frozen? ⟨b,o,none⟩=A.frozen? ⟨b,o,none⟩ :=
 World.frozen?_of_block (w:=A) (a:=⟨b,o,none⟩) (h.block b hl hb)
end
section
open Go.RowKit
attribute [local go_sem] Oper.semAt_some
theorem JhF(w:World)(n1 n2 n3 n4:Int)(t:TypeId):counted (w.alloc (.cells #[.int .i64 n1,.int .i64 n2,.int .i64 n3,.int .i64 n4] t)) w.heap.size n1 n2 n3 n4:=by
 refine⟨⟨?_,?_,?_,?_⟩,?_,?_,?_,?_⟩<;>simp[go_sem]
theorem JnW{lo:Nat}{w W:World}{B:Nat}(hb:Below lo w W)(hlo:lo<=B)(u0 u1 u2 u3:Value) :
    Below lo w ((((W.setCell ⟨B,0,none⟩ u0).setCell ⟨B,1,none⟩ u1).setCell ⟨B,2,none⟩ u2).setCell ⟨B,3,none⟩ u3) :=
 (((hb.setCell (p:=⟨B,0,none⟩) hlo _).setCell (p:=⟨B,1,none⟩) hlo _).setCell (p:=⟨B,2,none⟩) hlo _).setCell (p:=⟨B,3,none⟩) hlo _
theorem C1_left{a b:List Nat}{k:Int}(h:C1 (a++b)<=k):C1 a<=k:=by rw[Jcp]at h;have:=JdM b;omega
end
section
open Go.RowKit
structure TakesS (W:World) (F:Nat) (cap:Array Value) (l:List (Nat×Nat)) (I Ix:List (Nat×Nat)->World->Prop):Prop where
 enters:∀args w,(callFunc F args).run Tryz.prog w=.ok (.enter F args) w
 stays:∀done w w',I done w->Below w.heap.size w w'->I done w'
 step:∀done p rest,l=done++p :: rest->∀w,I done w->Below W.heap.size W w ->
  Calls Tryz.prog F (#[.int .i32 p.1,.int .i64 p.2]++cap) w fun e w'=>Below W.heap.size W w'/\((e=.returned (.bool true)/\I (done++[p]) w')\/(e=.returned (.bool false)/\Ix (done++[p]) w'))
theorem JnI(s:ByteArray)(hs:s.size<=maxLen)(F:Nat)(cap:Array Value)(W:World)(hT:Lib.Utf8Tabs 2 3 W)(I Ix:List (Nat×Nat)->World->Prop)
    (H:TakesS W F cap (scan s.data.toList).1 I Ix) (w:World) (hw:Below W.heap.size W w) (h0:I [] w) :
    Calls Tryz.prog 135 #[.string s,.func (.func F) #[] cap] w fun e w'=>(∃v,e=.returned v)/\Below W.heap.size W w' /\
     (I (scan s.data.toList).1 w'\/(∃pre rest,(scan s.data.toList).1=pre++rest/\Ix pre w')):=by
 unfold maxLen at hs;have hent:=H.enters
 go_enter Tryz.func135,Tryz.ntmps135
 go_wp2
 go_loopw [5,6,7,12] (fun at_ _ _ _ wr=>∃(k:Nat) (done:List (Nat×Nat)),k<=s.size/\at_=.int .i64 k/\(scan s.data.toList).1=done++(scan (s.data.toList.drop k)).1/\I done wr/\Below W.heap.size W wr) (fun at_ _ _ _ _=>s.size - (intOf at_).toNat)
 case atStart=>exact⟨0,[],Nat.zero_le _,rfl,by rw[List.drop_zero];rfl,h0,hw⟩
 case round =>
  obtain⟨k,done,hk,rfl,hd1,hI,hwr⟩:=hrel;have hTr:=Go.Proofs.Utf8Tabs_below hT hwr
  by_cases hlt:k<s.size
  . have hne:s.data.toList.drop k≠[]:=by
      intro e;have:=congrArg List.length e;rw[List.length_drop,List.length_nil,←Lib.size_eq]at this;omega
    have hdec:Lib.decodeGo (s.extract k s.size)=dec (s.data.toList.drop k):=by
     unfold Lib.decodeGo;rw[if_neg (by rw[ByteArray.size_extract];omega),Jgj]
    have hge:=Jgk (s.data.toList.drop k);have hle:=JpG hne;have hle4:=JpF (s.data.toList.drop k);have cD:=Tryz.utf8_DecodeRuneInString (s.extract k s.size) wr hTr;rw[hdec]at cD
    by_cases hb:badB (dec (s.data.toList.drop k))=true
    . have hs2:=JgP hne hb
      have hfin:Hid (I (scan s.data.toList).1 wr):=by show I _ wr;rw[hd1,hs2,List.append_nil];exact hI
      have hb':(dec (s.data.toList.drop k)).1=65533/\(dec (s.data.toList.drop k)).2=1:=JhJ hb;rw[hb'.1,hb'.2]at cD;clear hdec hge hle hle4 hb hb' hd1 hs2 hne hI
      go_wp2_with (first | (go_at_call 193;refine cD.mono ?_;rintro e w1 ⟨rfl,hb1⟩) | (go_at_call 163;refine(Jft _ _).mono ?_;rintro e w2 ⟨⟨v,rfl,hv⟩,hb2⟩) | fail)
      go_ret;have hb12:Below wr.heap.size wr w2:=hb1.trans (hb2.mono hb1.size);exact⟨⟨_,rfl⟩,hwr.trans (hb12.mono hwr.size),.inl (H.stays _ _ _ hfin hb12)⟩
    . have hb:badB (dec (s.data.toList.drop k))=false:=Bool.eq_false_iff.2 hb
      have hs2:=Je2 hne hb;have hl:(scan s.data.toList).1=done++dec (s.data.toList.drop k) :: (scan ((s.data.toList.drop k).drop (dec (s.data.toList.drop k)).2)).1:=by rw[hd1,hs2]
      rw[List.drop_drop]at hl;rw[List.length_drop,←Lib.size_eq]at hle;have hstep:=H.step done _ _ hl;obtain⟨R,hR⟩:∃R,R=(dec (s.data.toList.drop k)).1:=⟨_,rfl⟩;obtain⟨K,hK⟩:∃K,K=(dec (s.data.toList.drop k)).2:=⟨_,rfl⟩;have hp:dec (s.data.toList.drop k)=(R,K):=by rw[hR,hK]
      rw[hp]at cD hb hge hle hle4 hl hstep;have hnext:Hid ((scan s.data.toList).1=done++[(R,K)]++(scan (s.data.toList.drop (k+K))).1):=by
       show _=_;rw[hl,List.append_assoc];rfl
      simp only[]at hge hle;clear hdec hd1 hs2 hne hle4 hl hR hK hp;have hbF:=JiW hb;clear hb
      rcases hbF with hr|⟨hr,hr2⟩
      . have hr0:((R:Int)==65533)=false:=by
          rw[beq_eq_false_iff_ne];intro e;exact hr (by omega)
        clear hr
        go_wp2_with (first | (go_at_call 193;refine cD.mono ?_;rintro e w1 ⟨rfl,hb1⟩) | (go_at_fn F;refine(hstep w1 (H.stays _ _ _ hI hb1) (hwr.trans (hb1.mono hwr.size))).mono ?_;rintro e w2 ⟨hb2,⟨rfl,hI2⟩|⟨rfl,hI2⟩⟩) | fail)
        . go_roundw
          case rel=>exact⟨k+K,done++[(R,K)],by omega,by go_num,hnext,hI2,hb2⟩
          case measure=>simp[intOf];omega
        . go_ret
          exact⟨⟨_,rfl⟩,hb2,.inr ⟨_,_,hnext,hI2⟩⟩
      . have hr0:((K:Int)==1)=false:=by
          rw[beq_eq_false_iff_ne];intro e;exact hr2 (by omega)
        subst hr;clear hr2
        go_wp2_with (first | (go_at_call 193;refine cD.mono ?_;rintro e w1 ⟨rfl,hb1⟩) | (go_at_fn F;refine(hstep w1 (H.stays _ _ _ hI hb1) (hwr.trans (hb1.mono hwr.size))).mono ?_;rintro e w2 ⟨hb2,⟨rfl,hI2⟩|⟨rfl,hI2⟩⟩) | fail)
        . go_roundw
          case rel=>exact⟨k+K,done++[(65533,K)],by omega,by go_num,hnext,hI2,hb2⟩
          case measure=>simp[intOf];omega
        . go_ret
          exact⟨⟨_,rfl⟩,hb2,.inr ⟨_,_,hnext,hI2⟩⟩
  . have hend:s.data.toList.drop k=[]:=List.drop_eq_nil_of_le (by rw[←Lib.size_eq];omega)
    rw[hend,Jf3]at hd1;rw[List.append_nil]at hd1;have hfin:Hid (I (scan s.data.toList).1 wr):=by show I _ wr;rw[hd1];exact hI
    clear hd1 hend hTr;go_wp2;go_ret;exact⟨⟨_,rfl⟩,hwr,.inl hfin⟩
structure KeepUp (lo:Nat) (A B:World):Prop where
 size:A.heap.size<=B.heap.size
 same:∀k,lo<=k->k<A.heap.size->B.heap[k]?=A.heap[k]?
theorem KeepUp.refl(lo:Nat)(A:World):KeepUp lo A A:=⟨nlr _,fun _ _ _=>rfl⟩
theorem KeepUp.trans{lo:Nat}{A B C:World}(h:KeepUp lo A B)(k:KeepUp lo B C):KeepUp lo A C :=
 ⟨Nat.le_trans h.size k.size,fun i h1 h2=>(k.same i h1 (Nat.lt_of_lt_of_le h2 h.size)).trans (h.same i h1 h2)⟩
theorem KeepUp.of_below{lo:Nat}{A B:World}(h:Below A.heap.size A B):KeepUp lo A B:=⟨h.size,fun k _ h2=>h.block k h2⟩
theorem KeepUp.setCell{lo:Nat}{A W:World}(h:KeepUp lo A W){p:Addr}(hp:p.block<lo)(v:Value):KeepUp lo A (W.setCell p v) :=
 h.trans ⟨by simp[World.setCell],fun k h1 _=>Below.heap_setCell W p v k (by omega)⟩
theorem KeepUp.alloc{lo:Nat}{A W:World}(h:KeepUp lo A W)(o:Obj):KeepUp lo A (W.alloc o) :=
 h.trans ⟨by simp,fun k _ h2=>Below.heap_alloc W o k h2⟩
theorem KeepUp.drew{lo:Nat}{A W:World}(h:KeepUp lo A W):KeepUp lo A W.drew:=h.trans ⟨nlr _,fun _ _ _=>rfl⟩
theorem KeepUp.putObj{lo r:Nat}(A:World)(o:Obj)(h:r<lo):KeepUp lo A (A.putObj r o) :=
 ⟨by simp,fun k h1 _=>World.putObj_heap_other (by omega)⟩
theorem KeepUp.counted{lo:Nat}{A B:World}(h:KeepUp lo A B){a:Nat}{n1 n2 n3 n4:Int}(ha:lo<=a)(hc:counted A a n1 n2 n3 n4):counted B a n1 n2 n3 n4:=by
 have hb:=h.same a ha (Jdq hc);have e1:∀i,B.cell? ⟨a,i,none⟩=A.cell? ⟨a,i,none⟩:=fun i=>World.cell?_of_block (w:=A) (a:=⟨a,i,none⟩) hb
 have e2:∀i,B.frozen? ⟨a,i,none⟩=A.frozen? ⟨a,i,none⟩:=fun i=>World.frozen?_of_block (w:=A) (a:=⟨a,i,none⟩) hb
 unfold Go.Proofs.YtedgnlgjmnccgabGreatDoor.counted;rw[e1,e1,e1,e1,e2,e2,e2,e2];exact hc
theorem KeepUp.cell{lo:Nat}{A B:World}(h:KeepUp lo A B){a i:Nat}{v:Value}(ha:lo<=a)(hc:A.cell? ⟨a,i,none⟩=some v):B.cell? ⟨a,i,none⟩=some v:=by
 have hb:=h.same a ha (blt A _ hc);exact(World.cell?_of_block (w:=A) (a:=⟨a,i,none⟩) hb).trans hc
def Jfv (pre:List (Nat×Nat)) (p:Nat×Nat):Array Value :=
 #[cnt (sum1 pre) (sum2 pre) pre.length (sum4 pre),cnt p.2 (cH p.1) 1 (cL p.1)]
attribute [local go_sem] Oper.semAt_some
theorem Jnd(l:Nat)(b0 b1 lo:Nat)(h0:lo<=b0)(h1:lo<=b1)(hne:b0≠b1)(r:Nat)(n n1 n2 n3 n4:Int)(w:World)(hlw:lo<=w.heap.size)(hc:counted w b1 n1 n2 n3 n4)(hy:w.cell? ⟨b0,0,none⟩=some (.func (.yield l) #[] #[]))
    (R1 R0:World->Prop)
    (hR:∀A,Below w.heap.size w A->YieldAt Fence.wide 0 Tryz.prog l #[cnt n1 n2 n3 n4,cnt n (cH r) 1 (cL r)] A fun e A' =>
      (e=.returned (.bool true)/\R1 A'/\KeepUp lo A A')\/(e=.returned (.bool false)/\R0 A'/\KeepUp lo A A')) :
    Calls Tryz.prog 263 #[.int .i32 r,.int .i64 n,.pointer (some ⟨b0,0,none⟩),.pointer (some ⟨b1,0,none⟩)] w fun e w' =>
     (e = .returned (.bool true)/\counted w' b1 (wrap64 (n1+n)) (wrap64 (n2+cH r)) (wrap64 (n3+1)) (wrap64 (n4+cL r))/\w'.cell? ⟨b0,0,none⟩=some (.func (.yield l) #[] #[]) /\
       ∃A',R1 A'/\Below lo A' w')\/(e=.returned (.bool false)/\R0 w'):=by
 have hlt:=Jdq hc;have hlt0:b0<w.heap.size:=blt w _ hy;have HC:Hid (counted w b1 n1 n2 n3 n4):=hc;have cO:=fun (w:World)=>Jg8 r n w
 generalize cH r=x2 at *;generalize cL r=x4 at *;generalize (r:Int)=R at cO ⊢;unfold cnt at hR;refine(callsIn_wide (n:=1)).1 ?_
 refine callsIn_of_wp Tryz.func263 rfl trivial ?_ rfl;simp only[Tryz.ntmps263,List.size_toArray,List.length_cons,List.length_nil,Nat.reduceAdd,Nat.reduceSub,Array.replicate_succ,Array.replicate_zero,List.push_toArray,List.append_toArray,List.nil_append,List.cons_append]
 gi_wp2_with (first | (refine⟨trivial,?_⟩;gi_at_call 138;refine(callsIn_wide.2 (cO _)).mono ?_;rintro e w1 ⟨rfl,hb1⟩;have hb2:Below w.heap.size w (w1.alloc (.cells #[.int .i64 n,.int .i64 x2,.int .i64 1,.int .i64 x4] 25)):=hb1.alloc hb1.size _;have HC2:=Jb1 HC.out hb2 hlt;have HB:=hdz hb2;obtain⟨⟨a0,a1,a2,a3⟩,b0',b1',b2',b3'⟩:=HC2;have hy2:=(hb2.cell (p:=⟨b0,0,none⟩) hlt0).trans hy;obtain⟨fn,tmps,assign,body,hyy,hRd⟩:=hR _ hb2;clear hb2) | fail)
 refine hRd.mono ?_
 rintro e A' (⟨rfl,hR1,hk⟩|⟨rfl,hR0,hk⟩)
 . have HCA:=hk.counted h1 (Jb1 HC.out HB.out hlt)
   have HCN:counted (w1.alloc (.cells #[.int .i64 n,.int .i64 x2,.int .i64 1,.int .i64 x4] 25)) w1.heap.size n x2 1 x4:=by
    refine⟨⟨?_,?_,?_,?_⟩,?_,?_,?_,?_⟩<;>simp[go_sem]
   have HCO:=hk.counted (Nat.le_trans hlw hb1.size) HCN;have hyA:=hk.cell h0 hy2;have HCA':Hid (counted A' b1 n1 n2 n3 n4):=HCA;have hyA':Hid (A'.cell? ⟨b0,0,none⟩=some (.func (.yield l) #[] #[])):=hyA;obtain⟨⟨c0,c1,c2,c3⟩,d0,d1,d2,d3⟩:=HCA;obtain⟨⟨e0,e1,e2,e3⟩,f0,f1,f2,f3⟩:=HCO;have hlA:b1<A'.heap.size:=Jdq HCA'.out;have hlA0:b0<A'.heap.size:=blt A' _ hyA;clear a0 a1 a2 a3 b0' b1' b2' b3' hy2 hyy hRd hy HC hc cO hR HCN hyA
   gi_wp2_with (first | (refine⟨trivial,?_⟩;gi_at_call 137;refine(callsIn_wide.2 (Jjx _ _ _ _ _ _ _ _ _)).mono ?_;rintro e w2 ⟨rfl,hb2⟩;have HC3:=Jbf HCA'.out hb2;have HC4:Hid (counted w2 b1 n1 n2 n3 n4):=HC3;obtain⟨⟨g0,g1,g2,g3⟩,k0,k1,k2,k3⟩:=HC3;have hB3:=hdz hb2;clear hb2) | fail)
   have hy3:w2.cell? ⟨b0,0,none⟩=some (.func (.yield l) #[] #[]):=(hB3.out.cell (p:=⟨b0,0,none⟩) hlA0).trans hyA'.out;go_ret;exact .inl ⟨rfl,Jfr HC4.out,by simp[go_sem,hy3],A',hR1,JfP (hB3.out.mono (Nat.le_of_lt (Nat.lt_of_le_of_lt h1 hlA))) h1 _ _ _ _⟩
 . gi_wp2
   go_ret;exact .inr ⟨rfl,hR0⟩
theorem Jnm(l:Nat)(b0 b1 lo:Nat)(h0:lo<=b0)(h1:lo<=b1)(hne:b0≠b1)(W0:World)(xs:List (Nat×Nat))(hx:xs.length<1000000000)(hx4:∀p∈xs,p.2<=4)(J Jx:List (Nat×Nat)->World->Prop)
    (hz:∀pre A,J pre A->Below W0.heap.size W0 A) (hzx:∀pre A,Jx pre A->Below W0.heap.size W0 A) (hJ:∀pre A B,J pre A->Below lo A B->J pre B)
    (hR:∀pre x A,J pre A->(∃rest,xs=pre++[x]++rest)->YieldAt Fence.wide 0 Tryz.prog l (Jfv pre x) A fun e A' =>
      (e=.returned (.bool true)/\J (pre++[x]) A'/\KeepUp lo A A')\/(e=.returned (.bool false)/\Jx (pre++[x]) A'/\KeepUp lo A A')) :
    TakesS W0 263 #[.pointer (some ⟨b0,0,none⟩),.pointer (some ⟨b1,0,none⟩)] xs
     (fun done w=>J done w/\lo<=w.heap.size/\counted w b1 (sum1 done) (sum2 done) (done.length:Int) (sum4 done)/\w.cell? ⟨b0,0,none⟩=some (.func (.yield l) #[] #[]))
     (fun done w=>Jx done w) where
 enters:=enters_of Tryz.func263 (by kernel_rfl) rfl
 stays:=fun done w w' hI hb=>⟨hJ _ _ _ hI.1 (hb.mono hI.2.1),Nat.le_trans hI.2.1 hb.size,Jbf hI.2.2.1 hb,(hb.cell (p:=⟨b0,0,none⟩) (blt w _ hI.2.2.2)).trans hI.2.2.2⟩
 step := fun done p rest e w hI hw=>by
  obtain⟨hj,hlw,hc,hy⟩:=hI;have hlen:=congrArg List.length e;rw[List.length_append]at hlen;have k1:=Jlq done fun q hq=>hx4 q (by rw[e];simp[hq])
  have k2:=Jjn done;have k4:=Jjm done;have hp:=hx4 p (by rw[e];simp);have hp2:=Jrz p.1;have hp4:=Jry p.1;refine(Jnd l b0 b1 lo h0 h1 hne p.1 p.2 _ _ _ _ w hlw hc hy (J (done++[p])) (Jx (done++[p])) fun A hb=>hR done p A (hJ _ _ _ hj (hb.mono hlw)) ⟨rest,by rw[e];simp⟩).mono ?_
  rintro e' w' (⟨rfl,c,hy',A',hj',hb'⟩|⟨rfl,hj'⟩)
  . rw[Ja0 (by omega) (by omega),Ja0 (by omega) (by omega),Ja0 (by omega) (by omega),Ja0 (by omega) (by omega)]at c
    have e1:sum1 (done++[p])=sum1 done+p.2:=by simp[sum1]
    have e2:sum2 (done++[p])=sum2 done+cH p.1:=by simp[sum2]
    have e3:(((done++[p]).length:Nat):Int)=done.length+1:=by simp
    have e4:sum4 (done++[p])=sum4 done+cL p.1:=by simp[sum4]
    have hJw:=hJ _ _ _ hj' hb';refine⟨hz _ _ hJw,.inl ⟨rfl,hJw,Nat.le_trans h1 (Nat.le_of_lt (Jdq c)),?_,hy'⟩⟩;rw[e1,e2,e3,e4];exact c
  . exact⟨hzx _ _ hj',.inr ⟨rfl,hj'⟩⟩
theorem Jjd(l:Nat)(w:World):(binOp .eql 352 (.func (.yield l) #[] #[]) .nilFunc).run Tryz.prog w=.ok (.bool false) w:=by kernel_rfl
theorem Jqj(s:ByteArray)(hs:s.size<400000000)(W0:World)(hT:Lib.Utf8Tabs 2 3 W0)(sb:Nat)(W:World)(hsb:W.cell? ⟨sb,0,none⟩=some (.string s)) :
    Jnc Tryz.prog 262 #[.pointer (some ⟨sb,0,none⟩)] Jfv (Below W.heap.size) (KeepUp W.heap.size) (Below W0.heap.size W0)
     (fun xs=>xs=(scan s.data.toList).1) (fun pre=>∃rest,(scan s.data.toList).1=pre++rest) W:=by
 intro l J Jx hz hzx hJ hJx hR hj0;have hlen:=JgO s.data.toList;rw[←Lib.size_eq]at hlen;have hW:=hz _ _ hj0;have hlt:=blt W _ hsb
 have hb2:Below W.heap.size W ((W.alloc (.cells #[.func (.yield l) #[] #[]] 352)).alloc (.cells #[.int .i64 0,.int .i64 0,.int .i64 0,.int .i64 0] 25)) :=
  ((brf _ W).alloc (nlr _) _).alloc (by rw[wsa];exact Nat.le_succ _) _
 have cE:=JnI s (by unfold maxLen;omega) 263 #[.pointer (some ⟨W.heap.size,0,none⟩),.pointer (some ⟨W.heap.size+1,0,none⟩)] W0 hT _ _
  (Jnm l W.heap.size (W.heap.size+1) W.heap.size (nlr _) (Nat.le_succ _) (by omega) W0 (scan s.data.toList).1 (by omega) (JoM _) J Jx hz hzx hJ hR) _ (hz _ _ (hJ _ _ _ hj0 hb2))
  ⟨hJ _ _ _ hj0 hb2,hb2.size,(by refine⟨⟨?_,?_,?_,?_⟩,?_,?_,?_,?_⟩<;>simp[go_sem,sum1,sum2,sum4]),(by simp[go_sem])⟩
 have hs2:=(((brf _ W).alloc (nlr _) (.cells #[.func (.yield l) #[] #[]] 352)).cell (p:=⟨sb,0,none⟩) hlt).trans hsb;have hs3:=(hb2.cell (p:=⟨sb,0,none⟩) hlt).trans hsb;clear hb2 hR hj0 hW hlen hs;have hnil:∀w,(binOp .eql 352 (.func (.yield l) #[] #[]) .nilFunc).run Tryz.prog w=.ok (.bool false) w:=fun w=>Jjd l w
 refine callsIn_wide.2 ?_
 simp only[List.append_toArray,List.cons_append,List.nil_append]
 go_enter Tryz.func262,Tryz.ntmps262
 go_wp2_with (first | (go_at_call 135;refine cE.mono ?_;rintro e w1 ⟨⟨v,rfl⟩,hb1,⟨hj1,_⟩|⟨pre,rest,e1,hj1⟩⟩) | fail)
 . go_end0
   exact⟨⟨_,rfl⟩,.inl ⟨_,rfl,hj1⟩⟩
 . go_end0
   exact⟨⟨_,rfl⟩,.inr ⟨pre,⟨rest,e1⟩,hj1⟩⟩
end
section
open Go.RowKit
attribute [local go_sem] Oper.semAt_some Ja2 JaV
theorem Jr9(s:ByteArray)(w:World):Calls Tryz.prog 220 #[.string s] w fun e w'=>e=.returned (.func (.func 262) #[] #[.pointer (some ⟨w.heap.size,0,none⟩)])/\w'=w.alloc (.cells #[.string s] 9):=by
 go_enter Tryz.func220,Tryz.ntmps220
 go_wp2;go_ret;exact⟨rfl,rfl⟩
def cntV (rs:List Nat):Value:=.agg #[.int .i64 (C1 rs),.int .i64 (C2 rs),.int .i64 (C3 rs),.int .i64 (C4 rs)]
def seek (f:List Nat->Bool):List Nat->List Nat->Option (List Nat)
 | _,[]=>none
 | pre,r :: rs=>if f (pre++[r]) then some (pre++[r]) else seek f (pre++[r]) rs
theorem Jq4(a b:List Nat)(hz:C1 (a++b)<=200000000)(w:World):Calls Tryz.prog 137 #[cntV a,cntV b] w fun e w'=>e=.returned (cntV (a++b))/\Below w.heap.size w w':=by
 have h:=Jjx (C1 a) (C2 a) (C3 a) (C4 a) (C1 b) (C2 b) (C3 b) (C4 b) w;rw[Jcp]at hz;have a2:=Jqg a;have a3:=Jok a;have a4:=C4_le a;have b2:=Jqg b;have b3:=Jok b;have b4:=C4_le b;rw[Ja0 (by omega) (by omega),Ja0 (by omega) (by omega),Ja0 (by omega) (by omega),Ja0 (by omega) (by omega),←Jcp,←Jli,←Jlh,←Jqf]at h;exact h
theorem JjU(c1:List Nat)(r:Nat):Jfv (wide c1) (r,(enc r).length)=#[cntV c1,cntV [r]]:=by
 simp[Jfv,cnt,cntV,C1,C2,C3,C4,wide,sum1,sum2,sum4]
theorem JrM(a b c d:Int)(w:World):(Instr.field 25 (.agg #[.int .i64 a,.int .i64 b,.int .i64 c,.int .i64 d]) 0).run Tryz.prog w=.ok (.int .i64 a) w:=by kernel_rfl
theorem JrL(a b c d:Int)(w:World):(Instr.field 25 (.agg #[.int .i64 a,.int .i64 b,.int .i64 c,.int .i64 d]) 3).run Tryz.prog w=.ok (.int .i64 d) w:=by kernel_rfl
attribute [local go_sem] JrM JrL
end
section
open Go.RowKit
attribute [local go_sem] Oper.semAt_some Ja2 JaV
def find (f:List Nat->Bool) (pre rs:List Nat):List Nat:=if f pre then pre else (seek f pre rs).getD (pre++rs)
end
section
open Go.RowKit
attribute [local go_sem] Oper.semAt_some Ja2 JaV JrM JrL
def by_ (u:Int) (rs:List Nat):Int:=if u=1 then C1 rs else if u=2 then C2 rs else if u=3 then C3 rs else 0
theorem Jb3(u:Int)(a b:List Nat):by_ u (a++b)=by_ u a+by_ u b:=by
 unfold by_
 split
 . exact Jcp a b
 . split
   . exact Jli a b
   . split
     . exact Jlh a b
     . rfl
theorem Jea(u:Int)(a:List Nat):0<=by_ u a:=by
 unfold by_
 split
 . exact JdM a
 . split
   . exact(Jqg a).1
   . split
     . exact(Jok a).1
     . omega
theorem Jlg(u:Int)(rs:List Nat)(w:World):Calls Tryz.prog 23 #[cntV rs,.int .i64 u] w fun e w'=>e=.returned (.int .i64 (by_ u rs))/\Below w.heap.size w w':=by
 have hbw:Below w.heap.size w (w.alloc (.cells #[.int .i64 (C1 rs),.int .i64 (C2 rs),.int .i64 (C3 rs),.int .i64 (C4 rs)] 25)):=(brf _ _).alloc (nlr _) _;unfold cntV by_
 by_cases h1:u=1
 . subst h1
   go_enter Tryz.func23,Tryz.ntmps23
   go_wp2;go_ret;exact⟨rfl,hbw⟩
 . have k1:(u==1)=false:=beq_eq_false_iff_ne.2 h1
   rw[if_neg h1]
   by_cases h2:u=2
   . subst h2
     go_enter Tryz.func23,Tryz.ntmps23
     go_wp2;go_ret;exact⟨rfl,hbw⟩
   . have k2:(u==2)=false:=beq_eq_false_iff_ne.2 h2
     rw[if_neg h2]
     by_cases h3:u=3
     . subst h3
       go_enter Tryz.func23,Tryz.ntmps23
       go_wp2;go_ret;exact⟨rfl,hbw⟩
     . have k3:(u==3)=false:=beq_eq_false_iff_ne.2 h3
       rw[if_neg h3];clear h1 h2 h3
       go_enter Tryz.func23,Tryz.ntmps23
       go_wp2;go_ret;exact⟨rfl,hbw⟩
def Jd2 (u at_:Int) (rs:List Nat):Bool:=decide (at_<=by_ u rs)
end
section
open Go.RowKit
attribute [local go_sem] Oper.semAt_some
theorem JpA(u:Int)(rs:List Nat):find (Jd2 u 0) [] rs=[]:=by
 unfold find;have:Jd2 u 0 []=true:=decide_eq_true (Jea u []);rw[if_pos this]
theorem JiV(u:Int):by_ u []=0:=by
 unfold by_
 split
 . rfl
 . split
   . rfl
   . split<;>rfl
end
section
structure Pt where
 keep:Int
 drop:Int
 put:List UInt8
deriving DecidableEq
structure NSt where
 out:List Pt
 put:List UInt8
 drop:Int
deriving DecidableEq
def JaC (s:NSt):List Pt:=s.out++((if s.put=[] then [] else [⟨0,0,s.put⟩])++(if s.drop=0 then [] else [⟨0,s.drop,[]⟩]))
def Jbi (l:List Pt) (k:Int):List Pt:=match l.getLast? with
 | some p=>if 0<p.keep then l.dropLast++[⟨p.keep+k,p.drop,p.put⟩] else l++[⟨k,0,[]⟩]
 | none=>l++[⟨k,0,[]⟩]
def addP (s:NSt) (p:Pt):NSt:=if p.keep=0 then ⟨s.out,s.put++p.put,s.drop+p.drop⟩ else ⟨Jbi (JaC ⟨s.out,s.put++p.put,s.drop+p.drop⟩) p.keep,[],0⟩
def nst0:NSt:=⟨[],[],0⟩
def Jae (op:List Pt):List Pt:=JaC (op.foldl addP nst0)
theorem Jjw(l:List Pt)(a b:Int)(ha:0<a):Jbi (Jbi l a) b=Jbi l (a+b):=by
 unfold Jbi
 cases h:l.getLast? with
 | none=>simp[ha]
 | some p =>
  by_cases hp:0<p.keep
  . have h2:0<p.keep+a:=by omega
    simp[hp,h2,Int.add_assoc]
  . simp[hp,ha]
theorem Jin(l:List Pt):JaC ⟨l,[],0⟩=l:=by simp[JaC]
theorem JhP(s:NSt):addP s ⟨0,0,[]⟩=s:=by simp[addP]
theorem Joh(s:NSt)(a b:Int):addP (addP s ⟨0,a,[]⟩) ⟨0,b,[]⟩=addP s ⟨0,a+b,[]⟩:=by simp[addP,Int.add_assoc]
theorem JpZ(s:NSt)(a b:List UInt8):addP (addP s ⟨0,0,a⟩) ⟨0,0,b⟩=addP s ⟨0,0,a++b⟩:=by simp[addP]
theorem Jjb(s:NSt)(a b:Int)(ha:0<a)(hb:0<=b):addP (addP s ⟨a,0,[]⟩) ⟨b,0,[]⟩=addP s ⟨a+b,0,[]⟩:=by
 have h1:a≠0:=by omega
 have h2:a+b≠0:=by omega
 by_cases h:b=0
 . subst h;simp[addP,h1]
 . simp[addP,h,h1,h2,Jin,Jjw _ a b ha]
def Jlk (d:Bool):Pt:=if d then ⟨0,1,[]⟩ else ⟨1,0,[]⟩
abbrev GSt:=List (List UInt8×Bool)×List UInt8
def tick (d:Bool) (g:GSt):GSt:=(g.1++[(g.2,d)],[])
def JdN (d:Bool):Nat->GSt->GSt
 | 0,g=>g
 | n+1,g=>JdN d n (tick d g)
def Jcb (g:GSt) (p:Pt):GSt:=JdN false p.keep.toNat (JdN true p.drop.toNat (g.1,g.2++p.put))
def Jdd (op:List Pt):GSt:=op.foldl Jcb ([],[])
theorem Jez(d:Bool):∀(n:Nat)(g:GSt),(JdN d n g).1.length=g.1.length+n
 | 0,_=>rfl
 | n+1,g=>by rw[JdN,Jez d n,tick,List.length_append,List.length_singleton];omega
theorem Jim(d:Bool):∀(n:Nat)(g:GSt),JdN d (n+1) g=tick d (JdN d n g)
 | 0,_=>rfl
 | n+1,g=>by rw[JdN,Jim d n,JdN]
def lenP (p:Pt):Int:=p.keep+p.drop
theorem Jl1(g:GSt)(p:Pt)(hk:0<=p.keep)(hd:0<=p.drop):((Jcb g p).1.length:Int)=g.1.length+lenP p:=by
 unfold Jcb lenP;rw[Jez,Jez];show((g.1.length+_+_:Nat):Int)=_;omega
structure KSt where
 out:List Pt
 put:List UInt8
 drop:Int
 keep:Int
deriving DecidableEq
def JfK (s:KSt) (q:List UInt8) (d:Bool):KSt:=if q≠[]\/d=true then ⟨if 0<s.keep then s.out++[⟨s.keep,0,[]⟩] else s.out,s.put++q,s.drop,if 0<s.keep then 0 else s.keep⟩ else s
def byteK (s:KSt) (d:Bool):KSt:=if d then ⟨s.out,s.put,s.drop+1,s.keep⟩ else ⟨JaC ⟨s.out,s.put,s.drop⟩,[],0,s.keep+1⟩
def stepK (s:KSt) (x:List UInt8×Bool):KSt:=byteK (JfK s x.1 x.2) x.2
end
end Go.Proofs.YtedgnlgjmnccgabGreatDoor
