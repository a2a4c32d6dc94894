/-
  A part of the texts that the proof uses.
-/
import Derived.WalkKit
import Derived.BigQuiet
import Derived.OrdersIn
import Derived.CallsIn
import Derived.TacticsIn
import Derived.RangeFuncCalls
import Derived.RegionTactic
import Derived.Shelf.Strings.Builder1
import Derived.Shelf.Strings.Builder2
import Derived.Shelf.Small.Utf8
import Derived.Shelf.Strings.BuilderF
import Derived.Shelf.Strings.BuilderK
import Derived.Shelf.Utf8.AppendRunePlain
import Derived.Shelf.Utf8.RuneCount
import Derived.Shelf.Strings.Builder2Cap
import Derived.Shelf.LaysM
import Derived.Shelf.Strconv.Clone
import Derived.Shelf.Strings.Search1
import Derived.Shelf.Strings.Search2
import Derived.Shelf.Strings.Search3
import Derived.Shelf.Strings.Cut
import Derived.Shelf.Strings.Count
import Derived.Shelf.Strings.Shaped
import Derived.Shelf.Strings.RuneCount
import Derived.Shelf.Unicode.DecodeSlow
import Derived.Shelf.Unicode.DecodeAny
import Derived.Shelf.Strings.BuilderCap
import Derived.Test.YtedgnlgjmnccgabGreatDoorProg
import Derived.Lib.DecodeN
import Derived.Lib.RuneBytes
import Derived.Lib.Strings
import Derived.WalkSpells
import Derived.WalkLawsBesides
import Derived.OwnWalk
import Derived.Lib.QuoteBits
import Derived.Laws.IdiomStrings
import Derived.Lib.UnsafeStr
import Derived.Deep.QuietTactic
import Derived.Deep.RegionWith
import Derived.Lib.Builder
set_option maxRecDepth 100000
set_option maxHeartbeats 40000000
set_option linter.unusedVariables false
namespace Go.Proofs.YtedgnlgjmnccgabGreatDoor
open Go.RowKit
theorem nlr (n : Nat) : n ≤ n := Nat.le_refl n
theorem chp {w : World} {b : Nat} {cs : Array Value} {T : TypeId} {fr : Nat × Nat} (hb : w.heap[b]? = some (.cells cs T fr)) (j : Nat) : w.cell? ⟨b, j, none⟩ = cs[j]? := Lib.cell_of_heap hb j
theorem ce {w : World} {b : Nat} {cs : Array Value} {T : TypeId} {fr : Nat × Nat} (hb : w.heap[b]? = some (.cells cs T fr)) (j : Nat) {v : Value} (hv : cs[j]? = some v) : w.cell? ⟨b, j, none⟩ = some v := (Lib.cell_of_heap hb j).trans hv
theorem fz {w : World} {b : Nat} {cs : Array Value} {T : TypeId} (h : w.heap[b]? = some (.cells cs T (0, 0))) (j : Nat) : w.frozen? ⟨b, j, none⟩ = false := by simp [World.frozen?, h]
theorem brf (n : Nat) (w : World) : Below n w w := Below.refl n w
theorem wsa (w : World) (o : Obj) : (w.alloc o).heap.size = w.heap.size + 1 := World.size_alloc w o
theorem hdz {p : Prop} (h : p) : Hid p := h
theorem alt {α : Type} {xs : Array α} {i : Nat} {a : α} (h : xs[i]? = some a) : i < xs.size := (Array.getElem?_eq_some_iff.1 h).1
theorem llt {α : Type} {xs : List α} {i : Nat} {a : α} (h : xs[i]? = some a) : i < xs.length := (List.getElem?_eq_some_iff.1 h).1
theorem lgg {α : Type} {xs : List α} {i : Nat} (h : i < xs.length) : xs[i]? = some xs[i] := List.getElem?_eq_getElem h
theorem blt (w : World) (p : Addr) {v : Value} (h : w.cell? p = some v) : p.block < w.heap.size := World.block_lt_of_cell? w p h
theorem osi {α : Type} {a b : α} (h : some a = some b) : a = b := Option.some.inj h
end Go.Proofs.YtedgnlgjmnccgabGreatDoor
namespace Go.Proofs.YtedgnlgjmnccgabGreatDoor
section
open Go.RowKit
structure Growth (W:World) (G:World->World):Prop where
 below:∀x,Below W.heap.size W (G x)
 onto:∀w,Below W.heap.size W w->G w=w
open Classical in
theorem JeM(W:World):∃G,Growth W G :=
 ⟨fun x=>if Below W.heap.size W x then x else W,fun x=>by
  show Below W.heap.size W (if Below W.heap.size W x then x else W)
  split
  . assumption
  . exact brf _ _,fun w h=>if_pos h⟩
theorem Growth.cell{W:World}{G:World->World}(hG:Growth W G){b o:Nat}{v:Value}(h:W.cell? ⟨b,o,none⟩=some v):∀x,(G x).cell? ⟨b,o,none⟩=some v :=
 fun x=>((hG.below x).cell (p:=⟨b,o,none⟩) (blt W _ h)).trans h
section
variable {P : Program} {ops : Array Oper} {md : Region.Mode} {C : World → Prop} {l0 n : Nat}
def JjY:List Oper->Bool
 | []=>true
 | o :: l=>(match o.op with | .defer _=>false | _=>true) && JjY l
theorem Jje:∀{l:List Oper},JjY l=true->∀(i:Nat)(o:Oper),l[i]?=some o->∀c,o.op≠.defer c
 | [],_,i,o,hi=>by simp at hi
 | o' :: l,h,i,o,hi=>by
  rw[JjY,Bool.and_eq_true]at h
  cases i with
  | zero =>
   simp at hi;subst hi;intro c e;rw[e]at h;exact absurd h.1 (by simp)
  | succ i=>exact Jje h.2 i o (by simpa using hi)
end
end
section
open Go.RowKit
section
variable {P : Program} {ops : Array Oper} {md : Region.Mode} {m : Nat} {Q : Exit → Act → World → Prop}
def Jbe (P:Program) (o:Oper) (a:Act) (K:Act->World->Prop):Result Next->Prop
 | .ok (.value v) w'=>K (a.put o.dst v) w'
 | .ok .skip w'=>K (a.put o.dst undef) w'
 | .ok (.enter f args) w'=>Calls P f args w' fun e w''=>∃v,e=.returned v/\K (a.put o.dst v) w''
 | _=>False
theorem JmE{o:Oper}{a:Act}{K K':Act->World->Prop}(h:∀a w,K a w->K' a w){r:Result Next}(hh:Jbe P o a K r):Jbe P o a K' r:=by
 cases r with
 | ok n w =>
  cases n<;>simp only[Jbe]at hh ⊢
  case value=>exact h _ _ hh
  case skip=>exact h _ _ hh
  case enter=>exact hh.mono fun e w ⟨v,e1,e2⟩=>⟨v,e1,h _ _ e2⟩
 | halt x w=>simp only[Jbe]at hh
theorem JiI{o:Oper}{a:Act}{K:Act->World->Prop}{r:Result Next}(hh:Jbe P o a K r):o.upon P a K Q r:=by
 cases r with
 | ok n w =>
  cases n<;>simp only[Jbe]at hh<;>simp only[Oper.upon]
  case value=>exact hh
  case skip=>exact hh
  case enter=>exact hh.mono fun e w ⟨v,e1,e2⟩=>by subst e1;exact e2
 | halt x w=>simp only[Jbe]at hh
def opG (P:Program) (ops:Array Oper) (i:Nat) (K:Act->World->Prop) (a:Act) (w:World):Prop :=
 match ops[i]? with
 | none=>K a w
 | some o=>if Region.wanted o (yielded ops a.tmps) then Jbe P o a K ((execOp a.eval o).run P w) else K (a.put o.dst undef) w
theorem Jed{i:Nat}{K K':Act->World->Prop}{a:Act}{w:World}(h:∀a w,K a w->K' a w)(hh:opG P ops i K a w):opG P ops i K' a w:=by
 unfold opG at *
 split
 . rename_i ho;simp only[ho]at hh;exact h _ _ hh
 . rename_i o ho
   simp only[ho]at hh
   split
   . rename_i hw;simp only[hw,if_true]at hh;exact JmE h hh
   . rename_i hw;simp only[hw]at hh;exact h _ _ hh
def anyG (P:Program) (md:Region.Mode) (ops:Array Oper) (m:Nat) (Q:Exit->Act->World->Prop):Nat->Array Bool->Act->World->Prop
 | 0,listed,a,w=>Region.ready md ops listed=[]/\∀w',Below w.heap.size w w'->Q .normal a w'
 | fuel+1,listed,a,w =>
  (Region.ready md ops listed=[]->∀w',Below w.heap.size w w'->Q .normal a w') /\
  ∀i∈Region.ready md ops listed,∀w',Below w.heap.size w w'->opG P ops i (fun a' w''=>(i<m->Below w'.heap.size w' w'')/\anyG P md ops m Q fuel (listed.setIfInBounds i true) a' w'') a w'
theorem Ji0:∀(fuel:Nat)(listed:Array Bool)(a:Act)(w:World),anyG P md ops m Q fuel listed a w->wpAny P md ops Q fuel listed a w
 | 0,_,_,w,h=>⟨h.1,h.2 w (brf _ _)⟩
 | fuel + 1,listed,a,w,h=>⟨fun h0=>h.1 h0 w (brf _ _),fun i hi=>by
     have h1:=h.2 i hi w (brf _ _);have h2:=Jed (fun a' w'' hh=>Ji0 fuel _ a' w'' hh.2) h1;unfold opG at h2;unfold wpOp
     split
     . rename_i ho;simp only[ho]at h2;exact h2
     . rename_i o ho
       simp only[ho]at h2
       split
       . rename_i hw;simp only[hw,if_true]at h2;exact .inl (JiI h2)
       . rename_i hw;simp only[hw]at h2;exact h2⟩
theorem Jj3:∀{fuel:Nat}{listed:Array Bool}{a:Act}{w w2:World},anyG P md ops m Q fuel listed a w->Below w.heap.size w w2->anyG P md ops m Q fuel listed a w2
 | 0,_,_,_,_,h,hb=>⟨h.1,fun w' hb'=>h.2 w' (hb.trans (hb'.mono hb.size))⟩
 | _+1,_,_,_,_,h,hb=>⟨fun h0 w' hb'=>h.1 h0 w' (hb.trans (hb'.mono hb.size)),fun i hi w' hb'=>h.2 i hi w' (hb.trans (hb'.mono hb.size))⟩
def Ja7 (P:Program) (w:World) (v:Value):Result Next->Prop
 | .ok (.value u) w'=>w'=w/\u=v
 | .ok .skip w'=>w'=w/\v=undef
 | .ok (.enter f args) w'=>w'=w/\Calls P f args w (fun e w''=>e=.returned v/\Below w.heap.size w w'')
 | _=>False
def Jdo (P:Program) (ops:Array Oper) (o:Oper) (v:Value) (a:Act) (w:World):Prop :=
 if Region.wanted o (yielded ops a.tmps) then ∀w',Below w.heap.size w w'->Ja7 P w' v ((execOp a.eval o).run P w') else v=undef
theorem JgX{o:Oper}{v:Value}{a a':Act}{w w2:World}(hy:Jdo P ops o v a w)(he:execOp a'.eval o=execOp a.eval o)
    (hw:Region.wanted o (yielded ops a'.tmps)=Region.wanted o (yielded ops a.tmps)) (hb:Below w.heap.size w w2):Jdo P ops o v a' w2:=by
 unfold Jdo at *;rw[hw]
 split
 . rename_i h
   rw[if_pos h]at hy;intro w' hb';rw[he];exact hy w' (hb.trans (hb'.mono hb.size))
 . rename_i h
   rw[if_neg h]at hy;exact hy
theorem Jgf{i:Nat}{o:Oper}{v:Value}{a:Act}{w w':World}(hi:ops[i]?=some o)(hy:Jdo P ops o v a w)(hb:Below w.heap.size w w'){K:Act->World->Prop}
    (h:∀w'',Below w'.heap.size w' w''->K (a.put o.dst v) w''):opG P ops i K a w':=by
 unfold opG;simp only[hi];unfold Jdo at hy
 split
 . rename_i hw
   rw[if_pos hw]at hy;have h3:=hy w' hb;generalize (execOp a.eval o).run P w'=r at *
   cases r with
   | ok n w2 =>
    cases n<;>simp only[Ja7]at h3<;>simp only[Jbe]
    case value u =>
     obtain⟨e1,e2⟩:=h3;rw[e2];exact h _ (by rw[e1];exact brf _ _)
    case skip =>
     obtain⟨e1,e2⟩:=h3;rw[←e2];exact h _ (by rw[e1];exact brf _ _)
    case enter f args =>
     obtain⟨e1,hc⟩:=h3;rw[e1];exact hc.mono fun e w'' ⟨he,hw''⟩=>⟨v,he,h _ hw''⟩
   | halt x w2=>simp only[Ja7]at h3
 . rename_i hw
   rw[if_neg hw]at hy;rw[←hy];exact h _ (brf _ _)
theorem opG_put{j:Nat}{oi oj:Oper}{v:Value}(hj:ops[j]?=some oj)(hap:oi.apart ops oj=true)(hsi:∀cs b,oi.op≠.select cs b)(hsj:∀cs b,oj.op≠.select cs b)
    {K:Act->World->Prop} {a:Act} {w0 w:World} (hy:Jdo P ops oi v a w0) (h:opG P ops j K (a.put oi.dst v) w) :
    opG P ops j (fun a' w'=>Jdo P ops oi v a' w0/\K (a'.put oi.dst v) w') a w:=by
 obtain⟨h1,h2,h3⟩:=Oper.apart_spec hap;have keep:∀u,Jdo P ops oi v (a.put oj.dst u) w0:=fun u=>JgX hy (execOp_put oi hsi a oj.dst u h3) (wanted_put oi a oj.dst u h3) (brf _ _);unfold opG at *;simp only[hj]at *;rw[wanted_put oj a oi.dst v h1]at h
 split
 . rename_i hw
   simp only[hw,if_true]at h;rw[execOp_put oj hsj a oi.dst v h1]at h;generalize (execOp a.eval oj).run P w=r at *
   cases r with
   | ok n w2 =>
    cases n<;>simp only[Jbe]at h ⊢
    case value u=>exact⟨keep u,by rw[←Act.put_comm a v u h2];exact h⟩
    case skip=>exact⟨keep _,by rw[←Act.put_comm a v undef h2];exact h⟩
    case enter f args=>exact h.mono fun e w'' ⟨u,e1,e2⟩=>⟨u,e1,keep u,by rw[←Act.put_comm a v u h2];exact e2⟩
   | halt x w2=>simp only[Jbe]at h
 . rename_i hw
   simp only[hw]at h;exact⟨keep _,by rw[←Act.put_comm a v undef h2];exact h⟩
def Jgj (md:Region.Mode) (ops:Array Oper) (m:Nat):Bool :=
 (List.range ops.size).all fun j=>j<m || match ops[j]? with
   | some o=>(List.range m).all fun i=>o.after.any fun e=>Region.binds md e && e.on==i
   | none=>true
theorem Jic(h:Jgj md ops m=true){j i:Nat}{o:Oper}(hj:ops[j]?=some o)(hm:¬j<m)(hi:i<m):∃e∈o.after,Region.binds md e=true/\e.on=i:=by
 unfold Jgj at h;rw[List.all_eq_true]at h;have h1:=h j (List.mem_range.2 (alt hj));simp only[hj,hm,decide_false,Bool.false_or,List.all_eq_true,List.mem_range]at h1;obtain⟨e,he,hb⟩:=Array.any_eq_true'.1 (h1 i hi);rw[Bool.and_eq_true,beq_iff_eq]at hb;exact⟨e,he,hb.1,hb.2⟩
theorem Jp1{i:Nat}{oi:Oper}{v:Value}(hi:ops[i]?=some oi)(him:i<m)(hsel:∀(j:Nat)(o:Oper) cs b,ops[j]?=some o->o.op≠.select cs b)(hlate:Jgj md ops m=true) :
    ∀ (fuel:Nat) (listed:Array Bool) (a:Act) (w:World),
     (∀j oj,ops[j]?=some oj->j≠i->listed.getD j true=false->(∀e∈oj.after,Region.binds md e=true->e.on≠i)->oi.apart ops oj=true) ->
     i∈Region.ready md ops listed->Jdo P ops oi v a w ->
     anyG P md ops m Q fuel (listed.setIfInBounds i true) (a.put oi.dst v) w->anyG P md ops m Q (fuel+1) listed a w:=by
 intro fuel
 induction fuel with
 | zero =>
  intro listed a w _ hr hy H;refine⟨fun h=>(by rw[h]at hr;cases hr),fun j hj w' hb=>?_⟩
  by_cases hji:j=i
  . subst hji;exact Jgf hi hy hb fun w'' hb'=>⟨fun _=>hb',Jj3 H (hb.trans (hb'.mono hb.size))⟩
  . have:=ready_mono hj hji
    rw[H.1]at this
    cases this
 | succ fuel ih =>
  intro listed a w hfree hr hy H;refine⟨fun h=>(by rw[h]at hr;cases hr),fun j hj w' hb=>?_⟩
  by_cases hji:j=i
  . subst hji;exact Jgf hi hy hb fun w'' hb'=>⟨fun _=>hb',Jj3 H (hb.trans (hb'.mono hb.size))⟩
  . have h1:=H.2 j (ready_mono hj hji) w' hb
    obtain⟨hjun,oj,hoj,hall⟩:=mem_ready.1 hj;have hnot:∀e∈oj.after,Region.binds md e=true->e.on≠i:=fun e he hb heq=>by
     have h1:=hall e he hb;have h0:=(mem_ready.1 hr).1;rw[heq]at h1
     rcases Nat.lt_or_ge i listed.size with h' | h'
     . simp[h']at h0 h1;rw[h0]at h1;cases h1
     . simp[Array.getElem?_eq_none h']at h1
    have hjm:j<m:=by
     by_cases hjm:j<m
     . exact hjm
     . obtain⟨e,he,hb,hon⟩:=Jic hlate hoj hjm him
       exact absurd hon (hnot e he hb)
    have h2:=opG_put hoj (hfree j oj hoj hji hjun hnot) (fun cs b=>hsel i oi cs b hi) (fun cs b=>hsel j oj cs b hoj) hy h1
    have hfree':∀k ok,ops[k]?=some ok->k≠i->(listed.setIfInBounds j true).getD k true=false ->
        (∀e∈ok.after,Region.binds md e=true->e.on≠i)->oi.apart ops ok=true:=fun k ok hk hki hun hno=>by
     refine hfree k ok hk hki ?_ hno
     by_cases hjk:j=k
     . subst hjk;exact hjun
     . rw[getD_set_ne true hjk]at hun;exact hun
    refine Jed (fun a' w'' h3=>?_) h2;obtain⟨h3y,h3g,h3a⟩:=h3;have hg:=h3g hjm;refine⟨fun _=>hg,ih (listed.setIfInBounds j true) a' w'' hfree' (ready_mono hr (Ne.symm hji)) (JgX h3y rfl rfl (hb.trans (hg.mono hb.size))) ?_⟩;rw[Array.setIfInBounds_comm _ _ hji];exact h3a
theorem Jmh{i fuel:Nat}{oi:Oper}{v:Value}{listed:Array Bool}{a:Act}{w:World}(hi:ops[i]?=some oi)(him:i<m)(hs:(Region.noSelect ops && Jgj md ops m)=true)
    (hf:(Region.free md ops listed i && (Region.ready md ops listed).contains i)=true) (hy:Jdo P ops oi v a w) (H:anyG P md ops m Q fuel (listed.setIfInBounds i true) (a.put oi.dst v) w):anyG P md ops m Q (fuel+1) listed a w:=by
 rw[Bool.and_eq_true]at hs hf;exact Jp1 hi him (Region.noSelect_spec hs.1) hs.2 fuel listed a w (Region.free_spec hi hf.1) (by simpa using hf.2) hy H
theorem JaU{i fuel:Nat}{o:Oper}{listed:Array Bool}{a:Act}{w:World}{G:World->World}(hG:Growth w G)(hi:ops[i]?=some o)(him:decide (i<m)=true)(hs:(Region.noSelect ops && Jgj md ops m)=true)
    (hf:(Region.free md ops listed i && (Region.ready md ops listed).contains i)=true)
    (h:∀K:Act->Prop,(∀a,anyG P md ops m Q fuel (listed.setIfInBounds i true) a w->K a)->if Region.wanted o (yielded ops a.tmps) then ∃v,(∀x,Ja7 P (G x) v ((execOp a.eval o).run P (G x)))/\K (a.put o.dst v) else K (a.put o.dst undef)) :
    anyG P md ops m Q (fuel+1) listed a w:=by
 have h1:=h _ fun _ h=>h;have him':i<m:=of_decide_eq_true him
 split at h1
 . rename_i hw
   obtain⟨v,h2,h3⟩:=h1;refine Jmh hi him' hs hf ?_ h3;unfold Jdo;rw[if_pos hw];intro w' hb;have:=h2 w';rw[hG.onto w' hb]at this;exact this
 . rename_i hw
   refine Jmh hi him' hs hf ?_ h1;unfold Jdo;rw[if_neg hw]
theorem Jk0{fuel:Nat}{listed:Array Bool}{a:Act}{w:World}(hr:Region.ready md ops listed=[])(h:∀w',Below w.heap.size w w'->Q .normal a w'):anyG P md ops m Q fuel listed a w:=by
 cases fuel with
 | zero=>exact⟨hr,h⟩
 | succ n=>exact⟨fun _=>h,fun i hi=>(by rw[hr]at hi;cases hi)⟩
theorem JfO{id:Nat}{a:Act}{w:World}{l:List Oper}(m n:Nat)(hm:P.follows .mixedOrders=true)(hn:l.length=n)
    (h:∀w',Below w.heap.size w w'->anyG P .any l.toArray m Q n (Array.replicate n false) a w'):(Code.region id l.toArray true).wp P Q a w :=
 wp_region_any hm (Ji0 _ _ _ _ (by subst hn;simpa using h { w with drawn:=w.drawn+1 } (Below.drew (brf _ w))))
end
end
end Go.Proofs.YtedgnlgjmnccgabGreatDoor
namespace Go.Proofs
open Go.Shelf
def Tryz.lays119_ren:Go.Shelf.Ren:=⟨fun | 119=>162 | n=>n,fun | 21=>21 | 4=>4 | n=>n,fun | n=>n⟩
theorem Tryz.lays119:Go.Proofs.Lays.n119 Tryz.prog Tryz.lays119_ren:={
 mixed:=by kernel_rfl
 f119:=Tryz.func162.trans (congrArg some (by kernel_rfl))
 t4:=Tryz.underlying4
 a4:=Tryz.isAgg4
 z4:=Tryz.sizeOf4
 v4:=Tryz.zeroValue4
 t21:=Tryz.underlying21
 a21:=Tryz.isAgg21
 z21:=Tryz.sizeOf21
 v21:=Tryz.zeroValue21 }
theorem Tryz.utf8_ValidRune(r:Int)(w:World) :
    Calls Tryz.prog 162 #[.int .i32 r] w fun e w'=>e=.returned (.bool (Lib.validRune r))/\w'=w:=Any.utf8_ValidRune Tryz.lays119 r w
def Tryz.lays242_ren:Go.Shelf.Ren:=⟨fun | 242=>164 | 278=>215 | n=>n,fun | 37=>158 | 21=>21 | 51=>325 | 4=>4 | 5=>5 | 46=>86 | n=>n,fun | n=>n⟩
theorem Tryz.lays242:Go.Proofs.Lays.n242 Tryz.prog Tryz.lays242_ren:={
 mixed:=by kernel_rfl
 f242:=Tryz.func164.trans (congrArg some (by kernel_rfl))
 f278:=Tryz.func215.trans (congrArg some (by kernel_rfl))
 t4:=Tryz.underlying4
 a4:=Tryz.isAgg4
 z4:=Tryz.sizeOf4
 v4:=Tryz.zeroValue4
 t5:=Tryz.underlying5
 a5:=Tryz.isAgg5
 z5:=Tryz.sizeOf5
 v5:=Tryz.zeroValue5
 t21:=Tryz.underlying21
 a21:=Tryz.isAgg21
 z21:=Tryz.sizeOf21
 v21:=Tryz.zeroValue21
 t37:=Tryz.underlying158
 a37:=Tryz.isAgg158
 z37:=Tryz.sizeOf158
 v37:=Tryz.zeroValue158
 t46:=Tryz.underlying86
 a46:=Tryz.isAgg86
 z46:=Tryz.sizeOf86
 v46:=Tryz.zeroValue86
 t51:=Tryz.underlying325
 a51:=Tryz.isAgg325
 z51:=Tryz.sizeOf325
 v51:=Tryz.zeroValue325 }
open Go.RowKit in
theorem Tryz.utf8_AppendRune_plain(B:Nat)(v:Value)(n:Nat)(xs:List Value)(r:Int)(hr0: -2147483648<=r)(hr1:r<=2147483647)(w:World)(hown:w.ownsRow B 5 1 v n xs)(hlen:n+4<=140737488355328)(hBw:B<=w.heap.size) :
    Calls Tryz.prog 164 #[v,.int .i32 r] w fun e w'=>∃v',e=.returned v'/\w'.ownsRow B 5 1 v' (n+(Lib.runeCells r).length) (xs++Lib.runeCells r)/\∃o,(w.alloc o).grownBy w' v.ownBlock:=Any.utf8_AppendRune_plain Tryz.lays242 (by kernel_rfl) B v n xs r hr0 hr1 w hown hlen hBw
def Tryz.lays260_ren:Go.Shelf.Ren:=⟨fun | 260=>230 | n=>n,fun | 9=>9 | 21=>21 | 3=>3 | 4=>4 | 5=>5 | 119=>320 | 0=>0 | 46=>86 | 139=>323 | 138=>322 | n=>n,fun | 3=>2 | 4=>3 | n=>n⟩
theorem Tryz.lays260:Go.Proofs.Lays.n260 Tryz.prog Tryz.lays260_ren:={
 mixed:=by kernel_rfl
 f260:=Tryz.func230.trans (congrArg some (by kernel_rfl))
 t0:=Tryz.underlying0
 a0:=Tryz.isAgg0
 z0:=Tryz.sizeOf0
 v0:=Tryz.zeroValue0
 t3:=Tryz.underlying3
 a3:=Tryz.isAgg3
 z3:=Tryz.sizeOf3
 v3:=Tryz.zeroValue3
 t4:=Tryz.underlying4
 a4:=Tryz.isAgg4
 z4:=Tryz.sizeOf4
 v4:=Tryz.zeroValue4
 t5:=Tryz.underlying5
 a5:=Tryz.isAgg5
 z5:=Tryz.sizeOf5
 v5:=Tryz.zeroValue5
 t9:=Tryz.underlying9
 a9:=Tryz.isAgg9
 z9:=Tryz.sizeOf9
 v9:=Tryz.zeroValue9
 t21:=Tryz.underlying21
 a21:=Tryz.isAgg21
 z21:=Tryz.sizeOf21
 v21:=Tryz.zeroValue21
 t46:=Tryz.underlying86
 a46:=Tryz.isAgg86
 z46:=Tryz.sizeOf86
 v46:=Tryz.zeroValue86
 t119:=Tryz.underlying320
 a119:=Tryz.isAgg320
 z119:=Tryz.sizeOf320
 t138:=Tryz.underlying322
 a138:=Tryz.isAgg322
 z138:=Tryz.sizeOf322
 v138:=Tryz.zeroValue322
 t139:=Tryz.underlying323
 a139:=Tryz.isAgg323
 z139:=Tryz.sizeOf323
 v139:=Tryz.zeroValue323
 g3:=by kernel_rfl
 g4:=by kernel_rfl }
def Tryz.lays197_ren:Go.Shelf.Ren:=⟨fun | 197=>193 | 260=>230 | n=>n,fun | 9=>9 | 21=>21 | 3=>3 | 4=>4 | 5=>5 | 105=>232 | 119=>320 | 0=>0 | 46=>86 | 139=>323 | 138=>322 | n=>n,fun | 3=>2 | 4=>3 | n=>n⟩
theorem Tryz.lays197:Go.Proofs.Lays.n197 Tryz.prog Tryz.lays197_ren:={
 mixed:=by kernel_rfl
 f197:=Tryz.func193.trans (congrArg some (by kernel_rfl))
 f260:=Tryz.func230.trans (congrArg some (by kernel_rfl))
 t0:=Tryz.underlying0
 a0:=Tryz.isAgg0
 z0:=Tryz.sizeOf0
 v0:=Tryz.zeroValue0
 t3:=Tryz.underlying3
 a3:=Tryz.isAgg3
 z3:=Tryz.sizeOf3
 v3:=Tryz.zeroValue3
 t4:=Tryz.underlying4
 a4:=Tryz.isAgg4
 z4:=Tryz.sizeOf4
 v4:=Tryz.zeroValue4
 t5:=Tryz.underlying5
 a5:=Tryz.isAgg5
 z5:=Tryz.sizeOf5
 v5:=Tryz.zeroValue5
 t9:=Tryz.underlying9
 a9:=Tryz.isAgg9
 z9:=Tryz.sizeOf9
 v9:=Tryz.zeroValue9
 t21:=Tryz.underlying21
 a21:=Tryz.isAgg21
 z21:=Tryz.sizeOf21
 v21:=Tryz.zeroValue21
 t46:=Tryz.underlying86
 a46:=Tryz.isAgg86
 z46:=Tryz.sizeOf86
 v46:=Tryz.zeroValue86
 t105:=Tryz.underlying232
 a105:=Tryz.isAgg232
 z105:=Tryz.sizeOf232
 v105:=Tryz.zeroValue232
 t119:=Tryz.underlying320
 a119:=Tryz.isAgg320
 z119:=Tryz.sizeOf320
 t138:=Tryz.underlying322
 a138:=Tryz.isAgg322
 z138:=Tryz.sizeOf322
 v138:=Tryz.zeroValue322
 t139:=Tryz.underlying323
 a139:=Tryz.isAgg323
 z139:=Tryz.sizeOf323
 v139:=Tryz.zeroValue323
 g3:=by kernel_rfl
 g4:=by kernel_rfl }
open Go.RowKit Go.Lib in
theorem Tryz.utf8_DecodeRuneInString(s:ByteArray)(w:World)(hT:Lib.Utf8Tabs 2 3 w) :
    Calls Tryz.prog 193 #[.string s] w fun e w'=>e=.returned (.tuple #[.int .i32 (Lib.decodeGo s).1,.int .i64 (Lib.decodeGo s).2])/\Below w.heap.size w w':=Any.utf8_DecodeRuneInString Tryz.lays197 s w hT
end Go.Proofs
namespace Go.Proofs.YtedgnlgjmnccgabGreatDoor
section
open Go.Lib
variable {l : List UInt8}{r n : Nat}{p : Nat × Nat}
def dec (l:List UInt8):Nat×Nat:=decodeN l.length (l.getD 0 0).toNat (l.getD 1 0).toNat (l.getD 2 0).toNat (l.getD 3 0).toNat
theorem JsC(n b0 b1 b2 b3:Nat):1<=(decodeN n b0 b1 b2 b3).2:=by
 unfold decodeN
 repeat' split
 all_goals simp
theorem JsB(n b0 b1 b2 b3:Nat):(decodeN n b0 b1 b2 b3).2<=4:=by
 unfold decodeN
 repeat' split
 all_goals simp
theorem decN_le(n b0 b1 b2 b3:Nat)(h:1<=n):(decodeN n b0 b1 b2 b3).2<=n:=by
 unfold decodeN
 repeat' split
 all_goals simp
 all_goals omega
theorem Jfe(l:List UInt8):1<=(dec l).2:=JsC _ _ _ _ _
theorem Jnc(l:List UInt8):(dec l).2<=4:=JsB _ _ _ _ _
theorem Jjp(h:l≠[]):(dec l).2<=l.length:=decN_le _ _ _ _ _ (by cases l<;>simp_all)
def badB (p:Nat×Nat):Bool:=p.1==65533 && p.2==1
def JjH:Nat->List UInt8->List (Nat×Nat)×Bool
 | 0,_=>([],true)
 | n+1,l=>if l=[] then ([],true) else if badB (dec l) then ([],false) else (dec l :: (JjH n (l.drop (dec l).2)).1,(JjH n (l.drop (dec l).2)).2)
theorem JhI:∀(n m:Nat)(l:List UInt8),l.length<=n->l.length<=m->JjH n l=JjH m l
 | 0,m,l,hn,_=>by
  obtain rfl:l=[]:=List.eq_nil_of_length_eq_zero (by omega)
  cases m<;>simp[JjH]
 | n+1,0,l,_,hm=>by
  obtain rfl:l=[]:=List.eq_nil_of_length_eq_zero (by omega);simp[JjH]
 | n + 1,m+1,l,hn,hm=>by
  unfold JjH
  by_cases h:l=[]
  . simp[h]
  . have h1:=Jfe l
    have h2:l.length≠0:=by simpa using h
    rw[JhI n m (l.drop (dec l).2) (by rw[List.length_drop];omega) (by rw[List.length_drop];omega)]
def scan (l:List UInt8):List (Nat×Nat)×Bool:=JjH l.length l
theorem JkU(l:List UInt8)(h:l≠[]):scan l=if badB (dec l) then ([],false) else (dec l :: (scan (l.drop (dec l).2)).1,(scan (l.drop (dec l).2)).2):=by
 have h1:=Jfe l;have h2:l.length≠0:=by simpa using h
 unfold scan;rw[JhI l.length ((l.length - 1)+1) l (nlr _) (by omega),JjH,if_neg h,JhI (l.length - 1) (l.drop (dec l).2).length _ (by rw[List.length_drop];omega) (nlr _)]
theorem Jfp:scan []=([],true):=rfl
theorem JfW(h:l≠[])(hb:badB (dec l)=true):scan l=([],false):=by rw[JkU l h,hb];rfl
theorem Jet(h:l≠[])(hb:badB (dec l)=false):scan l=(dec l :: (scan (l.drop (dec l).2)).1,(scan (l.drop (dec l).2)).2):=by
 rw[JkU l h,hb];rfl
def Jas (r:Nat):Prop:=r<55296\/(57344<=r/\r<=1114111)
def enc (r:Nat):List UInt8:=encodeRune r
theorem enc1(h:r<=127):enc r=[r.toUInt8]:=by
 unfold enc encodeRune;rw[encodeRuneZ_one (by omega) (by omega)];simp
theorem enc2(h0:128<=r)(h1:r<=2047):enc r=[(192+r / 64).toUInt8,(128+r % 64).toUInt8]:=by
 unfold enc encodeRune;rw[encodeRuneZ_two (by omega) (by omega)];simp only[List.map_cons,List.map_nil];rw[show(192+(r:Int) / 64).toNat=192+r / 64 by omega,show(128+(r:Int) % 64).toNat=128+r % 64 by omega]
theorem enc3(h:(2048<=r/\r<55296)\/(57343<r/\r<=65535)):enc r=[(224+r / 4096).toUInt8,(128+r / 64 % 64).toUInt8,(128+r % 64).toUInt8]:=by
 unfold enc encodeRune;rw[encodeRuneZ_three (by omega)];simp only[List.map_cons,List.map_nil];rw[show(224+(r:Int) / 4096).toNat=224+r / 4096 by omega,show(128+(r:Int) / 64 % 64).toNat=128+r / 64 % 64 by omega,show(128+(r:Int) % 64).toNat=128+r % 64 by omega]
theorem enc4(h0:65536<=r)(h1:r<=1114111):enc r=[(240+r / 262144).toUInt8,(128+r / 4096 % 64).toUInt8,(128+r / 64 % 64).toUInt8,(128+r % 64).toUInt8]:=by
 unfold enc encodeRune;rw[encodeRuneZ_four (by omega) (by omega)];simp only[List.map_cons,List.map_nil];rw[show(240+(r:Int) / 262144).toNat=240+r / 262144 by omega,show(128+(r:Int) / 4096 % 64).toNat=128+r / 4096 % 64 by omega,show(128+(r:Int) / 64 % 64).toNat=128+r / 64 % 64 by omega,show(128+(r:Int) % 64).toNat=128+r % 64 by omega]
theorem toU8(h:n<256):n.toUInt8.toNat=n:=by simp[Nat.toUInt8];omega
theorem Jj8{a:UInt8}(h:n=a.toNat):n.toUInt8=a:=by
 subst h;simp[Nat.toUInt8]
theorem Joc(h:l≠[])(hb:badB (dec l)=false):Jas (dec l).1/\l.take (dec l).2=enc (dec l).1:=by
 revert hb;unfold badB dec Jas;have z0:(l.getD 0 0).toNat<256:=(l.getD 0 0).toNat_lt;have z1:(l.getD 1 0).toNat<256:=(l.getD 1 0).toNat_lt;have z2:(l.getD 2 0).toNat<256:=(l.getD 2 0).toNat_lt;have z3:(l.getD 3 0).toNat<256:=(l.getD 3 0).toNat_lt;obtain⟨a,t,rfl⟩:=List.exists_cons_of_ne_nil h;unfold decodeN
 split
 . intro _
   refine⟨by simp only[List.getD_cons_zero]at *;omega,?_⟩;rw[enc1 (by omega)];simp
 split
 . rename_i c
   split
   . intro _
     obtain⟨c1,c2,c3⟩:=c;obtain⟨b,t,rfl⟩:∃b t',t=b :: t':=by cases t with|nil=>simp at c2|cons b t=>exact⟨b,t,rfl⟩
     simp only[List.getD_cons_zero,List.getD_cons_succ]at *;refine⟨by omega,?_⟩;rw[enc2 (by omega) (by omega)];simp only[List.take_succ_cons,List.take_zero];rw[Jj8 (a:=a) (by omega),Jj8 (a:=b) (by omega)]
   . intro hb;simp at hb
 split
 . rename_i c
   split
   . intro _
     obtain⟨c1,⟨c2,c3⟩,c4,c5⟩:=c;obtain⟨b,t,rfl⟩:∃b t',t=b :: t':=by cases t with|nil=>simp at c2|cons b t=>exact⟨b,t,rfl⟩
     obtain⟨d,t,rfl⟩:∃b t',t=b :: t':=by cases t with|nil=>simp at c4|cons b t=>exact⟨b,t,rfl⟩
     simp only[List.getD_cons_zero,List.getD_cons_succ]at *;refine⟨by omega,?_⟩;rw[enc3 (by omega)];simp only[List.take_succ_cons,List.take_zero];rw[Jj8 (a:=a) (by omega),Jj8 (a:=b) (by omega),Jj8 (a:=d) (by omega)]
   . intro hb;simp at hb
 split
 . rename_i c
   split
   . intro _
     obtain⟨c1,⟨c2,c3⟩,⟨c4,c5⟩,c6,c7⟩:=c;obtain⟨b,t,rfl⟩:∃b t',t=b :: t':=by cases t with|nil=>simp at c2|cons b t=>exact⟨b,t,rfl⟩
     obtain⟨d,t,rfl⟩:∃b t',t=b :: t':=by cases t with|nil=>simp at c4|cons b t=>exact⟨b,t,rfl⟩
     obtain⟨e,t,rfl⟩:∃b t',t=b :: t':=by cases t with|nil=>simp at c6|cons b t=>exact⟨b,t,rfl⟩
     simp only[List.getD_cons_zero,List.getD_cons_succ]at *;refine⟨by omega,?_⟩;rw[enc4 (by omega) (by omega)];simp only[List.take_succ_cons,List.take_zero];rw[Jj8 (a:=a) (by omega),Jj8 (a:=b) (by omega),Jj8 (a:=d) (by omega),Jj8 (a:=e) (by omega)]
   . intro hb;simp at hb
 . intro hb;simp at hb
theorem JgN(hr:Jas r)(t:List UInt8):dec (enc r++t)=(r,(enc r).length)/\badB (dec (enc r++t))=false:=by
 have key:dec (enc r++t)=(r,(enc r).length)/\((enc r).length=1->r<=127):=by
  unfold Jas at hr
  by_cases h1:r<=127
  . rw[enc1 h1]
    simp only[dec,List.cons_append,List.nil_append,List.getD_cons_zero,toU8 (show r<256 by omega),List.length_cons,List.length_nil];exact⟨by simp[decodeN,show r<128 by omega],fun _=>h1⟩
  by_cases h2:r<=2047
  . rw[enc2 (by omega) h2]
    simp only[dec,List.cons_append,List.nil_append,List.getD_cons_zero,List.getD_cons_succ,toU8 (show 192+r / 64<256 by omega),toU8 (show 128+r % 64<256 by omega),List.length_cons,List.length_nil];refine⟨?_,by simp⟩;unfold decodeN;rw[if_neg (by omega),if_pos ⟨by omega,by omega,by omega⟩,if_pos (by omega)];simp;omega
  by_cases h3:r<=65535
  . rw[enc3 (by omega)]
    simp only[dec,List.cons_append,List.nil_append,List.getD_cons_zero,List.getD_cons_succ,toU8 (show 224+r / 4096<256 by omega),toU8 (show 128+r / 64 % 64<256 by omega),toU8 (show 128+r % 64<256 by omega),List.length_cons,List.length_nil];refine⟨?_,by simp⟩;unfold decodeN;rw[if_neg (by omega),if_neg (by omega),if_pos ⟨by omega,⟨by omega,by omega⟩,by omega,by omega⟩,if_pos (by omega)];simp;omega
  . rw[enc4 (by omega) (by omega)]
    simp only[dec,List.cons_append,List.nil_append,List.getD_cons_zero,List.getD_cons_succ,toU8 (show 240+r / 262144<256 by omega),toU8 (show 128+r / 4096 % 64<256 by omega),toU8 (show 128+r / 64 % 64<256 by omega),toU8 (show 128+r % 64<256 by omega),List.length_cons,List.length_nil];refine⟨?_,by simp⟩;unfold decodeN;rw[if_neg (by omega),if_neg (by omega),if_neg (by omega),if_pos ⟨by omega,⟨by omega,by omega⟩,⟨by omega,by omega⟩,by omega,by omega⟩,if_pos (by omega)];simp;omega
 refine⟨key.1,?_⟩;rw[key.1];unfold badB
 by_cases hl:(enc r).length=1
 . have:=key.2 hl;simp;omega
 . simp[hl]
theorem JnY(r:Nat):enc r≠[]:=by
 have:=(encodeRuneZ_length r).1;intro h;have h2:=congrArg List.length h;simp[enc,encodeRune]at h2;rw[h2]at this;simp at this
def wide (rs:List Nat):List (Nat×Nat):=rs.map fun r=>(r,(enc r).length)
def encs (rs:List Nat):List UInt8:=rs.flatMap enc
theorem Jco(r:Nat)(rs:List Nat):encs (r :: rs)=enc r++encs rs:=rfl
theorem JbQ(a b:List Nat):encs (a++b)=encs a++encs b:=by simp[encs]
theorem JbT:∀(rs:List Nat),(∀r∈rs,Jas r)->scan (encs rs)=(wide rs,true)
 | [],_=>Jfp
 | r :: rs,h=>by
  have hr:=h r (by simp);obtain⟨h1,h2⟩:=JgN hr (encs rs);have hne:encs (r :: rs)≠[]:=by rw[Jco];simp[JnY]
  rw[Jco]at hne ⊢;rw[Jet hne h2,h1];simp only[List.drop_left];rw[JbT rs (fun x hx=>h x (by simp[hx]))];rfl
theorem Jes(n:Nat):∀(l:List UInt8),l.length<=n->(∀p∈(scan l).1,Jas p.1/\p.2=(enc p.1).length)/\(∃t,l=encs ((scan l).1.map (·.1))++t/\((scan l).2=true->t=[])/\((scan l).2=false->t≠[]/\badB (dec t)=true)):=by
 induction n with
 | zero =>
  intro l hl;obtain rfl:l=[]:=by cases l<;>simp_all
  rw[Jfp];exact⟨by simp,[],by simp[encs]⟩
 | succ n ih =>
  intro l hl
  by_cases h:l=[]
  . subst h;rw[Jfp];exact⟨by simp,[],by simp[encs]⟩
  by_cases hb:badB (dec l)=true
  . rw[JfW h hb];exact⟨by simp,l,by simp[encs],by simp,fun _=>⟨h,hb⟩⟩
  have hb:badB (dec l)=false:=by simpa using hb
  obtain⟨g1,g2⟩:=Joc h hb;have w1:=Jfe l;have w2:=Jjp h;obtain⟨i1,t,i2,i3,i4⟩:=ih (l.drop (dec l).2) (by simp;omega);rw[Jet h hb];have hw:(dec l).2=(enc (dec l).1).length:=by rw[←g2];simp;omega
  refine⟨?_,t,?_,i3,i4⟩
  . intro p hp
    rcases List.mem_cons.1 hp with rfl|hp
    . exact⟨g1,hw⟩
    . exact i1 p hp
  . simp only[List.map_cons,Jco]
    rw[←g2,List.append_assoc,←i2];exact(List.take_append_drop _ _).symm
def Jam (l:List UInt8):List Nat:=(scan l).1.map (·.1)
theorem JbV(h:r∈Jam l):Jas r:=by
 obtain⟨p,hp,rfl⟩:=List.mem_map.1 h;exact((Jes l.length l (nlr _)).1 p hp).1
theorem JkT(l:List UInt8):(scan l).1=wide (Jam l):=by
 unfold wide Jam;rw[List.map_map];have h:=(Jes l.length l (nlr _)).1
 conv=>lhs;rw[←List.map_id (scan l).1]
 refine List.map_congr_left fun p hp=>?_;have:=(h p hp).2;simp[←this]
theorem JbM(h:(scan l).2=true):encs (Jam l)=l:=by
 obtain⟨_,t,h1,h2,_⟩:=Jes l.length l (nlr _);rw[h2 h]at h1;exact(h1.trans (List.append_nil _)).symm
theorem JeN(rs:List Nat):rs.length<=(encs rs).length:=by
 induction rs with
 | nil=>simp[encs]
 | cons r rs ih =>
  have h:(enc r).length≠0:=by simpa using JnY r
  rw[Jco,List.length_append,List.length_cons];omega
theorem Jfq(l:List UInt8):(scan l).1.length<=l.length:=by
 obtain⟨_,t,h1,_⟩:=Jes l.length l (nlr _);have h:=JeN ((scan l).1.map (·.1));rw[List.length_map]at h;have h2:=congrArg List.length h1;rw[List.length_append]at h2;omega
theorem Jqf(l:List UInt8):∀p∈(scan l).1,p.2<=4:=by
 intro p hp;rw[((Jes l.length l (nlr _)).1 p hp).2];have:=(encodeRuneZ_length p.1).2;simpa[enc,encodeRune] using this
/-! ### Halves -/
def hal (r:Nat):List Nat:=if r<65536 then [r] else [55296+(r - 65536) / 1024,56320+(r - 65536) % 1024]
def hals (rs:List Nat):List Nat:=rs.flatMap hal
theorem get!_getD (s:ByteArray)(i:Nat):s.get! i=s.data.toList.getD i 0:=by
 simp only[ByteArray.get!,List.getD_eq_getElem?_getD,Array.getElem?_toList]
 cases h:s.data[i]? with
 | none=>rw[getElem!_def];simp[h];rfl
 | some x=>rw[getElem!_def];simp[h]
theorem JgM(s:ByteArray)(k:Nat):Utf8.decode (s.extract k s.size) 0=dec (s.data.toList.drop k):=by
 have e1:(s.extract k s.size).data.toList=s.data.toList.drop k:=by
  rw[extract_data,List.take_of_length_le (by rw[List.length_drop,Array.length_toList];exact nlr _)]
 have e:(s.extract k s.size).size=(s.data.toList.drop k).length:=by rw[←e1,Array.length_toList];rfl
 rw[decode_at,e,get!_getD,get!_getD,get!_getD,get!_getD,e1];rfl
def Jf6 (l:List UInt8):Nat:=((scan l).1.map (·.2)).sum
theorem Jiw(h:badB p=true):p.1=65533/\p.2=1:=by simpa[badB] using h
theorem Jj0(h:badB p=false):p.1≠65533\/(p.1=65533/\p.2≠1):=by
 simp[badB]at h
 by_cases h1:p.1=65533
 . exact .inr ⟨h1,h h1⟩
 . exact .inl h1
end
section
open Go.RowKit
def isAt (w w':World) (v:Value) (at_:Int):Prop :=
 ∃b,v=.iface 273 (.pointer (some ⟨b,0,none⟩))/\w.heap.size<=b/\b<w'.heap.size/\w'.cell? ⟨b,0,none⟩=some (.int .i64 3)/\w'.cell? ⟨b,1,none⟩=some (.int .i64 at_)
theorem JfN(n:Int)(w:World) :
    Calls Tryz.prog 163 #[.int .i64 n] w fun e w'=>(∃v,e=.returned v/\isAt w w' v n)/\Below w.heap.size w w':=by
 go_enter Tryz.func163,Tryz.ntmps163
 go_wp2;go_ret;refine⟨⟨_,rfl,w.heap.size,rfl,nlr _,by simp,by simp[go_sem],by simp[go_sem]⟩,(brf _ _).alloc (nlr _) _⟩
theorem Jij{w0 w w':World}{v:Value}{n:Int}(h:isAt w w' v n)(hb:w0.heap.size<=w.heap.size):isAt w0 w' v n:=by
 obtain⟨b,rfl,h1,h2⟩:=h;exact⟨b,rfl,Nat.le_trans hb h1,h2⟩
structure Takes (W:World) (F:Nat) (cap:Array Value) (l:List (Nat×Nat)) (I:List (Nat×Nat)->World->Prop):Prop where
 enters:∀args w,(callFunc F args).run Tryz.prog w=.ok (.enter F args) w
 stays:∀done w w',I done w->Below w.heap.size w w'->I done w'
 step:∀done p rest,l=done++p :: rest->∀w,I done w->Below W.heap.size W w ->
  Calls Tryz.prog F (#[.int .i32 p.1,.int .i64 p.2]++cap) w fun e w'=>e=.returned (.bool true)/\I (done++[p]) w'/\Below W.heap.size W w'
theorem Jkk(s:ByteArray)(hs:s.size<=maxLen)(F:Nat)(cap:Array Value)(W:World)(hT:Lib.Utf8Tabs 2 3 W)(I:List (Nat×Nat)->World->Prop)
    (H:Takes W F cap (scan s.data.toList).1 I) (w:World) (hw:Below W.heap.size W w) (h0:I [] w) :
    Calls Tryz.prog 135 #[.string s,.func (.func F) #[] cap] w fun e w'=>Below W.heap.size W w'/\I (scan s.data.toList).1 w' /\
     (((scan s.data.toList).2=true/\e=.returned .nilIface)\/((scan s.data.toList).2=false/\∃v,e=.returned v/\isAt W w' v (Jf6 s.data.toList))):=by
 unfold maxLen at hs;have hent:=H.enters
 have key:∀done k,(scan s.data.toList).1=done++(scan (s.data.toList.drop k)).1->(done.map (·.2)).sum=k->(scan s.data.toList).2=(scan (s.data.toList.drop k)).2 ->
     (scan (s.data.toList.drop k)).1=[]->Jf6 s.data.toList=k:=by
  intro done k h1 h2 _ h4;unfold Jf6;rw[h1,h4,List.append_nil,h2]
 go_enter Tryz.func135,Tryz.ntmps135
 go_wp2
 go_loopw [5,6,7,12] (fun at_ _ _ _ wr=>∃(k:Nat) (done:List (Nat×Nat)),k<=s.size/\at_=.int .i64 k/\(scan s.data.toList).1=done++(scan (s.data.toList.drop k)).1/\(done.map (·.2)).sum=k /\
     (scan s.data.toList).2=(scan (s.data.toList.drop k)).2/\I done wr/\Below W.heap.size W wr) (fun at_ _ _ _ _=>s.size - (intOf at_).toNat)
 case atStart=>exact⟨0,[],Nat.zero_le _,rfl,by rw[List.drop_zero];rfl,rfl,by rw[List.drop_zero],h0,hw⟩
 case round =>
  obtain⟨k,done,hk,rfl,hd1,hd2,hd3,hI,hwr⟩:=hrel;have hTr:=Go.Proofs.Utf8Tabs_below hT hwr
  by_cases hlt:k<s.size
  . have hne:s.data.toList.drop k≠[]:=by
      intro e;have:=congrArg List.length e;rw[List.length_drop,List.length_nil,←Lib.size_eq]at this;omega
    have hdec:Lib.decodeGo (s.extract k s.size)=dec (s.data.toList.drop k):=by
     unfold Lib.decodeGo;rw[if_neg (by rw[ByteArray.size_extract];omega),JgM]
    have hge:=Jfe (s.data.toList.drop k);have hle:=Jjp hne;have hle4:=Jnc (s.data.toList.drop k);have cD:=Tryz.utf8_DecodeRuneInString (s.extract k s.size) wr hTr;rw[hdec]at cD
    by_cases hb:badB (dec (s.data.toList.drop k))=true
    . have hs2:=JfW hne hb
      have hpl:Hid (Jf6 s.data.toList=k):=key done k hd1 hd2 hd3 (by rw[hs2]);have hf:(scan s.data.toList).2=false:=by rw[hd3,hs2]
      have hfin:Hid (I (scan s.data.toList).1 wr):=by show I _ wr;rw[hd1,hs2,List.append_nil];exact hI
      have hb':(dec (s.data.toList.drop k)).1=65533/\(dec (s.data.toList.drop k)).2=1:=Jiw hb;rw[hb'.1,hb'.2]at cD;clear hdec hge hle hle4 hb hb' hd1 hd2 hd3 hs2 hne key hI
      go_wp2_with (first | (go_at_call 193;refine cD.mono ?_;rintro e w1 ⟨rfl,hb1⟩) | (go_at_call 163;refine(JfN _ _).mono ?_;rintro e w2 ⟨⟨v,rfl,hv⟩,hb2⟩))
      go_ret;have hb12:Below wr.heap.size wr w2:=hb1.trans (hb2.mono hb1.size);refine⟨hwr.trans (hb12.mono hwr.size),H.stays _ _ _ hfin hb12,.inr ⟨hf,v,rfl,?_⟩⟩;rw[hpl];exact Jij hv (Nat.le_trans hwr.size hb1.size)
    . have hb:badB (dec (s.data.toList.drop k))=false:=Bool.eq_false_iff.2 hb
      have hs2:=Jet hne hb;have hl:(scan s.data.toList).1=done++dec (s.data.toList.drop k) :: (scan ((s.data.toList.drop k).drop (dec (s.data.toList.drop k)).2)).1:=by rw[hd1,hs2]
      have hl':(scan s.data.toList).2=(scan ((s.data.toList.drop k).drop (dec (s.data.toList.drop k)).2)).2:=by rw[hd3,hs2]
      rw[List.drop_drop]at hl hl';rw[List.length_drop,←Lib.size_eq]at hle;have hstep:=H.step done _ _ hl;obtain⟨R,hR⟩:∃R,R=(dec (s.data.toList.drop k)).1:=⟨_,rfl⟩;obtain⟨K,hK⟩:∃K,K=(dec (s.data.toList.drop k)).2:=⟨_,rfl⟩;have hp:dec (s.data.toList.drop k)=(R,K):=by rw[hR,hK]
      rw[hp]at cD hb hge hle hle4 hl hl' hstep;have hnext:Hid ((scan s.data.toList).1=done++[(R,K)]++(scan (s.data.toList.drop (k+K))).1):=by
       show _=_;rw[hl,List.append_assoc];rfl
      have hnext2:Hid (((done++[(R,K)]).map (·.2)).sum=k+K):=by
       show _=_;rw[List.map_append,List.sum_append,hd2];rfl
      have hnext3:=hdz hl';simp only[]at hge hle;clear hdec hd1 hd2 hd3 hs2 hne key hle4 hl hl' hR hK hp;have hbF:=Jj0 hb;clear hb
      rcases hbF with hr|⟨hr,hr2⟩
      . have hr0:((R:Int)==65533)=false:=by
          rw[beq_eq_false_iff_ne];intro e;exact hr (by omega)
        clear hr
        go_wp2_with (first | (go_at_call 193;refine cD.mono ?_;rintro e w1 ⟨rfl,hb1⟩) | (go_at_fn F;refine(hstep w1 (H.stays _ _ _ hI hb1) (hwr.trans (hb1.mono hwr.size))).mono ?_;rintro e w2 ⟨rfl,hI2,hb2⟩))
        go_roundw
        case rel=>exact⟨k+K,done++[(R,K)],by omega,by go_num,hnext,hnext2,hnext3,hI2,hb2⟩
        case measure=>simp[intOf];omega
      . have hr0:((K:Int)==1)=false:=by
          rw[beq_eq_false_iff_ne];intro e;exact hr2 (by omega)
        subst hr;clear hr2
        go_wp2_with (first | (go_at_call 193;refine cD.mono ?_;rintro e w1 ⟨rfl,hb1⟩) | (go_at_fn F;refine(hstep w1 (H.stays _ _ _ hI hb1) (hwr.trans (hb1.mono hwr.size))).mono ?_;rintro e w2 ⟨rfl,hI2,hb2⟩))
        go_roundw
        case rel=>exact⟨k+K,done++[(65533,K)],by omega,by go_num,hnext,hnext2,hnext3,hI2,hb2⟩
        case measure=>simp[intOf];omega
  . have hend:s.data.toList.drop k=[]:=List.drop_eq_nil_of_le (by rw[←Lib.size_eq];omega)
    rw[hend,Jfp]at hd1 hd3;rw[List.append_nil]at hd1;have hfin:Hid (I (scan s.data.toList).1 wr):=by show I _ wr;rw[hd1];exact hI
    clear hd1 hend key hTr;go_wp2;go_ret;refine⟨hwr,hfin,?_⟩
    first | exact rfl | exact .inl ⟨hd3,rfl⟩
variable {w w' : World}{B e size n a : Nat}{v : Value}{xs : List Value}
theorem JaR(h:w.ownsRow B e size v n xs)(hb:Below w.heap.size w w'):w'.ownsRow B e size v n xs:=by
 refine⟨h.1,?_⟩
 rcases h.2 with hn|⟨g,cap,cur,rfl,hg,hgg,rest⟩
 . exact .inl hn
 . exact .inr ⟨g,cap,cur,rfl,hg,by rw[hb.block g (alt hgg)];exact hgg,rest⟩
theorem Jae(h:w.ownsRow B e size v n xs):∃p c,v=.slice p n c:=by
 rcases h.2 with ⟨rfl,rfl⟩|⟨g,cap,cur,rfl,_⟩
 . exact⟨_,_,rfl⟩
 . exact⟨_,_,rfl⟩
def JdQ (w:World) (e a:Nat) (xs:List Value):Prop :=
 ∃p c,w.cell? ⟨a,0,none⟩=some (.slice p xs.length c)/\w.frozen? ⟨a,0,none⟩=false/\w.ownsRow (a+1) e 1 (.slice p xs.length c) xs.length xs
theorem JgJ(h:JdQ w e a xs):a<w.heap.size:=by
 obtain⟨p,c,h1,_⟩:=h;exact blt w _ h1
theorem Jgn(h:JdQ w e a xs)(hb:Below w.heap.size w w'):JdQ w' e a xs:=by
 have hlt:=JgJ h;obtain⟨p,c,h1,h2,h3⟩:=h;exact⟨p,c,by rw[hb.cell (p:=⟨a,0,none⟩) hlt];exact h1,by rw[hb.frozen (p:=⟨a,0,none⟩) hlt];exact h2,JaR h3 hb⟩
theorem Jhg(w:World)(e T:Nat):JdQ (w.alloc (.cells #[.slice none 0 0] T)) e w.heap.size [] :=
 ⟨none,0,by simp[go_sem],by simp[go_sem],World.ownsRow_nil _ _ _ _⟩
theorem Jhf{w w1:World}{e a:Nat}{xs ys:List Value}{p:Option Addr}{c:Nat}{o:Obj}{v':Value}(hlt:a<w.heap.size)(h2:w.frozen? ⟨a,0,none⟩=false)(hc:w.cell? ⟨a,0,none⟩=some (.slice p xs.length c))
    (hown:w.ownsRow (a+1) e 1 (.slice p xs.length c) xs.length xs)
    (hown1:w1.ownsRow (a+1) e 1 v' (xs.length+ys.length) (xs++ys)) (hg:(w.alloc o).grownBy w1 (Value.slice p xs.length c).ownBlock) :
    JdQ (w1.setCell ⟨a,0,none⟩ v') e a (xs++ys)/\Below a w (w1.setCell ⟨a,0,none⟩ v')/\w1.cell? ⟨a,0,none⟩=some (.slice p xs.length c)/\w1.frozen? ⟨a,0,none⟩=false/\w.heap.size<=w1.heap.size:=by
 have hrow:∀k,(Value.slice p xs.length c).ownBlock=some k->a+1<=k:=fun k hk=>(hown.lt k hk).1;have hb1:Below (a+1) w w1:=((brf (a+1) w).alloc hlt o).grown hg (by rw[wsa];omega) hrow;have hc1:w1.cell? ⟨a,0,none⟩=some (.slice p xs.length c):=by rw[hb1.cell (p:=⟨a,0,none⟩) (Nat.lt_succ_self a)];exact hc
 have hf1:w1.frozen? ⟨a,0,none⟩=false:=by rw[hb1.frozen (p:=⟨a,0,none⟩) (Nat.lt_succ_self a)];exact h2
 obtain⟨p',c',rfl⟩:=Jae hown1;refine⟨⟨p',c',?_,?_,?_⟩,(hb1.mono (Nat.le_succ a)).setCell (nlr _) _,hc1,hf1,hb1.size⟩
 . rw[List.length_append];exact World.cell?_setCell_same _ _ _ hc1
 . rw[World.frozen?_setCell];exact hf1
 . rw[List.length_append];exact ownsRow_setCell_below hown1 (Nat.lt_succ_self a) _
theorem Jtq:(Tryz.prog.info? 21).map (fun i=>(i.zero,i.size,i.bytes))=some (some (.int .i32 0),1,4):=by kernel_rfl
theorem JqG:(Tryz.prog.info? 167).map (fun i=>(i.zero,i.size,i.bytes))=some (some (.int .u16 0),1,2):=by kernel_rfl
theorem Jo3(r n:Int)(a:Nat)(w:World)(xs:List Value)(h:JdQ w 21 a xs)(hlen:xs.length<1000000000) :
    Calls Tryz.prog 168 #[.int .i32 r,.int .i64 n,.pointer (some ⟨a,0,none⟩)] w fun e w'=>e=.returned (.bool true)/\JdQ w' 21 a (xs++[.int .i32 r])/\Below a w w':=by
 obtain⟨i0,hi,hz0,hz1,hz2⟩:=info_parts Jtq;have hlt:=JgJ h;obtain⟨p,c,hc,hf,hown⟩:=h
 go_enter Tryz.func168,Tryz.ntmps168
 go_wp2_with (at_builtin;refine wpList_append_own _ rfl _ _ 141 rfl (a+1) 21 i0 (.int .i32 0) 1 4 Tryz.underlying141 hi hz0 hz1 hz2 rfl (by decide) _ _ _ rfl (hown.alloc _) ⟨w.heap.size,0,none⟩ 1 1 [.int .i32 r] rfl rfl (cell_one_new _ _ _) (ints_oneCell .i32 [r]) ?c3 ?c4 ?c5 ?_)
 case c3=>unfold maxLen;omega
 case c4=>omega
 case c5=>first | omega | (simp;omega)
 intro v' w1 hown1 hg _;obtain⟨R1,R2,R3,R4,R5⟩:=Jhf (ys:=[.int .i32 r]) hlt hf hc hown hown1 hg;obtain⟨p',c',hv⟩:=Jae hown1;clear hown hown1 hg hc hf;rw[hv]at R1 R2 ⊢;go_wp2;go_ret;exact⟨rfl,R1,R2⟩
def Jbj (r:Nat):List Value:=(hal r).map fun h:Nat=>Value.int .u16 (h:Int)
theorem and1023(r:Int)(h0:0<=r)(h1:r<=1114111):bits BinOp.and IntKind.i32 r 1023=r % 1024:=by
 obtain⟨x,rfl⟩:∃x:Nat,r=x:=⟨r.toNat,by omega⟩;show IntKind.i32.wrap ((BitVec.ofInt 32 (x:Int) &&& BitVec.ofInt 32 ((1023:Nat):Int)).toNat:Int)=_;have hm:x &&& 1023=x % 1024:=Nat.and_two_pow_sub_one_eq_mod x 10;rw[BitVec.toNat_and,ofInt_u32 x (by omega),ofInt_u32 1023 (by omega),hm];exact(Lib.wrap_i32_small _ (by omega)).trans (Int.natCast_emod x 1024)
theorem Jhr(r:Int)(h0:0<=r)(h1:r<65536)(B n:Nat)(w:World)(v:Value)(xs:List Value)(hown:w.ownsRow B 167 1 v n xs)(hlen:n<1000000000)(hB:B<=w.heap.size) :
    Calls Tryz.prog 166 #[v,.int .i32 r] w fun e w'=>∃v' o,e=.returned v'/\w'.ownsRow B 167 1 v' (n+1) (xs++[.int .u16 r])/\(w.alloc o).grownBy w' v.ownBlock:=by
 obtain⟨i0,hi,hz0,hz1,hz2⟩:=info_parts JqG;obtain⟨p,c,rfl⟩:=Jae hown
 go_enter Tryz.func166,Tryz.ntmps166
 go_wp2_with (at_builtin;refine wpList_append_own _ rfl _ _ 144 rfl B 167 i0 (.int .u16 0) 1 2 Tryz.underlying144 hi hz0 hz1 hz2 rfl (by decide) _ _ _ rfl (hown.alloc _) ⟨w.heap.size,0,none⟩ 1 1 [.int .u16 r] rfl rfl (cell_one_new _ _ _) (ints_oneCell .u16 [r]) ?c3 ?c4 ?c5 ?_)
 case c3=>unfold maxLen;omega
 case c4=>omega
 case c5=>first | omega | (simp;omega)
 intro v' w1 hown1 hg _;obtain⟨p',c',hv⟩:=Jae hown1;clear hown hi hz0 hz1 hz2;rw[hv]at hown1 ⊢;go_wp2;go_ret;exact⟨_,_,rfl,hown1,hg⟩
theorem Jhq(r:Int)(h1:¬r<65536)(h2:r<=1114111)(B n:Nat)(w:World)(v:Value)(xs:List Value)(hown:w.ownsRow B 167 1 v n xs)(hlen:n<1000000000)(hB:B<=w.heap.size) :
    Calls Tryz.prog 166 #[v,.int .i32 r] w fun e w'=>∃v' o,e=.returned v'/\w'.ownsRow B 167 1 v' (n+2) (xs++[.int .u16 (55296+(r - 65536) / 1024),.int .u16 (56320+(r - 65536) % 1024)])/\(w.alloc o).grownBy w' v.ownBlock:=by
 obtain⟨i0,hi,hz0,hz1,hz2⟩:=info_parts JqG;obtain⟨p,c,rfl⟩:=Jae hown;have ha:=and1023 (r - 65536) (by omega) (by omega)
 go_enter Tryz.func166,Tryz.ntmps166
 go_wp2_with (at_builtin;refine wpList_append_own _ rfl _ _ 144 rfl B 167 i0 (.int .u16 0) 1 2 Tryz.underlying144 hi hz0 hz1 hz2 rfl (by decide) _ _ _ rfl (hown.alloc _) ⟨w.heap.size,0,none⟩ 2 2 [.int .u16 (55296+(r - 65536) / 1024),.int .u16 (56320+(r - 65536) % 1024)] rfl rfl (cell_two_new _ _ _ _) (ints_oneCell .u16 [55296+(r - 65536) / 1024,56320+(r - 65536) % 1024]) ?c3 ?c4 ?c5 ?_)
 case c3=>unfold maxLen;omega
 case c4=>omega
 case c5=>first | omega | (simp;omega)
 intro v' w1 hown1 hg _;obtain⟨p',c',hv⟩:=Jae hown1;clear hown hi hz0 hz1 hz2;rw[hv]at hown1 ⊢;go_wp2;go_ret;exact⟨_,_,rfl,hown1,hg⟩
end
section
open Go.RowKit
variable {r a B : Nat}{w w' : World}{n1 n2 n3 n4 : Int}
theorem Jhe(h:r<65536):Jbj r=[.int .u16 r]:=by simp[Jbj,hal,h]
theorem Jhd(h:¬r<65536):Jbj r=[.int .u16 (55296+((r:Int) - 65536) / 1024),.int .u16 (56320+((r:Int) - 65536) % 1024)]:=by
 simp only[Jbj,hal,h,if_false,List.map_cons,List.map_nil];rw[show((55296+(r - 65536) / 1024:Nat):Int)=55296+((r:Int) - 65536) / 1024 by omega,show((56320+(r - 65536) % 1024:Nat):Int)=56320+((r:Int) - 65536) % 1024 by omega]
theorem JmT(r:Nat):(Jbj r).length<=2:=by
 by_cases h:r<65536
 . rw[Jhe h];simp
 . rw[Jhd h];simp
theorem Jhs(r:Nat)(h2:r<=1114111)(B n:Nat)(w:World)(v:Value)(xs:List Value)(hown:w.ownsRow B 167 1 v n xs)(hlen:n<1000000000)(hB:B<=w.heap.size) :
    Calls Tryz.prog 166 #[v,.int .i32 r] w fun e w'=>∃p c o m,e=.returned (.slice p m c)/\m=n+(Jbj r).length/\w'.ownsRow B 167 1 (.slice p m c) m (xs++Jbj r)/\(w.alloc o).grownBy w' v.ownBlock:=by
 by_cases h:r<65536
 . rw[Jhe h]
   refine(Jhr r (by omega) (by omega) B n w v xs hown hlen hB).mono ?_;rintro e w' ⟨v',o,rfl,h1,h2⟩;obtain⟨p,c,rfl⟩:=Jae h1;exact⟨p,c,o,_,rfl,rfl,h1,h2⟩
 . rw[Jhd h]
   refine(Jhq r (by omega) (by omega) B n w v xs hown hlen hB).mono ?_;rintro e w' ⟨v',o,rfl,h1,h2⟩;obtain⟨p,c,rfl⟩:=Jae h1;exact⟨p,c,o,_,rfl,rfl,h1,h2⟩
theorem JmR(r:Nat)(hr:r<=1114111)(n:Int)(a:Nat)(w:World)(xs:List Value)(h:JdQ w 167 a xs)(hlen:xs.length<1000000000) :
    Calls Tryz.prog 165 #[.int .i32 r,.int .i64 n,.pointer (some ⟨a,0,none⟩)] w fun e w'=>e=.returned (.bool true)/\JdQ w' 167 a (xs++Jbj r)/\Below a w w':=by
 have hlt:=JgJ h;obtain⟨p,c,hc,hf,hown⟩:=h;have cA:=Jhs r hr (a+1) xs.length w _ xs hown hlen hlt;obtain⟨ys,hys⟩:∃ys,ys=Jbj r:=⟨_,rfl⟩;rw[←hys]at cA ⊢;clear hr hys;generalize (r:Int)=R at cA ⊢;have NX:=fun (w1:World) (o:Obj) (v':Value)=>@Jhf w w1 167 a xs ys p c o v' hlt hf hc hown;have HN:=hdz NX;clear NX hown
 go_enter Tryz.func165,Tryz.ntmps165
 go_wp2_with (go_at_call 166;refine cA.mono ?_;rintro e w1 ⟨p',c',o,m,rfl,hm,hown1,hg⟩;have Rs:=HN.out w1 o _ (by rw[←hm];exact hown1) hg;obtain⟨R1,R2,R3,R4,R5⟩:=Rs;clear hown1 hg hm)
 go_ret;exact⟨rfl,R1,R2⟩
theorem JjU(a1 a2 a3 a4 b1 b2 b3 b4:Int)(w:World) :
    Calls Tryz.prog 137 #[.agg #[.int .i64 a1,.int .i64 a2,.int .i64 a3,.int .i64 a4],.agg #[.int .i64 b1,.int .i64 b2,.int .i64 b3,.int .i64 b4]] w
     fun e w'=>e=.returned (.agg #[.int .i64 (wrap64 (a1+b1)),.int .i64 (wrap64 (a2+b2)),.int .i64 (wrap64 (a3+b3)),.int .i64 (wrap64 (a4+b4))])/\Below w.heap.size w w':=by
 go_enter Tryz.func137,Tryz.ntmps137
 go_wp2;refine bodyPost_ret (v:=.agg #[.int .i64 (wrap64 (a1+b1)),.int .i64 (wrap64 (a2+b2)),.int .i64 (wrap64 (a3+b3)),.int .i64 (wrap64 (a4+b4))]) (by simp[results,Tryz.results137,go_sem]) rfl ⟨rfl,?_⟩;exact(((brf _ _).alloc (nlr _) _).alloc (by simp) _).alloc (by simp[Nat.le_add_right,Nat.add_assoc]) _
def cH (r:Nat):Int:=if r<65536 then 1 else 2
def cL (r:Nat):Int:=if r=10 then 1 else 0
theorem Jhi(r:Nat)(n:Int)(w:World) :
    Calls Tryz.prog 138 #[.int .i32 r,.int .i64 n] w
     fun e w'=>e=.returned (.agg #[.int .i64 n,.int .i64 (cH r),.int .i64 1,.int .i64 (cL r)])/\Below w.heap.size w w':=by
 by_cases h1:r<65536
 . have e1:cH r=1:=if_pos h1
   by_cases h2:r=10
   . have e2:cL r=1:=if_pos h2
     rw[e1,e2];subst h2;clear h1 e1 e2
     go_enter Tryz.func138,Tryz.ntmps138
     go_wp2;refine bodyPost_ret (v:=.agg #[.int .i64 n,.int .i64 1,.int .i64 1,.int .i64 1]) (by simp[results,Tryz.results138,go_sem]) rfl ⟨rfl,?_⟩;exact((brf _ _).alloc (nlr _) _).alloc (by simp) _
   . have e2:cL r=0:=if_neg h2
     rw[e1,e2];have k1:(r:Int)<65536:=by omega
     have k2:((r:Int)==10)=false:=by rw[beq_eq_false_iff_ne];omega
     clear e1 e2 h1 h2;generalize (r:Int)=R at k1 k2 ⊢
     go_enter Tryz.func138,Tryz.ntmps138
     go_wp2;refine bodyPost_ret (v:=.agg #[.int .i64 n,.int .i64 1,.int .i64 1,.int .i64 0]) (by simp[results,Tryz.results138,go_sem]) rfl ⟨rfl,?_⟩;exact((brf _ _).alloc (nlr _) _).alloc (by simp) _
 . have e1:cH r=2:=if_neg h1
   have e2:cL r=0:=if_neg (by omega);rw[e1,e2]
   . have k1:¬(r:Int)<65536:=by omega
     have k2:((r:Int)==10)=false:=by rw[beq_eq_false_iff_ne];omega
     clear e1 e2 h1;generalize (r:Int)=R at k1 k2 ⊢
     go_enter Tryz.func138,Tryz.ntmps138
     go_wp2;refine bodyPost_ret (v:=.agg #[.int .i64 n,.int .i64 2,.int .i64 1,.int .i64 0]) (by simp[results,Tryz.results138,go_sem]) rfl ⟨rfl,?_⟩;exact((brf _ _).alloc (nlr _) _).alloc (by simp) _
def counted (w:World) (a:Nat) (n1 n2 n3 n4:Int):Prop :=
 (w.cell? ⟨a,0,none⟩=some (.int .i64 n1)/\w.cell? ⟨a,1,none⟩=some (.int .i64 n2)/\w.cell? ⟨a,2,none⟩=some (.int .i64 n3)/\w.cell? ⟨a,3,none⟩=some (.int .i64 n4)) /\
 (w.frozen? ⟨a,0,none⟩=false/\w.frozen? ⟨a,1,none⟩=false/\w.frozen? ⟨a,2,none⟩=false/\w.frozen? ⟨a,3,none⟩=false)
theorem JdB(h:counted w a n1 n2 n3 n4):a<w.heap.size:=blt w _ h.1.1
theorem Jb1(h:counted w a n1 n2 n3 n4)(hb:Below B w w')(hlt:a<B):counted w' a n1 n2 n3 n4:=by
 obtain⟨⟨a0,a1,a2,a3⟩,b0,b1,b2,b3⟩:=h;refine⟨⟨?_,?_,?_,?_⟩,?_,?_,?_,?_⟩
 . rw[hb.cell (p:=⟨a,0,none⟩) hlt];exact a0
 . rw[hb.cell (p:=⟨a,1,none⟩) hlt];exact a1
 . rw[hb.cell (p:=⟨a,2,none⟩) hlt];exact a2
 . rw[hb.cell (p:=⟨a,3,none⟩) hlt];exact a3
 . rw[hb.frozen (p:=⟨a,0,none⟩) hlt];exact b0
 . rw[hb.frozen (p:=⟨a,1,none⟩) hlt];exact b1
 . rw[hb.frozen (p:=⟨a,2,none⟩) hlt];exact b2
 . rw[hb.frozen (p:=⟨a,3,none⟩) hlt];exact b3
theorem JaB(h:counted w a n1 n2 n3 n4)(hb:Below w.heap.size w w'):counted w' a n1 n2 n3 n4:=Jb1 h hb (JdB h)
theorem JdT{m1 m2 m3 m4:Int}(h:counted w a n1 n2 n3 n4) :
    counted ((((w.setCell ⟨a,0,none⟩ (.int .i64 m1)).setCell ⟨a,1,none⟩ (.int .i64 m2)).setCell ⟨a,2,none⟩ (.int .i64 m3)).setCell ⟨a,3,none⟩ (.int .i64 m4)) a m1 m2 m3 m4:=by
 obtain⟨⟨a0,a1,a2,a3⟩,b0,b1,b2,b3⟩:=h;refine⟨⟨?_,?_,?_,?_⟩,?_,?_,?_,?_⟩
 all_goals simp[go_sem,a0,a1,a2,a3,b0,b1,b2,b3]
theorem Jgy(hb:Below B w w')(hB:B<=a)(v1 v2 v3 v4:Value) :
    Below B w ((((w'.setCell ⟨a,0,none⟩ v1).setCell ⟨a,1,none⟩ v2).setCell ⟨a,2,none⟩ v3).setCell ⟨a,3,none⟩ v4) :=
 (((hb.setCell (p:=⟨a,0,none⟩) hB _).setCell (p:=⟨a,1,none⟩) hB _).setCell (p:=⟨a,2,none⟩) hB _).setCell (p:=⟨a,3,none⟩) hB _
theorem Jjq(r:Nat)(n:Int)(a:Nat)(w:World)(n1 n2 n3 n4:Int)(h:counted w a n1 n2 n3 n4) :
    Calls Tryz.prog 136 #[.int .i32 r,.int .i64 n,.pointer (some ⟨a,0,none⟩)] w fun e w'=>e=.returned (.bool true) /\
     counted w' a (wrap64 (n1+n)) (wrap64 (n2+cH r)) (wrap64 (n3+1)) (wrap64 (n4+cL r))/\Below a w w':=by
 have hlt:=JdB h;have HC:=hdz h;obtain⟨⟨a0,a1,a2,a3⟩,b0,b1,b2,b3⟩:=h;have cO:=fun (w:World)=>Jhi r n w;generalize cH r=x2 at cO ⊢;generalize cL r=x4 at cO ⊢;generalize (r:Int)=R at cO ⊢
 go_enter Tryz.func136,Tryz.ntmps136
 go_wp2
 go_region_with (first | (go_at_call 138;refine(cO _).mono ?_;rintro e w1 ⟨rfl,hb1⟩;have HC1:counted w1 a n1 n2 n3 n4:=Jb1 (w:=w.drew) HC.out hb1 hlt;have HD1:=hdz HC1;obtain⟨⟨c0,c1,c2,c3⟩,d0,d1,d2,d3⟩:=HC1) | (go_at_call 137;refine(JjU _ _ _ _ _ _ _ _ _).mono ?_;rintro e w2 ⟨rfl,hb2⟩;have HC2:counted w2 a n1 n2 n3 n4:=Jb1 (w:=w1) HD1.out hb2 (Nat.lt_of_lt_of_le hlt hb1.size);have HD2:=hdz HC2;obtain⟨⟨c0,c1,c2,c3⟩,d0,d1,d2,d3⟩:=HC2))
 all_goals
  have hbb:Below a w w2:=(Below.drew (brf a w)).trans ((hb1.trans (hb2.mono hb1.size)).mono (Nat.le_of_lt hlt));clear a0 a1 a2 a3 b0 b1 b2 b3 HC HD1 hb1 hb2 c0 c1 c2 c3 d0 d1 d2 d3;go_wp2;go_ret;exact⟨rfl,JdT HD2.out,Jgy hbb (nlr _) _ _ _ _⟩
/-! ### What is gathered over runes -/
def JaS (l:List (Nat×Nat)):List Value:=l.map fun p=>Value.int .i32 (p.1:Int)
def Jcp (l:List (Nat×Nat)):List Value:=l.flatMap fun p=>Jbj p.1
def sum1 (l:List (Nat×Nat)):Int:=(l.map fun p=>(p.2:Int)).sum
def sum2 (l:List (Nat×Nat)):Int:=(l.map fun p=>cH p.1).sum
def sum4 (l:List (Nat×Nat)):Int:=(l.map fun p=>cL p.1).sum
theorem Jmz(W:World)(a:Nat)(l:List (Nat×Nat))(ha:W.heap.size<=a)(hl:l.length<1000000000) :
    Takes W 168 #[.pointer (some ⟨a,0,none⟩)] l fun done w=>JdQ w 21 a (JaS done) where
 enters:=enters_of Tryz.func168 (by kernel_rfl) rfl
 stays:=fun _ _ _ h hb=>Jgn h hb
 step := fun done p rest e w hI hw=>by
  have hlen:(JaS done).length<1000000000:=by
   have:=congrArg List.length e;rw[List.length_append]at this;unfold JaS;rw[List.length_map];omega
  refine(Jo3 p.1 p.2 a w _ hI hlen).mono ?_;rintro e w' ⟨rfl,h1,h2⟩;refine⟨rfl,?_,hw.trans (h2.mono ha)⟩;unfold JaS;rw[List.map_append];exact h1
theorem JlX(l:List (Nat×Nat)):(Jcp l).length<=2*l.length:=by
 induction l with
 | nil=>simp[Jcp]
 | cons p l ih =>
  have:=JmT p.1;unfold Jcp at ih ⊢;rw[List.flatMap_cons,List.length_append,List.length_cons];omega
theorem Jl8(W:World)(a:Nat)(l:List (Nat×Nat))(ha:W.heap.size<=a)(hl:l.length<500000000)(hr:∀p∈l,Jas p.1) :
    Takes W 165 #[.pointer (some ⟨a,0,none⟩)] l fun done w=>JdQ w 167 a (Jcp done) where
 enters:=enters_of Tryz.func165 (by kernel_rfl) rfl
 stays:=fun _ _ _ h hb=>Jgn h hb
 step := fun done p rest e w hI hw=>by
  have hlen:(Jcp done).length<1000000000:=by
   have:=congrArg List.length e;rw[List.length_append]at this;have:=JlX done;omega
  have hp:p.1<=1114111:=by
   have:=hr p (by rw[e];simp);unfold Jas at this;omega
  refine(JmR p.1 hp p.2 a w _ hI hlen).mono ?_;rintro e w' ⟨rfl,h1,h2⟩;refine⟨rfl,?_,hw.trans (h2.mono ha)⟩;unfold Jcp;rw[List.flatMap_append,List.flatMap_cons,List.flatMap_nil,List.append_nil];exact h1
theorem JsT(r:Nat):0<=cH r/\cH r<=2:=by unfold cH;split<;>omega
theorem JsS(r:Nat):0<=cL r/\cL r<=1:=by unfold cL;split<;>omega
theorem JjB(l:List (Nat×Nat)):0<=sum2 l/\sum2 l<=2*l.length:=by
 induction l with
 | nil=>simp[sum2]
 | cons p l ih=>have:=JsT p.1;unfold sum2 at ih ⊢;rw[List.map_cons,List.sum_cons,List.length_cons];omega
theorem JjA(l:List (Nat×Nat)):0<=sum4 l/\sum4 l<=l.length:=by
 induction l with
 | nil=>simp[sum4]
 | cons p l ih=>have:=JsS p.1;unfold sum4 at ih ⊢;rw[List.map_cons,List.sum_cons,List.length_cons];omega
theorem Jmt(l:List (Nat×Nat))(h:∀p∈l,p.2<=4):0<=sum1 l/\sum1 l<=4*l.length:=by
 induction l with
 | nil=>simp[sum1]
 | cons p l ih =>
  have h1:=h p (by simp);have:=ih fun q hq=>h q (by simp[hq]);unfold sum1 at this ⊢;rw[List.map_cons,List.sum_cons,List.length_cons];omega
theorem Jax{n:Int}(h0:0<=n)(h1:n<9223372036854775808):wrap64 n=n:=by unfold wrap64;omega
theorem Jnd(W:World)(a:Nat)(l:List (Nat×Nat))(ha:W.heap.size<=a)(hl:l.length<1000000000)(hr:∀p∈l,p.2<=4) :
    Takes W 136 #[.pointer (some ⟨a,0,none⟩)] l fun done w=>counted w a (sum1 done) (sum2 done) (done.length:Int) (sum4 done) where
 enters:=enters_of Tryz.func136 (by kernel_rfl) rfl
 stays:=fun _ _ _ h hb=>JaB h hb
 step:=fun done p rest e w hI hw=>by
  have hlen:=congrArg List.length e;rw[List.length_append]at hlen;have h1:=Jmt done fun q hq=>hr q (by rw[e];simp[hq]);have h2:=JjB done;have h4:=JjA done;have hp:=hr p (by rw[e];simp);have hp2:=JsT p.1;have hp4:=JsS p.1;refine(Jjq p.1 p.2 a w _ _ _ _ hI).mono ?_;rintro e w' ⟨rfl,k1,k2⟩;refine⟨rfl,?_,hw.trans (k2.mono ha)⟩;rw[Jax (by omega) (by omega),Jax (by omega) (by omega),Jax (by omega) (by omega),Jax (by omega) (by omega)]at k1;have e1:sum1 (done++[p])=sum1 done+p.2:=by simp[sum1]
  have e2:sum2 (done++[p])=sum2 done+cH p.1:=by simp[sum2]
  have e3:(((done++[p]).length:Nat):Int)=done.length+1:=by simp
  have e4:sum4 (done++[p])=sum4 done+cL p.1:=by simp[sum4]
  rw[e1,e2,e3,e4];exact k1
end
section
open Go.RowKit
def JmM (w w':World) (e:Nat) (v:Value) (xs:List Value):Prop:=∃p c,v=.slice p xs.length c/\w'.ownsRow w.heap.size e 1 v xs.length xs
theorem JcJ{w:World}{B B' e size n:Nat}{v:Value}{xs:List Value}(h:w.ownsRow B e size v n xs)(hB:B'<=B):w.ownsRow B' e size v n xs:=by
 refine⟨h.1,?_⟩
 rcases h.2 with hn|⟨g,cap,cur,rfl,hg,rest⟩
 . exact .inl hn
 . exact .inr ⟨g,cap,cur,rfl,Nat.le_trans hB hg,rest⟩
theorem Jr7(s:ByteArray)(hs:s.size<400000000)(w:World)(hT:Lib.Utf8Tabs 2 3 w) :
    Calls Tryz.prog 103 #[.string s] w fun e w'=>∃v x,e=.returned (.tuple #[v,x])/\Below w.heap.size w w' /\
     (((scan s.data.toList).2=true/\x=.nilIface/\JmM w w' 21 v (JaS (scan s.data.toList).1)) \/
      ((scan s.data.toList).2=false/\v=.slice none 0 0/\isAt w w' x (Jf6 s.data.toList))):=by
 have hlen:=Jfq s.data.toList;rw[←Lib.size_eq]at hlen;have hb0:Below w.heap.size w (w.alloc (.cells #[.slice none 0 0] 141)):=(brf _ _).alloc (nlr _) _;have cE:=Jkk s (by unfold maxLen;omega) 168 #[.pointer (some ⟨w.heap.size,0,none⟩)] w hT _ (Jmz w w.heap.size (scan s.data.toList).1 (nlr _) (by omega)) _ hb0 (Jhg w 21 141);clear hlen hs hb0;generalize Jf6 s.data.toList=pl at cE ⊢;generalize scan s.data.toList=sc at cE ⊢;obtain⟨rs,ok⟩:=sc;simp only[]at cE ⊢;generalize JaS rs=xs at cE ⊢
 go_enter Tryz.func103,Tryz.ntmps103
 go_wp2_with (go_at_call 135;refine cE.mono ?_;rintro e w1 ⟨hb1,⟨p,c,g1,g2,g3⟩,⟨rfl,rfl⟩|⟨rfl,v,rfl,⟨b,rfl,v1,v2,v3,v4⟩⟩⟩)
 . go_ret2
   have hr:JmM w w1 21 (.slice p xs.length c) xs:=⟨_,_,rfl,JcJ g3 (Nat.le_succ _)⟩;refine⟨_,_,rfl,hb1,?_⟩
   first | exact⟨rfl,hr⟩ | exact .inl ⟨rfl,rfl,hr⟩
 . go_ret2
   have hv:isAt w w1 (.iface 273 (.pointer (some ⟨b,0,none⟩))) pl:=⟨b,rfl,v1,v2,v3,v4⟩;refine⟨_,_,rfl,hb1,?_⟩
   first | exact⟨rfl,hv⟩ | exact .inr ⟨rfl,rfl,hv⟩
theorem Jp5(s:ByteArray)(hs:s.size<400000000)(w:World)(hT:Lib.Utf8Tabs 2 3 w) :
    Calls Tryz.prog 99 #[.string s] w fun e w'=>∃v x,e=.returned (.tuple #[v,x])/\Below w.heap.size w w' /\
     (((scan s.data.toList).2=true/\x=.nilIface/\JmM w w' 167 v (Jcp (scan s.data.toList).1)) \/
      ((scan s.data.toList).2=false/\v=.slice none 0 0/\isAt w w' x (Jf6 s.data.toList))):=by
 have hlen:=Jfq s.data.toList;rw[←Lib.size_eq]at hlen;have hb0:Below w.heap.size w (w.alloc (.cells #[.slice none 0 0] 144)):=(brf _ _).alloc (nlr _) _;have cE:=Jkk s (by unfold maxLen;omega) 165 #[.pointer (some ⟨w.heap.size,0,none⟩)] w hT _ (Jl8 w w.heap.size (scan s.data.toList).1 (nlr _) (by omega) fun p hp=>((Jes s.data.toList.length _ (nlr _)).1 p hp).1) _ hb0 (Jhg w 167 144);clear hlen hs hb0;generalize Jf6 s.data.toList=pl at cE ⊢;generalize scan s.data.toList=sc at cE ⊢;obtain⟨rs,ok⟩:=sc;simp only[]at cE ⊢;generalize Jcp rs=xs at cE ⊢
 go_enter Tryz.func99,Tryz.ntmps99
 go_wp2_with (go_at_call 135;refine cE.mono ?_;rintro e w1 ⟨hb1,⟨p,c,g1,g2,g3⟩,⟨rfl,rfl⟩|⟨rfl,v,rfl,⟨b,rfl,v1,v2,v3,v4⟩⟩⟩)
 . go_ret2
   have hr:JmM w w1 167 (.slice p xs.length c) xs:=⟨_,_,rfl,JcJ g3 (Nat.le_succ _)⟩;refine⟨_,_,rfl,hb1,?_⟩
   first | exact⟨rfl,hr⟩ | exact .inl ⟨rfl,rfl,hr⟩
 . go_ret2
   have hv:isAt w w1 (.iface 273 (.pointer (some ⟨b,0,none⟩))) pl:=⟨b,rfl,v1,v2,v3,v4⟩;refine⟨_,_,rfl,hb1,?_⟩
   first | exact⟨rfl,hv⟩ | exact .inr ⟨rfl,rfl,hv⟩
theorem JlP(w:World):counted ((w.alloc (.cells #[.int .i64 0,.int .i64 0,.int .i64 0,.int .i64 0] 25)).alloc (.cells #[.int .i64 0,.int .i64 0,.int .i64 0,.int .i64 0] 25)) w.heap.size 0 0 0 0:=by
 refine⟨⟨?_,?_,?_,?_⟩,?_,?_,?_,?_⟩<;>simp[go_sem]
theorem JlO(w:World):counted ((w.alloc (.cells #[.int .i64 0,.int .i64 0,.int .i64 0,.int .i64 0] 25)).alloc (.cells #[.int .i64 0,.int .i64 0,.int .i64 0,.int .i64 0] 25)) (w.heap.size+1) (sum1 []) (sum2 []) (([]:List (Nat×Nat)).length:Int) (sum4 []):=by
 refine⟨⟨?_,?_,?_,?_⟩,?_,?_,?_,?_⟩<;>simp[go_sem,sum1,sum2,sum4]
theorem JlQ(w:World)(l:List (Nat×Nat))(hl:l.length<1000000000)(hr:∀p∈l,p.2<=4) :
    Takes w 136 #[.pointer (some ⟨w.heap.size+1,0,none⟩)] l fun done w'=>counted w' (w.heap.size+1) (sum1 done) (sum2 done) (done.length:Int) (sum4 done)/\counted w' w.heap.size 0 0 0 0:=by
 have T:=Jnd w (w.heap.size+1) l (Nat.le_succ _) hl hr;refine⟨T.enters,fun done w1 w2 h hb=>⟨T.stays done w1 w2 h.1 hb,JaB h.2 hb⟩,fun done p rest e w1 hI hw=>?_⟩;have h1:=Jmt done fun q hq=>hr q (by rw[e];simp[hq]);have hlen:=congrArg List.length e;rw[List.length_append]at hlen;have h2:=JjB done;have h4:=JjA done;have hp:=hr p (by rw[e];simp);have hp2:=JsT p.1;have hp4:=JsS p.1;refine(Jjq p.1 p.2 (w.heap.size+1) w1 _ _ _ _ hI.1).mono ?_;rintro e w2 ⟨rfl,k1,k2⟩;refine⟨rfl,⟨?_,Jb1 hI.2 k2 (Nat.lt_succ_self _)⟩,hw.trans (k2.mono (Nat.le_succ _))⟩;rw[Jax (by omega) (by omega),Jax (by omega) (by omega),Jax (by omega) (by omega),Jax (by omega) (by omega)]at k1;have e1:sum1 (done++[p])=sum1 done+p.2:=by simp[sum1]
 have e2:sum2 (done++[p])=sum2 done+cH p.1:=by simp[sum2]
 have e3:(((done++[p]).length:Nat):Int)=done.length+1:=by simp
 have e4:sum4 (done++[p])=sum4 done+cL p.1:=by simp[sum4]
 rw[e1,e2,e3,e4];exact k1
def cnt (n1 n2 n3 n4:Int):Value:=.agg #[.int .i64 n1,.int .i64 n2,.int .i64 n3,.int .i64 n4]
theorem Je2(s:ByteArray)(hs:s.size<400000000)(w:World)(hT:Lib.Utf8Tabs 2 3 w) :
    Calls Tryz.prog 78 #[.string s] w fun e w'=>∃v x,e=.returned (.tuple #[v,x])/\Below w.heap.size w w' /\
     (((scan s.data.toList).2=true/\x=.nilIface/\v=cnt (sum1 (scan s.data.toList).1) (sum2 (scan s.data.toList).1) (scan s.data.toList).1.length (sum4 (scan s.data.toList).1)) \/
      ((scan s.data.toList).2=false/\v=cnt 0 0 0 0/\isAt w w' x (Jf6 s.data.toList))):=by
 have hlen:=Jfq s.data.toList;rw[←Lib.size_eq]at hlen;have hb0:Below w.heap.size w ((w.alloc (.cells #[.int .i64 0,.int .i64 0,.int .i64 0,.int .i64 0] 25)).alloc (.cells #[.int .i64 0,.int .i64 0,.int .i64 0,.int .i64 0] 25)):=((brf _ _).alloc (nlr _) _).alloc (by rw[wsa];omega) _
 have cE:=Jkk s (by unfold maxLen;omega) 136 #[.pointer (some ⟨w.heap.size+1,0,none⟩)] w hT
  (fun done w'=>counted w' (w.heap.size+1) (sum1 done) (sum2 done) (done.length:Int) (sum4 done)/\counted w' w.heap.size 0 0 0 0)
  (JlQ w (scan s.data.toList).1 (by omega) (Jqf _)) _ hb0 ⟨JlO w,JlP w⟩
 clear hlen hs hb0;generalize Jf6 s.data.toList=pl at cE ⊢;generalize scan s.data.toList=sc at cE ⊢;obtain⟨rs,ok⟩:=sc;simp only[]at cE ⊢;generalize sum1 rs=n1 at cE ⊢;generalize sum2 rs=n2 at cE ⊢;generalize sum4 rs=n4 at cE ⊢;generalize (rs.length:Int)=n3 at cE ⊢
 go_enter Tryz.func78,Tryz.ntmps78
 go_wp2_with (go_at_call 135;refine cE.mono ?_;rintro e w1 ⟨hb1,⟨⟨⟨a0,a1,a2,a3⟩,b0,b1,b2,b3⟩,⟨c0,c1,c2,c3⟩,d0,d1,d2,d3⟩,⟨rfl,rfl⟩|⟨rfl,v,rfl,⟨b,rfl,v1,v2,v3,v4⟩⟩⟩)
 . refine bodyPost_ret (v:=.tuple #[cnt n1 n2 n3 n4,.nilIface]) (by simp[results,Tryz.results78,go_sem,cnt,c0,c1,c2,c3]) rfl ?_
   refine⟨_,_,rfl,?_,?_⟩
   . exact Jgy hb1 (nlr _) _ _ _ _
   . first | exact⟨rfl,rfl⟩ | exact .inl ⟨rfl,rfl,rfl⟩
 . have hne:b≠w.heap.size:=by
     intro e;subst e;rw[c0]at v3
     cases v3
   refine bodyPost_ret (v:=.tuple #[cnt 0 0 0 0,.iface 273 (.pointer (some ⟨b,0,none⟩))]) (by simp[results,Tryz.results78,go_sem,cnt,c0,c1,c2,c3]) rfl ?_;refine⟨_,_,rfl,?_,?_⟩
   . exact Jgy hb1 (nlr _) _ _ _ _
   . have hv:isAt w ((((w1.setCell ⟨w.heap.size,0,none⟩ (.int .i64 0)).setCell ⟨w.heap.size,1,none⟩ (.int .i64 0)).setCell ⟨w.heap.size,2,none⟩ (.int .i64 0)).setCell ⟨w.heap.size,3,none⟩ (.int .i64 0)) (.iface 273 (.pointer (some ⟨b,0,none⟩))) pl :=
       ⟨b,rfl,v1,by simpa using v2,by simp[go_sem,v3],by simp[go_sem,v4]⟩
     first | exact⟨rfl,hv⟩ | exact .inr ⟨rfl,rfl,hv⟩
variable {w : World}{k : IntKind}{v : Value}{zs : List Int}{B : Nat}
def reads (w:World) (k:IntKind) (v:Value) (zs:List Int):Prop :=
 ∃p c,v=.slice p zs.length c/\zs.length<=c/\c<=maxLen/\(zs≠[]->∃b o,p=some ⟨b,o,none⟩/\b<w.heap.size/\∀i,i<zs.length->w.cell? ⟨b,o+i,none⟩=some (.int k (zs.getD i 0)))
theorem JhQ{w':World}(h:reads w k v zs){B:Nat}(hb:Below B w w')(hB:w.heap.size<=B):reads w' k v zs:=by
 obtain⟨p,c,rfl,h1,h2,h3⟩:=h;refine⟨p,c,rfl,h1,h2,fun hne=>?_⟩;obtain⟨b,o,e1,e2,e3⟩:=h3 hne;exact⟨b,o,e1,Nat.lt_of_lt_of_le e2 hb.size,fun i hi=>by rw[hb.cell (p:=⟨b,o+i,none⟩) (Nat.lt_of_lt_of_le e2 hB)];exact e3 i hi⟩
theorem Jlj{e:Nat}{xs:List Value}(hx:xs=zs.map (Value.int k))(h:w.ownsRow B e 1 v zs.length xs):reads w k v zs:=by
 subst hx;obtain⟨h0,hrow⟩:=h
 rcases hrow with ⟨rfl,h2⟩|⟨g,cap,cur,rfl,h2,h3,h4,h5,h6,h7⟩
 . obtain rfl:zs=[]:=List.eq_nil_of_length_eq_zero h2
   exact⟨none,0,rfl,nlr _,Nat.zero_le _,fun h=>absurd rfl h⟩
 . refine ⟨_,cap,rfl,h4,h5,fun _=>⟨g,0,rfl,(alt h3),fun i hi=>?_⟩⟩
   rw[Nat.mul_one]at h7;have hc:cur[i]?=some (.int k (zs.getD i 0)):=by
    rw[←Array.getElem?_toList];have:=congrArg (·[i]?) h7;simp only[List.getElem?_take,hi,if_true,List.getElem?_map]at this;rw[this,lgg hi,List.getD_eq_getElem?_getD,lgg hi];rfl
   rw[Nat.zero_add];show w.cell? ⟨g,i,none⟩=_;unfold World.cell?;simp[h3,hc]
theorem Jfl{n:Nat}{l:List UInt8}(hn:n=l.length)(h:w.ownsRow B 5 1 v n (Lib.byteCells l)):(convert 158 9 v).run Tryz.prog w=.ok (.string ⟨l.toArray⟩) w:=by
 subst hn;obtain⟨h0,hrow⟩:=h
 rcases hrow with ⟨rfl,h2⟩|⟨g,cap,cur,rfl,h2,h3,h4,h5,h6,h7⟩
 . obtain rfl:l=[]:=List.eq_nil_of_length_eq_zero h2
   kernel_rfl
 . refine run_convert_bytes_back w 158 9 5 ⟨g,0,none⟩ cap l Tryz.underlying158 Tryz.underlying5 Tryz.underlying9 fun j hj=>?_
   rw[Nat.mul_one]at h7;have hc:cur[j]?=some (.int .u8 (l[j].toNat:Int)):=by
    rw[←Array.getElem?_toList];have:=congrArg (·[j]?) h7;simp only[List.getElem?_take,hj,if_true,Lib.byteCells,List.getElem?_map]at this;rw[this,lgg hj];rfl
   have ea:(⟨g,0,none⟩:Addr).add j=⟨g,j,none⟩:=by simp[Addr.add]<;>omega
   rw[ea];unfold World.cell?;simp[h3,hc]
def encZ (zs:List Int):List UInt8:=zs.flatMap Lib.encodeRune
theorem Jrb(zs:List Int)(z:Int):encZ (zs++[z])=encZ zs++Lib.encodeRune z:=by simp[encZ]
theorem Joa(zs:List Int):(encZ zs).length<=4*zs.length:=by
 induction zs with
 | nil=>simp[encZ]
 | cons z zs ih =>
  have:=Lib.runeCells_le z;rw[Lib.runeCells_length]at this;unfold encZ at ih ⊢;rw[List.flatMap_cons,List.length_append,List.length_cons];omega
theorem Jjx{w1 wr:World}{v':Value}{o:Obj}{z:Int}(hB:B=w.heap.size)(hw:Below B w wr)(hown:wr.ownsRow B 5 1 v (encZ zs).length (Lib.byteCells (encZ zs)))
    (h1:w1.ownsRow B 5 1 v' ((encZ zs).length+(Lib.runeCells z).length) (Lib.byteCells (encZ zs)++Lib.runeCells z)) (hg:(wr.alloc o).grownBy w1 v.ownBlock) :
    w1.ownsRow B 5 1 v' (encZ (zs++[z])).length (Lib.byteCells (encZ (zs++[z])))/\Below B w w1:=by
 subst hB;rw[Jrb,List.length_append,Lib.byteCells_append,Lib.byteCells_encodeRune,←Lib.runeCells_length];exact⟨h1,(hw.alloc hw.size o).grown hg (by rw[wsa];have:=hw.size;omega) fun k hk=>(hown.lt k hk).1⟩
theorem JpQ(zs:List Int)(k:Nat)(h:k<zs.length):zs.take (k+1)=zs.take k++[zs.getD k 0]:=by
 rw[List.take_succ_eq_append_getElem h,List.getD_eq_getElem?_getD,lgg h];rfl
theorem Jtf(v:Value)(zs:List Int)(w:World)(hz:∀z∈zs,-2147483648<=z/\z<=2147483647)(hr:reads w .i32 v zs)(hl:zs.length<100000000) :
    Calls Tryz.prog 101 #[v] w fun e w'=>∃s x,e=.returned (.tuple #[.string s,x])/\Below w.heap.size w w' /\
     (((∀z∈zs,Lib.validRune z=true)/\x=.nilIface/\s=⟨(encZ zs).toArray⟩) \/
      (∃k:Nat,k<zs.length/\(∀z∈zs.take k,Lib.validRune z=true)/\Lib.validRune (zs.getD k 0)=false/\s=⟨#[]⟩/\isAt w w' x k)):=by
 obtain⟨p,c,rfl,r1,r2,r3⟩:=hr;obtain⟨n,hn⟩:∃n,n=zs.length:=⟨_,rfl⟩;rw[←hn]at r1 r3 hl ⊢;have HN:=hdz hn;clear hn;have R3:=hdz r3;have HZ:=hdz hz;clear r3 hz
 go_enter Tryz.func101,Tryz.ntmps101
 go_wp2
 go_loopw [4,9] (fun b i wr=>∃k:Nat,k<=n/\i=.int .i64 k/\(∀z∈zs.take k,Lib.validRune z=true)/\wr.ownsRow w.heap.size 5 1 b (encZ (zs.take k)).length (Lib.byteCells (encZ (zs.take k)))/\Below w.heap.size w wr) (fun _ i _=>n - (intOf i).toNat)
 case atStart=>exact⟨0,Nat.zero_le _,rfl,by simp,World.ownsRow_nil _ _ _ _,brf _ _⟩
 case round =>
  obtain⟨k,hk,rfl,hval,hown,hwr⟩:=hrel
  by_cases hlt:k<n
  . have hne:zs≠[]:=by intro e;rw[HN.out,e]at hlt;exact absurd hlt (Nat.not_lt_zero _)
    obtain⟨b,o,rfl,hbw,hcell⟩:=R3.out hne;have hc:=(hwr.cell (p:=⟨b,o+k,none⟩) hbw).trans (hcell k hlt);obtain⟨z,hz⟩:∃z,z=zs.getD k 0:=⟨_,rfl⟩;rw[←hz]at hc;have hzr:=HZ.out z (by rw[hz,List.getD_eq_getElem?_getD,lgg (by rw[←HN.out];exact hlt)];exact List.getElem_mem _);have hzk:=hdz hz;have hts:Hid (zs.take (k+1)=zs.take k++[z]):=by rw[hz];exact JpQ zs k (by rw[←HN.out];exact hlt)
    clear hz hcell hne;have cV:=Tryz.utf8_ValidRune z wr;have hlen:=Joa (zs.take k);rw[List.length_take]at hlen;have hlen4:(encZ (zs.take k)).length+4<=140737488355328:=by omega
    have cA:=Tryz.utf8_AppendRune_plain w.heap.size _ _ _ z hzr.1 hzr.2 wr hown hlen4 hwr.size;clear hlen hlen4
    by_cases hv:Lib.validRune z=true
    . rw [hv]at cV
      have hval':Hid (∀y∈zs.take (k+1),Lib.validRune y=true):=by
       show ∀y∈zs.take (k+1),Lib.validRune y=true;rw[hts.out];intro y hy
       rcases List.mem_append.1 hy with hy|hy
       . exact hval y hy
       . rw[List.mem_singleton.1 hy];exact hv
      have NX:Hid (∀w1 v' o,w1.ownsRow w.heap.size 5 1 v' ((encZ (zs.take k)).length+(Lib.runeCells z).length) (Lib.byteCells (encZ (zs.take k))++Lib.runeCells z)->(wr.alloc o).grownBy w1 u4.ownBlock ->
          w1.ownsRow w.heap.size 5 1 v' (encZ (zs.take (k+1))).length (Lib.byteCells (encZ (zs.take (k+1))))/\Below w.heap.size w w1):=by
       intro w1 v' o h1 hg;rw[hts.out];exact Jjx rfl hwr hown h1 hg
      clear hval hown hv hzk hts hzr R3 HZ
      go_wp2_with (first | (go_at_call 162;refine cV.mono ?_;rintro e wx ⟨rfl,rfl⟩) | (go_at_call 164;refine cA.mono ?_;rintro e w1 ⟨v',rfl,h1,o',hg⟩;have hnx:=NX.out w1 v' o' h1 hg;clear h1 hg))
      go_roundw
      case rel=>exact⟨k+1,by omega,by go_num,hval'.out,hnx.1,hnx.2⟩
      case measure=>simp[intOf];omega
    . have hv:Lib.validRune z=false:=Bool.eq_false_iff.2 hv
      rw[hv]at cV;have hfin:=hdz hval;have hbad:Hid (Lib.validRune (zs.getD k 0)=false):=by rw[←hzk.out];exact hv
      clear hval hown hv hzk hts hzr R3 HZ cA
      go_wp2_with (first | (go_at_call 162;refine cV.mono ?_;rintro e wx ⟨rfl,rfl⟩) | (go_at_call 163;refine(JfN _ _).mono ?_;rintro e w1 ⟨⟨x,rfl,hx⟩,hb1⟩))
      go_ret2
      refine⟨_,_,rfl,hwr.trans (hb1.mono hwr.size),.inr ⟨k,hlt,hfin.out,hbad.out,rfl,Jij hx hwr.size⟩⟩
  . have e:zs.take k=zs:=List.take_of_length_le (by rw[←HN.out];omega)
    rw[e]at hval hown;have hval':=hdz hval;have hs:=Jfl rfl hown;clear hval hown e R3 HZ;go_wp2
    go_ret2
    refine⟨_,_,rfl,hwr,.inl ⟨hval'.out,rfl,rfl⟩⟩
end
section
open Go.RowKit
variable {zs : List Int}
theorem or1024(x y:Int)(h0:0<=x)(h1:x<1024)(h2:0<=y)(h3:y<1024):bits BinOp.or IntKind.i32 (x*1024) y=x*1024+y:=by
 obtain⟨a,rfl⟩:∃a:Nat,x=a:=⟨x.toNat,by omega⟩;obtain⟨b,rfl⟩:∃b:Nat,y=b:=⟨y.toNat,by omega⟩;have e:(a:Int)*1024=((a*1024:Nat):Int):=by omega
 rw[e];show IntKind.i32.wrap ((BitVec.ofInt 32 ((a*1024:Nat):Int) ||| BitVec.ofInt 32 (b:Int)).toNat:Int)=_;have hm:a*1024 ||| b=a*1024+b:=by
  have:=Nat.shiftLeft_add_eq_or_of_lt (i:=10) (b:=b) (by omega) a;rw[Nat.shiftLeft_eq]at this;exact this.symm
 rw[BitVec.toNat_or,ofInt_u32 _ (by omega),ofInt_u32 _ (by omega),hm];exact(Lib.wrap_i32_small _ (by omega)).trans (by omega)
def JfB (h:Int):Bool:=decide (55296<=h/\h<56320)
def JeA (h:Int):Bool:=decide (56320<=h/\h<57344)
def Jbz:List Int->Int×Nat
 | []=>(0,1)
 | [a]=>(a,1)
 | a :: b :: _=>if JfB a && JeA b then (65536+((a - 55296)*1024+(b - 56320)),2) else (a,1)
theorem Jgi(zs:List Int):1<=(Jbz zs).2:=by
 unfold Jbz
 split
 . simp
 . simp
 . split<;>simp
theorem Jsm(h:zs≠[]):(Jbz zs).2<=zs.length:=by
 unfold Jbz
 split
 . exact absurd rfl h
 . simp
 . split<;>simp
theorem Jsn(h:∀z∈zs,0<=z/\z<65536):0<=(Jbz zs).1/\(Jbz zs).1<=1114111:=by
 unfold Jbz
 split
 . simp
 . rename_i a
   have:=h a (by simp);simp only[];omega
 . rename_i a b t
   have h1:=h a (by simp);have h2:=h b (by simp)
   split
   . rename_i hc
     rw[Bool.and_eq_true]at hc;have h3:=of_decide_eq_true hc.1;have h4:=of_decide_eq_true hc.2;simp only[];omega
   . simp only[]
     omega
def JfY:Nat->List Int->List (Int×Nat)×Bool
 | 0,_=>([],true)
 | n+1,zs=>if zs=[] then ([],true) else if Lib.validRune (Jbz zs).1 then (Jbz zs :: (JfY n (zs.drop (Jbz zs).2)).1,(JfY n (zs.drop (Jbz zs).2)).2) else ([],false)
theorem JgE:∀(n m:Nat)(l:List Int),l.length<=n->l.length<=m->JfY n l=JfY m l
 | 0,m,l,hn,_=>by
  obtain rfl:l=[]:=List.eq_nil_of_length_eq_zero (by omega)
  cases m<;>simp[JfY]
 | n+1,0,l,_,hm=>by
  obtain rfl:l=[]:=List.eq_nil_of_length_eq_zero (by omega);simp[JfY]
 | n + 1,m+1,l,hn,hm=>by
  unfold JfY
  by_cases h:l=[]
  . simp[h]
  . have h1:=Jgi l
    have h2:l.length≠0:=by simpa using h
    rw[JgE n m (l.drop (Jbz l).2) (by rw[List.length_drop];omega) (by rw[List.length_drop];omega)]
def Jdq (zs:List Int):List (Int×Nat)×Bool:=JfY zs.length zs
theorem JiS(l:List Int)(h:l≠[]):Jdq l=if Lib.validRune (Jbz l).1 then (Jbz l :: (Jdq (l.drop (Jbz l).2)).1,(Jdq (l.drop (Jbz l).2)).2) else ([],false):=by
 have h1:=Jgi l;have h2:l.length≠0:=by simpa using h
 unfold Jdq;rw[JgE l.length ((l.length - 1)+1) l (nlr _) (by omega),JfY,if_neg h,JgE (l.length - 1) (l.drop (Jbz l).2).length _ (by rw[List.length_drop];omega) (nlr _)]
theorem JfX:Jdq []=([],true):=rfl
theorem JkV(h:zs≠[])(hb:Lib.validRune (Jbz zs).1=false):Jdq zs=([],false):=by rw[JiS zs h,hb];rfl
theorem JgD(h:zs≠[])(hb:Lib.validRune (Jbz zs).1=true):Jdq zs=(Jbz zs :: (Jdq (zs.drop (Jbz zs).2)).1,(Jdq (zs.drop (Jbz zs).2)).2):=by
 rw[JiS zs h,hb];rfl
def Jqq (zs:List Int):Nat:=((Jdq zs).1.map (·.2)).sum
theorem Jih(h:Int)(w:World):Calls Tryz.prog 213 #[.int .u16 h] w fun e w'=>e=.returned (.bool (JfB h))/\w'=w:=by
 by_cases h1:55296<=h
 . by_cases h2:h<56320
   . have e:JfB h=true:=decide_eq_true ⟨h1,h2⟩
     rw[e];clear e
     go_enter Tryz.func213,Tryz.ntmps213
     go_wp2;go_ret;exact⟨rfl,rfl⟩
   . have e:JfB h=false:=decide_eq_false fun c=>h2 c.2
     rw[e];clear e
     go_enter Tryz.func213,Tryz.ntmps213
     go_wp2;go_ret;exact⟨rfl,rfl⟩
 . have e:JfB h=false:=decide_eq_false fun c=>h1 c.1
   rw[e];clear e
   go_enter Tryz.func213,Tryz.ntmps213
   go_wp2;go_ret;exact⟨rfl,rfl⟩
theorem Jhc(h:Int)(w:World):Calls Tryz.prog 214 #[.int .u16 h] w fun e w'=>e=.returned (.bool (JeA h))/\w'=w:=by
 by_cases h1:56320<=h
 . by_cases h2:h<57344
   . have e:JeA h=true:=decide_eq_true ⟨h1,h2⟩
     rw[e];clear e
     go_enter Tryz.func214,Tryz.ntmps214
     go_wp2;go_ret;exact⟨rfl,rfl⟩
   . have e:JeA h=false:=decide_eq_false fun c=>h2 c.2
     rw[e];clear e
     go_enter Tryz.func214,Tryz.ntmps214
     go_wp2;go_ret;exact⟨rfl,rfl⟩
 . have e:JeA h=false:=decide_eq_false fun c=>h1 c.1
   rw[e];clear e
   go_enter Tryz.func214,Tryz.ntmps214
   go_wp2;go_ret;exact⟨rfl,rfl⟩
theorem Jsk(b o c:Nat)(h:Int)(w:World)(hc:w.cell? ⟨b,o,none⟩=some (.int .u16 h))(h0:0<=h)(h1:h<65536) :
    Calls Tryz.prog 161 #[.slice (some ⟨b,o,none⟩) 1 c] w fun e w'=>e=.returned (.tuple #[.int .i32 h,.int .i64 1])/\Below w.heap.size w w':=by
 go_enter Tryz.func161,Tryz.ntmps161
 go_wp2
 go_ret2
 exact⟨rfl,brf _ _⟩
theorem Jsj(b o n c:Nat)(h g:Int)(w:World)(hn:2<=n)(hcap:n<=c)(hm:c<=maxLen)(hc:w.cell? ⟨b,o,none⟩=some (.int .u16 h))(hd:w.cell? ⟨b,o+1,none⟩=some (.int .u16 g))(h0:0<=h)(h1:h<65536)(g0:0<=g)(g1:g<65536) :
    Calls Tryz.prog 161 #[.slice (some ⟨b,o,none⟩) n c] w fun e w'=>e=.returned (.tuple #[.int .i32 (Jbz [h,g]).1,.int .i64 (Jbz [h,g]).2])/\Below w.heap.size w w':=by
 unfold maxLen at hm;have hn1:(1:Int)<(n:Int):=by omega
 by_cases hf:JfB h=true
 . have cF:=Jih h
   rw[hf]at cF
   by_cases hs:JeA g=true
   . have cS:=Jhc g
     rw[hs]at cS;have e:Jbz [h,g]=(65536+((h - 55296)*1024+(g - 56320)),2):=by simp[Jbz,hf,hs]
     rw[e];have hf':=of_decide_eq_true hf;have hs':=of_decide_eq_true hs;have ho:=or1024 (h - 55296) (g - 56320) (by omega) (by omega) (by omega) (by omega);clear e hf hs;obtain⟨f1,f2⟩:=hf';obtain⟨s1,s2⟩:=hs'
     go_enter Tryz.func161,Tryz.ntmps161
     go_wp2_with (first | (go_at_call 213;refine(cF _).mono ?_;rintro e wx ⟨rfl,rfl⟩) | (go_at_call 214;refine(cS _).mono ?_;rintro e wx ⟨rfl,rfl⟩))
     go_quiet (fail)
     go_wp2
     go_ret2
     exact⟨rfl,below_drewN (brf _ _) nq⟩
   . have hs:JeA g=false:=Bool.eq_false_iff.2 hs
     have cS:=Jhc g;rw[hs]at cS;have e:Jbz [h,g]=(h,1):=by simp[Jbz,hs]
     rw[e];clear e hf hs
     go_enter Tryz.func161,Tryz.ntmps161
     go_wp2_with (first | (go_at_call 213;refine(cF _).mono ?_;rintro e wx ⟨rfl,rfl⟩) | (go_at_call 214;refine(cS _).mono ?_;rintro e wx ⟨rfl,rfl⟩))
     go_ret2
     exact⟨rfl,brf _ _⟩
 . have hf:JfB h=false:=Bool.eq_false_iff.2 hf
   have cF:=Jih h;rw[hf]at cF;have e:Jbz [h,g]=(h,1):=by simp[Jbz,hf]
   rw[e];clear e hf
   go_enter Tryz.func161,Tryz.ntmps161
   go_wp2_with (go_at_call 213;refine(cF _).mono ?_;rintro e wx ⟨rfl,rfl⟩)
   go_ret2
   exact⟨rfl,brf _ _⟩
theorem Jsl(b o n c k:Nat)(zs:List Int)(w:World)(hn:n=zs.length)(hk:k<n)(hcap:n<=c)(hm:c<=maxLen)(hc:∀i,i<n->w.cell? ⟨b,o+i,none⟩=some (.int .u16 (zs.getD i 0)))(hz:∀z∈zs,0<=z/\z<65536) :
    Calls Tryz.prog 161 #[.slice (some ⟨b,o+k,none⟩) (n - k:Nat) (c - k)] w fun e w'=>e=.returned (.tuple #[.int .i32 (Jbz (zs.drop k)).1,.int .i64 (Jbz (zs.drop k)).2])/\Below w.heap.size w w':=by
 have hk':k<zs.length:=by omega
 have e1:zs.drop k=zs[k] :: zs.drop (k+1):=List.drop_eq_getElem_cons hk';have m1:=hz zs[k] (List.getElem_mem _);have c1:=hc k hk;have d1:zs.getD k 0=zs[k]:=by rw[List.getD_eq_getElem?_getD,lgg hk'];rfl
 rw[d1]at c1
 by_cases h1:n - k=1
 . have e2:zs.drop (k+1)=[]:=List.drop_eq_nil_of_le (by omega)
   rw[e1,e2,h1];exact Jsk b (o+k) (c - k) _ w c1 m1.1 m1.2
 . have hk2:k+1<zs.length:=by omega
   have e2:zs.drop (k+1)=zs[k+1] :: zs.drop (k+1+1):=List.drop_eq_getElem_cons hk2;have m2:=hz zs[k+1] (List.getElem_mem _);have c2:=hc (k+1) (by omega);have d2:zs.getD (k+1) 0=zs[k+1]:=by rw[List.getD_eq_getElem?_getD,lgg hk2];rfl
   rw[d2]at c2;have e3:Jbz (zs.drop k)=Jbz [zs[k],zs[k+1]]:=by rw[e1,e2];rfl
   rw[e3];exact Jsj b (o+k) (n - k) (c - k) _ _ w (by omega) (by omega) (by omega) c1 c2 m1.1 m1.2 m2.1 m2.2
theorem JfC(v:Value)(zs:List Int)(w:World)(hz:∀z∈zs,0<=z/\z<65536)(hr:reads w .u16 v zs)(hl:zs.length<100000000) :
    Calls Tryz.prog 97 #[v] w fun e w'=>∃s x,e=.returned (.tuple #[.string s,x])/\Below w.heap.size w w' /\
     (((Jdq zs).2=true/\x=.nilIface/\s=⟨(encZ ((Jdq zs).1.map (·.1))).toArray⟩) \/
      ((Jdq zs).2=false/\s=⟨#[]⟩/\isAt w w' x (Jqq zs))):=by
 obtain⟨p,c,rfl,r1,r2,r3⟩:=hr;obtain⟨n,hn⟩:∃n,n=zs.length:=⟨_,rfl⟩;rw[←hn]at r1 r3 hl ⊢;have HN:=hdz hn;clear hn;have R3:=hdz r3;have HZ:=hdz hz;clear r3 hz
 go_enter Tryz.func97,Tryz.ntmps97
 go_wp2
 go_loopw [4,5] (fun b i wr=>∃(k:Nat) (done:List (Int×Nat)),k<=n/\i=.int .i64 k/\(Jdq zs).1=done++(Jdq (zs.drop k)).1/\(done.map (·.2)).sum=k/\(Jdq zs).2=(Jdq (zs.drop k)).2/\done.length<=k /\
     wr.ownsRow w.heap.size 5 1 b (encZ (done.map (·.1))).length (Lib.byteCells (encZ (done.map (·.1))))/\Below w.heap.size w wr) (fun _ i _=>n - (intOf i).toNat)
 case atStart=>exact⟨0,[],Nat.zero_le _,rfl,by rw[List.drop_zero];rfl,rfl,by rw[List.drop_zero],nlr _,World.ownsRow_nil _ _ _ _,brf _ _⟩
 case round =>
  obtain⟨k,done,hk,rfl,hd1,hd2,hd3,hdl,hown,hwr⟩:=hrel
  by_cases hlt:k<n
  . have hne:zs≠[]:=by intro e;rw[HN.out,e]at hlt;exact absurd hlt (Nat.not_lt_zero _)
    have hne2:zs.drop k≠[]:=by
     intro e;have:=congrArg List.length e;rw[List.length_drop,List.length_nil,←HN.out]at this;omega
    obtain⟨b,o,rfl,hbw,hcell⟩:=R3.out hne;have cL:=Jsl b o n c k zs wr HN.out hlt r1 r2 (fun i hi=>(hwr.cell (p:=⟨b,o+i,none⟩) hbw).trans (hcell i hi)) HZ.out;have hge:=Jgi (zs.drop k);have hle:=Jsm hne2;rw[List.length_drop,←HN.out]at hle;have hzb: -2147483648<=(Jbz (zs.drop k)).1/\(Jbz (zs.drop k)).1<=2147483647:=by
     have:=Jsn (zs:=zs.drop k) fun z hz=>HZ.out z (List.mem_of_mem_drop hz);omega
    obtain⟨z,hzz⟩:∃z,z=(Jbz (zs.drop k)).1:=⟨_,rfl⟩;obtain⟨m,hmm⟩:∃m,m=(Jbz (zs.drop k)).2:=⟨_,rfl⟩;have hp:Jbz (zs.drop k)=(z,m):=by rw[hzz,hmm]
    have cV:=Tryz.utf8_ValidRune z;have hlen:=Joa (done.map (·.1));rw[List.length_map]at hlen;have hlen4:(encZ (done.map (·.1))).length+4<=140737488355328:=by omega
    rw[←hzz]at hzb;have cA:=fun (wx:World) (hx:Below wr.heap.size wr wx)=>Tryz.utf8_AppendRune_plain w.heap.size _ _ _ z hzb.1 hzb.2 wx (JaR hown hx) hlen4 (Nat.le_trans hwr.size hx.size);rw[hp]at cL hge hle;simp only[]at hge hle;clear hlen hlen4 hzb
    by_cases hv:Lib.validRune z=true
    . have hs2:=JgD hne2 (by rw[hp];exact hv)
      rw[hp]at hs2;rw[hv]at cV;have hnext:Hid ((Jdq zs).1=done++[(z,m)]++(Jdq (zs.drop (k+m))).1):=by
       show _=_;rw[hd1,hs2,List.append_assoc];simp only[List.drop_drop];rfl
      have hnext2:Hid (((done++[(z,m)]).map (·.2)).sum=k+m):=by
       show _=_;rw[List.map_append,List.sum_append,hd2];rfl
      have hnext3:Hid ((Jdq zs).2=(Jdq (zs.drop (k+m))).2):=by
       show _=_;rw[hd3,hs2];simp only[List.drop_drop]
      have hnext4:Hid ((done++[(z,m)]).length<=k+m):=by
       show _<=_;rw[List.length_append];simp;omega
      have NX:Hid (∀wx w1 v' o,Below wr.heap.size wr wx->w1.ownsRow w.heap.size 5 1 v' ((encZ (done.map (·.1))).length+(Lib.runeCells z).length) (Lib.byteCells (encZ (done.map (·.1)))++Lib.runeCells z)->(wx.alloc o).grownBy w1 u4.ownBlock ->
          w1.ownsRow w.heap.size 5 1 v' (encZ ((done++[(z,m)]).map (·.1))).length (Lib.byteCells (encZ ((done++[(z,m)]).map (·.1))))/\Below w.heap.size w w1):=by
       intro wx w1 v' o hx h1 hg;rw[List.map_append];exact Jjx rfl (hwr.trans (hx.mono hwr.size)) (JaR hown hx) h1 hg
      clear hd1 hd2 hd3 hdl hs2 hown hv hzz hmm hp R3 HZ hcell hne hne2
      go_wp2_with (first | (go_at_call 161;refine cL.mono ?_;rintro e w0 ⟨rfl,hb0⟩) | (go_at_call 162;refine(cV _).mono ?_;rintro e wx ⟨rfl,rfl⟩) | (go_at_call 164;refine(cA _ hb0).mono ?_;rintro e w1 ⟨v',rfl,h1,o',hg⟩;have hnx:=NX.out _ w1 v' o' hb0 h1 hg;clear h1 hg))
      go_roundw
      case rel=>exact⟨k+m,_,by omega,by go_num,hnext.out,hnext2.out,hnext3.out,hnext4.out,hnx.1,hnx.2⟩
      case measure=>simp[intOf];omega
    . have hv:Lib.validRune z=false:=Bool.eq_false_iff.2 hv
      have hs2:=JkV hne2 (by rw[hp];exact hv);rw[hv]at cV;have hpl:Hid (Jqq zs=k):=by
       show _=_;unfold Jqq;rw[hd1,hs2,List.append_nil,hd2]
      have hf:Hid ((Jdq zs).2=false):=by show _=_;rw[hd3,hs2]
      clear hd1 hd2 hd3 hdl hs2 hown hv hzz hmm hp R3 HZ hcell hne hne2 cA
      go_wp2_with (first | (go_at_call 161;refine cL.mono ?_;rintro e w0 ⟨rfl,hb0⟩) | (go_at_call 162;refine(cV _).mono ?_;rintro e wx ⟨rfl,rfl⟩) | (go_at_call 163;refine(JfN _ _).mono ?_;rintro e w1 ⟨⟨x,rfl,hx⟩,hb1⟩))
      go_ret2
      have hb01:Below wr.heap.size wr w1:=hb0.trans (hb1.mono hb0.size);refine⟨_,_,rfl,hwr.trans (hb01.mono hwr.size),.inr ⟨hf.out,rfl,?_⟩⟩;rw[hpl.out];exact Jij hx (Nat.le_trans hwr.size hb0.size)
  . have e:zs.drop k=[]:=List.drop_eq_nil_of_le (by rw[←HN.out];omega)
    rw[e,JfX]at hd1 hd3;rw[List.append_nil]at hd1;rw[←hd1]at hown;have hs:=Jfl rfl hown;have hf:=hdz hd3;clear hown e R3 HZ hd1 hd3;go_wp2
    go_ret2
    refine⟨_,_,rfl,hwr,.inl ⟨hf.out,rfl,rfl⟩⟩
end
section
variable {r : Nat}{rs : List Nat}
def toI (l:List Nat):List Int:=l.map fun n:Nat=>(n:Int)
theorem Jfj(a b:List Nat):toI (a++b)=toI a++toI b:=by simp[toI]
theorem Jcq(h:Jas r):Lib.validRune (r:Int)=true:=by
 unfold Jas at h;unfold Lib.validRune;apply decide_eq_true;omega
theorem JjJ{z:Int}(h:Lib.validRune z=true):∃r:Nat,z=r/\Jas r:=by
 have:=of_decide_eq_true h;exact⟨z.toNat,by omega,by unfold Jas;omega⟩
theorem JpB(h:∀r∈rs,Jas r):∀z∈toI rs,Lib.validRune z=true:=by
 intro z hz;obtain⟨r,hr,rfl⟩:=List.mem_map.1 hz;exact Jcq (h r hr)
theorem JnZ(rs:List Nat):encZ (toI rs)=encs rs:=by
 induction rs with
 | nil=>rfl
 | cons r rs ih =>
  show Lib.encodeRune (r:Int)++encZ (toI rs)=enc r++encs rs;rw[ih];rfl
theorem Jkc(h:Jas r)(t:List Int):Jbz (toI (hal r)++t)=((r:Int),(hal r).length):=by
 unfold Jas at h
 by_cases h1:r<65536
 . have e:hal r=[r]:=by simp[hal,h1]
   rw[e];have hf:JfB (r:Int)=false:=decide_eq_false (by omega)
   cases t with
   | nil=>rfl
   | cons b t=>simp[toI,Jbz,hf]
 . have e:hal r=[55296+(r - 65536) / 1024,56320+(r - 65536) % 1024]:=by simp[hal,h1]
   rw[e];have hf:JfB ((55296+(r - 65536) / 1024:Nat):Int)=true:=decide_eq_true (by omega);have hs:JeA ((56320+(r - 65536) % 1024:Nat):Int)=true:=decide_eq_true (by omega);show Jbz (((55296+(r - 65536) / 1024:Nat):Int) :: ((56320+(r - 65536) % 1024:Nat):Int) :: t)=_;simp only[Jbz,hf,hs,Bool.and_self,if_true];refine Prod.ext ?_ rfl;show(65536+((((55296+(r - 65536) / 1024:Nat):Int) - 55296)*1024+(((56320+(r - 65536) % 1024:Nat):Int) - 56320)):Int)=(r:Int);omega
theorem JqL(r:Nat):hal r≠[]:=by unfold hal;split<;>simp
theorem Jgm(r:Nat)(rs:List Nat):hals (r :: rs)=hal r++hals rs:=rfl
theorem JiT:∀(rs:List Nat),(∀r∈rs,Jas r)->Jdq (toI (hals rs))=(rs.map fun r:Nat=>((r:Int),(hal r).length),true)
 | [],_=>JfX
 | r :: rs,h=>by
  have hr:=h r (by simp);have h1:=Jkc hr (toI (hals rs));have e:toI (hals (r :: rs))=toI (hal r)++toI (hals rs):=by rw[Jgm,Jfj]
  have hne:toI (hals (r :: rs))≠[]:=by
   rw[e];intro c;have:=congrArg List.length c;rw[List.length_append]at this;have h0:(hal r).length≠0:=by simpa using JqL r
   simp[toI]at this;exact JqL r this.1
  rw[←e]at h1;rw[JgD hne (by rw[h1];exact Jcq hr),h1,e];have ed:(toI (hal r)++toI (hals rs)).drop (hal r).length=toI (hals rs):=List.drop_left' (by simp[toI]);simp only[ed];rw[JiT rs (fun x hx=>h x (by simp[hx]))];rfl
theorem JoO(n:Nat):∀(zs:List Int),zs.length<=n->(∀z∈zs,0<=z/\z<65536)->(Jdq zs).2=true ->
    ∃rs:List Nat,(Jdq zs).1.map (·.1)=toI rs/\(∀r∈rs,Jas r)/\zs=toI (hals rs):=by
 induction n with
 | zero =>
  intro zs hl _ _;obtain rfl:zs=[]:=by cases zs<;>simp_all
  rw[JfX];exact⟨[],rfl,by simp,rfl⟩
 | succ n ih =>
  intro zs hl hb hg
  by_cases h:zs=[]
  . subst h;rw[JfX];exact⟨[],rfl,by simp,rfl⟩
  by_cases hv:Lib.validRune (Jbz zs).1=true
  . rw [JgD h hv]at hg ⊢
    have w1:=Jgi zs;obtain⟨rs,i1,i2,i3⟩:=ih (zs.drop (Jbz zs).2) (by rw[List.length_drop];omega) (fun z hz=>hb z (List.mem_of_mem_drop hz)) hg;obtain⟨r,e1,e2⟩:=JjJ hv
    have key:zs.take (Jbz zs).2=toI (hal r):=by
     match zs,h with
     | [a],_ =>
      have ha:=hb a (by simp);simp only[Jbz]at e1 ⊢;subst e1;have:(r:Nat)<65536:=by omega
      simp[hal,this,toI]
     | a :: b :: t,_ =>
      have ha:=hb a (by simp);have hb':=hb b (by simp)
      by_cases c:(JfB a && JeA b)=true
      . have el:Jbz (a :: b :: t)=(65536+((a - 55296)*1024+(b - 56320)),2):=by simp only[Jbz,c,if_true]
        rw[el]at e1 ⊢;rw[Bool.and_eq_true]at c;have c1:=of_decide_eq_true c.1;have c2:=of_decide_eq_true c.2;simp only[]at e1;have hr:¬r<65536:=by omega
        simp only[List.take_succ_cons,List.take_zero,hal,if_neg hr,toI,List.map_cons,List.map_nil];rw[show((55296+(r - 65536) / 1024:Nat):Int)=a by omega,show((56320+(r - 65536) % 1024:Nat):Int)=b by omega]
      . have el:Jbz (a :: b :: t)=(a,1):=by simp only[Jbz,c];rfl
        rw[el]at e1 ⊢;simp only[]at e1;subst e1;have:(r:Nat)<65536:=by omega
        simp[hal,this,toI]
    refine⟨r :: rs,?_,?_,?_⟩
    . rw[List.map_cons,i1,e1];rfl
    . intro x hx
      rcases List.mem_cons.1 hx with rfl|hx
      . exact e2
      . exact i2 x hx
    . rw[Jgm,Jfj,←key,←i3]
      exact(List.take_append_drop _ _).symm
  . rw[JkV h (Bool.eq_false_iff.2 hv)]at hg
    cases hg
theorem Jsw(rs:List Nat):(hals rs).length<=2*rs.length/\rs.length<=(hals rs).length:=by
 induction rs with
 | nil=>simp[hals]
 | cons r rs ih =>
  have h0:(hal r).length≠0:=by simpa using JqL r
  have h1:(hal r).length<=2:=by unfold hal;split<;>simp
  rw[Jgm,List.length_append,List.length_cons];omega
theorem Jpr(l:List UInt8):JaS (scan l).1=(toI (Jam l)).map (Value.int .i32):=by
 unfold JaS Jam toI;rw[List.map_map,List.map_map];rfl
theorem Jpq(l:List UInt8):Jcp (scan l).1=(toI (hals (Jam l))).map (Value.int .u16):=by
 unfold Jcp Jam hals toI;generalize (scan l).1=ps
 induction ps with
 | nil=>rfl
 | cons p ps ih =>
  rw[List.flatMap_cons,ih,List.map_cons,List.flatMap_cons,List.map_append,List.map_append]
  congr 1
  unfold Jbj;rw[List.map_map];rfl
theorem toI_bd(h:∀r∈rs,Jas r):∀z∈toI rs,-2147483648<=z/\z<=2147483647:=by
 intro z hz;obtain⟨r,hr,rfl⟩:=List.mem_map.1 hz;have:=h r hr;unfold Jas at this;omega
theorem JqJ(h:∀r∈rs,Jas r):∀z∈toI (hals rs),0<=z/\z<65536:=by
 intro z hz;obtain⟨n,hn,rfl⟩:=List.mem_map.1 hz;obtain⟨r,hr,hn⟩:=List.mem_flatMap.1 hn;have:=h r hr;unfold Jas at this;unfold hal at hn
 split at hn
 . simp at hn;omega
 . simp at hn;omega
end
section
open Go.RowKit
def inB (n lo hi:Int):Bool:=decide (lo<=n/\n<=hi)
theorem JfA(n lo hi:Int)(w:World):Calls Tryz.prog 85 #[.int .i64 n,.int .i64 lo,.int .i64 hi] w fun e w'=>e=.returned (.bool (inB n lo hi))/\w'=w:=by
 by_cases h1:lo<=n
 . by_cases h2:n<=hi
   . have e:inB n lo hi=true:=decide_eq_true ⟨h1,h2⟩
     rw[e];clear e
     go_enter Tryz.func85,Tryz.ntmps85
     go_wp2;go_ret;exact⟨rfl,rfl⟩
   . have e:inB n lo hi=false:=decide_eq_false fun c=>h2 c.2
     rw[e];clear e
     go_enter Tryz.func85,Tryz.ntmps85
     go_wp2;go_ret;exact⟨rfl,rfl⟩
 . have e:inB n lo hi=false:=decide_eq_false fun c=>h1 c.1
   rw[e];clear e
   go_enter Tryz.func85,Tryz.ntmps85
   go_wp2;go_ret;exact⟨rfl,rfl⟩
theorem Jh3(r:Int)(h0: -2147483648<=r)(h1:r<=2147483647)(w:World):Calls Tryz.prog 202 #[.int .i32 r] w fun e w'=>e=.returned (.bool (Lib.validRune r))/\w'=w:=by
 have c1:=JfA r 0 55295;have c2:=JfA r 57344 1114111
 by_cases g1:inB r 0 55295=true
 . have e:Lib.validRune r=true:=by
     have:=of_decide_eq_true g1;unfold Lib.validRune;apply decide_eq_true;omega
   rw[g1]at c1;rw[e];clear e g1
   go_enter Tryz.func202,Tryz.ntmps202
   go_wp2_with (go_at_call_of 85 (55295:Int);refine(c1 _).mono ?_;rintro e wx ⟨rfl,rfl⟩)
   go_ret;exact⟨rfl,rfl⟩
 . have g1:inB r 0 55295=false:=Bool.eq_false_iff.2 g1
   have e:inB r 57344 1114111=Lib.validRune r:=by
    have:=of_decide_eq_false g1;unfold Lib.validRune inB;apply decide_eq_decide.2;omega
   rw[e]at c2;rw[g1]at c1;generalize Lib.validRune r=b at c2 ⊢;clear e g1
   cases b
   . go_enter Tryz.func202,Tryz.ntmps202
     go_wp2_with (first | (go_at_call_of 85 (55295:Int);refine(c1 _).mono ?_;rintro e wx ⟨rfl,rfl⟩) | (go_at_call_of 85 (1114111:Int);refine(c2 _).mono ?_;rintro e wx ⟨rfl,rfl⟩))
     go_ret;exact⟨rfl,rfl⟩
   . go_enter Tryz.func202,Tryz.ntmps202
     go_wp2_with (first | (go_at_call_of 85 (55295:Int);refine(c1 _).mono ?_;rintro e wx ⟨rfl,rfl⟩) | (go_at_call_of 85 (1114111:Int);refine(c2 _).mono ?_;rintro e wx ⟨rfl,rfl⟩))
     go_ret;exact⟨rfl,rfl⟩
theorem Jfm(w:World)(l:List UInt8)(xs:List Int)(hx:xs=l.map fun b=>(b.toNat:Int)) :
    (convert 158 9 (.slice (some ⟨w.heap.size,0,none⟩) l.length l.length)).run Tryz.prog (w.alloc (.cells (xs.map (Value.int .u8)).toArray 5))=.ok (.string ⟨l.toArray⟩) (w.alloc (.cells (xs.map (Value.int .u8)).toArray 5)):=by
 subst hx;refine run_convert_bytes_back _ 158 9 5 ⟨w.heap.size,0,none⟩ l.length l Tryz.underlying158 Tryz.underlying5 Tryz.underlying9 fun j hj=>?_;have ea:(⟨w.heap.size,0,none⟩:Addr).add j=⟨w.heap.size,j,none⟩:=by simp[Addr.add]<;>omega
 rw[ea];have:=World.cell?_alloc_mark w ((l.map fun b=>Value.int .u8 (b.toNat:Int)).toArray) 5 (0,0) j;rw[List.map_map];refine Eq.trans this ?_;rw[List.getElem?_toArray,List.getElem?_map,lgg hj];rfl
theorem Jfh(r:Nat)(hr:Jas r)(w:World):Calls Tryz.prog 203 #[.int .i32 r] w fun e w'=>e=.returned (.string ⟨(enc r).toArray⟩)/\Below w.heap.size w w':=by
 unfold Jas at hr
 by_cases h1:r<=127
 . have hc:=Jfm w (enc r) [(r:Int)] (by rw[enc1 h1];simp only[List.map_cons,List.map_nil,toU8 (show r<256 by omega)])
   have hl:(enc r).length=1:=by rw[enc1 h1];rfl
   rw[hl]at hc;simp only[List.map_cons,List.map_nil]at hc;generalize enc r=l at hc ⊢;have k1:(r:Int)<128:=by omega
   have k2:(0:Int)<=(r:Int):=by omega
   clear hl hr h1;generalize (r:Int)=R at hc k1 k2 ⊢
   go_enter Tryz.func203,Tryz.ntmps203
   go_wp2;go_ret;exact⟨rfl,(brf _ _).alloc (nlr _) _⟩
 by_cases h2:r<=2047
 . have hc:=Jfm w (enc r) [192+(r:Int) / 64,128+(r:Int) % 64] (by
     rw[enc2 (by omega) h2];simp only[List.map_cons,List.map_nil,toU8 (show 192+r / 64<256 by omega),toU8 (show 128+r % 64<256 by omega)]
     rw[show((192+r / 64:Nat):Int)=192+(r:Int) / 64 by omega,show((128+r % 64:Nat):Int)=128+(r:Int) % 64 by omega])
   have hl:(enc r).length=2:=by rw[enc2 (by omega) h2];rfl
   rw[hl]at hc;simp only[List.map_cons,List.map_nil]at hc;generalize enc r=l at hc ⊢;have k1:¬(r:Int)<128:=by omega
   have k2:(r:Int)<2048:=by omega
   have k3:(0:Int)<=(r:Int):=by omega
   clear hl hr h1 h2;generalize (r:Int)=R at hc k1 k2 k3 ⊢
   go_enter Tryz.func203,Tryz.ntmps203
   go_wp2;go_ret;exact⟨rfl,(brf _ _).alloc (nlr _) _⟩
 by_cases h3:r<=65535
 . have hc:=Jfm w (enc r) [224+(r:Int) / 4096,128+(r:Int) / 64 % 64,128+(r:Int) % 64] (by
     rw[enc3 (by omega)];simp only[List.map_cons,List.map_nil,toU8 (show 224+r / 4096<256 by omega),toU8 (show 128+r / 64 % 64<256 by omega),toU8 (show 128+r % 64<256 by omega)]
     rw[show((224+r / 4096:Nat):Int)=224+(r:Int) / 4096 by omega,show((128+r / 64 % 64:Nat):Int)=128+(r:Int) / 64 % 64 by omega,show((128+r % 64:Nat):Int)=128+(r:Int) % 64 by omega])
   have hl:(enc r).length=3:=by rw[enc3 (by omega)];rfl
   rw[hl]at hc;simp only[List.map_cons,List.map_nil]at hc;generalize enc r=l at hc ⊢;have k1:¬(r:Int)<128:=by omega
   have k2:¬(r:Int)<2048:=by omega
   have k3:(r:Int)<65536:=by omega
   have k4:(0:Int)<=(r:Int):=by omega
   clear hl hr h1 h2 h3;generalize (r:Int)=R at hc k1 k2 k3 k4 ⊢
   go_enter Tryz.func203,Tryz.ntmps203
   go_wp2;go_ret;exact⟨rfl,(brf _ _).alloc (nlr _) _⟩
 . have hc:=Jfm w (enc r) [240+(r:Int) / 262144,128+(r:Int) / 4096 % 64,128+(r:Int) / 64 % 64,128+(r:Int) % 64] (by
     rw[enc4 (by omega) (by omega)];simp only[List.map_cons,List.map_nil,toU8 (show 240+r / 262144<256 by omega),toU8 (show 128+r / 4096 % 64<256 by omega),toU8 (show 128+r / 64 % 64<256 by omega),toU8 (show 128+r % 64<256 by omega)]
     rw[show((240+r / 262144:Nat):Int)=240+(r:Int) / 262144 by omega,show((128+r / 4096 % 64:Nat):Int)=128+(r:Int) / 4096 % 64 by omega,show((128+r / 64 % 64:Nat):Int)=128+(r:Int) / 64 % 64 by omega,show((128+r % 64:Nat):Int)=128+(r:Int) % 64 by omega])
   have hl:(enc r).length=4:=by rw[enc4 (by omega) (by omega)];rfl
   rw[hl]at hc;simp only[List.map_cons,List.map_nil]at hc;generalize enc r=l at hc ⊢;have k1:¬(r:Int)<128:=by omega
   have k2:¬(r:Int)<2048:=by omega
   have k3:¬(r:Int)<65536:=by omega
   have k4:(r:Int)<=1114111:=by omega
   have k5:(0:Int)<=(r:Int):=by omega
   clear hl hr h1 h2 h3;generalize (r:Int)=R at hc k1 k2 k3 k4 k5 ⊢
   go_enter Tryz.func203,Tryz.ntmps203
   go_wp2;go_ret;exact⟨rfl,(brf _ _).alloc (nlr _) _⟩
def JmY (e p:Int):Value:=.agg #[.int .i64 e,.int .i64 p]
theorem Jol(n:Int)(w:World):Calls Tryz.prog 89 #[.int .i64 n] w fun e w'=>e=.returned (.agg #[.int .i64 n,.int .i64 (-1)])/\Below w.heap.size w w':=by
 go_enter Tryz.func89,Tryz.ntmps89
 go_wp2;refine bodyPost_ret (v:=.agg #[.int .i64 n,.int .i64 (-1)]) (by simp[results,Tryz.results89,go_sem]) rfl ⟨rfl,?_⟩;exact(brf _ _).alloc (nlr _) _
theorem Jd5(a b:List UInt8):(⟨a.toArray⟩:ByteArray)++(⟨b.toArray⟩:ByteArray)=⟨(a++b).toArray⟩:=by
 apply ByteArray.ext;simp
end
section
variable {l : List UInt8}{n : Nat}
def val1 (b0:Nat):Nat:=b0
def val2 (b0 b1:Nat):Nat:=b0 % 32*64+b1 % 64
def val3 (b0 b1 b2:Nat):Nat:=b0 % 16*4096+b1 % 64*64+b2 % 64
def val4 (b0 b1 b2 b3:Nat):Nat:=b0 % 8*262144+b1 % 64*4096+b2 % 64*64+b3 % 64
def JaN (l:List UInt8) (i:Nat):Nat:=(l.getD i 0).toNat
theorem JbN(l:List UInt8)(i:Nat):JaN l i<256:=(l.getD i 0).toNat_lt
def valN (l:List UInt8) (n:Nat):Nat :=
 if n=1 then val1 (JaN l 0) else if n=2 then val2 (JaN l 0) (JaN l 1) else if n=3 then val3 (JaN l 0) (JaN l 1) (JaN l 2) else val4 (JaN l 0) (JaN l 1) (JaN l 2) (JaN l 3)
def fits (l:List UInt8) (n:Nat):Prop:=Jas (valN l n)/\enc (valN l n)=l.take n
theorem valN_lt(l:List UInt8)(n:Nat):valN l n<2097152:=by
 have h0:=JbN l 0;have h1:=JbN l 1;have h2:=JbN l 2;have h3:=JbN l 3;unfold valN val1 val2 val3 val4
 split
 . omega
 split
 . omega
 split
 . omega
 . omega
theorem Jnb(hn:n<=l.length)(h:fits l n):dec l=(valN l n,n)/\badB (dec l)=false:=by
 obtain⟨h1,h2⟩:=h;have e:l=enc (valN l n)++l.drop n:=by rw[h2];exact(List.take_append_drop n l).symm
 have hl:(enc (valN l n)).length=n:=by rw[h2,List.length_take];omega
 have hd:=JgN h1 (l.drop n);rw[←e,hl]at hd;exact hd
theorem enc_val{r:Nat}(hr:Jas r)(t:List UInt8):valN (enc r++t) (enc r).length=r:=by
 unfold Jas at hr
 by_cases h1:r<=127
 . rw[enc1 h1]
   show JaN (r.toUInt8 :: t) 0=r;unfold JaN;rw[List.getD_cons_zero,toU8 (show r<256 by omega)]
 by_cases h2:r<=2047
 . rw[enc2 (by omega) h2]
   show val2 ((192+r / 64).toUInt8.toNat) ((128+r % 64).toUInt8.toNat)=r;rw[toU8 (show 192+r / 64<256 by omega),toU8 (show 128+r % 64<256 by omega)];unfold val2;omega
 by_cases h3:r<=65535
 . rw[enc3 (by omega)]
   show val3 ((224+r / 4096).toUInt8.toNat) ((128+r / 64 % 64).toUInt8.toNat) ((128+r % 64).toUInt8.toNat)=r;rw[toU8 (show 224+r / 4096<256 by omega),toU8 (show 128+r / 64 % 64<256 by omega),toU8 (show 128+r % 64<256 by omega)];unfold val3;omega
 . rw[enc4 (by omega) (by omega)]
   show val4 ((240+r / 262144).toUInt8.toNat) ((128+r / 4096 % 64).toUInt8.toNat) ((128+r / 64 % 64).toUInt8.toNat) ((128+r % 64).toUInt8.toNat)=r;rw[toU8 (show 240+r / 262144<256 by omega),toU8 (show 128+r / 4096 % 64<256 by omega),toU8 (show 128+r / 64 % 64<256 by omega),toU8 (show 128+r % 64<256 by omega)];unfold val4;omega
theorem JmX(hne:l≠[])(hb:badB (dec l)=false):fits l (dec l).2/\valN l (dec l).2=(dec l).1:=by
 obtain⟨h1,h2⟩:=Joc hne hb;have hw:=Jjp hne;have hl:(enc (dec l).1).length=(dec l).2:=by rw[←h2,List.length_take];omega
 have e:l=enc (dec l).1++l.drop (dec l).2:=by rw[←h2];exact(List.take_append_drop _ l).symm
 have hv:valN l (dec l).2=(dec l).1:=by
  have:=enc_val h1 (l.drop (dec l).2);rw[←e,hl]at this;exact this
 exact⟨⟨by rw[hv];exact h1,by rw[hv];exact h2.symm⟩,hv⟩
def JdS (l:List UInt8):Nat×Nat:=if l=[] then (0,0) else if badB (dec l) then (0,0) else dec l
theorem JlD(h0:1<=n)(hn:n<=l.length)(h:fits l n):JdS l=(valN l n,n):=by
 obtain⟨h1,h2⟩:=Jnb hn h;have hne:l≠[]:=by rintro rfl;simp at hn;omega
 unfold JdS;rw[if_neg hne,h2,h1];simp
theorem JlC(h:∀n,1<=n->n<=4->n<=l.length->¬fits l n):JdS l=(0,0):=by
 unfold JdS
 by_cases hne:l=[]
 . rw[if_pos hne]
 rw[if_neg hne]
 by_cases hb:badB (dec l)=true
 . rw[if_pos hb]
 . have hb:badB (dec l)=false:=Bool.eq_false_iff.2 hb
   exact absurd (JmX hne hb).1 (h _ (Jfe l) (Jnc l) (Jjp hne))
end
section
open Go.RowKit
theorem JbR(s:ByteArray)(i:Nat)(h:i<s.size):(s[i]'h).toNat=JaN s.data.toList i:=by
 have e:s[i]'h=s.get! i:=by
  show s.data[i]=s.data[i]!;exact(getElem!_pos s.data i h).symm
 rw[e,get!_getD];rfl
theorem JoT(s:ByteArray)(k:Nat):Jas (valN s.data.toList k)/\(⟨(enc (valN s.data.toList k)).toArray⟩:ByteArray)=s.extract 0 k↔fits s.data.toList k:=by
 have e:(s.extract 0 k).data.toList=s.data.toList.take k:=by
  rw[Lib.extract_data,List.drop_zero,Nat.sub_zero]
 constructor
 . rintro ⟨h1,h2⟩
   refine⟨h1,?_⟩;rw[←e,←h2]
 . rintro ⟨h1,h2⟩
   refine⟨h1,?_⟩;apply ByteArray.ext;apply Array.toList_inj.1;rw[e,←h2]
theorem Jgg{r:Nat}(h:¬Jas r):Lib.validRune (r:Int)=false:=by
 unfold Jas at h;unfold Lib.validRune;apply decide_eq_false;omega
theorem Jei{a b:ByteArray}(h:a.toList=b.toList):a=b:=by
 rw[ByteArray.toList_eq,ByteArray.toList_eq]at h;exact ByteArray.ext (Array.toList_inj.1 h)
theorem JqV(s:ByteArray)(hs:s.size<100000000)(w:World) :
    Calls Tryz.prog 144 #[.string s] w fun e w'=>e=.returned (.tuple #[.int .i32 (JdS s.data.toList).1,.int .i64 (JdS s.data.toList).2])/\Below w.heap.size w w':=by
 have hsz:=hdz (Lib.size_eq s);obtain⟨R1,hR1⟩:∃z:Int,z=(JdS s.data.toList).1:=⟨_,rfl⟩;obtain⟨R2,hR2⟩:∃z:Int,z=(JdS s.data.toList).2:=⟨_,rfl⟩;rw[←hR1,←hR2];have HR1:=hdz hR1;have HR2:=hdz hR2;clear hR1 hR2
 go_enter Tryz.func144,Tryz.ntmps144
 go_wp2
 go_loopw [4] (fun n wr=>∃k:Nat,1<=k/\k<=5/\n=.int .i64 k/\(∀j,1<=j->j<k->j<=s.data.toList.length->¬fits s.data.toList j)/\Below w.heap.size w wr) (fun n _=>5 - (intOf n).toNat)
 case atStart=>exact⟨1,nlr _,by omega,rfl,fun j h1 h2=>by omega,brf _ _⟩
 case round =>
  obtain⟨k,hk1,hk5,hn,hno,hwr⟩:=hrel
  by_cases hin:k<=4/\k<=s.size
  . obtain ⟨hk4,hks⟩:=hin
    have hnext:Hid (¬fits s.data.toList k->∀j,1<=j->j<k+1->j<=s.data.toList.length->¬fits s.data.toList j):=fun hf j h1 h2 h3=>by
     by_cases hj:j=k
     . rw[hj];exact hf
     . exact hno j h1 (by omega) h3
    have hret:Hid (fits s.data.toList k->JdS s.data.toList=(valN s.data.toList k,k)):=fun hf=>JlD hk1 (by rw[←hsz.out];exact hks) hf;have hpar:=hdz (JoT s k);have hV:=valN_lt s.data.toList k;clear hno;obtain rfl|rfl|rfl|rfl:k=1\/k=2\/k=3\/k=4:=by omega
    . obtain rfl:_=Value.int .i64 1:=hn
      have p0:0<s.size:=by omega
      have e0:=JbR s 0 p0;have l0:=JbN s.data.toList 0;have hVV:(valN s.data.toList 1:Int)=(JaN s.data.toList 0:Int):=by
       show((JaN s.data.toList 0:Nat):Int)=_;omega
      have cR:=Jh3 (valN s.data.toList 1) (by omega) (by omega)
      by_cases hval:Jas (valN s.data.toList 1)
      . have cB:=Jfh _ hval
        have hvR:=Jcq hval;rw[hvR]at cR;have hpar2:Hid ((⟨(enc (valN s.data.toList 1)).toArray⟩:ByteArray)=s.extract 0 1↔fits s.data.toList 1):=⟨fun h=>hpar.out.1 ⟨hval,h⟩,fun h=>(hpar.out.2 h).2⟩;generalize (⟨(enc (valN s.data.toList 1)).toArray⟩:ByteArray)=u at cB hpar2;rw[hVV]at cR cB;clear hvR hval hpar hV;generalize JaN s.data.toList 0=B0 at *;have HV:=hdz hVV;clear hVV
        by_cases hu:u=s.extract 0 1
        . have hr:=hret.out (hpar2.out.1 hu)
          have h1:Hid (R1=(B0:Int)):=by show _=_;rw[HR1.out,hr];exact HV.out
          have h2:Hid (R2=1):=by show _=_;rw[HR2.out,hr];rfl
          subst hu;clear hr hret hnext hpar2;go_wp2
          go_region_with (first | (go_at_call 202;refine(cR _).mono ?_;rintro e wx ⟨rfl,rfl⟩) | (go_at_call 203;refine(cB _).mono ?_;rintro e w1 ⟨rfl,hb1⟩))
          all_goals
           go_wp2
           go_ret2
           exact⟨by rw[h1.out,h2.out];rfl,(hwr.drew).trans (hb1.mono (by simpa using hwr.size))⟩
        . have hn':=hnext.out fun h=>hu (hpar2.out.2 h)
          have HN:Hid _:=hn';have hue:(u.toList==(s.extract 0 1).toList)=false:=beq_eq_false_iff_ne.2 fun h=>hu (Jei h);clear hn' hnext hret hpar2;go_wp2
          go_region_with (first | (go_at_call 202;refine(cR _).mono ?_;rintro e wx ⟨rfl,rfl⟩) | (go_at_call 203;refine(cB _).mono ?_;rintro e w1 ⟨rfl,hb1⟩))
          all_goals
           go_wp2;have hrel:∃k:Nat,1<=k/\k<=5/\Value.int .i64 2=.int .i64 k/\(∀j,1<=j->j<k->j<=s.data.toList.length->¬fits s.data.toList j)/\Below w.heap.size w w1:=⟨2,by omega,by omega,rfl,HN.out,(hwr.drew).trans (hb1.mono (by simpa using hwr.size))⟩;exact⟨hrel,by simp[intOf]⟩
      . have hn':=hnext.out fun h=>hval h.1
        have HN:Hid _:=hn';rw[Jgg hval,hVV]at cR;clear hn' hnext hret hpar hval hV hVV;generalize JaN s.data.toList 0=B0 at *;go_wp2
        go_quiet ((go_at_call 202;refine(cR _).mono ?_;rintro e wx ⟨rfl,rfl⟩;exact⟨rfl,_,rfl⟩))
        go_wp2;have hrel:∃k:Nat,1<=k/\k<=5/\Value.int .i64 2=.int .i64 k/\(∀j,1<=j->j<k->j<=s.data.toList.length->¬fits s.data.toList j)/\Below w.heap.size w (wr.drewN (nq)):=⟨2,by omega,by omega,rfl,HN.out,hwr.trans ⟨rfl,rfl,rfl,nlr _,fun _ _=>rfl⟩⟩;exact⟨hrel,by simp[intOf]⟩
    . obtain rfl:_=Value.int .i64 2:=hn
      have p0:0<s.size:=by omega
      have e0:=JbR s 0 p0;have l0:=JbN s.data.toList 0;have p1:1<s.size:=by omega
      have e1:=JbR s 1 p1;have l1:=JbN s.data.toList 1;have hVV:(valN s.data.toList 2:Int)=(JaN s.data.toList 0:Int) % 32*64+(JaN s.data.toList 1:Int) % 64:=by
       show((JaN s.data.toList 0 % 32*64+JaN s.data.toList 1 % 64:Nat):Int)=_;omega
      have cR:=Jh3 (valN s.data.toList 2) (by omega) (by omega)
      by_cases hval:Jas (valN s.data.toList 2)
      . have cB:=Jfh _ hval
        have hvR:=Jcq hval;rw[hvR]at cR;have hpar2:Hid ((⟨(enc (valN s.data.toList 2)).toArray⟩:ByteArray)=s.extract 0 2↔fits s.data.toList 2):=⟨fun h=>hpar.out.1 ⟨hval,h⟩,fun h=>(hpar.out.2 h).2⟩;generalize (⟨(enc (valN s.data.toList 2)).toArray⟩:ByteArray)=u at cB hpar2;rw[hVV]at cR cB;clear hvR hval hpar hV;generalize JaN s.data.toList 0=B0 at *;generalize JaN s.data.toList 1=B1 at *;have HV:=hdz hVV;clear hVV
        by_cases hu:u=s.extract 0 2
        . have hr:=hret.out (hpar2.out.1 hu)
          have h1:Hid (R1=(B0:Int) % 32*64+(B1:Int) % 64):=by show _=_;rw[HR1.out,hr];exact HV.out
          have h2:Hid (R2=2):=by show _=_;rw[HR2.out,hr];rfl
          subst hu;clear hr hret hnext hpar2
          go_wp2;go_region;go_wp2
          go_region_with (first | (go_at_call 202;refine(cR _).mono ?_;rintro e wx ⟨rfl,rfl⟩) | (go_at_call 203;refine(cB _).mono ?_;rintro e w1 ⟨rfl,hb1⟩))
          all_goals
           go_wp2
           go_ret2
           exact⟨by rw[h1.out,h2.out];rfl,(hwr.drew.drew).trans (hb1.mono (by simpa using hwr.size))⟩
        . have hn':=hnext.out fun h=>hu (hpar2.out.2 h)
          have HN:Hid _:=hn';have hue:(u.toList==(s.extract 0 2).toList)=false:=beq_eq_false_iff_ne.2 fun h=>hu (Jei h);clear hn' hnext hret hpar2
          go_wp2;go_region;go_wp2
          go_region_with (first | (go_at_call 202;refine(cR _).mono ?_;rintro e wx ⟨rfl,rfl⟩) | (go_at_call 203;refine(cB _).mono ?_;rintro e w1 ⟨rfl,hb1⟩))
          all_goals
           go_wp2;have hrel:∃k:Nat,1<=k/\k<=5/\Value.int .i64 3=.int .i64 k/\(∀j,1<=j->j<k->j<=s.data.toList.length->¬fits s.data.toList j)/\Below w.heap.size w w1:=⟨3,by omega,by omega,rfl,HN.out,(hwr.drew.drew).trans (hb1.mono (by simpa using hwr.size))⟩;exact⟨hrel,by simp[intOf]⟩
      . have hn':=hnext.out fun h=>hval h.1
        have HN:Hid _:=hn';rw[Jgg hval,hVV]at cR;clear hn' hnext hret hpar hval hV hVV;generalize JaN s.data.toList 0=B0 at *;generalize JaN s.data.toList 1=B1 at *
        go_wp2;go_region;go_wp2
        go_quiet ((go_at_call 202;refine(cR _).mono ?_;rintro e wx ⟨rfl,rfl⟩;exact⟨rfl,_,rfl⟩))
        go_wp2;have hrel:∃k:Nat,1<=k/\k<=5/\Value.int .i64 3=.int .i64 k/\(∀j,1<=j->j<k->j<=s.data.toList.length->¬fits s.data.toList j)/\Below w.heap.size w (wr.drewN (1+nq)):=⟨3,by omega,by omega,rfl,HN.out,hwr.trans ⟨rfl,rfl,rfl,nlr _,fun _ _=>rfl⟩⟩;exact⟨hrel,by simp[intOf]⟩
    . obtain rfl:_=Value.int .i64 3:=hn
      have p0:0<s.size:=by omega
      have e0:=JbR s 0 p0;have l0:=JbN s.data.toList 0;have p1:1<s.size:=by omega
      have e1:=JbR s 1 p1;have l1:=JbN s.data.toList 1;have p2:2<s.size:=by omega
      have e2:=JbR s 2 p2;have l2:=JbN s.data.toList 2;have hVV:(valN s.data.toList 3:Int)=(JaN s.data.toList 0:Int) % 16*4096+(JaN s.data.toList 1:Int) % 64*64+(JaN s.data.toList 2:Int) % 64:=by
       show((JaN s.data.toList 0 % 16*4096+JaN s.data.toList 1 % 64*64+JaN s.data.toList 2 % 64:Nat):Int)=_;omega
      have cR:=Jh3 (valN s.data.toList 3) (by omega) (by omega)
      by_cases hval:Jas (valN s.data.toList 3)
      . have cB:=Jfh _ hval
        have hvR:=Jcq hval;rw[hvR]at cR;have hpar2:Hid ((⟨(enc (valN s.data.toList 3)).toArray⟩:ByteArray)=s.extract 0 3↔fits s.data.toList 3):=⟨fun h=>hpar.out.1 ⟨hval,h⟩,fun h=>(hpar.out.2 h).2⟩;generalize (⟨(enc (valN s.data.toList 3)).toArray⟩:ByteArray)=u at cB hpar2;rw[hVV]at cR cB;clear hvR hval hpar hV;generalize JaN s.data.toList 0=B0 at *;generalize JaN s.data.toList 1=B1 at *;generalize JaN s.data.toList 2=B2 at *;have HV:=hdz hVV;clear hVV
        by_cases hu:u=s.extract 0 3
        . have hr:=hret.out (hpar2.out.1 hu)
          have h1:Hid (R1=(B0:Int) % 16*4096+(B1:Int) % 64*64+(B2:Int) % 64):=by show _=_;rw[HR1.out,hr];exact HV.out
          have h2:Hid (R2=3):=by show _=_;rw[HR2.out,hr];rfl
          subst hu;clear hr hret hnext hpar2
          go_wp2;go_region;go_wp2
          go_region_with (first | (go_at_call 202;refine(cR _).mono ?_;rintro e wx ⟨rfl,rfl⟩) | (go_at_call 203;refine(cB _).mono ?_;rintro e w1 ⟨rfl,hb1⟩))
          all_goals
           go_wp2
           go_ret2
           exact⟨by rw[h1.out,h2.out];rfl,(hwr.drew.drew).trans (hb1.mono (by simpa using hwr.size))⟩
        . have hn':=hnext.out fun h=>hu (hpar2.out.2 h)
          have HN:Hid _:=hn';have hue:(u.toList==(s.extract 0 3).toList)=false:=beq_eq_false_iff_ne.2 fun h=>hu (Jei h);clear hn' hnext hret hpar2
          go_wp2;go_region;go_wp2
          go_region_with (first | (go_at_call 202;refine(cR _).mono ?_;rintro e wx ⟨rfl,rfl⟩) | (go_at_call 203;refine(cB _).mono ?_;rintro e w1 ⟨rfl,hb1⟩))
          all_goals
           go_wp2;have hrel:∃k:Nat,1<=k/\k<=5/\Value.int .i64 4=.int .i64 k/\(∀j,1<=j->j<k->j<=s.data.toList.length->¬fits s.data.toList j)/\Below w.heap.size w w1:=⟨4,by omega,by omega,rfl,HN.out,(hwr.drew.drew).trans (hb1.mono (by simpa using hwr.size))⟩;exact⟨hrel,by simp[intOf]⟩
      . have hn':=hnext.out fun h=>hval h.1
        have HN:Hid _:=hn';rw[Jgg hval,hVV]at cR;clear hn' hnext hret hpar hval hV hVV;generalize JaN s.data.toList 0=B0 at *;generalize JaN s.data.toList 1=B1 at *;generalize JaN s.data.toList 2=B2 at *
        go_wp2;go_region;go_wp2
        go_quiet ((go_at_call 202;refine(cR _).mono ?_;rintro e wx ⟨rfl,rfl⟩;exact⟨rfl,_,rfl⟩))
        go_wp2;have hrel:∃k:Nat,1<=k/\k<=5/\Value.int .i64 4=.int .i64 k/\(∀j,1<=j->j<k->j<=s.data.toList.length->¬fits s.data.toList j)/\Below w.heap.size w (wr.drewN (1+nq)):=⟨4,by omega,by omega,rfl,HN.out,hwr.trans ⟨rfl,rfl,rfl,nlr _,fun _ _=>rfl⟩⟩;exact⟨hrel,by simp[intOf]⟩
    . obtain rfl:_=Value.int .i64 4:=hn
      have p0:0<s.size:=by omega
      have e0:=JbR s 0 p0;have l0:=JbN s.data.toList 0;have p1:1<s.size:=by omega
      have e1:=JbR s 1 p1;have l1:=JbN s.data.toList 1;have p2:2<s.size:=by omega
      have e2:=JbR s 2 p2;have l2:=JbN s.data.toList 2;have p3:3<s.size:=by omega
      have e3:=JbR s 3 p3;have l3:=JbN s.data.toList 3;have hVV:(valN s.data.toList 4:Int)=(JaN s.data.toList 0:Int) % 8*262144+(JaN s.data.toList 1:Int) % 64*4096+(JaN s.data.toList 2:Int) % 64*64+(JaN s.data.toList 3:Int) % 64:=by
       show((JaN s.data.toList 0 % 8*262144+JaN s.data.toList 1 % 64*4096+JaN s.data.toList 2 % 64*64+JaN s.data.toList 3 % 64:Nat):Int)=_;omega
      have cR:=Jh3 (valN s.data.toList 4) (by omega) (by omega)
      by_cases hval:Jas (valN s.data.toList 4)
      . have cB:=Jfh _ hval
        have hvR:=Jcq hval;rw[hvR]at cR;have hpar2:Hid ((⟨(enc (valN s.data.toList 4)).toArray⟩:ByteArray)=s.extract 0 4↔fits s.data.toList 4):=⟨fun h=>hpar.out.1 ⟨hval,h⟩,fun h=>(hpar.out.2 h).2⟩;generalize (⟨(enc (valN s.data.toList 4)).toArray⟩:ByteArray)=u at cB hpar2;rw[hVV]at cR cB;clear hvR hval hpar hV;generalize JaN s.data.toList 0=B0 at *;generalize JaN s.data.toList 1=B1 at *;generalize JaN s.data.toList 2=B2 at *;generalize JaN s.data.toList 3=B3 at *;have HV:=hdz hVV;clear hVV
        by_cases hu:u=s.extract 0 4
        . have hr:=hret.out (hpar2.out.1 hu)
          have h1:Hid (R1=(B0:Int) % 8*262144+(B1:Int) % 64*4096+(B2:Int) % 64*64+(B3:Int) % 64):=by show _=_;rw[HR1.out,hr];exact HV.out
          have h2:Hid (R2=4):=by show _=_;rw[HR2.out,hr];rfl
          subst hu;clear hr hret hnext hpar2
          go_wp2;go_region;go_wp2
          go_region_with (first | (go_at_call 202;refine(cR _).mono ?_;rintro e wx ⟨rfl,rfl⟩) | (go_at_call 203;refine(cB _).mono ?_;rintro e w1 ⟨rfl,hb1⟩))
          all_goals
           go_wp2
           go_ret2
           exact⟨by rw[h1.out,h2.out];rfl,(hwr.drew.drew).trans (hb1.mono (by simpa using hwr.size))⟩
        . have hn':=hnext.out fun h=>hu (hpar2.out.2 h)
          have HN:Hid _:=hn';have hue:(u.toList==(s.extract 0 4).toList)=false:=beq_eq_false_iff_ne.2 fun h=>hu (Jei h);clear hn' hnext hret hpar2
          go_wp2;go_region;go_wp2
          go_region_with (first | (go_at_call 202;refine(cR _).mono ?_;rintro e wx ⟨rfl,rfl⟩) | (go_at_call 203;refine(cB _).mono ?_;rintro e w1 ⟨rfl,hb1⟩))
          all_goals
           go_wp2;have hrel:∃k:Nat,1<=k/\k<=5/\Value.int .i64 5=.int .i64 k/\(∀j,1<=j->j<k->j<=s.data.toList.length->¬fits s.data.toList j)/\Below w.heap.size w w1:=⟨5,by omega,by omega,rfl,HN.out,(hwr.drew.drew).trans (hb1.mono (by simpa using hwr.size))⟩;exact⟨hrel,by simp[intOf]⟩
      . have hn':=hnext.out fun h=>hval h.1
        have HN:Hid _:=hn';rw[Jgg hval,hVV]at cR;clear hn' hnext hret hpar hval hV hVV;generalize JaN s.data.toList 0=B0 at *;generalize JaN s.data.toList 1=B1 at *;generalize JaN s.data.toList 2=B2 at *;generalize JaN s.data.toList 3=B3 at *
        go_wp2;go_region;go_wp2
        go_quiet ((go_at_call 202;refine(cR _).mono ?_;rintro e wx ⟨rfl,rfl⟩;exact⟨rfl,_,rfl⟩))
        go_wp2;have hrel:∃k:Nat,1<=k/\k<=5/\Value.int .i64 5=.int .i64 k/\(∀j,1<=j->j<k->j<=s.data.toList.length->¬fits s.data.toList j)/\Below w.heap.size w (wr.drewN (1+nq)):=⟨5,by omega,by omega,rfl,HN.out,hwr.trans ⟨rfl,rfl,rfl,nlr _,fun _ _=>rfl⟩⟩;exact⟨hrel,by simp[intOf]⟩
  . have hz:JdS s.data.toList=(0,0):=JlC fun n h1 h2 h3=>hno n h1 (by rw[←hsz.out]at h3;omega) h3
    have h1:Hid (R1=0):=by show _=_;rw[HR1.out,hz];rfl
    have h2:Hid (R2=0):=by show _=_;rw[HR2.out,hz];rfl
    subst hn;clear hno hz
    by_cases hk:k<=4
    . have hks:¬k<=s.size:=fun h=>hin ⟨hk,h⟩
      clear hin;go_wp2
      go_ret2
      exact⟨by rw[h1.out,h2.out];rfl,hwr⟩
    . clear hin
      go_wp2
      go_ret2
      exact⟨by rw[h1.out,h2.out];rfl,hwr⟩
theorem JlE(s:ByteArray)(k:Nat):(s.extract k s.size).data.toList=s.data.toList.drop k:=by
 rw[Lib.extract_data,List.take_of_length_le (by rw[List.length_drop,←Lib.size_eq];exact nlr _)]
theorem Jec(s:ByteArray)(hs:s.size<100000000)(w:World) :
    Calls Tryz.prog 81 #[.string s] w fun e w'=>Below w.heap.size w w' /\
     (((scan s.data.toList).2=true/\∃v,e=.returned (.tuple #[v,JmY 0 (-1)])/\JmM w w' 21 v (JaS (scan s.data.toList).1)) \/
      ((scan s.data.toList).2=false/\e=.returned (.tuple #[.slice none 0 0,JmY 3 (Jf6 s.data.toList)]))):=by
 have hsz:=hdz (Lib.size_eq s);obtain⟨i0,hi,hz0,hz1,hz2⟩:=info_parts Jtq;unfold JmY
 go_enter Tryz.func81,Tryz.ntmps81
 go_wp2
 go_loopw [4,5] (fun b i wr=>∃(k:Nat) (done:List (Nat×Nat)),k<=s.size/\i=.int .i64 k/\(scan s.data.toList).1=done++(scan (s.data.toList.drop k)).1/\(done.map (·.2)).sum=k/\(scan s.data.toList).2=(scan (s.data.toList.drop k)).2/\done.length<=k /\
     wr.ownsRow (w.heap.size+1) 21 1 b done.length (JaS done) /\
     wr.cell? ⟨w.heap.size,0,none⟩=some (.int .i64 0)/\wr.cell? ⟨w.heap.size,1,none⟩=some (.int .i64 0)/\wr.frozen? ⟨w.heap.size,0,none⟩=false/\wr.frozen? ⟨w.heap.size,1,none⟩=false/\Below w.heap.size w wr) (fun _ i _=>s.size - (intOf i).toNat)
 case atStart=>exact⟨0,[],Nat.zero_le _,rfl,by rw[List.drop_zero];rfl,rfl,by rw[List.drop_zero],nlr _,World.ownsRow_nil _ _ _ _,by simp[go_sem],by simp[go_sem],by simp[go_sem],by simp[go_sem],(brf _ _).alloc (nlr _) _⟩
 case round =>
  obtain⟨k,done,hk,rfl,hd1,hd2,hd3,hdl,hown,c0,c1,f0,f1,hwr⟩:=hrel;have hbl:w.heap.size<wr.heap.size:=blt wr _ c0
  by_cases hlt:k<s.size
  . have hne:s.data.toList.drop k≠[]:=by
      intro e;have:=congrArg List.length e;rw[List.length_drop,List.length_nil,←Lib.size_eq]at this;omega
    have cF:=JqV (s.extract k s.size) (by rw[ByteArray.size_extract];omega) wr;rw[JlE]at cF;unfold JdS at cF;rw[if_neg hne]at cF;have hge:=Jfe (s.data.toList.drop k);have hle:=Jjp hne;rw[List.length_drop,←hsz.out]at hle;have hdn:done.length<100000000:=by omega
    by_cases hb:badB (dec (s.data.toList.drop k))=true
    . rw [hb]at cF
      simp only[if_true]at cF;have hs2:=JfW hne hb;have hpl:Hid (Jf6 s.data.toList=k):=by
       show _=_;unfold Jf6;rw[hd1,hs2,List.append_nil,hd2]
      have hf:Hid ((scan s.data.toList).2=false):=by show _=_;rw[hd3,hs2]
      clear hd1 hd2 hd3 hdl hs2 hown hne hb hge hle
      go_wp2_with (go_at_call 144;refine cF.mono ?_;rintro e w1 ⟨rfl,hb1⟩;have e0:=(hb1.cell (p:=⟨w.heap.size,0,none⟩) hbl).trans c0;have e1:=(hb1.cell (p:=⟨w.heap.size,1,none⟩) hbl).trans c1;have g0:=(hb1.frozen (p:=⟨w.heap.size,0,none⟩) hbl).trans f0;have g1:=(hb1.frozen (p:=⟨w.heap.size,1,none⟩) hbl).trans f1)
      refine bodyPost_ret (v:=.tuple #[.slice none 0 0,.agg #[.int .i64 3,.int .i64 k]]) (by simp[results,Tryz.results81,go_sem,e0,e1]) rfl ?_;refine⟨((hwr.trans (hb1.mono hwr.size)).setCell (p:=⟨w.heap.size,0,none⟩) (nlr _) _).setCell (p:=⟨w.heap.size,1,none⟩) (nlr _) _,.inr ⟨hf.out,by rw[hpl.out]⟩⟩
    . have hb:badB (dec (s.data.toList.drop k))=false:=Bool.eq_false_iff.2 hb
      rw[hb]at cF;simp only[Bool.false_eq_true,if_false]at cF;have hs2:=Jet hne hb;rw[List.drop_drop]at hs2;obtain⟨R,hR⟩:∃R,R=(dec (s.data.toList.drop k)).1:=⟨_,rfl⟩;obtain⟨K,hK⟩:∃K,K=(dec (s.data.toList.drop k)).2:=⟨_,rfl⟩;have hp:dec (s.data.toList.drop k)=(R,K):=by rw[hR,hK]
      rw[hp]at cF hs2 hge hle;simp only[]at cF hs2 hge hle;have hnext:Hid ((scan s.data.toList).1=done++[(R,K)]++(scan (s.data.toList.drop (k+K))).1):=by
       show _=_;rw[hd1,hs2,List.append_assoc];rfl
      have hnext2:Hid (((done++[(R,K)]).map (·.2)).sum=k+K):=by
       show _=_;rw[List.map_append,List.sum_append,hd2];rfl
      have hnext3:Hid ((scan s.data.toList).2=(scan (s.data.toList.drop (k+K))).2):=by show _=_;rw[hd3,hs2]
      have hnext4:Hid ((done++[(R,K)]).length<=k+K):=by
       show _<=_;rw[List.length_append];simp;omega
      have hr0:((K:Int)==0)=false:=by
       rw[beq_eq_false_iff_ne];intro e;omega
      have NX:Hid (∀w0 w1 v' o,Below wr.heap.size wr w0->w1.ownsRow (w.heap.size+1) 21 1 v' (done.length+1) (JaS done++[.int .i32 R])->(w0.alloc o).grownBy w1 (u4).ownBlock ->
          w1.ownsRow (w.heap.size+1) 21 1 v' (done++[(R,K)]).length (JaS (done++[(R,K)])) /\
          w1.cell? ⟨w.heap.size,0,none⟩=some (.int .i64 0)/\w1.cell? ⟨w.heap.size,1,none⟩=some (.int .i64 0)/\w1.frozen? ⟨w.heap.size,0,none⟩=false/\w1.frozen? ⟨w.heap.size,1,none⟩=false/\Below w.heap.size w w1):=by
       intro w0 w1 v' o hb0 h1 hg;have hB:Below (w.heap.size+1) wr w1:=((hb0.mono hbl).alloc (Nat.le_trans hbl hb0.size) o).grown hg (by rw[wsa];have:=hb0.size;omega) fun k hk=>(hown.lt k hk).1;refine⟨?_,(hB.cell (p:=⟨w.heap.size,0,none⟩) (Nat.lt_succ_self _)).trans c0,(hB.cell (p:=⟨w.heap.size,1,none⟩) (Nat.lt_succ_self _)).trans c1,(hB.frozen (p:=⟨w.heap.size,0,none⟩) (Nat.lt_succ_self _)).trans f0,(hB.frozen (p:=⟨w.heap.size,1,none⟩) (Nat.lt_succ_self _)).trans f1,hwr.trans (hB.mono (Nat.le_succ _))⟩;have e:JaS (done++[(R,K)])=JaS done++[.int .i32 R]:=by simp[JaS]
       rw[List.length_append,e];exact h1
      obtain⟨pb,cb,rfl⟩:=Jae hown;clear hd1 hd2 hd3 hdl hs2 hp hR hK hne hb;generalize JaS done=xs at hown NX
      go_wp2_with (first | (go_at_call 144;refine cF.mono ?_;rintro e w0 ⟨rfl,hb1⟩;have hown0:=JaR hown hb1;have hz9:=hb1.size) | (at_builtin;refine wpList_append_own _ rfl (.tmp 23) (.tmp 25) 141 rfl (w.heap.size+1) 21 i0 (.int .i32 0) 1 4 Tryz.underlying141 hi hz0 hz1 hz2 rfl (by decide) _ _ _ rfl (hown0.alloc _) ⟨w0.heap.size,0,none⟩ 1 1 [.int .i32 R] rfl rfl (cell_one_new _ _ _) (ints_oneCell .i32 [(R:Int)]) (by unfold maxLen;omega) (by omega) (by first|omega | (simp;omega)) ?_;intro v' w1 hown1 hg _))
      have hnx:=NX.out w0 w1 v' _ hb1 hown1 hg;obtain⟨n0,n1,n2,n3,n4,n5⟩:=hnx;clear hown1 hg hown hown0;go_wp2
      go_roundw
      case rel=>exact⟨k+K,_,by omega,by go_num,hnext.out,hnext2.out,hnext3.out,hnext4.out,n0,n1,n2,n3,n4,n5⟩
      case measure=>simp[intOf];omega
  . have hend:s.data.toList.drop k=[]:=List.drop_eq_nil_of_le (by rw[←Lib.size_eq];omega)
    rw[hend,Jfp]at hd1 hd3;rw[List.append_nil]at hd1;obtain⟨pb,cb,rfl⟩:=Jae hown;have HO:=hdz hown;have hfin:=hdz hd1;have hok:=hdz hd3;clear hd1 hd3 hend hdl hd2 hown
    go_wp2_with (go_at_call 89;refine(Jol _ _).mono ?_;rintro e w1 ⟨rfl,hb1⟩;have e0:=(hb1.cell (p:=⟨w.heap.size,0,none⟩) hbl).trans c0;have e1:=(hb1.cell (p:=⟨w.heap.size,1,none⟩) hbl).trans c1;have g0:=(hb1.frozen (p:=⟨w.heap.size,0,none⟩) hbl).trans f0;have g1:=(hb1.frozen (p:=⟨w.heap.size,1,none⟩) hbl).trans f1)
    refine bodyPost_ret (v:=.tuple #[.slice pb done.length cb,.agg #[.int .i64 0,.int .i64 (-1)]]) (by simp[results,Tryz.results81,go_sem,e0,e1]) rfl ?_;refine⟨((hwr.trans (hb1.mono hwr.size)).setCell (p:=⟨w.heap.size,0,none⟩) (nlr _) _).setCell (p:=⟨w.heap.size,1,none⟩) (nlr _) _,.inl ⟨hok.out,_,rfl,?_⟩⟩;rw[hfin.out];have hlen:(JaS done).length=done.length:=by simp[JaS]
    refine⟨pb,cb,by rw[hlen],?_⟩;rw[hlen];exact JcJ (ownsRow_setCell_below (a:=⟨w.heap.size,1,none⟩) (ownsRow_setCell_below (a:=⟨w.heap.size,0,none⟩) (JaR HO.out hb1) (Nat.lt_succ_self _) _) (Nat.lt_succ_self _) _) (Nat.le_succ _)
def JbA (rs:List Nat):List Value:=rs.flatMap Jbj
theorem JmS(rs:List Nat)(r:Nat):JbA (rs++[r])=JbA rs++Jbj r:=by simp[JbA]
theorem JoP(rs:List Nat):(JbA rs).length<=2*rs.length:=by
 induction rs with
 | nil=>simp[JbA]
 | cons r rs ih =>
  have h:(Jbj r).length<=2:=by unfold Jbj hal;split<;>simp
  have e:JbA (r :: rs)=Jbj r++JbA rs:=by simp[JbA]
  rw[e,List.length_append,List.length_cons];omega
theorem JjO(v:Value)(rs:List Nat)(w:World)(hz:∀r∈rs,Jas r)(hr:reads w .i32 v (toI rs))(hl:rs.length<100000000) :
    Calls Tryz.prog 82 #[v] w fun e w'=>∃v,e=.returned v/\JmM w w' 167 v (JbA rs)/\Below w.heap.size w w':=by
 obtain⟨p,c,rfl,r1,r2,r3⟩:=hr;obtain⟨n,hn⟩:∃n,n=(toI rs).length:=⟨_,rfl⟩;rw[←hn]at r1 r3 ⊢;have HN:Hid (n=rs.length):=by show _=_;rw[hn];simp[toI]
 have HT:Hid (toI rs≠[]↔rs≠[]):=by show _↔_;simp[toI]
 have hln:n<100000000:=by rw[HN.out];exact hl
 clear hn hl;have R3:=hdz r3;have HZ:=hdz hz;clear r3 hz;obtain⟨i0,hi,hz0,hz1,hz2⟩:=info_parts JqG
 go_enter Tryz.func82,Tryz.ntmps82
 go_wp2
 go_loopw [3,9] (fun b i wr=>∃(k:Nat),k<=n/\i=.int .i64 k/\wr.ownsRow w.heap.size 167 1 b (JbA (rs.take k)).length (JbA (rs.take k))/\Below w.heap.size w wr) (fun _ i _=>n - (intOf i).toNat)
 case atStart=>exact⟨0,Nat.zero_le _,rfl,World.ownsRow_nil _ _ _ _,brf _ _⟩
 case round =>
  obtain⟨k,hk,rfl,hown,hwr⟩:=hrel;have hlen:=JoP (rs.take k);rw[List.length_take]at hlen
  by_cases hlt:k<n
  . have hkr:k<rs.length:=by rw[←HN.out];exact hlt
    have hne:rs≠[]:=by intro e;rw[e]at hkr;exact absurd hkr (Nat.not_lt_zero _)
    obtain⟨b,o,rfl,hbw,hcell⟩:=R3.out (HT.out.2 hne);have hc:=(hwr.cell (p:=⟨b,o+k,none⟩) hbw).trans (hcell k hlt);have hze:(toI rs).getD k 0=(rs[k]:Int):=by
     rw[List.getD_eq_getElem?_getD,toI,List.getElem?_map,lgg hkr];rfl
    rw[hze]at hc;have hru:=HZ.out rs[k] (List.getElem_mem _);have hts:rs.take (k+1)=rs.take k++[rs[k]]:=List.take_succ_eq_append_getElem hkr;have hsn:=JmS (rs.take k) rs[k];rw[←hts]at hsn;generalize rs[k]=r at hc hru hsn;unfold Jas at hru;have hm:(JbA (rs.take k)).length<300000000:=by omega
    by_cases hbig:r<65536
    . have hh:Jbj r=[.int .u16 r]:=by simp[Jbj,hal,hbig]
      rw[hh]at hsn
      have NX:Hid (∀w1 v' o,w1.ownsRow w.heap.size 167 1 v' ((JbA (rs.take k)).length+1) (JbA (rs.take k)++[.int .u16 r])->(wr.alloc o).grownBy w1 (u3).ownBlock ->
          w1.ownsRow w.heap.size 167 1 v' (JbA (rs.take (k+1))).length (JbA (rs.take (k+1)))/\Below w.heap.size w w1):=by
       intro w1 v' o h1 hg;have hB:Below w.heap.size wr w1:=((brf _ wr).alloc hwr.size o).grown hg (by rw[wsa];have:=hwr.size;omega) fun k hk=>(hown.lt k hk).1;refine⟨?_,hwr.trans hB⟩;rw[hsn,List.length_append];exact h1
      obtain⟨pb,cb,rfl⟩:=Jae hown;have q0:(0:Int)<=(r:Int):=by omega
      have q1:(r:Int)<65536:=by omega
      have hws:=hwr.size;clear hsn hts hze hh hcell hlen hru hbig;generalize (r:Int)=z at hc q0 q1 NX;generalize JbA (rs.take k)=xs at hown hm NX
      go_wp2_with (at_builtin;refine wpList_append_own _ rfl (.tmp 30) (.tmp 33) 144 rfl w.heap.size 167 i0 (.int .u16 0) 1 2 Tryz.underlying144 hi hz0 hz1 hz2 rfl (by decide) _ _ _ rfl (hown.alloc _) ⟨wr.heap.size,0,none⟩ 1 1 [.int .u16 z] rfl rfl (cell_one_new _ _ _) (ints_oneCell .u16 [z]) (by unfold maxLen;omega) (by omega) (by first | omega | (simp;omega)) ?_;intro v' w1 hown1 hg _)
      have hnx:=NX.out w1 v' _ hown1 hg;obtain⟨n0,n1⟩:=hnx;clear hown1 hg hown;go_wp2
      go_roundw
      case rel=>exact⟨k+1,by omega,by go_num,n0,n1⟩
      case measure=>simp[intOf];omega
    . have hh:Jbj r=[.int .u16 (55296+((r:Int) - 65536) / 1024),.int .u16 (56320+((r:Int) - 65536) % 1024)]:=by
        simp only[Jbj,hal,hbig,if_false,List.map_cons,List.map_nil];rw[show((55296+(r - 65536) / 1024:Nat):Int)=55296+((r:Int) - 65536) / 1024 by omega,show((56320+(r - 65536) % 1024:Nat):Int)=56320+((r:Int) - 65536) % 1024 by omega]
      rw[hh]at hsn
      have NX:Hid (∀w1 v' o,w1.ownsRow w.heap.size 167 1 v' ((JbA (rs.take k)).length+2) (JbA (rs.take k)++[.int .u16 (55296+((r:Int) - 65536) / 1024),.int .u16 (56320+((r:Int) - 65536) % 1024)])->(wr.alloc o).grownBy w1 (u3).ownBlock ->
          w1.ownsRow w.heap.size 167 1 v' (JbA (rs.take (k+1))).length (JbA (rs.take (k+1)))/\Below w.heap.size w w1):=by
       intro w1 v' o h1 hg;have hB:Below w.heap.size wr w1:=((brf _ wr).alloc hwr.size o).grown hg (by rw[wsa];have:=hwr.size;omega) fun k hk=>(hown.lt k hk).1;refine⟨?_,hwr.trans hB⟩;rw[hsn,List.length_append];exact h1
      obtain⟨pb,cb,rfl⟩:=Jae hown;have q0:¬(r:Int)<65536:=by omega
      have q1:(r:Int)<=1114111:=by omega
      have q2:(65536:Int)<=(r:Int):=by omega
      have hws:=hwr.size;clear hsn hts hze hh hcell hlen hru hbig;generalize (r:Int)=z at hc q0 q1 q2 NX;generalize JbA (rs.take k)=xs at hown hm NX
      go_wp2_with (at_builtin;refine wpList_append_own _ rfl (.tmp 17) (.tmp 28) 144 rfl w.heap.size 167 i0 (.int .u16 0) 1 2 Tryz.underlying144 hi hz0 hz1 hz2 rfl (by decide) _ _ _ rfl (hown.alloc _) ⟨wr.heap.size,0,none⟩ 2 2 [.int .u16 (55296+(z - 65536) / 1024),.int .u16 (56320+(z - 65536) % 1024)] rfl rfl (cell_two_new _ _ _ _) (ints_oneCell .u16 [55296+(z - 65536) / 1024,56320+(z - 65536) % 1024]) (by unfold maxLen;omega) (by omega) (by first | omega | (simp;omega)) ?_;intro v' w1 hown1 hg _)
      have hnx:=NX.out w1 v' _ hown1 hg;obtain⟨n0,n1⟩:=hnx;clear hown1 hg hown;go_wp2
      go_roundw
      case rel=>exact⟨k+1,by omega,by go_num,n0,n1⟩
      case measure=>simp[intOf];omega
  . have e:rs.take k=rs:=List.take_of_length_le (by rw[←HN.out];omega)
    rw[e]at hown;obtain⟨pb,cb,rfl⟩:=Jae hown;have HO:Hid (JmM w wr 167 (.slice pb (JbA rs).length cb) (JbA rs)):=⟨pb,cb,rfl,hown⟩;clear e hown R3 HZ hlen;go_wp2;go_ret;exact⟨_,rfl,HO.out,hwr⟩
end
end Go.Proofs.YtedgnlgjmnccgabGreatDoor
namespace Go.Proofs
open Go.Shelf
def Tryz.lays138_ren:Go.Shelf.Ren:=⟨fun | 138=>83 | 195=>145 | 218=>146 | 143=>147 | 219=>204 | 217=>252 | 225=>253 | 224=>254 | 267=>255 | 266=>286 | 314=>287 | n=>n,fun | 9=>9 | 3=>3 | 4=>4 | 5=>5 | 0=>0 | 46=>86 | 146=>375 | 51=>325 | n=>n,fun | 1=>1 | n=>n⟩
theorem Tryz.lays138:Go.Proofs.Lays.n138 Tryz.prog Tryz.lays138_ren:={
 mixed:=by kernel_rfl
 f138:=Tryz.func83.trans (congrArg some (by kernel_rfl))
 f143:=Tryz.func147.trans (congrArg some (by kernel_rfl))
 f195:=Tryz.func145.trans (congrArg some (by kernel_rfl))
 f217:=Tryz.func252.trans (congrArg some (by kernel_rfl))
 f218:=Tryz.func146.trans (congrArg some (by kernel_rfl))
 f219:=Tryz.func204.trans (congrArg some (by kernel_rfl))
 f224:=Tryz.func254.trans (congrArg some (by kernel_rfl))
 f225:=Tryz.func253.trans (congrArg some (by kernel_rfl))
 f266:=Tryz.func286.trans (congrArg some (by kernel_rfl))
 f267:=Tryz.func255.trans (congrArg some (by kernel_rfl))
 f314:=Tryz.func287.trans (congrArg some (by kernel_rfl))
 t0:=Tryz.underlying0
 a0:=Tryz.isAgg0
 z0:=Tryz.sizeOf0
 v0:=Tryz.zeroValue0
 t3:=Tryz.underlying3
 a3:=Tryz.isAgg3
 z3:=Tryz.sizeOf3
 v3:=Tryz.zeroValue3
 t4:=Tryz.underlying4
 a4:=Tryz.isAgg4
 z4:=Tryz.sizeOf4
 v4:=Tryz.zeroValue4
 t5:=Tryz.underlying5
 a5:=Tryz.isAgg5
 z5:=Tryz.sizeOf5
 v5:=Tryz.zeroValue5
 t9:=Tryz.underlying9
 a9:=Tryz.isAgg9
 z9:=Tryz.sizeOf9
 v9:=Tryz.zeroValue9
 t46:=Tryz.underlying86
 a46:=Tryz.isAgg86
 z46:=Tryz.sizeOf86
 v46:=Tryz.zeroValue86
 t51:=Tryz.underlying325
 a51:=Tryz.isAgg325
 z51:=Tryz.sizeOf325
 v51:=Tryz.zeroValue325
 t146:=Tryz.underlying375
 a146:=Tryz.isAgg375
 z146:=Tryz.sizeOf375
 v146:=Tryz.zeroValue375
 g1:=by kernel_rfl }
open Go.RowKit Go.Lib in
theorem Tryz.strings_Count_one(s:ByteArray)(c:UInt8)(w:World) :
    Calls Tryz.prog 83 #[.string s,.string ⟨#[c]⟩] w fun e w'=>e=.returned (.int .i64 (Lib.countByte s.data.toList c))/\w'=w:=Any.strings_Count_one Tryz.lays138 s c w
end Go.Proofs
namespace Go.Proofs.YtedgnlgjmnccgabGreatDoor
section
open Go.RowKit
variable {W w w1 : World}{o1 o2 : Obj}
def zeros (W:World) (B:Nat):Prop :=
 (W.cell? ⟨B,0,none⟩=some (.int .i64 0)/\W.cell? ⟨B,1,none⟩=some (.int .i64 0)/\W.cell? ⟨B,2,none⟩=some (.int .i64 0)/\W.cell? ⟨B,3,none⟩=some (.int .i64 0)) /\
 (W.frozen? ⟨B,0,none⟩=false/\W.frozen? ⟨B,1,none⟩=false/\W.frozen? ⟨B,2,none⟩=false/\W.frozen? ⟨B,3,none⟩=false) /\
 (W.cell? ⟨B+1,0,none⟩=some (.int .i64 0)/\W.cell? ⟨B+1,1,none⟩=some (.int .i64 0)) /\
 (W.frozen? ⟨B+1,0,none⟩=false/\W.frozen? ⟨B+1,1,none⟩=false)
theorem JcP{W':World}{B:Nat}(h:zeros W B)(hb:Below W.heap.size W W'):zeros W' B:=by
 obtain⟨⟨c0,c1,c2,c3⟩,⟨d0,d1,d2,d3⟩,⟨f0,f1⟩,⟨g0,g1⟩⟩:=h;have l0:B<W.heap.size:=blt W _ c0;have l1:B+1<W.heap.size:=blt W _ f0;have kc:∀i v,W.cell? ⟨B,i,none⟩=some v->W'.cell? ⟨B,i,none⟩=some v:=fun i v h=>(hb.cell (p:=⟨B,i,none⟩) l0).trans h;have kd:∀i,W.frozen? ⟨B,i,none⟩=false->W'.frozen? ⟨B,i,none⟩=false:=fun i h=>(hb.frozen (p:=⟨B,i,none⟩) l0).trans h;have kf:∀i v,W.cell? ⟨B+1,i,none⟩=some v->W'.cell? ⟨B+1,i,none⟩=some v:=fun i v h=>(hb.cell (p:=⟨B+1,i,none⟩) l1).trans h;have kg:∀i,W.frozen? ⟨B+1,i,none⟩=false->W'.frozen? ⟨B+1,i,none⟩=false:=fun i h=>(hb.frozen (p:=⟨B+1,i,none⟩) l1).trans h;exact⟨⟨kc _ _ c0,kc _ _ c1,kc _ _ c2,kc _ _ c3⟩,⟨kd _ d0,kd _ d1,kd _ d2,kd _ d3⟩,⟨kf _ _ f0,kf _ _ f1⟩,⟨kg _ g0,kg _ g1⟩⟩
theorem Jk8(w:World):zeros ((w.alloc (.cells #[.int .i64 0,.int .i64 0,.int .i64 0,.int .i64 0] 25)).alloc (.cells #[.int .i64 0,.int .i64 0] 28)) w.heap.size:=by
 refine⟨⟨?_,?_,?_,?_⟩,⟨?_,?_,?_,?_⟩,⟨?_,?_⟩,⟨?_,?_⟩⟩<;>simp[go_sem]
theorem Jmb(hb:Below ((w.alloc o1).alloc o2).heap.size ((w.alloc o1).alloc o2) w1):Below w.heap.size w w1 :=
 (((brf _ w).alloc (nlr _) _).alloc (by rw[wsa];exact Nat.le_succ _) _).trans (hb.mono (by rw[wsa,World.size_alloc];omega))
theorem Jn5(hb:Below ((w.alloc o1).alloc o2).heap.size ((w.alloc o1).alloc o2) w1):w.heap.size+1<w1.heap.size:=by
 have:=hb.size;rw[wsa,World.size_alloc]at this;omega
theorem Jmc{v0 v1 v2 v3 v4 v5:Value}(h:Below w.heap.size w W) :
    Below w.heap.size w ((((((W.setCell ⟨w.heap.size,0,none⟩ v0).setCell ⟨w.heap.size,1,none⟩ v1).setCell ⟨w.heap.size,2,none⟩ v2).setCell ⟨w.heap.size,3,none⟩ v3).setCell ⟨w.heap.size+1,0,none⟩ v4).setCell ⟨w.heap.size+1,1,none⟩ v5) :=
 (((((h.setCell (p:=⟨w.heap.size,0,none⟩) (nlr _) _).setCell (p:=⟨w.heap.size,1,none⟩) (nlr _) _).setCell (p:=⟨w.heap.size,2,none⟩) (nlr _) _).setCell (p:=⟨w.heap.size,3,none⟩) (nlr _) _).setCell (p:=⟨w.heap.size+1,0,none⟩) (Nat.le_succ _) _).setCell (p:=⟨w.heap.size+1,1,none⟩) (Nat.le_succ _) _
theorem Jlf(s:ByteArray)(hs:s.size<100000000)(w:World)(hok:(scan s.data.toList).2=false) :
    Calls Tryz.prog 12 #[.string s] w fun e w'=>Below w.heap.size w w'/\e=.returned (.tuple #[cnt 0 0 0 0,JmY 3 (Jf6 s.data.toList)]):=by
 have cR:∀w,Calls Tryz.prog 81 #[.string s] w fun e w'=>e=.returned (.tuple #[.slice none 0 0,.agg #[.int .i64 3,.int .i64 (Jf6 s.data.toList)]])/\Below w.heap.size w w':=fun w=>by
  refine(Jec s hs w).mono ?_;rintro e w' ⟨hb,⟨h,_⟩|⟨_,rfl⟩⟩
  . rw[hok]at h;cases h
  . exact⟨rfl,hb⟩
 clear hok hs;generalize ((Jf6 s.data.toList:Nat):Int)=P at cR ⊢;unfold cnt JmY
 go_enter Tryz.func12,Tryz.ntmps12
 go_wp2_with (go_at_call 81;refine(cR _).mono ?_;rintro e w1 ⟨rfl,hb1⟩;have k0:=JcP (JcP (Jk8 w) hb1) ((brf _ w1).alloc (nlr _) (.cells #[.int .i64 3,.int .i64 P] 28));obtain⟨⟨c0,c1,c2,c3⟩,⟨d0,d1,d2,d3⟩,⟨f0,f1⟩,⟨g0,g1⟩⟩:=k0;have hlt:=Jn5 hb1;have hn1:¬w1.heap.size=w.heap.size:=(by omega);have hn2:¬w.heap.size=w1.heap.size:=(by omega);have hn3:¬w1.heap.size=w.heap.size+1:=(by omega);have hn4:¬w.heap.size+1=w1.heap.size:=(by omega))
 go_region
 all_goals go_wp2
 all_goals
  refine bodyPost_ret (v:=.tuple #[.agg #[.int .i64 0,.int .i64 0,.int .i64 0,.int .i64 0],.agg #[.int .i64 3,.int .i64 P]]) (by simp[results,Tryz.results12,go_sem,c0,c1,c2,c3,f0,f1]) rfl ?_;exact⟨(Jmc ((Jmb hb1).alloc (Nat.le_of_lt (Nat.lt_trans (Nat.lt_succ_self _) hlt)) _)).drew,rfl⟩
theorem Jit(rs:List Nat):JaS (wide rs)=(toI rs).map (Value.int .i32):=by
 simp[JaS,wide,toI,List.map_map,Function.comp_def]
theorem JeB(s:ByteArray)(hs:s.size<100000000)(w:World)(hok:(scan s.data.toList).2=true) :
    Calls Tryz.prog 12 #[.string s] w fun e w'=>Below w.heap.size w w' /\
     e=.returned (.tuple #[cnt s.size (JbA (Jam s.data.toList)).length (Jam s.data.toList).length (Lib.countByte s.data.toList 10),JmY 0 (-1)]):=by
 have hru:∀r∈Jam s.data.toList,Jas r:=fun r h=>JbV h;have hrl:(Jam s.data.toList).length<100000000:=by
  have:=Jfq s.data.toList;rw[←Lib.size_eq]at this;unfold Jam;rw[List.length_map];omega
 have cR:∀w,Calls Tryz.prog 81 #[.string s] w fun e w'=>Below w.heap.size w w'/\∃p c,e=.returned (.tuple #[.slice p (Jam s.data.toList).length c,.agg #[.int .i64 0,.int .i64 (-1)]])/\reads w' .i32 (.slice p (Jam s.data.toList).length c) (toI (Jam s.data.toList)):=fun w=>by
  refine(Jec s hs w).mono ?_;rintro e w' ⟨hb,⟨_,v,rfl,p,c,rfl,hown⟩|⟨h,_⟩⟩
  . have e1:JaS (scan s.data.toList).1=(toI (Jam s.data.toList)).map (Value.int .i32):=by rw[JkT,Jit]
    have e2:(JaS (scan s.data.toList).1).length=(toI (Jam s.data.toList)).length:=by rw[e1,List.length_map]
    have e3:(toI (Jam s.data.toList)).length=(Jam s.data.toList).length:=by simp[toI]
    rw[e2]at hown;rw[e2,←e3];exact⟨hb,p,c,rfl,Jlj e1 hown⟩
  . rw[hok]at h;cases h
 have cC:=fun w=>Tryz.strings_Count_one s 10 w;have hcb:Lib.countByte s.data.toList 10<100000000:=by
  have:Lib.countByte s.data.toList 10<=s.data.toList.length:=List.count_le_length;rw[←Lib.size_eq]at this;omega
 clear hok hs;generalize Lib.countByte s.data.toList 10=CB at cC hcb ⊢;generalize Jam s.data.toList=rs at *;have HRU:=hdz hru;obtain⟨n,hn⟩:∃n,n=rs.length:=⟨_,rfl⟩;have HRL:=hdz hrl;rw[←hn]at cR hrl ⊢;clear hru hn;unfold cnt JmY
 go_enter Tryz.func12,Tryz.ntmps12
 go_wp2_with (go_at_call 81;refine(cR _).mono ?_;rintro e w1 ⟨hb1,p,c,rfl,hrd⟩;have HRD:=hdz hrd;clear hrd;have hBF:Below w1.heap.size w1 (w1.alloc (.cells #[.int .i64 0,.int .i64 (-1)] 28)):=(brf _ w1).alloc (nlr _) _;have k0:=JcP (JcP (Jk8 w) hb1) hBF;have KZ:=hdz k0;obtain⟨⟨c0,c1,c2,c3⟩,⟨d0,d1,d2,d3⟩,⟨f0,f1⟩,⟨g0,g1⟩⟩:=k0;have hlt:=Jn5 hb1;have hn1:¬w1.heap.size=w.heap.size:=(by omega);have hn2:¬w.heap.size=w1.heap.size:=(by omega);have hn3:¬w1.heap.size=w.heap.size+1:=(by omega);have hn4:¬w.heap.size+1=w1.heap.size:=(by omega))
 go_region_with (first | (go_at_call 82;refine(JjO _ rs _ HRU.out (JhQ HRD.out hBF.drew (nlr _)) HRL.out).mono ?_;rintro e w2 ⟨v2,rfl,⟨p2,c2',rfl,hig⟩,hb2⟩;clear hig;have k2:=JcP (W:=(w1.alloc (.cells #[.int .i64 0,.int .i64 (-1)] 28)).drew) (JcP KZ.out (brf _ _).drew) hb2;obtain⟨⟨C0,C1,C2,C3⟩,⟨D0,D1,D2,D3⟩,⟨F0,F1⟩,⟨G0,G1⟩⟩:=k2;have e0:w2.cell? ⟨w1.heap.size,0,none⟩=some (.int .i64 0):=(hb2.cell (p:=⟨w1.heap.size,0,none⟩) (by simp)).trans (by simp[go_sem]);have e1:w2.cell? ⟨w1.heap.size,1,none⟩=some (.int .i64 (-1)):=(hb2.cell (p:=⟨w1.heap.size,1,none⟩) (by simp)).trans (by simp[go_sem])) | (go_at_call 83;refine(cC _).mono ?_;rintro e wx ⟨rfl,hwx⟩;obtain rfl:=hwx.symm))
 all_goals
  go_wp2;refine bodyPost_ret (v:=.tuple #[.agg #[.int .i64 s.size,.int .i64 (JbA rs).length,.int .i64 n,.int .i64 CB],.agg #[.int .i64 0,.int .i64 (-1)]]) (by simp[results,Tryz.results12,go_sem,C0,C1,C2,C3,F0,F1]) rfl ?_;have hle:w.heap.size<=w1.heap.size:=by omega
  have hBw:Below w.heap.size w w2:=((Jmb hb1).alloc hle _).drew.trans (hb2.mono (by simp;omega));exact⟨Jmc hBw,rfl⟩
end
section
theorem JpU(rs:List Nat):sum1 (wide rs)=((encs rs).length:Int):=by
 induction rs with
 | nil=>rfl
 | cons r rs ih =>
  have e:sum1 (wide (r :: rs))=((enc r).length:Int)+sum1 (wide rs):=by simp[sum1,wide]
  rw[e,ih,Jco,List.length_append]
  push_cast
  rfl
theorem JkL(rs:List Nat):sum2 (wide rs)=((JbA rs).length:Int):=by
 induction rs with
 | nil=>rfl
 | cons r rs ih =>
  have e:sum2 (wide (r :: rs))=cH r+sum2 (wide rs):=by simp[sum2,wide]
  have e2:JbA (r :: rs)=Jbj r++JbA rs:=by simp[JbA]
  have e3:((Jbj r).length:Int)=cH r:=by
   unfold Jbj hal cH
   split<;>simp
  rw[e,ih,e2,List.length_append,←e3]
  push_cast
  rfl
theorem Jra{r:Nat}(hr:Jas r):((enc r).count 10:Int)=cL r:=by
 unfold Jas at hr;have ne:∀n:Nat,n<256->n≠10->(n.toUInt8==(10:UInt8))=false:=by
  intro n h1 h2;rw[beq_eq_false_iff_ne];intro e;have:=congrArg UInt8.toNat e;rw[toU8 h1]at this;exact h2 this
 unfold cL
 by_cases h1:r<=127
 . rw[enc1 h1]
   by_cases h:r=10
   . subst h;rfl
   . rw[if_neg h,List.count_cons,ne r (by omega) h];rfl
 rw[if_neg (by omega)]
 by_cases h2:r<=2047
 . rw[enc2 (by omega) h2,List.count_cons,List.count_cons,ne _ (by omega) (by omega),ne _ (by omega) (by omega)];rfl
 by_cases h3:r<=65535
 . rw[enc3 (by omega),List.count_cons,List.count_cons,List.count_cons,ne _ (by omega) (by omega),ne _ (by omega) (by omega),ne _ (by omega) (by omega)];rfl
 . rw[enc4 (by omega) (by omega),List.count_cons,List.count_cons,List.count_cons,List.count_cons,ne _ (by omega) (by omega),ne _ (by omega) (by omega),ne _ (by omega) (by omega),ne _ (by omega) (by omega)];rfl
theorem JkK{rs:List Nat}(h:∀r∈rs,Jas r):sum4 (wide rs)=(Lib.countByte (encs rs) 10:Int):=by
 unfold Lib.countByte
 induction rs with
 | nil=>rfl
 | cons r rs ih =>
  have e:sum4 (wide (r :: rs))=cL r+sum4 (wide rs):=by simp[sum4,wide]
  rw[e,ih fun x hx=>h x (by simp[hx]),Jco,List.count_append,←Jra (h r (by simp))]
  push_cast
  rfl
end
section
open Go.RowKit
/-! ### What runes count -/
def C1 (rs:List Nat):Int:=sum1 (wide rs)
def C2 (rs:List Nat):Int:=sum2 (wide rs)
def C3 (rs:List Nat):Int:=rs.length
def C4 (rs:List Nat):Int:=sum4 (wide rs)
theorem JdG(a b:List Nat):wide (a++b)=wide a++wide b:=by simp[wide]
theorem Jcg(a b:List Nat):C1 (a++b)=C1 a+C1 b:=by unfold C1 sum1;rw[JdG,List.map_append,List.sum_append]
theorem Jmn(a b:List Nat):C2 (a++b)=C2 a+C2 b:=by unfold C2 sum2;rw[JdG,List.map_append,List.sum_append]
theorem Jml(a b:List Nat):C3 (a++b)=C3 a+C3 b:=by unfold C3;rw[List.length_append];push_cast;rfl
theorem JrA(a b:List Nat):C4 (a++b)=C4 a+C4 b:=by unfold C4 sum4;rw[JdG,List.map_append,List.sum_append]
theorem Jcf(rs:List Nat):C1 rs=(encs rs).length:=JpU rs
theorem JiG(rs:List Nat):0<=C3 rs/\C3 rs<=C1 rs:=by
 have:=JeN rs;rw[Jcf];unfold C3;omega
theorem C4_le(rs:List Nat):0<=C4 rs/\C4 rs<=C1 rs:=by
 have h:=JjA (wide rs);have h3:=JiG rs;have e:(wide rs).length=rs.length:=by simp[wide]
 rw[e]at h;unfold C4;unfold C3 at h3;omega
theorem Jmm(rs:List Nat):0<=C2 rs/\C2 rs<=2*C1 rs:=by
 have h:=JjB (wide rs);have h3:=JiG rs;have e:(wide rs).length=rs.length:=by simp[wide]
 rw[e]at h;unfold C2;unfold C3 at h3;omega
def Ja1 (rs:List Nat):ByteArray:=⟨(encs rs).toArray⟩
theorem Jej(rs:List Nat):(Ja1 rs).size=(encs rs).length:=by simp[Ja1,ByteArray.size]
theorem Jek(rs:List Nat):(Ja1 rs).data.toList=encs rs:=rfl
inductive T where
 | nil
 | node (l:T) (rs:List Nat) (r:T)
def T.size:T->Nat
 | .nil=>0
 | .node l _ r=>1+l.size+r.size
theorem Jb9{W W':World}(hb:Below W.heap.size W W'){b o:Nat}{v:Value}(h:W.cell? ⟨b,o,none⟩=some v):W'.cell? ⟨b,o,none⟩=some v :=
 (hb.cell (p:=⟨b,o,none⟩) (blt W _ h)).trans h
end
section
theorem JdY(rs:List Nat):0<=C1 rs:=by rw[Jcf];omega
end
end Go.Proofs.YtedgnlgjmnccgabGreatDoor
