/-
  A part of the texts that the proof uses.
-/
import Derived.Test.YtedgnlgjmnccgabGreatDoorPartA
import Derived.Lib.AppendStr
import Derived.Laws.OwnMore
import Derived.Maps.AppendAt
import Derived.Laws.EntriesVeiled
import Derived.Deep.RegionWith
import Derived.Shelf.Unicode.ValidAny
import Derived.Test.YtedgnlgjmnccgabGreatDoorProg
import Derived.WalkKit
import Derived.WalkSpells
import Derived.WalkLawsBesides
import Derived.LaidEql
import Derived.Stop.Asserts
import Derived.RowKitTokens
import Derived.Deep.QuietTactic
import Derived.BigQuiet
set_option maxRecDepth 100000
set_option maxHeartbeats 40000000
set_option linter.unusedVariables false
namespace Go.Proofs.YtedgnlgjmnccgabGreatDoor
section
open Go.RowKit
variable {w w' w1 : World}{B e n M a b c : Nat}{v v' : Value}{xs : List Value}{o : Obj}{s : NSt}{p : Option Addr}
def Jas (p:Pt):List Value:=[.int .i64 p.keep,.int .i64 p.drop,.string ⟨p.put.toArray⟩]
def Jag (l:List Pt):List Value:=l.flatMap Jas
theorem Jbh(l:List Pt)(p:Pt):Jag (l++[p])=Jag l++Jas p:=by simp[Jag]
theorem Jdr(l:List Pt):(Jag l).length=l.length*3:=by
 induction l with
 | nil=>rfl
 | cons p l ih =>
  have:Jag (p :: l)=Jas p++Jag l:=rfl;rw[this,List.length_append,ih,List.length_cons];show 3+_=_;omega
theorem JaD(p:Pt):∀u∈Jas p,u.oneCell'=true:=by
 intro u hu;simp only[Jas,List.mem_cons,List.not_mem_nil,or_false]at hu
 rcases hu with rfl|rfl|rfl<;>rfl
theorem JdB(w:World)(l:List Value)(t:TypeId):∀j u,l[j]?=some u->(w.alloc (.cells l.toArray t)).cell? ((⟨w.heap.size,0,none⟩:Addr).add j)=some u:=by
 intro j u hj;obtain⟨hl,rfl⟩:=List.getElem?_eq_some_iff.1 hj;rw[Addr.add_lit,Nat.zero_add];simp
theorem JjF(w:World)(a:Addr)(x:Value)(l:List Value)(t:TypeId):∀j u,l[j]?=some u->((w.setCell a x).alloc (.cells l.toArray t)).cell? ((⟨w.heap.size,0,none⟩:Addr).add j)=some u:=by
 have h:=JdB (w.setCell a x) l t;rwa[show(w.setCell a x).heap.size=w.heap.size by simp]at h
theorem JbT:(Tryz.prog.info? 50).map (fun i=>(i.zero,i.size,i.bytes))=some (some (.agg #[.int .i64 0,.int .i64 0,.string ⟨#[]⟩]),3,32):=by kernel_rfl
theorem Jh7:(Tryz.prog.info? 5).map (fun i=>(i.zero,i.size,i.bytes))=some (some (.int .u8 0),1,1):=by kernel_rfl
theorem Jpf{B' e' size size' n':Nat}{xs':List Value}(h:w.ownsRow B e size v n xs)(h':w.ownsRow B' e' size' v' n' xs')(hne:e≠e'):v.ownBlock=none\/v.ownBlock≠v'.ownBlock:=by
 rcases h.2 with ⟨rfl,_⟩|⟨g,cap,cur,rfl,_,hg,_⟩
 . exact .inl rfl
 . rcases h'.2 with ⟨rfl,_⟩ | ⟨g',cap',cur',rfl,_,hg',_⟩
   . exact .inr (by simp[Value.ownBlock])
   . refine .inr fun e=>?_
     simp only[Value.ownBlock,Option.some.injEq]at e;subst e;rw[hg]at hg';simp only[Option.some.injEq,Obj.cells.injEq]at hg';exact hne hg'.2.1
structure gath (M:Nat) (w:World) (a:Nat) (s:NSt):Prop where
 out:∃p c,w.cell? ⟨a,0,none⟩=some (.slice p s.out.length c)/\w.ownsRow M 50 3 (.slice p s.out.length c) s.out.length (Jag s.out)
 outF:w.frozen? ⟨a,0,none⟩=false
 put:∃p c,w.cell? ⟨a+1,0,none⟩=some (.slice p s.put.length c)/\w.ownsRow M 5 1 (.slice p s.put.length c) s.put.length (Lib.byteCells s.put)
 putF:w.frozen? ⟨a+1,0,none⟩=false
 drop:w.cell? ⟨a+2,0,none⟩=some (.int .i64 s.drop)
 dropF:w.frozen? ⟨a+2,0,none⟩=false
 tell:w.cell? ⟨a+3,0,none⟩=some (.func (.func 264) #[] #[.pointer (some ⟨a+1,0,none⟩),.pointer (some ⟨a,0,none⟩),.pointer (some ⟨a+2,0,none⟩)])
 le:a+4<=M
 top:M<=w.heap.size
def KeptG (M a:Nat) (w w':World):Prop:=∀k o,w.heap[k]?=some o->k≠a->k≠a+1->k≠a+2->(∀c fz,M<=k->o≠.cells c 5 fz)->(∀c fz,M<=k->o≠.cells c 50 fz)->w'.heap[k]?=some o
structure BelowG (M a:Nat) (w w':World):Prop where
 below:Below a w w'
 kept:KeptG M a w w'
theorem Jah{k:Nat}(h:w.heap[k]?=some o):k<w.heap.size:=by
 rcases Nat.lt_or_ge k w.heap.size with h' | h'
 . exact h'
 . rw[Array.getElem?_eq_none h']at h;cases h
theorem KeptG.refl(M a:Nat)(w:World):KeptG M a w w:=fun _ _ h _ _ _ _ _=>h
theorem KeptG.trans{x y z:World}(h:KeptG M a x y)(k:KeptG M a y z):KeptG M a x z:=fun i o hi h1 h2 h3 h4 h5=>k i o (h i o hi h1 h2 h3 h4 h5) h1 h2 h3 h4 h5
theorem KeptG.of(h:Below w.heap.size w w'):KeptG M a w w':=fun k o hk _ _ _ _ _=>(h.block k (Jah hk)).trans hk
theorem KeptG.alloc{M:Nat}{a:Nat}{w w':World}(h:KeptG M a w w')(o:Obj):KeptG M a w (w'.alloc o):=h.trans fun k o' hk _ _ _ _ _=>(heap_alloc_old w' o (Jah hk)).trans hk
theorem KeptG.set(h:KeptG M a w w'){b:Nat}(hb:b=a\/b=a+1\/b=a+2)(v:Value):KeptG M a w (w'.setCell ⟨b,0,none⟩ v) :=
 h.trans fun k o' hk h1 h2 h3 _ _=>(Below.heap_setCell _ _ _ _ (by show k≠b;omega)).trans hk
theorem KeptG.grown{size:Nat}{w2:World}(h:KeptG M a w w1)(hr:w1.ownsRow M e size v n xs)(he:e=5\/e=50)(hg:w1.grownBy w2 v.ownBlock):KeptG M a w w2:=by
 refine h.trans fun k o hk _ _ _ h4 h5=>?_
 refine(hg.block k (Jah hk) ?_).trans hk;intro e';obtain⟨_,hrow⟩:=hr
 rcases hrow with ⟨hx,_⟩|⟨g,cap,cur,rfl,hge,hgg,_⟩
 . rw[hx]at e';cases e'
 . have e2:some k=some g:=e'
   obtain rfl:=osi e2;rw[hk]at hgg
   rcases he with rfl|rfl
   . exact h4 _ _ hge (osi hgg)
   . exact h5 _ _ hge (osi hgg)
theorem BelowG.size{M:Nat}{a:Nat}{w w':World}(h:BelowG M a w w'):w.heap.size<=w'.heap.size:=h.below.size
theorem BelowG.refl{M:Nat}(a:Nat)(w:World):BelowG M a w w:=⟨.refl a w,.refl M a w⟩
theorem BelowG.trans{M:Nat}{a:Nat}{x y z:World}(h:BelowG M a x y)(k:BelowG M a y z):BelowG M a x z:=⟨h.below.trans k.below,h.kept.trans k.kept⟩
theorem BelowG.of{M:Nat}{a:Nat}{w w':World}(h:Below w.heap.size w w')(ha:a<=w.heap.size):BelowG M a w w':=⟨h.mono ha,.of h⟩
theorem BelowG.drew{M:Nat}{a:Nat}{w w':World}(h:BelowG M a w w'):BelowG M a w w'.drew:=⟨h.below.drew,h.kept⟩
theorem Jb4(h:gath M w a s):a+3<w.heap.size:=blt w _ h.tell
theorem Jbw(h:gath M w a s)(hb:Below w.heap.size w w'):gath M w' a s:=by
 have hM:=h.le;have hT:=h.top;have hlt:=Jb4 h;obtain⟨⟨p,c,h1,h2⟩,h3,⟨p',c',h4,h5⟩,h6,h7,h8,h9⟩:=h
 exact ⟨⟨p,c,(hb.cell (p:=⟨a,0,none⟩) (by show a<_;omega)).trans h1,Jaj h2 hb⟩,(hb.frozen (p:=⟨a,0,none⟩) (by show a<_;omega)).trans h3,
  ⟨p',c',(hb.cell (p:=⟨a+1,0,none⟩) (by show a+1<_;omega)).trans h4,Jaj h5 hb⟩,(hb.frozen (p:=⟨a+1,0,none⟩) (by show a+1<_;omega)).trans h6,
  (hb.cell (p:=⟨a+2,0,none⟩) (by show a+2<_;omega)).trans h7,(hb.frozen (p:=⟨a+2,0,none⟩) (by show a+2<_;omega)).trans h8,(hb.cell (p:=⟨a+3,0,none⟩) (by show a+3<_;omega)).trans h9,hM,Nat.le_trans hT hb.size⟩
theorem Jel{size:Nat}(h:w.ownsRow B e size v n xs)(hb:b<B)(u:Value):(w.setCell ⟨b,0,none⟩ u).ownsRow B e size v n xs:=by
 obtain⟨h0,hrow⟩:=h;refine⟨h0,?_⟩
 rcases hrow with hn|⟨g,cap,cur,rfl,hg,hgg,rest⟩
 . exact .inl hn
 . exact .inr ⟨g,cap,cur,rfl,hg,(Below.heap_setCell _ _ _ _ (by show g≠b;omega)).trans hgg,rest⟩
theorem Jaz{b' o:Nat}(h:b'≠b)(u:Value):(w.setCell ⟨b,0,none⟩ u).cell? ⟨b',o,none⟩=w.cell? ⟨b',o,none⟩:=by
 unfold World.cell?;rw[Below.heap_setCell _ _ _ _ (by show b'≠b;exact h)]
def spare (w:World) (a b:Nat):Prop:=b<w.heap.size/\a+3<b/\∀v,w.cell? ⟨a,0,none⟩=some v->v.ownBlock≠some b
theorem JeP(hc:w.cell? ⟨a,0,none⟩=some v)(hc1:(w1.cell? ⟨a,0,none⟩).isSome=true)(hg:(w.alloc o).grownBy w1 v.ownBlock)(hat:v'.ownBlock=v.ownBlock\/∃k,v'.ownBlock=some k/\w.heap.size<=k)(h:spare w a b) :
    spare (w1.setCell ⟨a,0,none⟩ v') a b/\(w1.setCell ⟨a,0,none⟩ v').heap[b]?=w.heap[b]?:=by
 obtain⟨h1,h2,h3⟩:=h;have hne:=h3 v hc;have hs:=hg.size;rw[wsa]at hs;refine⟨⟨by simp;omega,h2,?_⟩,?_⟩
 . intro u hu
   obtain⟨v0,hv0⟩:=Option.isSome_iff_exists.1 hc1;rw[World.cell?_setCell_same _ _ _ hv0]at hu;obtain rfl:=osi hu
   rcases hat with e|⟨k,e,hk⟩
   . rw[e];exact hne
   . rw[e]
     intro e;have:=osi e;omega
 . rw[Below.heap_setCell _ _ _ _ (by show b≠a;omega),hg.block b (by rw[wsa];omega) (fun e=>hne e.symm)]
   exact heap_alloc_old w o h1
theorem JcU(h:spare w a b)(hc:c≠a)(hb:c≠b)(u:Value):spare (w.setCell ⟨c,0,none⟩ u) a b/\(w.setCell ⟨c,0,none⟩ u).heap[b]?=w.heap[b]?:=by
 obtain⟨h1,h2,h3⟩:=h;refine⟨⟨by simpa using h1,h2,fun v hv=>h3 v ?_⟩,Below.heap_setCell _ _ _ _ (by show b≠c;omega)⟩;rwa[Jaz (by omega)]at hv
theorem JdW{q:Pt}(h:gath M w a s)(hc:w.cell? ⟨a,0,none⟩=some (.slice p s.out.length c))
    (hown1:w1.ownsRow M 50 3 v' (s.out.length+1) (Jag s.out++Jas q)) (hg:(w.alloc o).grownBy w1 (Value.slice p s.out.length c).ownBlock) :
    gath M (w1.setCell ⟨a,0,none⟩ v') a ⟨s.out++[q],s.put,s.drop⟩/\BelowG M a w (w1.setCell ⟨a,0,none⟩ v')/\w1.cell? ⟨a,0,none⟩=some (.slice p s.out.length c)/\w1.frozen? ⟨a,0,none⟩=false:=by
 have hM:=h.le;have hT:=h.top;have hlt:=Jb4 h;obtain⟨⟨p1,c1,h1,h2⟩,h3,⟨p',c',h4,h5⟩,h6,h7,h8,h9⟩:=h;rw[hc]at h1;simp only[Option.some.injEq,Value.slice.injEq,true_and]at h1;obtain⟨rfl,rfl⟩:=h1;have hrow:∀k,(Value.slice p s.out.length c).ownBlock=some k->a+4<=k:=fun k hk=>Nat.le_trans hM (h2.lt k hk).1
 have hb1:Below (a+4) w w1:=((brf (a+4) w).alloc (by omega) o).grown hg (by rw[wsa];omega) hrow;have hc1:w1.cell? ⟨a,0,none⟩=some (.slice p s.out.length c):=by rw[hb1.cell (p:=⟨a,0,none⟩) (by show a<_;omega)];exact hc
 have hf1:w1.frozen? ⟨a,0,none⟩=false:=by rw[hb1.frozen (p:=⟨a,0,none⟩) (by show a<_;omega)];exact h3
 have h5':=(h5.alloc o).kept hg (Jpf (h5.alloc o) (h2.alloc o) (by decide));obtain⟨pv,cv,rfl⟩:=Jad hown1;refine⟨⟨⟨pv,cv,?_,?_⟩,?_,⟨p',c',?_,?_⟩,?_,?_,?_,?_,hM,(by have:=hb1.size;simp;omega)⟩,⟨(hb1.mono (show a<=a+4 by omega)).setCell (nlr _) _,(((KeptG.refl M a w).alloc o).grown (h2.alloc o) (.inr rfl) hg).set (.inl rfl) _⟩,hc1,hf1⟩
 . show _=some (Value.slice pv (s.out++[q]).length cv)
   rw[List.length_append];exact World.cell?_setCell_same _ _ _ hc1
 . show World.ownsRow _ _ _ _ (.slice pv (s.out++[q]).length cv) (s.out++[q]).length (Jag (s.out++[q]))
   rw[List.length_append,Jbh];exact Jel hown1 (by omega) _
 . rw[World.frozen?_setCell];exact hf1
 . rw[Jaz (by omega)];exact(hb1.cell (p:=⟨a+1,0,none⟩) (by show a+1<_;omega)).trans h4
 . exact Jel h5' (by omega) _
 . rw[World.frozen?_setCell];exact(hb1.frozen (p:=⟨a+1,0,none⟩) (by show a+1<_;omega)).trans h6
 . rw[Jaz (by omega)];exact(hb1.cell (p:=⟨a+2,0,none⟩) (by show a+2<_;omega)).trans h7
 . rw[World.frozen?_setCell];exact(hb1.frozen (p:=⟨a+2,0,none⟩) (by show a+2<_;omega)).trans h8
 . rw[Jaz (by omega)];exact(hb1.cell (p:=⟨a+3,0,none⟩) (by show a+3<_;omega)).trans h9
theorem JfH{q:List UInt8}(h:gath M w a s)(hc:w.cell? ⟨a+1,0,none⟩=some (.slice p s.put.length c))
    (hown1:w1.ownsRow M 5 1 v' (s.put.length+q.length) (Lib.byteCells s.put++Lib.byteCells q)) (hg:w.grownBy w1 (Value.slice p s.put.length c).ownBlock) :
    gath M (w1.setCell ⟨a+1,0,none⟩ v') a ⟨s.out,s.put++q,s.drop⟩/\BelowG M a w (w1.setCell ⟨a+1,0,none⟩ v')/\w1.cell? ⟨a+1,0,none⟩=some (.slice p s.put.length c)/\w1.frozen? ⟨a+1,0,none⟩=false:=by
 have hM:=h.le;have hT:=h.top;have hlt:=Jb4 h;obtain⟨⟨p',c',h4,h5⟩,h6,⟨p1,c1,h1,h2⟩,h3,h7,h8,h9⟩:=h;rw[hc]at h1;simp only[Option.some.injEq,Value.slice.injEq,true_and]at h1;obtain⟨rfl,rfl⟩:=h1;have hrow:∀k,(Value.slice p s.put.length c).ownBlock=some k->a+4<=k:=fun k hk=>Nat.le_trans hM (h2.lt k hk).1
 have hb1:Below (a+4) w w1:=(brf (a+4) w).grown hg (by omega) hrow;have hc1:w1.cell? ⟨a+1,0,none⟩=some (.slice p s.put.length c):=by rw[hb1.cell (p:=⟨a+1,0,none⟩) (by show a+1<_;omega)];exact hc
 have hf1:w1.frozen? ⟨a+1,0,none⟩=false:=by rw[hb1.frozen (p:=⟨a+1,0,none⟩) (by show a+1<_;omega)];exact h3
 have h5':=h5.kept hg (Jpf h5 h2 (by decide));obtain⟨pv,cv,rfl⟩:=Jad hown1;refine⟨⟨⟨p',c',?_,?_⟩,?_,⟨pv,cv,?_,?_⟩,?_,?_,?_,?_,hM,(by have:=hb1.size;simp;omega)⟩,⟨(hb1.mono (show a<=a+4 by omega)).setCell (by show a<=a+1;omega) _,((KeptG.refl M a w).grown h2 (.inl rfl) hg).set (.inr (.inl rfl)) _⟩,hc1,hf1⟩
 . rw[Jaz (by omega)];exact(hb1.cell (p:=⟨a,0,none⟩) (by show a<_;omega)).trans h4
 . exact Jel h5' (by omega) _
 . rw[World.frozen?_setCell];exact(hb1.frozen (p:=⟨a,0,none⟩) (by show a<_;omega)).trans h6
 . show _=some (Value.slice pv (s.put++q).length cv)
   rw[List.length_append];exact World.cell?_setCell_same _ _ _ hc1
 . show World.ownsRow _ _ _ _ (.slice pv (s.put++q).length cv) (s.put++q).length (Lib.byteCells (s.put++q))
   rw[List.length_append,Lib.byteCells_append];exact Jel hown1 (by omega) _
 . rw[World.frozen?_setCell];exact hf1
 . rw[Jaz (by omega)];exact(hb1.cell (p:=⟨a+2,0,none⟩) (by show a+2<_;omega)).trans h7
 . rw[World.frozen?_setCell];exact(hb1.frozen (p:=⟨a+2,0,none⟩) (by show a+2<_;omega)).trans h8
 . rw[Jaz (by omega)];exact(hb1.cell (p:=⟨a+3,0,none⟩) (by show a+3<_;omega)).trans h9
theorem Jda(h:gath M w a s)(d:Int):gath M (w.setCell ⟨a+2,0,none⟩ (.int .i64 d)) a ⟨s.out,s.put,d⟩/\BelowG M a w (w.setCell ⟨a+2,0,none⟩ (.int .i64 d)):=by
 have hM:=h.le;have hT:=h.top;have hlt:=Jb4 h;obtain⟨⟨p,c,h1,h2⟩,h3,⟨p',c',h4,h5⟩,h6,h7,h8,h9⟩:=h;refine⟨⟨⟨p,c,?_,Jel h2 (by omega) _⟩,?_,⟨p',c',?_,Jel h5 (by omega) _⟩,?_,World.cell?_setCell_same _ _ _ h7,?_,?_,hM,(by simp;omega)⟩,⟨(brf a w).setCell (by show a<=a+2;omega) _,(KeptG.refl M a w).set (.inr (.inr rfl)) _⟩⟩
 . rw[Jaz (by omega)];exact h1
 . rw[World.frozen?_setCell];exact h3
 . rw[Jaz (by omega)];exact h4
 . rw[World.frozen?_setCell];exact h6
 . rw[World.frozen?_setCell];exact h8
 . rw[Jaz (by omega)];exact h9
theorem JfI(h:gath M w a s)(hc:w.cell? ⟨a+1,0,none⟩=some (.slice p s.put.length c)) :
    gath M (w.setCell ⟨a+1,0,none⟩ (.slice p 0 c)) a ⟨s.out,[],s.drop⟩/\BelowG M a w (w.setCell ⟨a+1,0,none⟩ (.slice p 0 c)):=by
 have hM:=h.le;have hT:=h.top;have hlt:=Jb4 h;obtain⟨⟨p',c',h4,h5⟩,h6,⟨p1,c1,h1,h2⟩,h3,h7,h8,h9⟩:=h;have hc':=hc;rw[hc]at h1;simp only[Option.some.injEq,Value.slice.injEq,true_and]at h1;obtain⟨rfl,rfl⟩:=h1
 have h2':w.ownsRow M 5 1 (.slice p 0 c) 0 []:=by
  obtain⟨_,hrow⟩:=h2;refine⟨rfl,?_⟩
  rcases hrow with ⟨hn,h0⟩|⟨g,cap,cur,hv,hg,hgg,hnc,rest⟩
  . simp only[Value.slice.injEq]at hn
    obtain⟨rfl,_,rfl⟩:=hn;exact .inl ⟨rfl,rfl⟩
  . simp only[Value.slice.injEq,true_and]at hv
    obtain⟨rfl,rfl⟩:=hv;exact .inr ⟨g,c,cur,rfl,hg,hgg,Nat.zero_le _,rest.1,rest.2.1,by simp⟩
 refine⟨⟨⟨p',c',?_,Jel h5 (by omega) _⟩,?_,⟨p,c,World.cell?_setCell_same _ _ _ hc',Jel h2' (by omega) _⟩,?_,?_,?_,?_,hM,(by simp;omega)⟩,⟨(brf a w).setCell (by show a<=a+1;omega) _,(KeptG.refl M a w).set (.inr (.inl rfl)) _⟩⟩
 . rw[Jaz (by omega)];exact h4
 . rw[World.frozen?_setCell];exact h6
 . rw[World.frozen?_setCell];exact h3
 . rw[Jaz (by omega)];exact h7
 . rw[World.frozen?_setCell];exact h8
 . rw[Jaz (by omega)];exact h9
end
section
open Go.RowKit
variable {M : Nat}
theorem JeU(w:World):Calls Tryz.prog 222 #[] w fun e w'=>e=.returned (.tuple #[.func (.func 265) #[] #[.pointer (some ⟨w.heap.size+1,0,none⟩),.pointer (some ⟨w.heap.size+2,0,none⟩),.pointer (some ⟨w.heap.size+3,0,none⟩),.pointer (some ⟨w.heap.size,0,none⟩)],
      .func (.func 266) #[] #[.pointer (some ⟨w.heap.size+3,0,none⟩),.pointer (some ⟨w.heap.size,0,none⟩)]])/\(∀M w2,Below w'.heap.size w' w2->w.heap.size+4<=M->M<=w2.heap.size->gath M w2 w.heap.size nst0)/\w'.heap.size=w.heap.size+4/\Below w.heap.size w w':=by
 go_enter Tryz.func222,Tryz.ntmps222
 go_wp2
 go_ret2
 refine⟨rfl,fun M w2 hb hM hT=>?_,by simp[World.size_alloc],?_⟩
 . have hs:=hb.size
   simp only[World.size_alloc]at hs;have hlt:∀k,k<4->w.heap.size+k<w.heap.size+1+1+1+1:=fun k hk=>by omega
   refine⟨⟨none,0,(hb.cell (by simp only[World.size_alloc];omega)).trans (by simp[go_sem,nst0]),World.ownsRow_nil _ _ _ _⟩,(hb.frozen (by simp only[World.size_alloc];omega)).trans (by simp[go_sem]),⟨none,0,(hb.cell (by simp only[World.size_alloc];omega)).trans (by simp[go_sem,nst0]),World.ownsRow_nil _ _ _ _⟩,(hb.frozen (by simp only[World.size_alloc];omega)).trans (by simp[go_sem]),(hb.cell (by simp only[World.size_alloc];omega)).trans (by simp[go_sem,nst0]),(hb.frozen (by simp only[World.size_alloc];omega)).trans (by simp[go_sem]),(hb.cell (by simp only[World.size_alloc];omega)).trans (by simp[go_sem]),hM,hT⟩
 have b1:=(brf w.heap.size w).alloc (nlr _) (.cells #[.slice none 0 0] 23);have b2:=b1.alloc b1.size (.cells #[.slice none 0 0] 158);have b3:=b2.alloc b2.size (.cells #[.int .i64 0] 3);exact b3.alloc b3.size _
theorem JgW(p:Option Addr)(n c:Nat)(w:World):(Instr.sliceAt 158 (.slice p n c) none (some (.int .i64 0)) none).run Tryz.prog w=.ok (.slice p 0 c) w:=by
 have h:(if c=0 then p else Option.map (fun x=>x.add 0) p)=p:=by
  cases p<;>simp[Addr.add]
 have:=run_sliceAt_slice (P:=Tryz.prog) w 158 (.slice p n c) none (some (.int .i64 0)) none (by kernel_rfl);rw[this];have h2:=run_slice_h (P:=Tryz.prog) w 158 p n c (by kernel_rfl) .i64 0 (by omega) (by omega);rw[h2];have h3:(sizeOf (Tryz.prog.elem 158)).run Tryz.prog w=.ok 1 w:=by kernel_rfl
 rw[h3];simp only[Result.andThen,sliced,Int.toNat_zero,Nat.zero_mul,Nat.sub_zero];rw[h]
theorem tell_oo(a:Nat)(s:NSt)(w:World)(h:gath M w a s)(hlen:s.out.length<1000000000)(hput:s.put.length<1000000000)(hp:s.put=[])(hd:s.drop=0) :
    Calls Tryz.prog 264 #[.pointer (some ⟨a+1,0,none⟩),.pointer (some ⟨a,0,none⟩),.pointer (some ⟨a+2,0,none⟩)] w fun e w'=>(∃v,e=.returned v)/\gath M w' a ⟨s.out,[],0⟩/\BelowG M a w w'/\∀b,spare w a b->w'.heap[b]?=w.heap[b]?:=by
 have hM:=h.le;have hT:=h.top;obtain⟨i0,hi,hz0,hz1,hz2⟩:=info_parts JbT;have hcut:=JgW;have hlt:=Jb4 h;have H0:Hid (gath M w a s):=h;obtain⟨⟨p,c,h1,h2⟩,h3,⟨p',c',h4,h5⟩,h6,h7,h8,h9⟩:=h;have hpl:¬(0:Int)<(s.put.length:Int):=by rw[hp];simp
 have hdb:(s.drop==0)=true:=beq_iff_eq.2 hd;clear h2 h5 h9 hp
 go_enter Tryz.func264,Tryz.ntmps264
 have HK0:Hid (w.cell? ⟨a+1,0,none⟩=some (.slice p' s.put.length c')):=h4;go_wp2;go_end0;have F1:=JfI H0.out HK0.out;have F2:=Jda F1.1 0;refine⟨⟨_,rfl⟩,F2.1,F1.2.trans F2.2,fun b hb=>?_⟩;have hb0:=hb.2.1;have e0:w.heap[b]?=w.heap[b]?:=rfl;have s0:=hb;have e1:=e0;have s1:=s0;have e2:=e1;have s2:=s1;have s3:=JcU s2 (c:=a+1) (by omega) (by omega) (.slice p' 0 c');exact((JcU s3.1 (c:=a+2) (by omega) (by omega) (.int .i64 0)).2.trans s3.2).trans e2
theorem tell_od(a:Nat)(s:NSt)(w:World)(h:gath M w a s)(hlen:s.out.length<1000000000)(hput:s.put.length<1000000000)(hp:s.put=[])(hd:s.drop≠0) :
    Calls Tryz.prog 264 #[.pointer (some ⟨a+1,0,none⟩),.pointer (some ⟨a,0,none⟩),.pointer (some ⟨a+2,0,none⟩)] w fun e w'=>(∃v,e=.returned v)/\gath M w' a ⟨s.out++[⟨0,s.drop,[]⟩],[],0⟩/\BelowG M a w w'/\∀b,spare w a b->w'.heap[b]?=w.heap[b]?:=by
 have hM:=h.le;have hT:=h.top;obtain⟨i0,hi,hz0,hz1,hz2⟩:=info_parts JbT;have hcut:=JgW;have hlt:=Jb4 h;have H0:Hid (gath M w a s):=h;obtain⟨⟨p,c,h1,h2⟩,h3,⟨p',c',h4,h5⟩,h6,h7,h8,h9⟩:=h;have HO:Hid (w.ownsRow M 50 3 (.slice p s.out.length c) s.out.length (Jag s.out)):=h2;have HC:Hid (w.cell? ⟨a,0,none⟩=some (.slice p s.out.length c)):=h1;have hpl:¬(0:Int)<(s.put.length:Int):=by rw[hp];simp
 have hdb:(s.drop==0)=false:=beq_eq_false_iff_ne.2 hd;clear h2 h5 h9 hp
 go_enter Tryz.func264,Tryz.ntmps264
 go_wp2_with (first | (at_builtin;refine wpList_append_own_at _ rfl _ _ 23 rfl M 50 i0 (.agg #[.int .i64 0,.int .i64 0,.string ⟨#[]⟩]) 3 32 Tryz.underlying23 hi hz0 hz1 hz2 rfl (by decide) _ _ _ rfl (HO.out.alloc _) ⟨w.heap.size,0,none⟩ 1 1 (Jas ⟨0,s.drop,[]⟩) rfl rfl (JdB _ _ _) (JaD _) (by unfold maxLen;omega) (by omega) (by first | omega | (simp;omega)) ?_) | fail)
 intro v2 w2 hown2 hg2 _ hat2;have P2:=JdW (q:=⟨0,s.drop,[]⟩) H0.out HC.out hown2 hg2;have hb2:Below (a+4) w w2:=((brf (a+4) w).alloc (by omega) _).grown hg2 (by rw[wsa];omega) fun k hk=>Nat.le_trans hM (HO.out.lt k hk).1
 have z4:=h4;have z6:=h6;have z7:=h7;have z8:=h8;obtain⟨p2,q2,hv2⟩:=Jad hown2;rw[hv2]at P2 ⊢;rw[hv2]at hat2;obtain⟨G2,B2,t1,t2⟩:=P2;have HS2:Hid (∀b,spare (w) a b->spare (w2.setCell ⟨a,0,none⟩ (.slice p2 (s.out.length+1) q2)) a b/\(w2.setCell ⟨a,0,none⟩ (.slice p2 (s.out.length+1) q2)).heap[b]?=(w).heap[b]?):=fun b hb=>JeP HC.out (by rw[t1];rfl) hg2 (hat2.imp id fun e=>⟨_,e,by simp⟩) hb
 clear hat2;have HG2:Hid (gath M _ a ⟨s.out++[⟨0,s.drop,[]⟩],s.put,s.drop⟩):=G2;have HB2:Hid (BelowG M a _ _):=B2;have y4:=(hb2.cell (p:=⟨a+1,0,none⟩) (by show a+1<_;omega)).trans z4;have y6:=(hb2.frozen (p:=⟨a+1,0,none⟩) (by show a+1<_;omega)).trans z6;have y7:=(hb2.cell (p:=⟨a+2,0,none⟩) (by show a+2<_;omega)).trans z7;have y8:=(hb2.frozen (p:=⟨a+2,0,none⟩) (by show a+2<_;omega)).trans z8;have hs2:=hb2.size;have HK5:Hid ((w2.setCell ⟨a,0,none⟩ (.slice p2 (s.out.length+1) q2)).cell? ⟨a+1,0,none⟩=some (.slice p' s.put.length c')):=(Jaz (by omega) _).trans y4;clear z4 z6 z7 z8 G2 B2 hown2 hg2 hb2 hv2;clear h1 h3 h4 h6 h7 h8;go_wp2;go_end0;have F1:=JfI HG2.out HK5.out;have F2:=Jda F1.1 0;refine⟨⟨_,rfl⟩,F2.1,(HB2.out).trans (F1.2.trans F2.2),fun b hb=>?_⟩;have hb0:=hb.2.1;have e0:w.heap[b]?=w.heap[b]?:=rfl;have s0:=hb;have e1:=e0;have s1:=s0;have e2:=((HS2.out b s1).2).trans e1;have s2:=(HS2.out b s1).1;have s3:=JcU s2 (c:=a+1) (by omega) (by omega) (.slice p' 0 c');exact((JcU s3.1 (c:=a+2) (by omega) (by omega) (.int .i64 0)).2.trans s3.2).trans e2
theorem tell_po(a:Nat)(s:NSt)(w:World)(h:gath M w a s)(hlen:s.out.length<1000000000)(hput:s.put.length<1000000000)(hp:s.put≠[])(hd:s.drop=0) :
    Calls Tryz.prog 264 #[.pointer (some ⟨a+1,0,none⟩),.pointer (some ⟨a,0,none⟩),.pointer (some ⟨a+2,0,none⟩)] w fun e w'=>(∃v,e=.returned v)/\gath M w' a ⟨s.out++[⟨0,0,s.put⟩],[],0⟩/\BelowG M a w w'/\∀b,spare w a b->w'.heap[b]?=w.heap[b]?:=by
 have hM:=h.le;have hT:=h.top;obtain⟨i0,hi,hz0,hz1,hz2⟩:=info_parts JbT;have hcut:=JgW;have hlt:=Jb4 h;have H0:Hid (gath M w a s):=h;obtain⟨⟨p,c,h1,h2⟩,h3,⟨p',c',h4,h5⟩,h6,h7,h8,h9⟩:=h;have HO:Hid (w.ownsRow M 50 3 (.slice p s.out.length c) s.out.length (Jag s.out)):=h2;have HC:Hid (w.cell? ⟨a,0,none⟩=some (.slice p s.out.length c)):=h1;have hpl:(0:Int)<(s.put.length:Int):=by have:=List.length_pos_iff.2 hp;omega
 have hconv:(convert 158 9 (.slice p' s.put.length c')).run Tryz.prog w=.ok (.string ⟨s.put.toArray⟩) w:=JeN rfl h5;have hdb:(s.drop==0)=true:=beq_iff_eq.2 hd;clear h2 h5 h9 hp
 go_enter Tryz.func264,Tryz.ntmps264
 go_wp2_with (first | (at_builtin;refine wpList_append_own_at _ rfl _ _ 23 rfl M 50 i0 (.agg #[.int .i64 0,.int .i64 0,.string ⟨#[]⟩]) 3 32 Tryz.underlying23 hi hz0 hz1 hz2 rfl (by decide) _ _ _ rfl (HO.out.alloc _) ⟨w.heap.size,0,none⟩ 1 1 (Jas ⟨0,0,s.put⟩) rfl rfl (JdB _ _ _) (JaD _) (by unfold maxLen;omega) (by omega) (by first | omega | (simp;omega)) ?_) | fail)
 intro v1 w1 hown1 hg1 _ hat1;have P1:=JdW (q:=⟨0,0,s.put⟩) H0.out HC.out hown1 hg1;have hb1:Below (a+4) w w1:=((brf (a+4) w).alloc (by omega) _).grown hg1 (by rw[wsa];omega) fun k hk=>Nat.le_trans hM (HO.out.lt k hk).1
 obtain⟨p1,q1,hv1⟩:=Jad hown1;rw[hv1]at P1 hown1 ⊢;rw[hv1]at hat1;obtain⟨G1,B1,r1,r2⟩:=P1;have HS1:Hid (∀b,spare w a b->spare (w1.setCell ⟨a,0,none⟩ (.slice p1 (s.out.length+1) q1)) a b/\(w1.setCell ⟨a,0,none⟩ (.slice p1 (s.out.length+1) q1)).heap[b]?=w.heap[b]?):=fun b hb=>JeP HC.out (by rw[r1];rfl) hg1 (hat1.imp id fun e=>⟨_,e,by simp⟩) hb
 clear hat1;have HG1:Hid (gath M _ a ⟨s.out++[⟨0,0,s.put⟩],s.put,s.drop⟩):=G1;have HB1:Hid (BelowG M a w _):=B1;have k4:=(hb1.cell (p:=⟨a+1,0,none⟩) (by show a+1<_;omega)).trans h4;have k6:=(hb1.frozen (p:=⟨a+1,0,none⟩) (by show a+1<_;omega)).trans h6;have k7:=(hb1.cell (p:=⟨a+2,0,none⟩) (by show a+2<_;omega)).trans h7;have k8:=(hb1.frozen (p:=⟨a+2,0,none⟩) (by show a+2<_;omega)).trans h8;have hs1:=hb1.size;have HK4:Hid ((w1.setCell ⟨a,0,none⟩ (.slice p1 (s.out.length+1) q1)).cell? ⟨a+1,0,none⟩=some (.slice p' s.put.length c')):=(Jaz (by omega) _).trans k4;clear h1 h3 h4 h6 h7 h8 G1 B1 hown1 hg1 hconv hb1 hv1;go_wp2;go_end0;have F1:=JfI HG1.out HK4.out;have F2:=Jda F1.1 0;refine⟨⟨_,rfl⟩,F2.1,(HB1.out).trans (F1.2.trans F2.2),fun b hb=>?_⟩;have hb0:=hb.2.1;have e0:w.heap[b]?=w.heap[b]?:=rfl;have s0:=hb;have e1:=(HS1.out b s0).2;have s1:=(HS1.out b s0).1;have e2:=e1;have s2:=s1;have s3:=JcU s2 (c:=a+1) (by omega) (by omega) (.slice p' 0 c');exact((JcU s3.1 (c:=a+2) (by omega) (by omega) (.int .i64 0)).2.trans s3.2).trans e2
theorem tell_pd(a:Nat)(s:NSt)(w:World)(h:gath M w a s)(hlen:s.out.length<1000000000)(hput:s.put.length<1000000000)(hp:s.put≠[])(hd:s.drop≠0) :
    Calls Tryz.prog 264 #[.pointer (some ⟨a+1,0,none⟩),.pointer (some ⟨a,0,none⟩),.pointer (some ⟨a+2,0,none⟩)] w fun e w'=>(∃v,e=.returned v)/\gath M w' a ⟨s.out++[⟨0,0,s.put⟩,⟨0,s.drop,[]⟩],[],0⟩/\BelowG M a w w'/\∀b,spare w a b->w'.heap[b]?=w.heap[b]?:=by
 have hM:=h.le;have hT:=h.top;obtain⟨i0,hi,hz0,hz1,hz2⟩:=info_parts JbT;have hcut:=JgW;have hlt:=Jb4 h;have H0:Hid (gath M w a s):=h;obtain⟨⟨p,c,h1,h2⟩,h3,⟨p',c',h4,h5⟩,h6,h7,h8,h9⟩:=h;have HO:Hid (w.ownsRow M 50 3 (.slice p s.out.length c) s.out.length (Jag s.out)):=h2;have HC:Hid (w.cell? ⟨a,0,none⟩=some (.slice p s.out.length c)):=h1;have hpl:(0:Int)<(s.put.length:Int):=by have:=List.length_pos_iff.2 hp;omega
 have hconv:(convert 158 9 (.slice p' s.put.length c')).run Tryz.prog w=.ok (.string ⟨s.put.toArray⟩) w:=JeN rfl h5;have hdb:(s.drop==0)=false:=beq_eq_false_iff_ne.2 hd;clear h2 h5 h9 hp
 go_enter Tryz.func264,Tryz.ntmps264
 go_wp2_with (first | (at_builtin;refine wpList_append_own_at _ rfl _ _ 23 rfl M 50 i0 (.agg #[.int .i64 0,.int .i64 0,.string ⟨#[]⟩]) 3 32 Tryz.underlying23 hi hz0 hz1 hz2 rfl (by decide) _ _ _ rfl (HO.out.alloc _) ⟨w.heap.size,0,none⟩ 1 1 (Jas ⟨0,0,s.put⟩) rfl rfl (JdB _ _ _) (JaD _) (by unfold maxLen;omega) (by omega) (by first | omega | (simp;omega)) ?_) | fail)
 intro v1 w1 hown1 hg1 _ hat1;have P1:=JdW (q:=⟨0,0,s.put⟩) H0.out HC.out hown1 hg1;have hb1:Below (a+4) w w1:=((brf (a+4) w).alloc (by omega) _).grown hg1 (by rw[wsa];omega) fun k hk=>Nat.le_trans hM (HO.out.lt k hk).1
 obtain⟨p1,q1,hv1⟩:=Jad hown1;rw[hv1]at P1 hown1 ⊢;rw[hv1]at hat1;obtain⟨G1,B1,r1,r2⟩:=P1;have HS1:Hid (∀b,spare w a b->spare (w1.setCell ⟨a,0,none⟩ (.slice p1 (s.out.length+1) q1)) a b/\(w1.setCell ⟨a,0,none⟩ (.slice p1 (s.out.length+1) q1)).heap[b]?=w.heap[b]?):=fun b hb=>JeP HC.out (by rw[r1];rfl) hg1 (hat1.imp id fun e=>⟨_,e,by simp⟩) hb
 clear hat1;have HG1:Hid (gath M _ a ⟨s.out++[⟨0,0,s.put⟩],s.put,s.drop⟩):=G1;have HB1:Hid (BelowG M a w _):=B1;have HO1:Hid ((w1.setCell ⟨a,0,none⟩ (.slice p1 (s.out.length+1) q1)).ownsRow M 50 3 (.slice p1 (s.out.length+1) q1) (s.out.length+1) (Jag s.out++Jas ⟨0,0,s.put⟩)):=Jel hown1 (show a<M by omega) (.slice p1 (s.out.length+1) q1);have k4:=(hb1.cell (p:=⟨a+1,0,none⟩) (by show a+1<_;omega)).trans h4;have k6:=(hb1.frozen (p:=⟨a+1,0,none⟩) (by show a+1<_;omega)).trans h6;have k7:=(hb1.cell (p:=⟨a+2,0,none⟩) (by show a+2<_;omega)).trans h7;have k8:=(hb1.frozen (p:=⟨a+2,0,none⟩) (by show a+2<_;omega)).trans h8;have hs1:=hb1.size;have HK1:Hid ((w1.setCell ⟨a,0,none⟩ (.slice p1 (s.out.length+1) q1)).cell? ⟨a,0,none⟩=some (.slice p1 (s.out.length+1) q1)):=World.cell?_setCell_same _ _ _ r1;have HK4:Hid ((w1.setCell ⟨a,0,none⟩ (.slice p1 (s.out.length+1) q1)).cell? ⟨a+1,0,none⟩=some (.slice p' s.put.length c')):=(Jaz (by omega) _).trans k4;clear h1 h3 h4 h6 h7 h8 G1 B1 hown1 hg1 hconv hb1 hv1
 go_wp2_with (first | (at_builtin;refine wpList_append_own_at _ rfl _ _ 23 rfl M 50 i0 (.agg #[.int .i64 0,.int .i64 0,.string ⟨#[]⟩]) 3 32 Tryz.underlying23 hi hz0 hz1 hz2 rfl (by decide) _ _ _ rfl (HO1.out.alloc _) ⟨w1.heap.size,0,none⟩ 1 1 (Jas ⟨0,s.drop,[]⟩) rfl rfl (JjF _ _ _ _ _) (JaD _) (by unfold maxLen;omega) (by omega) (by first | omega | (simp;omega)) ?_) | fail)
 intro v2 w2 hown2 hg2 _ hat2;have hown2':w2.ownsRow M 50 3 v2 ((s.out++[(⟨0,0,s.put⟩:Pt)]).length+1) (Jag (s.out++[(⟨0,0,s.put⟩:Pt)])++Jas ⟨0,s.drop,[]⟩):=by
  rw[Jbh,List.length_append,List.append_assoc];exact hown2
 have hls:(s.out++[(⟨0,0,s.put⟩:Pt)]).length=s.out.length+1:=by rw[List.length_append];rfl
 have HK1':(w1.setCell ⟨a,0,none⟩ (.slice p1 (s.out.length+1) q1)).cell? ⟨a,0,none⟩=some (.slice p1 (s.out++[(⟨0,0,s.put⟩:Pt)]).length q1):=by rw[hls];exact HK1.out
 have P2:=JdW (q:=⟨0,s.drop,[]⟩) HG1.out HK1' hown2' (by rw[hls];exact hg2);have hb2:Below (a+4) (w1.setCell ⟨a,0,none⟩ (.slice p1 (s.out.length+1) q1)) w2:=((brf (a+4) _).alloc (by simp;omega) _).grown hg2 (by rw[wsa];simp;omega) fun k hk=>Nat.le_trans hM (HO1.out.lt k hk).1
 have z4:=HK4.out;have z6:(w1.setCell ⟨a,0,none⟩ (.slice p1 (s.out.length+1) q1)).frozen? ⟨a+1,0,none⟩=false:=by rw[World.frozen?_setCell];exact k6
 have z7:(w1.setCell ⟨a,0,none⟩ (.slice p1 (s.out.length+1) q1)).cell? ⟨a+2,0,none⟩=some (.int .i64 s.drop):=(Jaz (by omega) _).trans k7;have z8:(w1.setCell ⟨a,0,none⟩ (.slice p1 (s.out.length+1) q1)).frozen? ⟨a+2,0,none⟩=false:=by rw[World.frozen?_setCell];exact k8
 clear HK1';obtain⟨p2,q2,hv2⟩:=Jad hown2;rw[hv2]at P2 ⊢;rw[hv2]at hat2;obtain⟨G2,B2,t1,t2⟩:=P2;have HS2:Hid (∀b,spare (w1.setCell ⟨a,0,none⟩ (.slice p1 (s.out.length+1) q1)) a b->spare (w2.setCell ⟨a,0,none⟩ (.slice p2 ((s.out.length+1)+1) q2)) a b/\(w2.setCell ⟨a,0,none⟩ (.slice p2 ((s.out.length+1)+1) q2)).heap[b]?=(w1.setCell ⟨a,0,none⟩ (.slice p1 (s.out.length+1) q1)).heap[b]?):=fun b hb=>JeP HK1.out (by rw[t1];rfl) hg2 (hat2.imp id fun e=>⟨_,e,by simp⟩) hb
 clear hat2;have HG2:Hid (gath M _ a ⟨(s.out++[⟨0,0,s.put⟩])++[⟨0,s.drop,[]⟩],s.put,s.drop⟩):=G2;have HB2:Hid (BelowG M a _ _):=B2;have y4:=(hb2.cell (p:=⟨a+1,0,none⟩) (by show a+1<_;omega)).trans z4;have y6:=(hb2.frozen (p:=⟨a+1,0,none⟩) (by show a+1<_;omega)).trans z6;have y7:=(hb2.cell (p:=⟨a+2,0,none⟩) (by show a+2<_;omega)).trans z7;have y8:=(hb2.frozen (p:=⟨a+2,0,none⟩) (by show a+2<_;omega)).trans z8;have hs2:=hb2.size;have HK5:Hid ((w2.setCell ⟨a,0,none⟩ (.slice p2 ((s.out.length+1)+1) q2)).cell? ⟨a+1,0,none⟩=some (.slice p' s.put.length c')):=(Jaz (by omega) _).trans y4;clear z4 z6 z7 z8 G2 B2 hown2 hg2 hb2 hv2;clear k4 k6 k7 k8 r1 r2;clear hown2';go_wp2;go_end0;have F1:=JfI HG2.out HK5.out;have F2:=Jda F1.1 0;have F3:=F2.1;rw[List.append_assoc]at F3;refine⟨⟨_,rfl⟩,F3,(HB1.out.trans HB2.out).trans (F1.2.trans F2.2),fun b hb=>?_⟩;have hb0:=hb.2.1;have e0:w.heap[b]?=w.heap[b]?:=rfl;have s0:=hb;have e1:=(HS1.out b s0).2;have s1:=(HS1.out b s0).1;have e2:=((HS2.out b s1).2).trans e1;have s2:=(HS2.out b s1).1;have s3:=JcU s2 (c:=a+1) (by omega) (by omega) (.slice p' 0 c');exact((JcU s3.1 (c:=a+2) (by omega) (by omega) (.int .i64 0)).2.trans s3.2).trans e2
theorem JgM(a:Nat)(s:NSt)(w:World)(h:gath M w a s)(hlen:s.out.length<1000000000)(hput:s.put.length<1000000000) :
    Calls Tryz.prog 264 #[.pointer (some ⟨a+1,0,none⟩),.pointer (some ⟨a,0,none⟩),.pointer (some ⟨a+2,0,none⟩)] w fun e w'=>(∃v,e=.returned v)/\gath M w' a ⟨JaC s,[],0⟩/\BelowG M a w w'/\∀b,spare w a b->w'.heap[b]?=w.heap[b]?:=by
 have hM:=h.le;have hT:=h.top;unfold JaC
 by_cases hp:s.put=[]
 . by_cases hd:s.drop=0
   . have:=tell_oo a s w h hlen hput hp hd
     simpa[hp,hd] using this
   . have:=tell_od a s w h hlen hput hp hd
     simpa[hp,hd] using this
 . by_cases hd:s.drop=0
   . have:=tell_po a s w h hlen hput hp hd
     simpa[hp,hd] using this
   . have:=tell_pd a s w h hlen hput hp hd
     simpa[hp,hd] using this
end
section
open Go.RowKit
variable {M g n c : Nat}{w : World}{init : List Pt}{q : Pt}
def Jay (p:Pt):Value:=.agg #[.int .i64 p.keep,.int .i64 p.drop,.string ⟨p.put.toArray⟩]
theorem JbX(p:Pt)(w:World):Calls Tryz.prog 107 #[Jay p] w fun e w'=>e=.returned (.bool (decide (0<p.keep)))/\Below w.heap.size w w':=by
 unfold Jay
 go_enter Tryz.func107,Tryz.ntmps107
 go_wp2;go_ret;exact⟨rfl,(brf _ _).alloc (nlr _) _⟩
theorem JcA(p:Pt)(w:World):Calls Tryz.prog 211 #[Jay p] w fun e w'=>e=.returned (.bool (decide (0<p.drop)))/\Below w.heap.size w w':=by
 unfold Jay
 go_enter Tryz.func211,Tryz.ntmps211
 go_wp2;go_ret;exact⟨rfl,(brf _ _).alloc (nlr _) _⟩
theorem JfL(a:Nat)(s:NSt)(w:World)(h:gath M w a s)(hlen:s.out.length<1000000000)(hput:s.put.length<1000000000) :
    Calls Tryz.prog 266 #[.pointer (some ⟨a+3,0,none⟩),.pointer (some ⟨a,0,none⟩)] w fun e w'=>∃v,e=.returned v/\w'.ownsRow M 50 3 v (JaC s).length (Jag (JaC s))/\BelowG M a w w':=by
 have hM:=h.le;have hT:=h.top;have cT:=JgM a s w h hlen hput;have h9:=h.tell;clear h
 go_enter Tryz.func266,Tryz.ntmps266
 go_wp2_with (first | (go_at_call 264;refine cT.mono ?_;rintro e w1 ⟨⟨v,rfl⟩,⟨⟨p,c,h1,h2⟩,_⟩,hb,_⟩) | fail)
 go_ret;exact⟨_,rfl,h2,hb⟩
theorem Jp6{a:Nat}(h:gath M w a ⟨init++[q],[],0⟩)(hc:w.cell? ⟨a,0,none⟩=some (.slice (some ⟨g,0,none⟩) n c))(hn:n=(init++[q]).length)(k:Int) :
    gath M (w.setCell ⟨g,init.length*3,none⟩ (.int .i64 k)) a ⟨init++[⟨k,q.drop,q.put⟩],[],0⟩/\BelowG M a w (w.setCell ⟨g,init.length*3,none⟩ (.int .i64 k)):=by
 have hM:=h.le;have hT:=h.top;subst hn;obtain⟨⟨p1,c1,h1,h2⟩,h3,⟨p',c',h4,h5⟩,h6,h7,h8,h9⟩:=h;rw[hc]at h1;simp only[Option.some.injEq,Value.slice.injEq,true_and]at h1;obtain⟨rfl,rfl⟩:=h1;have hlt:=h2.lt g rfl;obtain⟨r1,r2⟩:=h2.stored (init.length*3) (.int .i64 k);have hx:(Jag (init++[q])).set (init.length*3) (.int .i64 k)=Jag (init++[⟨k,q.drop,q.put⟩]):=by
  rw[Jbh,Jbh,List.set_append_right _ _ (by rw[Jdr];exact nlr _),Jdr,Nat.sub_self];rfl
 rw[hx]at r1;have hl:(init++[(⟨k,q.drop,q.put⟩:Pt)]).length=(init++[q]).length:=by simp
 have r3:=h5.kept r2 (Jpf h5 h2 (by decide));refine⟨⟨⟨some ⟨g,0,none⟩,c,?_,?_⟩,?_,⟨p',c',?_,r3⟩,?_,?_,?_,?_,hM,(by simp;omega)⟩,⟨(brf a w).setCell (by show a<=g;omega) _,(KeptG.refl M a w).grown h2 (.inr rfl) r2⟩⟩
 . show _=some (Value.slice _ (init++[(⟨k,q.drop,q.put⟩:Pt)]).length c)
   rw[hl];exact(World.cell?_of_block (a:=⟨a,0,none⟩) (r2.block a (by omega) (by intro e;have:=osi e;omega))).trans hc
 . show World.ownsRow _ _ _ _ (.slice _ (init++[(⟨k,q.drop,q.put⟩:Pt)]).length c) (init++[(⟨k,q.drop,q.put⟩:Pt)]).length _
   rw[hl];exact r1
 . rw[World.frozen?_setCell];exact h3
 . exact(World.cell?_of_block (a:=⟨a+1,0,none⟩) (r2.block (a+1) (by omega) (by intro e;have:=osi e;omega))).trans h4
 . rw[World.frozen?_setCell];exact h6
 . exact(World.cell?_of_block (a:=⟨a+2,0,none⟩) (r2.block (a+2) (by omega) (by intro e;have:=osi e;omega))).trans h7
 . rw[World.frozen?_setCell];exact h8
 . exact(World.cell?_of_block (a:=⟨a+3,0,none⟩) (r2.block (a+3) (by omega) (by intro e;have:=osi e;omega))).trans h9
theorem JiC{B:Nat}(h:w.ownsRow B 50 3 (.slice (some ⟨g,0,none⟩) n c) n (Jag (init++[q])))(hn:n=(init++[q]).length) :
    w.cell? ⟨g,init.length*3,none⟩=some (.int .i64 q.keep)/\w.cell? ⟨g,init.length*3+1,none⟩=some (.int .i64 q.drop)/\w.cell? ⟨g,init.length*3+2,none⟩=some (.string ⟨q.put.toArray⟩)/\w.frozen? ⟨g,init.length*3,none⟩=false:=by
 subst hn;have hn:(init++[q]).length=init.length+1:=by simp
 have e:∀j,j<3->(Jag (init++[q]))[init.length*3+j]?=(Jas q)[j]?:=by
  intro j hj;rw[Jbh,List.getElem?_append_right (by rw[Jdr];omega),Jdr]
  congr 1
  omega
 refine⟨?_,?_,?_,h.frozenAt _⟩
 . rw[h.cellAt _ (by rw[hn];omega)];exact e 0 (by omega)
 . rw[h.cellAt _ (by rw[hn];omega)];exact e 1 (by omega)
 . rw[h.cellAt _ (by rw[hn];omega)];exact e 2 (by omega)
theorem add_zero(a:Nat)(s:NSt)(p:Pt)(w:World)(h:gath M w a s)(hput:s.put.length+p.put.length<1000000000)(hd: -9223372036854775808<=s.drop+p.drop)(hd':s.drop+p.drop<9223372036854775808)(hout:s.out.length<100000000)
     :
    Calls Tryz.prog 265 #[(.agg #[.int .i64 0,.int .i64 p.drop,.string ⟨p.put.toArray⟩]),.pointer (some ⟨a+1,0,none⟩),.pointer (some ⟨a+2,0,none⟩),.pointer (some ⟨a+3,0,none⟩),.pointer (some ⟨a,0,none⟩)] w fun e w'=>(∃v,e=.returned v)/\gath M w' a ⟨s.out,s.put++p.put,s.drop+p.drop⟩/\BelowG M a w w':=by
 have hM:=h.le;have hT:=h.top;obtain⟨i0,hi,hz0,hz1,hz2⟩:=info_parts JbT;obtain⟨i1,hj,hy0,hy1,hy2⟩:=info_parts Jh7;have hlt:=Jb4 h;have hb0':Below w.heap.size w (w.alloc (.cells #[.int .i64 0,.int .i64 p.drop,.string ⟨p.put.toArray⟩] 50)):=(brf _ _).alloc (nlr _) _;have HG0:Hid (gath M (w.alloc (.cells #[.int .i64 0,.int .i64 p.drop,.string ⟨p.put.toArray⟩] 50)) a s):=Jbw h hb0';have HB0:Hid (BelowG M a w (w.alloc (.cells #[.int .i64 0,.int .i64 p.drop,.string ⟨p.put.toArray⟩] 50))):=.of hb0' (by omega);have x0:(w.alloc (.cells #[.int .i64 0,.int .i64 p.drop,.string ⟨p.put.toArray⟩] 50)).cell? ⟨w.heap.size,0,none⟩=some (.int .i64 0):=by simp[go_sem]
 have x1:(w.alloc (.cells #[.int .i64 0,.int .i64 p.drop,.string ⟨p.put.toArray⟩] 50)).cell? ⟨w.heap.size,1,none⟩=some (.int .i64 p.drop):=by simp[go_sem]
 obtain⟨⟨pp,c,h1,h2⟩,h3,⟨p',c',h4,h5⟩,h6,h7,h8,h9⟩:=h;have HL1:Hid (∀k,(Value.slice pp s.out.length c).ownBlock=some k->k<w.heap.size):=fun k hk'=>(h2.lt k hk').2
 have HL2:Hid (∀k,(Value.slice p' s.put.length c').ownBlock=some k->k<w.heap.size):=fun k hk'=>(h5.lt k hk').2
 have hP:(w.alloc (.cells #[.int .i64 0,.int .i64 p.drop,.string ⟨p.put.toArray⟩] 50)).ownsRow M 5 1 (.slice p' s.put.length c') s.put.length (Lib.byteCells s.put):=h5.alloc _;have hC:(w.alloc (.cells #[.int .i64 0,.int .i64 p.drop,.string ⟨p.put.toArray⟩] 50)).cell? ⟨a+1,0,none⟩=some (.slice p' s.put.length c'):=(hb0'.cell (p:=⟨a+1,0,none⟩) (by show a+1<_;omega)).trans h4;have hC0:(w.alloc (.cells #[.int .i64 0,.int .i64 p.drop,.string ⟨p.put.toArray⟩] 50)).cell? ⟨a,0,none⟩=some (.slice pp s.out.length c):=(hb0'.cell (p:=⟨a,0,none⟩) (by show a<_;omega)).trans h1;have hD2:(w.alloc (.cells #[.int .i64 0,.int .i64 p.drop,.string ⟨p.put.toArray⟩] 50)).cell? ⟨a+2,0,none⟩=some (.int .i64 s.drop):=(hb0'.cell (p:=⟨a+2,0,none⟩) (by show a+2<_;omega)).trans h7;have hF2:(w.alloc (.cells #[.int .i64 0,.int .i64 p.drop,.string ⟨p.put.toArray⟩] 50)).frozen? ⟨a+2,0,none⟩=false:=(hb0'.frozen (p:=⟨a+2,0,none⟩) (by show a+2<_;omega)).trans h8;have hD3:(w.alloc (.cells #[.int .i64 0,.int .i64 p.drop,.string ⟨p.put.toArray⟩] 50)).cell? ⟨a+3,0,none⟩=some (.func (.func 264) #[] #[.pointer (some ⟨a+1,0,none⟩),.pointer (some ⟨a,0,none⟩),.pointer (some ⟨a+2,0,none⟩)]):=(hb0'.cell (p:=⟨a+3,0,none⟩) (by show a+3<_;omega)).trans h9;have HP:Hid ((w.alloc (.cells #[.int .i64 0,.int .i64 p.drop,.string ⟨p.put.toArray⟩] 50)).ownsRow M 5 1 (.slice p' s.put.length c') s.put.length (Lib.byteCells s.put)):=hP
 have HX:Hid (∀w1 v1,w1.ownsRow M 5 1 v1 (s.put.length+(ByteArray.mk p.put.toArray).size) (Lib.byteCells s.put++Lib.strCells ⟨p.put.toArray⟩)->(w.alloc (.cells #[.int .i64 0,.int .i64 p.drop,.string ⟨p.put.toArray⟩] 50)).grownBy w1 (Value.slice p' s.put.length c').ownBlock ->
     gath M ((w1.setCell ⟨a+1,0,none⟩ v1).setCell ⟨a+2,0,none⟩ (.int .i64 (s.drop+p.drop))) a ⟨s.out,s.put++p.put,s.drop+p.drop⟩/\BelowG M a w ((w1.setCell ⟨a+1,0,none⟩ v1).setCell ⟨a+2,0,none⟩ (.int .i64 (s.drop+p.drop))) /\
     spare ((w1.setCell ⟨a+1,0,none⟩ v1).setCell ⟨a+2,0,none⟩ (.int .i64 (s.drop+p.drop))) a w.heap.size /\
     w1.cell? ⟨a+1,0,none⟩=some (.slice p' s.put.length c')/\w1.frozen? ⟨a+1,0,none⟩=false/\w1.cell? ⟨a+2,0,none⟩=some (.int .i64 s.drop)/\w1.frozen? ⟨a+2,0,none⟩=false /\
     w1.cell? ⟨a+3,0,none⟩=some (.func (.func 264) #[] #[.pointer (some ⟨a+1,0,none⟩),.pointer (some ⟨a,0,none⟩),.pointer (some ⟨a+2,0,none⟩)]) /\
     (∀o,w1.cell? ⟨w.heap.size,o,none⟩=(w.alloc (.cells #[.int .i64 0,.int .i64 p.drop,.string ⟨p.put.toArray⟩] 50)).cell? ⟨w.heap.size,o,none⟩)/\w.heap.size<w1.heap.size):=by
  intro w1 v1 q1 q2;have hz:(ByteArray.mk p.put.toArray).size=p.put.length:=by simp[ByteArray.size]
  rw[hz]at q1;obtain⟨g1,g2,g3,g4⟩:=JfH (q:=p.put) HG0.out hC q1 q2;obtain⟨g5,g6⟩:=Jda g1 (s.drop+p.drop);have hlow:∀k,(Value.slice p' s.put.length c').ownBlock=some k->a+4<=k:=fun k hk=>Nat.le_trans hM (hP.lt k hk).1
  have hbb:Below (a+4) (w.alloc (.cells #[.int .i64 0,.int .i64 p.drop,.string ⟨p.put.toArray⟩] 50)) w1:=(brf _ _).grown q2 (by rw[wsa];omega) hlow;have hsz:=q2.size;rw[wsa]at hsz;refine⟨g5,HB0.out.trans (g2.trans g6),⟨by simp;omega,hlt,?_⟩,g3,g4,(hbb.cell (p:=⟨a+2,0,none⟩) (by show a+2<_;omega)).trans hD2,(hbb.frozen (p:=⟨a+2,0,none⟩) (by show a+2<_;omega)).trans hF2,(hbb.cell (p:=⟨a+3,0,none⟩) (by show a+3<_;omega)).trans hD3,?_,by omega⟩
  . intro v hv
    rw[Jaz (by omega),Jaz (by omega),(hbb.cell (p:=⟨a,0,none⟩) (by show a<_;omega)),hC0]at hv;obtain rfl:=osi hv;intro e;have:=HL1.out _ e;omega
  . intro o
    exact World.cell?_of_block (a:=⟨w.heap.size,o,none⟩) (q2.block w.heap.size (by rw[wsa];omega) (by intro e;have:=HL2.out _ e.symm;omega))
 clear h2 h5 hP hC hC0 hD2 hF2 hD3 hb0' h1 h3 h6 h7 h8 h9;have n0:a+1<w.heap.size:=by omega
 have HZ:Hid ((ByteArray.mk p.put.toArray).size=p.put.length):=by show _=_;simp[ByteArray.size]
 have n1:¬(a+1=w.heap.size):=by omega
 have n2:¬(w.heap.size=a+1):=by omega
 have n3:¬(a+2=w.heap.size):=by omega
 have n4:¬(w.heap.size=a+2):=by omega
 have hwrap:IntKind.i64.wrap (s.drop+p.drop)=s.drop+p.drop:=by rw[IntKind.wrap_i64];omega
 go_enter Tryz.func265,Tryz.ntmps265
 go_wp2_with (first | (at_builtin;refine Lib.wpList_append_own_string _ rfl _ _ 158 9 rfl M 5 i1 Tryz.underlying158 Tryz.underlying9 hj hy0 hy1 hy2 _ _ _ rfl HP.out _ rfl (by rw[HZ.out];unfold maxLen;omega) (by rw[HZ.out];omega) (by simp;omega) ?_) | fail)
 intro v1 w1 hown1 hg1 _;have R:=HX.out w1 v1 hown1 hg1;obtain⟨pv,cv,rfl⟩:=Jad hown1;obtain⟨G2,B2,S2,r1,r2,r3,r4,r5,r6,r7⟩:=R;have y0:=(r6 0).trans x0;have y1:=(r6 1).trans x1;have HG2:=hdz G2;have HB2:=hdz B2;clear hown1 hg1 x0 x1 r6 G2 B2 S2 HX HL1 HL2 HP HG0 HB0 h4;go_wp2;refine bodyPost_ret (results_none rfl _ _ _) rfl ?_
 exact⟨⟨_,rfl⟩,HG2.out,HB2.out⟩
theorem Jr5(a:Nat)(s:NSt)(p:Pt)(w:World)(h:gath M w a s)(hput:s.put.length+p.put.length<1000000000)(hd: -9223372036854775808<=s.drop+p.drop)(hd':s.drop+p.drop<9223372036854775808)(hout:s.out.length<100000000)
    (hk:p.keep≠0) (L:List Pt) (hL:JaC ⟨s.out,s.put++p.put,s.drop+p.drop⟩=L) (hLq:L=[]) :
    Calls Tryz.prog 265 #[(Jay p),.pointer (some ⟨a+1,0,none⟩),.pointer (some ⟨a+2,0,none⟩),.pointer (some ⟨a+3,0,none⟩),.pointer (some ⟨a,0,none⟩)] w fun e w'=>(∃v,e=.returned v)/\gath M w' a ⟨L++[⟨p.keep,0,[]⟩],[],0⟩/\BelowG M a w w':=by
 have hM:=h.le;have hT:=h.top;obtain⟨i0,hi,hz0,hz1,hz2⟩:=info_parts JbT;obtain⟨i1,hj,hy0,hy1,hy2⟩:=info_parts Jh7;have hlt:=Jb4 h;have hb0':Below w.heap.size w (w.alloc (.cells #[.int .i64 p.keep,.int .i64 p.drop,.string ⟨p.put.toArray⟩] 50)):=(brf _ _).alloc (nlr _) _;have HG0:Hid (gath M (w.alloc (.cells #[.int .i64 p.keep,.int .i64 p.drop,.string ⟨p.put.toArray⟩] 50)) a s):=Jbw h hb0';have HB0:Hid (BelowG M a w (w.alloc (.cells #[.int .i64 p.keep,.int .i64 p.drop,.string ⟨p.put.toArray⟩] 50))):=.of hb0' (by omega);have x0:(w.alloc (.cells #[.int .i64 p.keep,.int .i64 p.drop,.string ⟨p.put.toArray⟩] 50)).cell? ⟨w.heap.size,0,none⟩=some (.int .i64 p.keep):=by simp[go_sem]
 have x1:(w.alloc (.cells #[.int .i64 p.keep,.int .i64 p.drop,.string ⟨p.put.toArray⟩] 50)).cell? ⟨w.heap.size,1,none⟩=some (.int .i64 p.drop):=by simp[go_sem]
 obtain⟨⟨pp,c,h1,h2⟩,h3,⟨p',c',h4,h5⟩,h6,h7,h8,h9⟩:=h;have HL1:Hid (∀k,(Value.slice pp s.out.length c).ownBlock=some k->k<w.heap.size):=fun k hk'=>(h2.lt k hk').2
 have HL2:Hid (∀k,(Value.slice p' s.put.length c').ownBlock=some k->k<w.heap.size):=fun k hk'=>(h5.lt k hk').2
 have hP:(w.alloc (.cells #[.int .i64 p.keep,.int .i64 p.drop,.string ⟨p.put.toArray⟩] 50)).ownsRow M 5 1 (.slice p' s.put.length c') s.put.length (Lib.byteCells s.put):=h5.alloc _;have hC:(w.alloc (.cells #[.int .i64 p.keep,.int .i64 p.drop,.string ⟨p.put.toArray⟩] 50)).cell? ⟨a+1,0,none⟩=some (.slice p' s.put.length c'):=(hb0'.cell (p:=⟨a+1,0,none⟩) (by show a+1<_;omega)).trans h4;have hC0:(w.alloc (.cells #[.int .i64 p.keep,.int .i64 p.drop,.string ⟨p.put.toArray⟩] 50)).cell? ⟨a,0,none⟩=some (.slice pp s.out.length c):=(hb0'.cell (p:=⟨a,0,none⟩) (by show a<_;omega)).trans h1;have hD2:(w.alloc (.cells #[.int .i64 p.keep,.int .i64 p.drop,.string ⟨p.put.toArray⟩] 50)).cell? ⟨a+2,0,none⟩=some (.int .i64 s.drop):=(hb0'.cell (p:=⟨a+2,0,none⟩) (by show a+2<_;omega)).trans h7;have hF2:(w.alloc (.cells #[.int .i64 p.keep,.int .i64 p.drop,.string ⟨p.put.toArray⟩] 50)).frozen? ⟨a+2,0,none⟩=false:=(hb0'.frozen (p:=⟨a+2,0,none⟩) (by show a+2<_;omega)).trans h8;have hD3:(w.alloc (.cells #[.int .i64 p.keep,.int .i64 p.drop,.string ⟨p.put.toArray⟩] 50)).cell? ⟨a+3,0,none⟩=some (.func (.func 264) #[] #[.pointer (some ⟨a+1,0,none⟩),.pointer (some ⟨a,0,none⟩),.pointer (some ⟨a+2,0,none⟩)]):=(hb0'.cell (p:=⟨a+3,0,none⟩) (by show a+3<_;omega)).trans h9;have HP:Hid ((w.alloc (.cells #[.int .i64 p.keep,.int .i64 p.drop,.string ⟨p.put.toArray⟩] 50)).ownsRow M 5 1 (.slice p' s.put.length c') s.put.length (Lib.byteCells s.put)):=hP
 have HX:Hid (∀w1 v1,w1.ownsRow M 5 1 v1 (s.put.length+(ByteArray.mk p.put.toArray).size) (Lib.byteCells s.put++Lib.strCells ⟨p.put.toArray⟩)->(w.alloc (.cells #[.int .i64 p.keep,.int .i64 p.drop,.string ⟨p.put.toArray⟩] 50)).grownBy w1 (Value.slice p' s.put.length c').ownBlock ->
     gath M ((w1.setCell ⟨a+1,0,none⟩ v1).setCell ⟨a+2,0,none⟩ (.int .i64 (s.drop+p.drop))) a ⟨s.out,s.put++p.put,s.drop+p.drop⟩/\BelowG M a w ((w1.setCell ⟨a+1,0,none⟩ v1).setCell ⟨a+2,0,none⟩ (.int .i64 (s.drop+p.drop))) /\
     spare ((w1.setCell ⟨a+1,0,none⟩ v1).setCell ⟨a+2,0,none⟩ (.int .i64 (s.drop+p.drop))) a w.heap.size /\
     w1.cell? ⟨a+1,0,none⟩=some (.slice p' s.put.length c')/\w1.frozen? ⟨a+1,0,none⟩=false/\w1.cell? ⟨a+2,0,none⟩=some (.int .i64 s.drop)/\w1.frozen? ⟨a+2,0,none⟩=false /\
     w1.cell? ⟨a+3,0,none⟩=some (.func (.func 264) #[] #[.pointer (some ⟨a+1,0,none⟩),.pointer (some ⟨a,0,none⟩),.pointer (some ⟨a+2,0,none⟩)]) /\
     (∀o,w1.cell? ⟨w.heap.size,o,none⟩=(w.alloc (.cells #[.int .i64 p.keep,.int .i64 p.drop,.string ⟨p.put.toArray⟩] 50)).cell? ⟨w.heap.size,o,none⟩)/\w.heap.size<w1.heap.size):=by
  intro w1 v1 q1 q2;have hz:(ByteArray.mk p.put.toArray).size=p.put.length:=by simp[ByteArray.size]
  rw[hz]at q1;obtain⟨g1,g2,g3,g4⟩:=JfH (q:=p.put) HG0.out hC q1 q2;obtain⟨g5,g6⟩:=Jda g1 (s.drop+p.drop);have hlow:∀k,(Value.slice p' s.put.length c').ownBlock=some k->a+4<=k:=fun k hk=>Nat.le_trans hM (hP.lt k hk).1
  have hbb:Below (a+4) (w.alloc (.cells #[.int .i64 p.keep,.int .i64 p.drop,.string ⟨p.put.toArray⟩] 50)) w1:=(brf _ _).grown q2 (by rw[wsa];omega) hlow;have hsz:=q2.size;rw[wsa]at hsz;refine⟨g5,HB0.out.trans (g2.trans g6),⟨by simp;omega,hlt,?_⟩,g3,g4,(hbb.cell (p:=⟨a+2,0,none⟩) (by show a+2<_;omega)).trans hD2,(hbb.frozen (p:=⟨a+2,0,none⟩) (by show a+2<_;omega)).trans hF2,(hbb.cell (p:=⟨a+3,0,none⟩) (by show a+3<_;omega)).trans hD3,?_,by omega⟩
  . intro v hv
    rw[Jaz (by omega),Jaz (by omega),(hbb.cell (p:=⟨a,0,none⟩) (by show a<_;omega)),hC0]at hv;obtain rfl:=osi hv;intro e;have:=HL1.out _ e;omega
  . intro o
    exact World.cell?_of_block (a:=⟨w.heap.size,o,none⟩) (q2.block w.heap.size (by rw[wsa];omega) (by intro e;have:=HL2.out _ e.symm;omega))
 clear h2 h5 hP hC hC0 hD2 hF2 hD3 hb0' h1 h3 h6 h7 h8 h9;have n0:a+1<w.heap.size:=by omega
 have HZ:Hid ((ByteArray.mk p.put.toArray).size=p.put.length):=by show _=_;simp[ByteArray.size]
 have n1:¬(a+1=w.heap.size):=by omega
 have n2:¬(w.heap.size=a+1):=by omega
 have n3:¬(a+2=w.heap.size):=by omega
 have n4:¬(w.heap.size=a+2):=by omega
 have hwrap:IntKind.i64.wrap (s.drop+p.drop)=s.drop+p.drop:=by rw[IntKind.wrap_i64];omega
 unfold Jay
 go_enter Tryz.func265,Tryz.ntmps265
 go_wp2_with (first | (at_builtin;refine Lib.wpList_append_own_string _ rfl _ _ 158 9 rfl M 5 i1 Tryz.underlying158 Tryz.underlying9 hj hy0 hy1 hy2 _ _ _ rfl HP.out _ rfl (by rw[HZ.out];unfold maxLen;omega) (by rw[HZ.out];omega) (by simp;omega) ?_) | fail)
 intro v1 w1 hown1 hg1 _;have R:=HX.out w1 v1 hown1 hg1;obtain⟨pv,cv,rfl⟩:=Jad hown1;obtain⟨G2,B2,S2,r1,r2,r3,r4,r5,r6,r7⟩:=R;have y0:=(r6 0).trans x0;have y1:=(r6 1).trans x1;have HG2:=hdz G2;have HB2:=hdz B2;have HS2:=hdz S2;clear hown1 hg1 x0 x1 r6 G2 B2 S2 HX HL1 HL2 HP HG0 HB0 h4;have hkb:(p.keep==0)=false:=beq_eq_false_iff_ne.2 hk
 go_wp2_with (first | (go_at_call 9999) | fail)
 refine(JgM a _ _ HG2.out (by show s.out.length<_;omega) (by show(s.put++p.put).length<_;rw[List.length_append];exact hput)).mono ?_
 rintro e w3 ⟨⟨v3,rfl⟩,G3,B3,S3⟩;have hS3:=S3 _ HS2.out;have z0:w3.cell? ⟨w.heap.size,0,none⟩=some (.int .i64 p.keep):=(World.cell?_of_block (a:=⟨w.heap.size,0,none⟩) hS3).trans (by rw[Jaz (by omega),Jaz (by omega)];exact y0);rw[hL]at G3;have HB3:Hid (BelowG M a w w3):=HB2.out.trans B3;have hs3:w.heap.size<=w3.heap.size:=HB3.out.size;clear S3 hS3 B3 HB2 HS2 HG2 y0 y1 r1 r2 r3 r4 r5 r7;subst hLq;have HG3:Hid (gath M w3 a ⟨[],[],0⟩):=G3;have hlt3:=Jb4 G3;obtain⟨⟨p3,c3,u1,u2⟩,u3,_,_,_,_,_⟩:=G3;have HU1:Hid (w3.cell? ⟨a,0,none⟩=some (.slice p3 0 c3)):=u1;have HU2:Hid (w3.ownsRow M 50 3 (.slice p3 0 c3) 0 (Jag [])):=u2;have u1':w3.cell? ⟨a,0,none⟩=some (.slice p3 0 c3):=u1;clear u1 u2
 go_wp2_with (first | (at_builtin;refine wpList_append_own_at _ rfl _ _ 23 rfl M 50 i0 (.agg #[.int .i64 0,.int .i64 0,.string ⟨#[]⟩]) 3 32 Tryz.underlying23 hi hz0 hz1 hz2 rfl (by decide) _ _ _ rfl (HU2.out.alloc _) ⟨w3.heap.size,0,none⟩ 1 1 (Jas ⟨p.keep,0,[]⟩) rfl rfl (JdB _ _ _) (JaD _) (by unfold maxLen;omega) (by omega) (by first | omega | (simp;omega)) ?_) | fail)
 intro v5 w5 hown5 hg5 _ _;have P5:=JdW (q:=⟨p.keep,0,[]⟩) HG3.out HU1.out hown5 hg5;obtain⟨p5,q5,rfl⟩:=Jad hown5;obtain⟨G5,B5,t1,t2⟩:=P5;have HG5:=hdz G5;have HB5:=hdz B5;clear hown5 hg5 G5 B5 u1' u3 z0;go_wp2;go_end0;exact⟨⟨_,rfl⟩,HG5.out,HB3.out.trans HB5.out⟩
theorem Jog(a:Nat)(s:NSt)(p:Pt)(w:World)(h:gath M w a s)(hput:s.put.length+p.put.length<1000000000)(hd: -9223372036854775808<=s.drop+p.drop)(hd':s.drop+p.drop<9223372036854775808)(hout:s.out.length<100000000)
    (hk:p.keep≠0) (L:List Pt) (hL:JaC ⟨s.out,s.put++p.put,s.drop+p.drop⟩=L) (init:List Pt) (q:Pt) (hLq:L=init++[q]) (hq:¬0<q.keep) :
    Calls Tryz.prog 265 #[(Jay p),.pointer (some ⟨a+1,0,none⟩),.pointer (some ⟨a+2,0,none⟩),.pointer (some ⟨a+3,0,none⟩),.pointer (some ⟨a,0,none⟩)] w fun e w'=>(∃v,e=.returned v)/\gath M w' a ⟨L++[⟨p.keep,0,[]⟩],[],0⟩/\BelowG M a w w':=by
 have hM:=h.le;have hT:=h.top;obtain⟨i0,hi,hz0,hz1,hz2⟩:=info_parts JbT;obtain⟨i1,hj,hy0,hy1,hy2⟩:=info_parts Jh7;have hlt:=Jb4 h;have hb0':Below w.heap.size w (w.alloc (.cells #[.int .i64 p.keep,.int .i64 p.drop,.string ⟨p.put.toArray⟩] 50)):=(brf _ _).alloc (nlr _) _;have HG0:Hid (gath M (w.alloc (.cells #[.int .i64 p.keep,.int .i64 p.drop,.string ⟨p.put.toArray⟩] 50)) a s):=Jbw h hb0';have HB0:Hid (BelowG M a w (w.alloc (.cells #[.int .i64 p.keep,.int .i64 p.drop,.string ⟨p.put.toArray⟩] 50))):=.of hb0' (by omega);have x0:(w.alloc (.cells #[.int .i64 p.keep,.int .i64 p.drop,.string ⟨p.put.toArray⟩] 50)).cell? ⟨w.heap.size,0,none⟩=some (.int .i64 p.keep):=by simp[go_sem]
 have x1:(w.alloc (.cells #[.int .i64 p.keep,.int .i64 p.drop,.string ⟨p.put.toArray⟩] 50)).cell? ⟨w.heap.size,1,none⟩=some (.int .i64 p.drop):=by simp[go_sem]
 obtain⟨⟨pp,c,h1,h2⟩,h3,⟨p',c',h4,h5⟩,h6,h7,h8,h9⟩:=h;have HL1:Hid (∀k,(Value.slice pp s.out.length c).ownBlock=some k->k<w.heap.size):=fun k hk'=>(h2.lt k hk').2
 have HL2:Hid (∀k,(Value.slice p' s.put.length c').ownBlock=some k->k<w.heap.size):=fun k hk'=>(h5.lt k hk').2
 have hP:(w.alloc (.cells #[.int .i64 p.keep,.int .i64 p.drop,.string ⟨p.put.toArray⟩] 50)).ownsRow M 5 1 (.slice p' s.put.length c') s.put.length (Lib.byteCells s.put):=h5.alloc _;have hC:(w.alloc (.cells #[.int .i64 p.keep,.int .i64 p.drop,.string ⟨p.put.toArray⟩] 50)).cell? ⟨a+1,0,none⟩=some (.slice p' s.put.length c'):=(hb0'.cell (p:=⟨a+1,0,none⟩) (by show a+1<_;omega)).trans h4;have hC0:(w.alloc (.cells #[.int .i64 p.keep,.int .i64 p.drop,.string ⟨p.put.toArray⟩] 50)).cell? ⟨a,0,none⟩=some (.slice pp s.out.length c):=(hb0'.cell (p:=⟨a,0,none⟩) (by show a<_;omega)).trans h1;have hD2:(w.alloc (.cells #[.int .i64 p.keep,.int .i64 p.drop,.string ⟨p.put.toArray⟩] 50)).cell? ⟨a+2,0,none⟩=some (.int .i64 s.drop):=(hb0'.cell (p:=⟨a+2,0,none⟩) (by show a+2<_;omega)).trans h7;have hF2:(w.alloc (.cells #[.int .i64 p.keep,.int .i64 p.drop,.string ⟨p.put.toArray⟩] 50)).frozen? ⟨a+2,0,none⟩=false:=(hb0'.frozen (p:=⟨a+2,0,none⟩) (by show a+2<_;omega)).trans h8;have hD3:(w.alloc (.cells #[.int .i64 p.keep,.int .i64 p.drop,.string ⟨p.put.toArray⟩] 50)).cell? ⟨a+3,0,none⟩=some (.func (.func 264) #[] #[.pointer (some ⟨a+1,0,none⟩),.pointer (some ⟨a,0,none⟩),.pointer (some ⟨a+2,0,none⟩)]):=(hb0'.cell (p:=⟨a+3,0,none⟩) (by show a+3<_;omega)).trans h9;have HP:Hid ((w.alloc (.cells #[.int .i64 p.keep,.int .i64 p.drop,.string ⟨p.put.toArray⟩] 50)).ownsRow M 5 1 (.slice p' s.put.length c') s.put.length (Lib.byteCells s.put)):=hP
 have HX:Hid (∀w1 v1,w1.ownsRow M 5 1 v1 (s.put.length+(ByteArray.mk p.put.toArray).size) (Lib.byteCells s.put++Lib.strCells ⟨p.put.toArray⟩)->(w.alloc (.cells #[.int .i64 p.keep,.int .i64 p.drop,.string ⟨p.put.toArray⟩] 50)).grownBy w1 (Value.slice p' s.put.length c').ownBlock ->
     gath M ((w1.setCell ⟨a+1,0,none⟩ v1).setCell ⟨a+2,0,none⟩ (.int .i64 (s.drop+p.drop))) a ⟨s.out,s.put++p.put,s.drop+p.drop⟩/\BelowG M a w ((w1.setCell ⟨a+1,0,none⟩ v1).setCell ⟨a+2,0,none⟩ (.int .i64 (s.drop+p.drop))) /\
     spare ((w1.setCell ⟨a+1,0,none⟩ v1).setCell ⟨a+2,0,none⟩ (.int .i64 (s.drop+p.drop))) a w.heap.size /\
     w1.cell? ⟨a+1,0,none⟩=some (.slice p' s.put.length c')/\w1.frozen? ⟨a+1,0,none⟩=false/\w1.cell? ⟨a+2,0,none⟩=some (.int .i64 s.drop)/\w1.frozen? ⟨a+2,0,none⟩=false /\
     w1.cell? ⟨a+3,0,none⟩=some (.func (.func 264) #[] #[.pointer (some ⟨a+1,0,none⟩),.pointer (some ⟨a,0,none⟩),.pointer (some ⟨a+2,0,none⟩)]) /\
     (∀o,w1.cell? ⟨w.heap.size,o,none⟩=(w.alloc (.cells #[.int .i64 p.keep,.int .i64 p.drop,.string ⟨p.put.toArray⟩] 50)).cell? ⟨w.heap.size,o,none⟩)/\w.heap.size<w1.heap.size):=by
  intro w1 v1 q1 q2;have hz:(ByteArray.mk p.put.toArray).size=p.put.length:=by simp[ByteArray.size]
  rw[hz]at q1;obtain⟨g1,g2,g3,g4⟩:=JfH (q:=p.put) HG0.out hC q1 q2;obtain⟨g5,g6⟩:=Jda g1 (s.drop+p.drop);have hlow:∀k,(Value.slice p' s.put.length c').ownBlock=some k->a+4<=k:=fun k hk=>Nat.le_trans hM (hP.lt k hk).1
  have hbb:Below (a+4) (w.alloc (.cells #[.int .i64 p.keep,.int .i64 p.drop,.string ⟨p.put.toArray⟩] 50)) w1:=(brf _ _).grown q2 (by rw[wsa];omega) hlow;have hsz:=q2.size;rw[wsa]at hsz;refine⟨g5,HB0.out.trans (g2.trans g6),⟨by simp;omega,hlt,?_⟩,g3,g4,(hbb.cell (p:=⟨a+2,0,none⟩) (by show a+2<_;omega)).trans hD2,(hbb.frozen (p:=⟨a+2,0,none⟩) (by show a+2<_;omega)).trans hF2,(hbb.cell (p:=⟨a+3,0,none⟩) (by show a+3<_;omega)).trans hD3,?_,by omega⟩
  . intro v hv
    rw[Jaz (by omega),Jaz (by omega),(hbb.cell (p:=⟨a,0,none⟩) (by show a<_;omega)),hC0]at hv;obtain rfl:=osi hv;intro e;have:=HL1.out _ e;omega
  . intro o
    exact World.cell?_of_block (a:=⟨w.heap.size,o,none⟩) (q2.block w.heap.size (by rw[wsa];omega) (by intro e;have:=HL2.out _ e.symm;omega))
 clear h2 h5 hP hC hC0 hD2 hF2 hD3 hb0' h1 h3 h6 h7 h8 h9;have n0:a+1<w.heap.size:=by omega
 have HZ:Hid ((ByteArray.mk p.put.toArray).size=p.put.length):=by show _=_;simp[ByteArray.size]
 have n1:¬(a+1=w.heap.size):=by omega
 have n2:¬(w.heap.size=a+1):=by omega
 have n3:¬(a+2=w.heap.size):=by omega
 have n4:¬(w.heap.size=a+2):=by omega
 have hwrap:IntKind.i64.wrap (s.drop+p.drop)=s.drop+p.drop:=by rw[IntKind.wrap_i64];omega
 unfold Jay
 go_enter Tryz.func265,Tryz.ntmps265
 go_wp2_with (first | (at_builtin;refine Lib.wpList_append_own_string _ rfl _ _ 158 9 rfl M 5 i1 Tryz.underlying158 Tryz.underlying9 hj hy0 hy1 hy2 _ _ _ rfl HP.out _ rfl (by rw[HZ.out];unfold maxLen;omega) (by rw[HZ.out];omega) (by simp;omega) ?_) | fail)
 intro v1 w1 hown1 hg1 _;have R:=HX.out w1 v1 hown1 hg1;obtain⟨pv,cv,rfl⟩:=Jad hown1;obtain⟨G2,B2,S2,r1,r2,r3,r4,r5,r6,r7⟩:=R;have y0:=(r6 0).trans x0;have y1:=(r6 1).trans x1;have HG2:=hdz G2;have HB2:=hdz B2;have HS2:=hdz S2;clear hown1 hg1 x0 x1 r6 G2 B2 S2 HX HL1 HL2 HP HG0 HB0 h4;have hkb:(p.keep==0)=false:=beq_eq_false_iff_ne.2 hk
 go_wp2_with (first | (go_at_call 9999) | fail)
 refine(JgM a _ _ HG2.out (by show s.out.length<_;omega) (by show(s.put++p.put).length<_;rw[List.length_append];exact hput)).mono ?_
 rintro e w3 ⟨⟨v3,rfl⟩,G3,B3,S3⟩;have hS3:=S3 _ HS2.out;have z0:w3.cell? ⟨w.heap.size,0,none⟩=some (.int .i64 p.keep):=(World.cell?_of_block (a:=⟨w.heap.size,0,none⟩) hS3).trans (by rw[Jaz (by omega),Jaz (by omega)];exact y0);rw[hL]at G3;have HB3:Hid (BelowG M a w w3):=HB2.out.trans B3;have hs3:w.heap.size<=w3.heap.size:=HB3.out.size;clear S3 hS3 B3 HB2 HS2 HG2 y0 y1 r1 r2 r3 r4 r5 r7;obtain⟨m,hm⟩:∃m,m=init.length:=⟨_,rfl⟩;have hLn:L.length=m+1:=by rw[hLq,hm];simp
 have HLN:Hid (L.length=m+1):=hLn
 have hbig:m+1<1000000000:=by
  have h1:L.length<=s.out.length+2:=by
   rw[←hL,JaC];simp only[List.length_append]
   split<;>split<;>simp
  omega
 have HG3:Hid (gath M w3 a ⟨L,[],0⟩):=G3;have hlt3:=Jb4 G3;obtain⟨⟨p3,c3,u1,u2⟩,u3,_,_,_,_,_⟩:=G3;have u1':w3.cell? ⟨a,0,none⟩=some (.slice p3 (m+1) c3):=by rw[←hLn];exact u1
 have u2':w3.ownsRow M 50 3 (.slice p3 (m+1) c3) (m+1) (Jag L):=by rw[←hLn];exact u2
 obtain ⟨g,rfl⟩:∃g,p3=some ⟨g,0,none⟩:=by
  rcases u2'.2 with ⟨_,h0⟩|⟨g,cap,cur,hv,_⟩
  . exact absurd h0 (by omega)
  . simp only[Value.slice.injEq]at hv
    exact⟨g,hv.1⟩
 have hgl:=(u2'.lt g rfl);have hlc:=JiC (by rw[hLq]at u2';exact u2') (show m+1=_ by rw[←hLq];exact hLn.symm);rw[←hm]at hlc;obtain⟨l0,l1,l2,l3⟩:=hlc;have HU2:Hid (w3.ownsRow M 50 3 (.slice (some ⟨g,0,none⟩) (m+1) c3) (m+1) (Jag L)):=u2';have hwm:IntKind.i64.wrap (((m+1:Nat):Int) - 1)=(m:Int):=by rw[IntKind.wrap_i64];omega
 have hge:(0:Int)<=(m:Int):=by omega
 have hlm:(m:Int)<((m+1:Nat):Int):=by omega
 clear u1 u2 u2' hLn hm hLq
 go_wp2_with (first | (go_at_call 9999) | fail)
 refine(JbX q _).mono ?_
 rintro e w4 ⟨rfl,hb4⟩;have G4:=Jbw HG3.out hb4;have HG4:Hid (gath M w4 a ⟨L,[],0⟩):=G4;have HB4:Hid (BelowG M a w w4):=HB3.out.trans (.of hb4 (by omega));have s0:=(hb4.cell (p:=⟨w.heap.size,0,none⟩) (blt w3 _ z0)).trans z0;have s1:=(hb4.cell (p:=⟨a,0,none⟩) (blt w3 _ u1')).trans u1';have sF:=(hb4.frozen (p:=⟨a,0,none⟩) (blt w3 _ u1')).trans u3;have s2:=(hb4.cell (p:=⟨g,m*3,none⟩) (blt w3 _ l0)).trans l0;have s3:=(hb4.frozen (p:=⟨g,m*3,none⟩) (blt w3 _ l0)).trans l3;have s4:=Jaj HU2.out hb4;have HS4:Hid (w4.ownsRow M 50 3 (.slice (some ⟨g,0,none⟩) (m+1) c3) (m+1) (Jag L)):=s4;have HS1:Hid (w4.cell? ⟨a,0,none⟩=some (.slice (some ⟨g,0,none⟩) (m+1) c3)):=s1;have hs4:=hb4.size;clear hb4 s4 G4 u1' u3 l0 l1 l2 l3 z0;have hqd:decide (0<q.keep)=false:=decide_eq_false (by omega);rw[hqd]
 go_wp2_with (first | (at_builtin;refine wpList_append_own_at _ rfl _ _ 23 rfl M 50 i0 (.agg #[.int .i64 0,.int .i64 0,.string ⟨#[]⟩]) 3 32 Tryz.underlying23 hi hz0 hz1 hz2 rfl (by decide) _ _ _ rfl (HS4.out.alloc _) ⟨w4.heap.size,0,none⟩ 1 1 (Jas ⟨p.keep,0,[]⟩) rfl rfl (JdB _ _ _) (JaD _) (by unfold maxLen;omega) (by omega) (by first | omega | (simp;omega)) ?_) | fail)
 intro v5 w5 hown5 hg5 _ _;have P5:=JdW (q:=⟨p.keep,0,[]⟩) HG4.out (show w4.cell? ⟨a,0,none⟩=some (.slice (some ⟨g,0,none⟩) L.length c3) by rw[HLN.out];exact HS1.out) (by show World.ownsRow _ _ _ _ _ (L.length+1) _;rw[HLN.out];exact hown5) (by show World.grownBy _ _ (Value.slice _ L.length _).ownBlock;rw[HLN.out];exact hg5);obtain⟨p5,q5,rfl⟩:=Jad hown5;obtain⟨G5,B5,t1,t2⟩:=P5;have HG5:=hdz G5;have HB5:=hdz B5;have t1':w5.cell? ⟨a,0,none⟩=some (.slice (some ⟨g,0,none⟩) (m+1) c3):=by rw[t1];show some (Value.slice _ L.length _)=_;rw[HLN.out]
 clear hown5 hg5 G5 B5 s0 s1 s2 s3 sF t1;go_wp2;go_end0;exact⟨⟨_,rfl⟩,HG5.out,HB4.out.trans HB5.out⟩
theorem Jqa(a:Nat)(s:NSt)(p:Pt)(w:World)(h:gath M w a s)(hput:s.put.length+p.put.length<1000000000)(hd: -9223372036854775808<=s.drop+p.drop)(hd':s.drop+p.drop<9223372036854775808)(hout:s.out.length<100000000)
    (hk:p.keep≠0) (L:List Pt) (hL:JaC ⟨s.out,s.put++p.put,s.drop+p.drop⟩=L) (init:List Pt) (q:Pt) (hLq:L=init++[q]) (hq:0<q.keep) (hb0: -9223372036854775808<=q.keep+p.keep) (hb1:q.keep+p.keep<9223372036854775808) :
    Calls Tryz.prog 265 #[(Jay p),.pointer (some ⟨a+1,0,none⟩),.pointer (some ⟨a+2,0,none⟩),.pointer (some ⟨a+3,0,none⟩),.pointer (some ⟨a,0,none⟩)] w fun e w'=>(∃v,e=.returned v)/\gath M w' a ⟨init++[⟨q.keep+p.keep,q.drop,q.put⟩],[],0⟩/\BelowG M a w w':=by
 have hM:=h.le;have hT:=h.top;obtain⟨i0,hi,hz0,hz1,hz2⟩:=info_parts JbT;obtain⟨i1,hj,hy0,hy1,hy2⟩:=info_parts Jh7;have hlt:=Jb4 h;have hb0':Below w.heap.size w (w.alloc (.cells #[.int .i64 p.keep,.int .i64 p.drop,.string ⟨p.put.toArray⟩] 50)):=(brf _ _).alloc (nlr _) _;have HG0:Hid (gath M (w.alloc (.cells #[.int .i64 p.keep,.int .i64 p.drop,.string ⟨p.put.toArray⟩] 50)) a s):=Jbw h hb0';have HB0:Hid (BelowG M a w (w.alloc (.cells #[.int .i64 p.keep,.int .i64 p.drop,.string ⟨p.put.toArray⟩] 50))):=.of hb0' (by omega);have x0:(w.alloc (.cells #[.int .i64 p.keep,.int .i64 p.drop,.string ⟨p.put.toArray⟩] 50)).cell? ⟨w.heap.size,0,none⟩=some (.int .i64 p.keep):=by simp[go_sem]
 have x1:(w.alloc (.cells #[.int .i64 p.keep,.int .i64 p.drop,.string ⟨p.put.toArray⟩] 50)).cell? ⟨w.heap.size,1,none⟩=some (.int .i64 p.drop):=by simp[go_sem]
 obtain⟨⟨pp,c,h1,h2⟩,h3,⟨p',c',h4,h5⟩,h6,h7,h8,h9⟩:=h;have HL1:Hid (∀k,(Value.slice pp s.out.length c).ownBlock=some k->k<w.heap.size):=fun k hk'=>(h2.lt k hk').2
 have HL2:Hid (∀k,(Value.slice p' s.put.length c').ownBlock=some k->k<w.heap.size):=fun k hk'=>(h5.lt k hk').2
 have hP:(w.alloc (.cells #[.int .i64 p.keep,.int .i64 p.drop,.string ⟨p.put.toArray⟩] 50)).ownsRow M 5 1 (.slice p' s.put.length c') s.put.length (Lib.byteCells s.put):=h5.alloc _;have hC:(w.alloc (.cells #[.int .i64 p.keep,.int .i64 p.drop,.string ⟨p.put.toArray⟩] 50)).cell? ⟨a+1,0,none⟩=some (.slice p' s.put.length c'):=(hb0'.cell (p:=⟨a+1,0,none⟩) (by show a+1<_;omega)).trans h4;have hC0:(w.alloc (.cells #[.int .i64 p.keep,.int .i64 p.drop,.string ⟨p.put.toArray⟩] 50)).cell? ⟨a,0,none⟩=some (.slice pp s.out.length c):=(hb0'.cell (p:=⟨a,0,none⟩) (by show a<_;omega)).trans h1;have hD2:(w.alloc (.cells #[.int .i64 p.keep,.int .i64 p.drop,.string ⟨p.put.toArray⟩] 50)).cell? ⟨a+2,0,none⟩=some (.int .i64 s.drop):=(hb0'.cell (p:=⟨a+2,0,none⟩) (by show a+2<_;omega)).trans h7;have hF2:(w.alloc (.cells #[.int .i64 p.keep,.int .i64 p.drop,.string ⟨p.put.toArray⟩] 50)).frozen? ⟨a+2,0,none⟩=false:=(hb0'.frozen (p:=⟨a+2,0,none⟩) (by show a+2<_;omega)).trans h8;have hD3:(w.alloc (.cells #[.int .i64 p.keep,.int .i64 p.drop,.string ⟨p.put.toArray⟩] 50)).cell? ⟨a+3,0,none⟩=some (.func (.func 264) #[] #[.pointer (some ⟨a+1,0,none⟩),.pointer (some ⟨a,0,none⟩),.pointer (some ⟨a+2,0,none⟩)]):=(hb0'.cell (p:=⟨a+3,0,none⟩) (by show a+3<_;omega)).trans h9;have HP:Hid ((w.alloc (.cells #[.int .i64 p.keep,.int .i64 p.drop,.string ⟨p.put.toArray⟩] 50)).ownsRow M 5 1 (.slice p' s.put.length c') s.put.length (Lib.byteCells s.put)):=hP
 have HX:Hid (∀w1 v1,w1.ownsRow M 5 1 v1 (s.put.length+(ByteArray.mk p.put.toArray).size) (Lib.byteCells s.put++Lib.strCells ⟨p.put.toArray⟩)->(w.alloc (.cells #[.int .i64 p.keep,.int .i64 p.drop,.string ⟨p.put.toArray⟩] 50)).grownBy w1 (Value.slice p' s.put.length c').ownBlock ->
     gath M ((w1.setCell ⟨a+1,0,none⟩ v1).setCell ⟨a+2,0,none⟩ (.int .i64 (s.drop+p.drop))) a ⟨s.out,s.put++p.put,s.drop+p.drop⟩/\BelowG M a w ((w1.setCell ⟨a+1,0,none⟩ v1).setCell ⟨a+2,0,none⟩ (.int .i64 (s.drop+p.drop))) /\
     spare ((w1.setCell ⟨a+1,0,none⟩ v1).setCell ⟨a+2,0,none⟩ (.int .i64 (s.drop+p.drop))) a w.heap.size /\
     w1.cell? ⟨a+1,0,none⟩=some (.slice p' s.put.length c')/\w1.frozen? ⟨a+1,0,none⟩=false/\w1.cell? ⟨a+2,0,none⟩=some (.int .i64 s.drop)/\w1.frozen? ⟨a+2,0,none⟩=false /\
     w1.cell? ⟨a+3,0,none⟩=some (.func (.func 264) #[] #[.pointer (some ⟨a+1,0,none⟩),.pointer (some ⟨a,0,none⟩),.pointer (some ⟨a+2,0,none⟩)]) /\
     (∀o,w1.cell? ⟨w.heap.size,o,none⟩=(w.alloc (.cells #[.int .i64 p.keep,.int .i64 p.drop,.string ⟨p.put.toArray⟩] 50)).cell? ⟨w.heap.size,o,none⟩)/\w.heap.size<w1.heap.size):=by
  intro w1 v1 q1 q2;have hz:(ByteArray.mk p.put.toArray).size=p.put.length:=by simp[ByteArray.size]
  rw[hz]at q1;obtain⟨g1,g2,g3,g4⟩:=JfH (q:=p.put) HG0.out hC q1 q2;obtain⟨g5,g6⟩:=Jda g1 (s.drop+p.drop);have hlow:∀k,(Value.slice p' s.put.length c').ownBlock=some k->a+4<=k:=fun k hk=>Nat.le_trans hM (hP.lt k hk).1
  have hbb:Below (a+4) (w.alloc (.cells #[.int .i64 p.keep,.int .i64 p.drop,.string ⟨p.put.toArray⟩] 50)) w1:=(brf _ _).grown q2 (by rw[wsa];omega) hlow;have hsz:=q2.size;rw[wsa]at hsz;refine⟨g5,HB0.out.trans (g2.trans g6),⟨by simp;omega,hlt,?_⟩,g3,g4,(hbb.cell (p:=⟨a+2,0,none⟩) (by show a+2<_;omega)).trans hD2,(hbb.frozen (p:=⟨a+2,0,none⟩) (by show a+2<_;omega)).trans hF2,(hbb.cell (p:=⟨a+3,0,none⟩) (by show a+3<_;omega)).trans hD3,?_,by omega⟩
  . intro v hv
    rw[Jaz (by omega),Jaz (by omega),(hbb.cell (p:=⟨a,0,none⟩) (by show a<_;omega)),hC0]at hv;obtain rfl:=osi hv;intro e;have:=HL1.out _ e;omega
  . intro o
    exact World.cell?_of_block (a:=⟨w.heap.size,o,none⟩) (q2.block w.heap.size (by rw[wsa];omega) (by intro e;have:=HL2.out _ e.symm;omega))
 clear h2 h5 hP hC hC0 hD2 hF2 hD3 hb0' h1 h3 h6 h7 h8 h9;have n0:a+1<w.heap.size:=by omega
 have HZ:Hid ((ByteArray.mk p.put.toArray).size=p.put.length):=by show _=_;simp[ByteArray.size]
 have n1:¬(a+1=w.heap.size):=by omega
 have n2:¬(w.heap.size=a+1):=by omega
 have n3:¬(a+2=w.heap.size):=by omega
 have n4:¬(w.heap.size=a+2):=by omega
 have hwrap:IntKind.i64.wrap (s.drop+p.drop)=s.drop+p.drop:=by rw[IntKind.wrap_i64];omega
 unfold Jay
 go_enter Tryz.func265,Tryz.ntmps265
 go_wp2_with (first | (at_builtin;refine Lib.wpList_append_own_string _ rfl _ _ 158 9 rfl M 5 i1 Tryz.underlying158 Tryz.underlying9 hj hy0 hy1 hy2 _ _ _ rfl HP.out _ rfl (by rw[HZ.out];unfold maxLen;omega) (by rw[HZ.out];omega) (by simp;omega) ?_) | fail)
 intro v1 w1 hown1 hg1 _;have R:=HX.out w1 v1 hown1 hg1;obtain⟨pv,cv,rfl⟩:=Jad hown1;obtain⟨G2,B2,S2,r1,r2,r3,r4,r5,r6,r7⟩:=R;have y0:=(r6 0).trans x0;have y1:=(r6 1).trans x1;have HG2:=hdz G2;have HB2:=hdz B2;have HS2:=hdz S2;clear hown1 hg1 x0 x1 r6 G2 B2 S2 HX HL1 HL2 HP HG0 HB0 h4;have hkb:(p.keep==0)=false:=beq_eq_false_iff_ne.2 hk
 go_wp2_with (first | (go_at_call 9999) | fail)
 refine(JgM a _ _ HG2.out (by show s.out.length<_;omega) (by show(s.put++p.put).length<_;rw[List.length_append];exact hput)).mono ?_
 rintro e w3 ⟨⟨v3,rfl⟩,G3,B3,S3⟩;have hS3:=S3 _ HS2.out;have z0:w3.cell? ⟨w.heap.size,0,none⟩=some (.int .i64 p.keep):=(World.cell?_of_block (a:=⟨w.heap.size,0,none⟩) hS3).trans (by rw[Jaz (by omega),Jaz (by omega)];exact y0);rw[hL]at G3;have HB3:Hid (BelowG M a w w3):=HB2.out.trans B3;have hs3:w.heap.size<=w3.heap.size:=HB3.out.size;clear S3 hS3 B3 HB2 HS2 HG2 y0 y1 r1 r2 r3 r4 r5 r7;obtain⟨m,hm⟩:∃m,m=init.length:=⟨_,rfl⟩;have hLn:L.length=m+1:=by rw[hLq,hm];simp
 have HLN:Hid (L.length=m+1):=hLn
 have hbig:m+1<1000000000:=by
  have h1:L.length<=s.out.length+2:=by
   rw[←hL,JaC];simp only[List.length_append]
   split<;>split<;>simp
  omega
 have HG3:Hid (gath M w3 a ⟨L,[],0⟩):=G3;have hlt3:=Jb4 G3;obtain⟨⟨p3,c3,u1,u2⟩,u3,_,_,_,_,_⟩:=G3;have u1':w3.cell? ⟨a,0,none⟩=some (.slice p3 (m+1) c3):=by rw[←hLn];exact u1
 have u2':w3.ownsRow M 50 3 (.slice p3 (m+1) c3) (m+1) (Jag L):=by rw[←hLn];exact u2
 obtain ⟨g,rfl⟩:∃g,p3=some ⟨g,0,none⟩:=by
  rcases u2'.2 with ⟨_,h0⟩|⟨g,cap,cur,hv,_⟩
  . exact absurd h0 (by omega)
  . simp only[Value.slice.injEq]at hv
    exact⟨g,hv.1⟩
 have hgl:=(u2'.lt g rfl);have hlc:=JiC (by rw[hLq]at u2';exact u2') (show m+1=_ by rw[←hLq];exact hLn.symm);rw[←hm]at hlc;obtain⟨l0,l1,l2,l3⟩:=hlc;have HU2:Hid (w3.ownsRow M 50 3 (.slice (some ⟨g,0,none⟩) (m+1) c3) (m+1) (Jag L)):=u2';have hwm:IntKind.i64.wrap (((m+1:Nat):Int) - 1)=(m:Int):=by rw[IntKind.wrap_i64];omega
 have hge:(0:Int)<=(m:Int):=by omega
 have hlm:(m:Int)<((m+1:Nat):Int):=by omega
 have HM:Hid (m=init.length):=hm;have HLQ:Hid (L=init++[q]):=hLq;clear u1 u2 u2' hLn hm hLq
 go_wp2_with (first | (go_at_call 9999) | fail)
 refine(JbX q _).mono ?_
 rintro e w4 ⟨rfl,hb4⟩;have G4:=Jbw HG3.out hb4;have HG4:Hid (gath M w4 a ⟨L,[],0⟩):=G4;have HB4:Hid (BelowG M a w w4):=HB3.out.trans (.of hb4 (by omega));have s0:=(hb4.cell (p:=⟨w.heap.size,0,none⟩) (blt w3 _ z0)).trans z0;have s1:=(hb4.cell (p:=⟨a,0,none⟩) (blt w3 _ u1')).trans u1';have sF:=(hb4.frozen (p:=⟨a,0,none⟩) (blt w3 _ u1')).trans u3;have s2:=(hb4.cell (p:=⟨g,m*3,none⟩) (blt w3 _ l0)).trans l0;have s3:=(hb4.frozen (p:=⟨g,m*3,none⟩) (blt w3 _ l0)).trans l3;have s4:=Jaj HU2.out hb4;have HS1:Hid (w4.cell? ⟨a,0,none⟩=some (.slice (some ⟨g,0,none⟩) (m+1) c3)):=s1;have hs4:=hb4.size;clear hb4 s4 G4 u1' u3 l0 l1 l2 l3 z0;have hqd:decide (0<q.keep)=true:=decide_eq_true (by omega);rw[hqd];have hwk:IntKind.i64.wrap (q.keep+p.keep)=q.keep+p.keep:=by rw[IntKind.wrap_i64];omega
 have HG5:Hid (gath M w4.drew a ⟨init++[q],[],0⟩):=by
  have:=Jbw HG4.out (brf _ w4).drew;rw[HLQ.out]at this;exact this
 have P5:=Jp6 (k:=q.keep+p.keep) HG5.out (show w4.drew.cell? ⟨a,0,none⟩=some (.slice (some ⟨g,0,none⟩) (m+1) c3) from HS1.out) (by rw[←HLQ.out];exact HLN.out.symm);rw[←HM.out]at P5;have HP5:=hdz P5;have HBD:Hid (BelowG M a w w4.drew):=HB4.out.drew;clear P5;go_wp2
 go_region
 all_goals
  go_wp2;refine bodyPost_ret (results_none rfl _ _ _) rfl ?_
  exact⟨⟨_,rfl⟩,HP5.out.1,HBD.out.trans HP5.out.2⟩
theorem Jnb(a:Nat)(s:NSt)(p:Pt)(w:World)(h:gath M w a s)(hput:s.put.length+p.put.length<1000000000)(hd:0<=s.drop)(hd':s.drop+p.drop<4611686018427387904)(hp:0<=p.drop)(hk:0<=p.keep)(hout:s.out.length<100000000)
    (hkb:∀q∈s.out,0<=q.keep/\q.keep+p.keep<4611686018427387904) (hkk:p.keep<4611686018427387904) :
    Calls Tryz.prog 265 #[Jay p,.pointer (some ⟨a+1,0,none⟩),.pointer (some ⟨a+2,0,none⟩),.pointer (some ⟨a+3,0,none⟩),.pointer (some ⟨a,0,none⟩)] w fun e w'=>(∃v,e=.returned v)/\gath M w' a (addP s p)/\BelowG M a w w':=by
 have hM:=h.le;have hT:=h.top
 by_cases hk0:p.keep=0
 . have:=add_zero a s p w h hput (by omega) (by omega) hout
   unfold addP Jay;rw[if_pos hk0,hk0];exact this
 . obtain ⟨L,hL⟩:∃L,JaC ⟨s.out,s.put++p.put,s.drop+p.drop⟩=L:=⟨_,rfl⟩
   unfold addP;rw[if_neg hk0,hL]
   have hmem:∀q∈L,0<=q.keep/\q.keep+p.keep<4611686018427387904:=by
    intro q hq;rw[←hL,JaC]at hq;simp only[List.mem_append]at hq
    rcases hq with hq|hq|hq
    . exact hkb q hq
    . split at hq
      . simp at hq
      . rw[List.mem_singleton.1 hq];exact⟨by simp,by simpa using hkk⟩
    . split at hq
      . simp at hq
      . rw[List.mem_singleton.1 hq];exact⟨by simp,by simpa using hkk⟩
   rcases List.eq_nil_or_concat L with hn|⟨init,q,hLq⟩
   . have:=Jr5 a s p w h hput (by omega) (by omega) hout hk0 L hL hn
     subst hn;exact this
   . have hq:=hmem q (by rw[hLq];simp)
     have hgl:L.getLast?=some q:=by rw[hLq];simp
     by_cases hqk:0<q.keep
     . have:=Jqa a s p w h hput (by omega) (by omega) hout hk0 L hL init q (by simpa using hLq) hqk (by omega) (by omega)
       have e:Jbi L p.keep=init++[⟨q.keep+p.keep,q.drop,q.put⟩]:=by simp[Jbi,hqk,hLq]
       rw[e];exact this
     . have:=Jog a s p w h hput (by omega) (by omega) hout hk0 L hL init q (by simpa using hLq) hqk
       have e:Jbi L p.keep=L++[⟨p.keep,0,[]⟩]:=by simp[Jbi,hgl,hqk]
       rw[e];exact this
theorem Jr7(a:Nat)(s:NSt)(p:Pt)(w:World)(h:gath M w a s)(hput:s.put.length+p.put.length<1000000000)(hd:0<=s.drop)(hd':s.drop+p.drop<4611686018427387904)(hp:0<=p.drop)(hk:0<=p.keep)(hout:s.out.length<100000000)
    (hkb:∀q∈s.out,0<=q.keep/\q.keep+p.keep<4611686018427387904) (hkk:p.keep<4611686018427387904) :
    Calls Tryz.prog 265 #[Jay p,.pointer (some ⟨a+1,0,none⟩),.pointer (some ⟨a+2,0,none⟩),.pointer (some ⟨a+3,0,none⟩),.pointer (some ⟨a,0,none⟩)] w fun e w'=>(∃v,e=.returned v)/\gath M w' a (addP s p)/\Below a w w' :=
 (Jnb a s p w h hput hd hd' hp hk hout hkb hkk).mono fun e w' h=>⟨h.1,h.2.1,h.2.2.below⟩
theorem Jrh(a:Nat)(s:NSt)(w:World)(h:gath M w a s)(hlen:s.out.length<1000000000)(hput:s.put.length<1000000000) :
    Calls Tryz.prog 266 #[.pointer (some ⟨a+3,0,none⟩),.pointer (some ⟨a,0,none⟩)] w fun e w'=>∃v,e=.returned v/\w'.ownsRow M 50 3 v (JaC s).length (Jag (JaC s))/\Below a w w' :=
 (JfL a s w h hlen hput).mono fun e w' h=>(by obtain⟨v,h1,h2,h3⟩:=h;exact⟨v,h1,h2,h3.below⟩)
end
section
open Go.RowKit
variable {w : World}{v : Value}{ps : List Pt}{B C : Nat}
def opAt (w:World) (v:Value) (ps:List Pt):Prop :=
 ∃ p c,v=.slice p ps.length c/\ps.length<=c/\c<=maxLen/\(ps≠[]->∃b o,p=some ⟨b,o,none⟩/\b<w.heap.size/\∀i q,ps[i]?=some q ->
  w.cell? ⟨b,o+i*3,none⟩=some (.int .i64 q.keep)/\w.cell? ⟨b,o+i*3+1,none⟩=some (.int .i64 q.drop)/\w.cell? ⟨b,o+i*3+2,none⟩=some (.string ⟨q.put.toArray⟩))
theorem Ja6{w':World}(h:opAt w v ps){B:Nat}(hb:Below B w w')(hB:w.heap.size<=B):opAt w' v ps:=by
 obtain⟨p,c,rfl,h1,h2,h3⟩:=h;refine⟨p,c,rfl,h1,h2,fun hne=>?_⟩;obtain⟨b,o,e1,e2,e3⟩:=h3 hne;refine⟨b,o,e1,Nat.lt_of_lt_of_le e2 hb.size,fun i q hi=>?_⟩;obtain⟨f1,f2,f3⟩:=e3 i q hi;exact⟨(hb.cell (p:=⟨b,o+i*3,none⟩) (Nat.lt_of_lt_of_le e2 hB)).trans f1,(hb.cell (p:=⟨b,o+i*3+1,none⟩) (Nat.lt_of_lt_of_le e2 hB)).trans f2,(hb.cell (p:=⟨b,o+i*3+2,none⟩) (Nat.lt_of_lt_of_le e2 hB)).trans f3⟩
theorem JeX(ps:List Pt)(i:Nat)(q:Pt)(hi:ps[i]?=some q):∀j,j<3->(Jag ps)[i*3+j]?=(Jas q)[j]?:=by
 induction ps generalizing i with
 | nil=>simp at hi
 | cons p ps ih =>
  intro j hj;have e:Jag (p :: ps)=Jas p++Jag ps:=rfl;have hl:(Jas p).length=3:=rfl;rw[e]
  cases i with
  | zero =>
   simp only[List.getElem?_cons_zero,Option.some.injEq]at hi;subst hi;rw[Nat.zero_mul,Nat.zero_add,List.getElem?_append_left (by rw[hl];exact hj)]
  | succ i =>
   rw[List.getElem?_append_right (by rw[hl];omega),hl,←ih i (by simpa using hi) j hj]
   congr 1
   omega
theorem Jq7(h:w.ownsRow B 50 3 v ps.length (Jag ps)):opAt w v ps:=by
 have h':=h
 rcases h.2 with ⟨rfl,h2⟩|⟨g,cap,cur,rfl,h2,h3,h4,h5,h6,h7⟩
 . obtain rfl:ps=[]:=List.eq_nil_of_length_eq_zero h2
   exact⟨none,0,rfl,nlr _,Nat.zero_le _,fun h=>absurd rfl h⟩
 . refine⟨_,cap,rfl,h4,h5,fun _=>⟨g,0,rfl,(alt h3),fun i q hi=>?_⟩⟩
   have hlt:=(llt hi);have hc:=JeX ps i q hi;refine⟨?_,?_,?_⟩
   . rw[Nat.zero_add,h'.cellAt _ (by omega)];exact hc 0 (by omega)
   . rw[Nat.zero_add,h'.cellAt _ (by omega)];exact hc 1 (by omega)
   . rw[Nat.zero_add,h'.cellAt _ (by omega)];exact hc 2 (by omega)
def opN (B:Nat) (w:World) (v:Value) (ps:List Pt):Prop:=opAt w v ps/\∀k,v.ownBlock=some k->B<=k/\∃cs fz,w.heap[k]?=some (.cells cs 50 fz)
theorem Jfl(hB:C<=B)(h:w.ownsRow B 50 3 v ps.length (Jag ps)):opN C w v ps:=by
 refine⟨Jq7 h,fun k hk=>⟨Nat.le_trans hB (h.lt k hk).1,?_⟩⟩
 rcases h.2 with ⟨rfl,_⟩|⟨g,cap,cur,rfl,_,hg,_⟩
 . cases hk
 . obtain rfl:g=k:=osi hk
   exact⟨cur,_,hg⟩
theorem Jen(B:Nat)(w:World):opN B w (.slice none 0 0) []:=⟨⟨none,0,rfl,nlr _,Nat.zero_le _,fun h=>absurd rfl h⟩,fun k hk=>by cases hk⟩
theorem opN.mono(h:opN B w v ps)(hB:C<=B):opN C w v ps:=⟨h.1,fun k hk=>⟨Nat.le_trans hB (h.2 k hk).1,(h.2 k hk).2⟩⟩
def JbA (p:Pt):Prop:=0<=p.keep/\0<=p.drop
def wtP (p:Pt):Int:=p.keep+p.drop+p.put.length
def wts (ps:List Pt):Int:=(ps.map wtP).sum
theorem JgJ(ps:List Pt)(p:Pt):wts (ps++[p])=wts ps+wtP p:=by simp[wts]
theorem JeI(h:∀p∈ps,JbA p):0<=wts ps:=by
 induction ps with
 | nil=>simp[wts]
 | cons p ps ih =>
  have h1:=h p (List.mem_cons_self ..);have h2:=ih fun q hq=>h q (List.mem_cons_of_mem _ hq)
  unfold wts at h2 ⊢;rw[List.map_cons,List.sum_cons];unfold JbA at h1;have:0<=wtP p:=by unfold wtP;omega
  omega
theorem Jje(h:∀p∈ps,JbA p)(k:Nat):wts (ps.take k)<=wts ps:=by
 have h1:wts ps=wts (ps.take k)+wts (ps.drop k):=by
  unfold wts;rw[←List.sum_append,←List.map_append,List.take_append_drop]
 have h2:=JeI (ps:=ps.drop k) fun q hq=>h q (List.mem_of_mem_drop hq)
 omega
structure Bd (s:NSt) (T:Int) (n:Nat):Prop where
 put:(s.put.length:Int)<=T
 d0:0<=s.drop
 dT:s.drop<=T
 keep:∀q∈s.out,0<=q.keep/\q.keep<=T
 len:s.out.length<=3*n
theorem bd0:Bd nst0 0 0:=⟨by simp[nst0],by simp[nst0],by simp[nst0],by simp[nst0],by simp[nst0]⟩
theorem Bd.add{s:NSt}{T:Int}{n:Nat}(h:Bd s T n)(p:Pt)(hp:JbA p):Bd (addP s p) (T+wtP p) (n+1):=by
 obtain⟨k,d,q⟩:=p;obtain⟨p1,p2⟩:=hp;obtain⟨h1,h2,h3,h4,h5⟩:=h;have hw:wtP ⟨k,d,q⟩=k+d+q.length:=rfl;have e1:(0:Int)<=k:=p1;have e2:(0:Int)<=d:=p2;have hT:0<=T:=Int.le_trans h2 h3;rw[hw];unfold addP
 by_cases hk:k=0
 . rw [if_pos hk]
   refine⟨?_,?_,?_,?_,?_⟩
   . show((s.put++q).length:Int)<=_
     rw[List.length_append];omega
   . show 0<=s.drop+d;omega
   . show s.drop+d<=_;omega
   . intro x hx
     have:=h4 x hx;omega
   . show s.out.length<=_;omega
 . rw [if_neg hk]
   obtain⟨L,hL⟩:∃L,JaC ⟨s.out,s.put++q,s.drop+d⟩=L:=⟨_,rfl⟩
   have hm:∀x∈L,0<=x.keep/\x.keep<=T:=by
    intro x hx;rw[←hL,JaC]at hx;simp only[List.mem_append]at hx
    rcases hx with hx|hx|hx
    . exact h4 x hx
    . split at hx
      . simp at hx
      . rw[List.mem_singleton.1 hx];exact⟨by simp,hT⟩
    . split at hx
      . simp at hx
      . rw[List.mem_singleton.1 hx];exact⟨by simp,hT⟩
   have hl:L.length<=s.out.length+2:=by
    rw[←hL,JaC];simp only[List.length_append]
    split<;>split<;>simp
   have key:(∀x∈Jbi L k,0<=x.keep/\x.keep<=T+k)/\(Jbi L k).length<=L.length+1:=by
    have hsnoc:(∀x∈L++[⟨k,0,[]⟩],0<=x.keep/\x.keep<=T+k)/\(L++[(⟨k,0,[]⟩:Pt)]).length<=L.length+1:=by
     refine⟨fun x hx=>?_,by simp⟩
     rcases List.mem_append.1 hx with hx|hx
     . have:=hm x hx;omega
     . rw[List.mem_singleton.1 hx];exact⟨e1,by show k<=_;omega⟩
    unfold Jbi
    split
    . rename_i q0 hq0
      split
      . rename_i hq1
        have hin:q0∈L:=List.mem_of_getLast? hq0;have:=hm q0 hin;refine⟨fun x hx=>?_,by simp⟩
        rcases List.mem_append.1 hx with hx|hx
        . have:=hm x (List.dropLast_subset _ hx);omega
        . rw[List.mem_singleton.1 hx];exact⟨by show 0<=q0.keep+k;omega,by show q0.keep+k<=_;omega⟩
      . exact hsnoc
    . exact hsnoc
   rw[hL];refine⟨?_,by simp,?_,?_,?_⟩
   . show((0:Nat):Int)<=_;omega
   . show(0:Int)<=_;omega
   . intro x hx
     have:=key.1 x hx;show 0<=x.keep/\x.keep<=T+(k+d+q.length);omega
   . have:=key.2
     show(Jbi L k).length<=_;omega
theorem bds(ps:List Pt)(h:∀p∈ps,JbA p):Bd (ps.foldl addP nst0) (wts ps) ps.length:=by
 have key:∀n,n<=ps.length->Bd ((ps.take n).foldl addP nst0) (wts (ps.take n)) n:=by
  intro n
  induction n with
  | zero=>intro _;exact bd0
  | succ n ih =>
   intro hn;have:=ih (by omega);rw[List.take_succ_eq_append_getElem (by omega),List.foldl_append,JgJ];exact this.add _ (h _ (List.getElem_mem _))
 have:=key ps.length (nlr _);rwa[List.take_length]at this
theorem Jeb(v:Value)(ps:List Pt)(w:World)(hr:opAt w v ps)(hs:∀p∈ps,JbA p)(hw:wts ps<1000000000)(hl:ps.length<10000000) :
    Calls Tryz.prog 224 #[v] w fun e w'=>∃v',e=.returned v'/\w'.ownsRow w.heap.size 50 3 v' (Jae ps).length (Jag (Jae ps))/\Below w.heap.size w w'/\w.heap.size+4<=w'.heap.size:=by
 obtain⟨p,c,rfl,r1,r2,r3⟩:=hr;obtain⟨n,hn⟩:∃n,n=ps.length:=⟨_,rfl⟩;rw[←hn]at r1 hl ⊢;have HN:Hid (n=ps.length):=hn;clear hn
 have R3:Hid (ps≠[]->∃b o,p=some ⟨b,o,none⟩/\b<w.heap.size/\∀i q,ps[i]?=some q ->
  w.cell? ⟨b,o+i*3,none⟩=some (.int .i64 q.keep)/\w.cell? ⟨b,o+i*3+1,none⟩=some (.int .i64 q.drop)/\w.cell? ⟨b,o+i*3+2,none⟩=some (.string ⟨q.put.toArray⟩)):=r3
 have HS:Hid (∀p∈ps,JbA p):=hs;have HW:Hid (wts ps<1000000000):=hw;clear r3 hs hw
 go_enter Tryz.func224,Tryz.ntmps224
 go_wp2_with (first | (go_at_call 222;refine(JeU w).mono ?_;rintro e w1 ⟨rfl,hG1,hz1,hb1⟩;have HG1:Hid (gath (w.heap.size+4) w1 w.heap.size nst0):=hG1 _ _ (brf _ _) (nlr _) (by omega);clear hz1;have HB1:=hdz hb1;clear hG1 hb1) | fail)
 go_loopw [13] (fun i wr=>∃(k:Nat),k<=n/\i=.int .i64 k/\gath (w.heap.size+4) wr w.heap.size ((ps.take k).foldl addP nst0)/\Below w.heap.size w wr) (fun i _=>n - (intOf i).toNat)
 case atStart=>exact⟨0,Nat.zero_le _,rfl,HG1.out,HB1.out⟩
 case round =>
  obtain⟨k,hk,rfl,hg,hwr⟩:=hrel
  by_cases hlt:k<n
  . have hkr:k<ps.length:=by rw[←HN.out];exact hlt
    have hne:ps≠[]:=by intro e;rw[e]at hkr;exact absurd hkr (Nat.not_lt_zero _)
    obtain⟨b,o,rfl,hbw,hcell⟩:=R3.out hne;obtain⟨c0,c1,c2⟩:=hcell k ps[k] (lgg hkr);have g0:=(hwr.cell (p:=⟨b,o+k*3,none⟩) hbw).trans c0;have g1:=(hwr.cell (p:=⟨b,o+k*3+1,none⟩) hbw).trans c1;have g2:=(hwr.cell (p:=⟨b,o+k*3+2,none⟩) hbw).trans c2;have hB:=bds (ps.take k) fun q hq=>HS.out q (List.mem_of_mem_take hq)
    have hB1:=bds (ps.take (k+1)) fun q hq=>HS.out q (List.mem_of_mem_take hq)
    have hT1:=Jje HS.out (k+1);have hT0:=Jje HS.out k;have hT2:=HW.out;have hsp:=HS.out ps[k] (List.getElem_mem _);have hts:ps.take (k+1)=ps.take k++[ps[k]]:=List.take_succ_eq_append_getElem hkr;have hlk:(ps.take k).length<=k:=by rw[List.length_take];omega
    rw[hts,JgJ]at hT1;have hnx:(ps.take (k+1)).foldl addP nst0=addP ((ps.take k).foldl addP nst0) ps[k]:=by rw[hts,List.foldl_append];rfl
    have hwp:wtP ps[k]=ps[k].keep+ps[k].drop+ps[k].put.length:=rfl;have HNX:Hid ((ps.take (k+1)).foldl addP nst0=addP ((ps.take k).foldl addP nst0) ps[k]):=hnx;clear hcell c0 c1 c2 hts hnx hB1;generalize ps[k]=q at *;obtain⟨s,hse⟩:∃s,s=(ps.take k).foldl addP nst0:=⟨_,rfl⟩;rw[←hse]at hg hB HNX;obtain⟨sp1,sp2⟩:=hsp;have hsize:=hwr.size;have CA:Hid (∀wx,Below wr.heap.size wr wx->Calls Tryz.prog 265 #[Jay q,.pointer (some ⟨w.heap.size+1,0,none⟩),.pointer (some ⟨w.heap.size+2,0,none⟩),.pointer (some ⟨w.heap.size+3,0,none⟩),.pointer (some ⟨w.heap.size,0,none⟩)] wx fun e w'=>(∃v,e=.returned v)/\gath (w.heap.size+4) w' w.heap.size (addP s q)/\Below w.heap.size wx w'):=by
     intro wx hbx;have h1:=hB.put;have h2:=hB.d0;have h3:=hB.dT;have h5:=hB.len;exact Jr7 w.heap.size s q wx (Jbw hg hbx) (by omega) h2 (by omega) sp2 sp1 (by omega) (fun x hx=>by have:=hB.keep x hx;omega) (by omega)
    have HWR:=hdz hwr;unfold Jay at CA;clear hg hB hT1 hT0 hT2 hlk hwp hse sp1 sp2 hwr HG1 HB1
    go_wp2_with (first | (go_at_call 265;refine(CA.out _ ((brf _ wr).alloc (nlr _) _)).mono ?_;rintro e w2 ⟨⟨v2,rfl⟩,hg2,hb2⟩;have HG2:Hid (gath (w.heap.size+4) w2 w.heap.size (addP s q)):=hg2;have HB2:Hid (Below w.heap.size w w2):=(HWR.out.alloc hsize _).trans hb2;clear hg2 hb2) | fail)
    go_roundw
    case rel=>exact⟨k+1,by omega,by go_num,by rw[HNX.out];exact HG2.out,HB2.out⟩
    case measure=>simp[intOf];omega
  . have e:ps.take k=ps:=List.take_of_length_le (by rw[←HN.out];omega)
    rw[e]at hg;have hB:=bds ps HS.out;have hT2:=HW.out
    have cD:Hid (Calls Tryz.prog 266 #[.pointer (some ⟨w.heap.size+3,0,none⟩),.pointer (some ⟨w.heap.size,0,none⟩)] wr fun e w'=>∃v,e=.returned v/\w'.ownsRow (w.heap.size+4) 50 3 v (Jae ps).length (Jag (Jae ps))/\Below w.heap.size wr w') :=
     Jrh w.heap.size _ wr hg (by have:=hB.len;have:=HN.out;omega) (by have:=hB.put;omega)
    have hlt4:=Jb4 hg;clear e hg hB hT2 R3 HS HW HG1 HB1
    go_wp2_with (first | (go_at_call 266;refine cD.out.mono ?_;rintro e w2 ⟨v2,rfl,ho2,hb2⟩) | fail)
    obtain⟨p2,q2,rfl⟩:=Jad ho2;go_ret;exact⟨_,rfl,Jj0 ho2 (by omega),hwr.trans hb2,by have:=hb2.size;omega⟩
end
section
open Go.RowKit
def lenW (s:Int×Int) (p:Pt):Int×Int:=(IntKind.i64.wrap (s.1+IntKind.i64.wrap (p.keep+p.drop)),IntKind.i64.wrap (s.2+IntKind.i64.wrap (p.keep+p.put.length)))
def Ja9 (ps:List Pt):Int×Int:=ps.foldl lenW (0,0)
theorem Jcg(v:Value)(ps:List Pt)(w:World)(hr:opAt w v ps)(hl:ps.length<10000000) :
    Calls Tryz.prog 120 #[v] w fun e w'=>e=.returned (.tuple #[.int .i64 (Ja9 ps).1,.int .i64 (Ja9 ps).2])/\Below w.heap.size w w':=by
 obtain⟨p,c,rfl,r1,r2,r3⟩:=hr;obtain⟨n,hn⟩:∃n,n=ps.length:=⟨_,rfl⟩;rw[←hn]at r1 hl ⊢;have HN:Hid (n=ps.length):=hn;clear hn
 have R3:Hid (ps≠[]->∃b o,p=some ⟨b,o,none⟩/\b<w.heap.size/\∀i q,ps[i]?=some q ->
  w.cell? ⟨b,o+i*3,none⟩=some (.int .i64 q.keep)/\w.cell? ⟨b,o+i*3+1,none⟩=some (.int .i64 q.drop)/\w.cell? ⟨b,o+i*3+2,none⟩=some (.string ⟨q.put.toArray⟩)):=r3
 clear r3
 go_enter Tryz.func120,Tryz.ntmps120
 go_wp2
 go_loopw [2,3,8] (fun x y i wr=>∃(k:Nat),k<=n/\i=.int .i64 k/\x=.int .i64 (Ja9 (ps.take k)).1/\y=.int .i64 (Ja9 (ps.take k)).2/\Below w.heap.size w wr) (fun _ _ i _=>n - (intOf i).toNat)
 case atStart=>exact⟨0,Nat.zero_le _,rfl,rfl,rfl,brf _ _⟩
 case round =>
  obtain⟨k,hk,rfl,rfl,rfl,hwr⟩:=hrel
  by_cases hlt:k<n
  . have hkr:k<ps.length:=by rw[←HN.out];exact hlt
    have hne:ps≠[]:=by intro e;rw[e]at hkr;exact absurd hkr (Nat.not_lt_zero _)
    obtain⟨b,o,rfl,hbw,hcell⟩:=R3.out hne;obtain⟨c0,c1,c2⟩:=hcell k ps[k] (lgg hkr);have g0:=(hwr.cell (p:=⟨b,o+k*3,none⟩) hbw).trans c0;have g1:=(hwr.cell (p:=⟨b,o+k*3+1,none⟩) hbw).trans c1;have g2:=(hwr.cell (p:=⟨b,o+k*3+2,none⟩) hbw).trans c2;have hts:Ja9 (ps.take (k+1))=lenW (Ja9 (ps.take k)) ps[k]:=by
     unfold Ja9;rw[List.take_succ_eq_append_getElem hkr,List.foldl_append];rfl
    generalize ps[k]=q at *;generalize Ja9 (ps.take k)=AB at *;obtain⟨A,B⟩:=AB;obtain⟨K,D,U⟩:=q;unfold lenW at hts;simp only at hts g0 g1 g2 ⊢;obtain⟨x1,h1⟩:∃x,IntKind.i64.wrap (K+D)=x:=⟨_,rfl⟩;obtain⟨x2,h2⟩:∃x,IntKind.i64.wrap (K+(U.length:Int))=x:=⟨_,rfl⟩;obtain⟨y1,h3⟩:∃x,IntKind.i64.wrap (A+x1)=x:=⟨_,rfl⟩;obtain⟨y2,h4⟩:∃x,IntKind.i64.wrap (B+x2)=x:=⟨_,rfl⟩;rw[h1,h2,h3,h4]at hts;have HTS:Hid (Ja9 (ps.take (k+1))=(y1,y2)):=hts;have HWR:=hdz hwr;clear hcell c0 c1 c2 hts hwr;go_wp2
    go_roundw
    case rel=>exact⟨k+1,by omega,by go_num,by rw[HTS.out],by rw[HTS.out],HWR.out.alloc HWR.out.size _⟩
    case measure=>simp[intOf];omega
  . have e:ps.take k=ps:=List.take_of_length_le (by rw[←HN.out];omega)
    rw[e];obtain⟨A,hA⟩:∃A,(Ja9 ps).1=A:=⟨_,rfl⟩;obtain⟨B,hB⟩:∃B,(Ja9 ps).2=B:=⟨_,rfl⟩;have HA:Hid ((Ja9 ps).1=A):=hA;have HB:Hid ((Ja9 ps).2=B):=hB;rw[hA,hB];clear e hA hB R3;go_wp2
    go_ret2
    exact⟨by rw[HA.out,HB.out];rfl,hwr⟩
theorem JqU:(Tryz.prog.info? 9).map (fun i=>(i.zero,i.size,i.bytes))=some (some (.string ⟨#[]⟩),1,16):=by kernel_rfl
theorem Jki(ps:List Pt)(p:Pt):Jdd (ps++[p])=Jcb (Jdd ps) p:=by simp[Jdd]
theorem Jl0(g:GSt)(p:Pt):(Jcb g p).1.length=g.1.length+p.drop.toNat+p.keep.toNat:=by
 unfold Jcb;rw[Jez,Jez]
def isP (p:Pt):Int:=p.keep+p.put.length
theorem JiB(ps:List Pt)(h:∀p∈ps,JbA p)(hw:wts ps<4611686018427387904):(Ja9 ps).1=(Jdd ps).1.length/\(Ja9 ps).2=(ps.map isP).sum/\((Jdd ps).1.length:Int)<=wts ps/\(ps.map isP).sum<=wts ps:=by
 have key:∀k,k<=ps.length->(Ja9 (ps.take k)).1=(Jdd (ps.take k)).1.length/\(Ja9 (ps.take k)).2=((ps.take k).map isP).sum/\((Jdd (ps.take k)).1.length:Int)<=wts (ps.take k)/\((ps.take k).map isP).sum<=wts (ps.take k)/\0<=((ps.take k).map isP).sum:=by
  intro k
  induction k with
  | zero=>intro _;simp[Ja9,Jdd,wts]
  | succ k ih =>
   intro hk;obtain⟨h1,h2,h3,h4,h5⟩:=ih (by omega);have hp:=h _ (List.getElem_mem (show k<ps.length by omega));have ht:=Jje h (k+1);have hts:ps.take (k+1)=ps.take k++[ps[k]]:=List.take_succ_eq_append_getElem (by omega);have hls:Ja9 (ps.take (k+1))=lenW (Ja9 (ps.take k)) ps[k]:=by
    unfold Ja9;rw[hts,List.foldl_append];rfl
   rw[hls,hts,Jki,Jl0,JgJ,List.map_append,List.sum_append];rw[hts,JgJ]at ht;generalize ps[k]=q at *;obtain⟨q1,q2⟩:=hp;have hwq:wtP q=q.keep+q.drop+q.put.length:=rfl;have hiq:([q].map isP).sum=q.keep+q.put.length:=by simp[isP]
   rw[hiq];unfold lenW;simp only;rw[h1,h2];have w1:IntKind.i64.wrap (q.keep+q.drop)=q.keep+q.drop:=by rw[IntKind.wrap_i64];omega
   have w2:IntKind.i64.wrap (q.keep+(q.put.length:Int))=q.keep+q.put.length:=by rw[IntKind.wrap_i64];omega
   rw[w1,w2];have w3:IntKind.i64.wrap (((Jdd (ps.take k)).1.length:Int)+(q.keep+q.drop))=((Jdd (ps.take k)).1.length:Int)+(q.keep+q.drop):=by rw[IntKind.wrap_i64];omega
   have w4:IntKind.i64.wrap (((ps.take k).map isP).sum+(q.keep+(q.put.length:Int)))=((ps.take k).map isP).sum+(q.keep+q.put.length):=by rw[IntKind.wrap_i64];omega
   rw[w3,w4];refine⟨by omega,rfl,by omega,by omega,by omega⟩
 have:=key ps.length (nlr _);rw[List.take_length]at this;exact⟨this.1,this.2.1,this.2.2.1,this.2.2.2.1⟩
end
section
open Go.RowKit
attribute [local go_sem] Oper.semAt_some
structure stp (W:World) (s b:Nat) (u v a h:Int):Prop where
 r:W.cell? ⟨s,0,none⟩=some (.pointer (some ⟨b,0,none⟩))
 u:W.cell? ⟨s+1,0,none⟩=some (.int .i64 u)
 v:W.cell? ⟨s+2,0,none⟩=some (.int .i64 v)
 a:W.cell? ⟨s+3,0,none⟩=some (.int .i64 a)
 af:W.frozen? ⟨s+3,0,none⟩=false
 h:W.cell? ⟨s+4,0,none⟩=some (.int .i64 h)
 hf:W.frozen? ⟨s+4,0,none⟩=false
theorem stp.below{W W':World}{s b:Nat}{u v a h:Int}(k:stp W s b u v a h)(hb:Below W.heap.size W W'):stp W' s b u v a h:=by
 have l0:=blt W _ k.r;have l1:=blt W _ k.u;have l2:=blt W _ k.v;have l3:=blt W _ k.a;have l4:=blt W _ k.h;exact⟨(hb.cell l0).trans k.r,(hb.cell l1).trans k.u,(hb.cell l2).trans k.v,(hb.cell l3).trans k.a,(hb.frozen l3).trans k.af,(hb.cell l4).trans k.h,(hb.frozen l4).trans k.hf⟩
end
end Go.Proofs.YtedgnlgjmnccgabGreatDoor
namespace Go.Proofs
open Go.Shelf
def Tryz.lays196_ren:Go.Shelf.Ren:=⟨fun | 196=>158 | 259=>212 | n=>n,fun | 0=>0 | 3=>3 | 4=>4 | 5=>5 | 9=>9 | 12=>12 | 46=>86 | 53=>351 | 119=>320 | 138=>322 | 139=>323 | n=>n,fun | 3=>2 | 4=>3 | n=>n⟩
theorem Tryz.lays196:Go.Proofs.Lays.n196 Tryz.prog Tryz.lays196_ren:={
 mixed:=by kernel_rfl
 f196:=Tryz.func158.trans (congrArg some (by kernel_rfl))
 f259:=Tryz.func212.trans (congrArg some (by kernel_rfl))
 t0:=Tryz.underlying0
 a0:=Tryz.isAgg0
 z0:=Tryz.sizeOf0
 v0:=Tryz.zeroValue0
 t3:=Tryz.underlying3
 a3:=Tryz.isAgg3
 z3:=Tryz.sizeOf3
 v3:=Tryz.zeroValue3
 t4:=Tryz.underlying4
 a4:=Tryz.isAgg4
 z4:=Tryz.sizeOf4
 v4:=Tryz.zeroValue4
 t5:=Tryz.underlying5
 a5:=Tryz.isAgg5
 z5:=Tryz.sizeOf5
 v5:=Tryz.zeroValue5
 t9:=Tryz.underlying9
 a9:=Tryz.isAgg9
 z9:=Tryz.sizeOf9
 v9:=Tryz.zeroValue9
 t12:=Tryz.underlying12
 a12:=Tryz.isAgg12
 z12:=Tryz.sizeOf12
 v12:=Tryz.zeroValue12
 t46:=Tryz.underlying86
 a46:=Tryz.isAgg86
 z46:=Tryz.sizeOf86
 v46:=Tryz.zeroValue86
 t53:=Tryz.underlying351
 a53:=Tryz.isAgg351
 z53:=Tryz.sizeOf351
 v53:=Tryz.zeroValue351
 t119:=Tryz.underlying320
 a119:=Tryz.isAgg320
 z119:=Tryz.sizeOf320
 t138:=Tryz.underlying322
 a138:=Tryz.isAgg322
 z138:=Tryz.sizeOf322
 v138:=Tryz.zeroValue322
 t139:=Tryz.underlying323
 a139:=Tryz.isAgg323
 z139:=Tryz.sizeOf323
 v139:=Tryz.zeroValue323
 g3:=by kernel_rfl
 g4:=by kernel_rfl }
end Go.Proofs
namespace Go.Proofs.YtedgnlgjmnccgabGreatDoor
open Go.RowKit
theorem Jne(n:Nat):∀(l:List UInt8),l.length<=n->Lib.validGoD n l=(scan l).2:=by
 induction n with
 | zero =>
  intro l hl;have:l=[]:=List.eq_nil_of_length_eq_zero (by omega);subst this;rfl
 | succ n ih =>
  intro l hl;unfold Lib.validGoD
  by_cases hne:l=[]
  . subst hne;rfl
  . rw [if_neg hne]
    have hd:Lib.decodeL l=dec l:=by
     have:=Jgj ⟨l.toArray⟩ 0;rw[List.drop_zero]at this;rw[←this];unfold Lib.decodeL
     congr 1
     apply ByteArray.ext;simp
    rw[hd]
    by_cases hb:badB (dec l)=true
    . rw[JgP hne hb,if_pos (JhJ hb)]
    . have hb':badB (dec l)=false:=Bool.eq_false_iff.2 hb
      rw[Je2 hne hb',if_neg (by intro h;exact hb (by unfold badB;simp[h])),ih];have h1:=Jgk l;rw[List.length_drop];omega
theorem JhQ(s:ByteArray)(w:World)(hs:s.size<=9223372036854775807)(hT:Lib.Utf8Tabs 2 3 w) :
    Calls Tryz.prog 158 #[.string s] w fun e w'=>e=.returned (.bool (scan s.data.toList).2)/\Below w.heap.size w w':=by
 have:=Any.utf8_ValidString Tryz.lays196 s w hs hT;rwa[show Lib.validD s.data.toList=(scan s.data.toList).2 from Jne _ _ (nlr _)]at this
end Go.Proofs.YtedgnlgjmnccgabGreatDoor
namespace Go.Proofs.YtedgnlgjmnccgabGreatDoor
section
open Go.RowKit Go.Extern.Stop Go.Stop Go.Extern
theorem JnX(t:Addr)(w:World):(ReflectliteValue.unpack (.iface 180 (.pointer (some t)))).run Tryz.prog w
    = .ok (.agg #[.pointer (some ⟨9,180,none⟩),.pointer (some ⟨w.heap.size,0,none⟩),.int .u64 150]) (w.alloc (.cells #[.pointer (some t)] 180)):=by kernel_rfl
theorem as_type(a:Addr)(w:World):(ReflectliteValue.methodAny (ReflectliteValue.valueError "reflectlite.Value.Type" 0) (fun t _ _ _=>ReflectliteType.toType t) #[.agg #[.pointer (some ⟨9,180,none⟩),.pointer (some a),.int .u64 150]]).run Tryz.prog w
    = .ok (.iface 327 (.agg #[.pointer (some ⟨9,180,none⟩)])) w:=by kernel_rfl
theorem JjI(h:Value)(w:World):(Go.method 555 327 (.agg #[h]) "Kind").run Tryz.prog w=.ok (360,h) w:=by kernel_rfl
theorem Jr1(w:World):((ReflectliteType.abiMethod fun t=>(fun a:Nat=>Value.int IntKind.u8 (a:Int)) <$> Rtype.kind t) #[.pointer (some ⟨9,180,none⟩)]).run Tryz.prog w=.ok (.int .u8 22) w:=by kernel_rfl
theorem Jr2(w:World):((ReflectliteType.abiMethod fun t=>(fun a:Nat=>Value.int IntKind.u8 (a:Int)) <$> Rtype.kind t) #[.pointer (some ⟨9,26,none⟩)]).run Tryz.prog w=.ok (.int .u8 2) w:=by kernel_rfl
theorem JrT(z:Sem Value)(f:TypeId->Addr->Nat->Nat->Sem Value)(v:Value) :
    ReflectliteValue.method z f #[v]=(do match ← ReflectliteValue.parts v with | none=>z | some (t,a,fl)=>f t a fl (fl % 32)):=rfl
theorem Jlb(a:Addr)(w:World):(ReflectliteValue.parts (.agg #[.pointer (some ⟨9,180,none⟩),.pointer (some a),.int .u64 150])).run Tryz.prog w=.ok (some (180,a,150)) w:=by kernel_rfl
theorem Jr3(a p:Addr)(W:World)(ha:W.cell? a=some (.pointer (some p))) :
    (ReflectliteValue.method (ReflectliteValue.valueError "reflectlite.Value.IsNil" 0) ReflectliteValue.isNil #[.agg #[.pointer (some ⟨9,180,none⟩),.pointer (some a),.int .u64 150]]).run Tryz.prog W=.ok (.bool false) W:=by
 rw[JrT];simp only[Sem.run_bind,Jlb,Result.andThen];simp[ReflectliteValue.isNil,loadVar,isAgg,underlying,Tryz.underlying180,ha,Result.andThen]
theorem JjJ(h:Value)(w:World):(Go.method 555 327 (.agg #[h]) "Elem").run Tryz.prog w=.ok (374,.agg #[h]) w:=by kernel_rfl
theorem Jfs(h:Value)(w:World):(Go.method 555 327 (.agg #[h]) "Implements").run Tryz.prog w=.ok (375,.agg #[h]) w:=by kernel_rfl
theorem JeG(h:Value)(w:World):(Go.method 555 327 (.agg #[h]) "AssignableTo").run Tryz.prog w=.ok (372,.agg #[h]) w:=by kernel_rfl
theorem as_elem(w:World):(ReflectliteType.method ReflectliteType.elem #[.agg #[.pointer (some ⟨9,180,none⟩)]]).run Tryz.prog w=.ok (.iface 327 (.agg #[.pointer (some ⟨9,26,none⟩)])) w:=by kernel_rfl
theorem JjK(w:World):(ReflectliteType.relation "Implements" ReflectliteType.implements_ #[.agg #[.pointer (some ⟨9,26,none⟩)],.iface 327 (.agg #[.pointer (some ⟨9,33,none⟩)])]).run Tryz.prog w=.ok (.bool true) w:=by kernel_rfl
theorem JnY(v:Value)(w:World):(ReflectliteType.typeOf #[.iface 26 v]).run Tryz.prog w=.ok (.iface 327 (.agg #[.pointer (some ⟨9,26,none⟩)])) w:=by kernel_rfl
theorem JnZ(v:Value)(w:World):(ReflectliteType.typeOf #[.iface 273 v]).run Tryz.prog w=.ok (.iface 327 (.agg #[.pointer (some ⟨9,273,none⟩)])) w:=by kernel_rfl
theorem Joa(w:World):(ReflectliteType.relation "AssignableTo" ReflectliteType.assignableTo #[.agg #[.pointer (some ⟨9,26,none⟩)],.iface 327 (.agg #[.pointer (some ⟨9,26,none⟩)])]).run Tryz.prog w=.ok (.bool true) w:=by kernel_rfl
theorem Job(w:World):(ReflectliteType.relation "AssignableTo" ReflectliteType.assignableTo #[.agg #[.pointer (some ⟨9,273,none⟩)],.iface 327 (.agg #[.pointer (some ⟨9,26,none⟩)])]).run Tryz.prog w=.ok (.bool false) w:=by kernel_rfl
theorem Jms(n:Int)(w:World):(ReflectliteValue.unpack (.iface 26 (.int .i64 n))).run Tryz.prog w
    = .ok (.agg #[.pointer (some ⟨9,26,none⟩),.pointer (some ⟨w.heap.size,0,none⟩),.int .u64 130]) (w.alloc (.cells #[.int .i64 n] 26)):=by kernel_rfl
theorem JpW(w:World):(Rtype.elem? 180).run Tryz.prog w=.ok (some 26) w:=by kernel_rfl
theorem as_mk(p:Addr)(w:World):(ReflectliteValue.mk 26 p ReflectliteValue.flagAddr).run Tryz.prog w=.ok (.agg #[.pointer (some ⟨9,26,none⟩),.pointer (some p),.int .u64 386]) w:=by kernel_rfl
theorem Jr4(a p:Addr)(W:World)(ha:W.cell? a=some (.pointer (some p))) :
    (ReflectliteValue.method (ReflectliteValue.valueError "reflectlite.Value.Elem" 0) ReflectliteValue.elem #[.agg #[.pointer (some ⟨9,180,none⟩),.pointer (some a),.int .u64 150]]).run Tryz.prog W
      = .ok (.agg #[.pointer (some ⟨9,26,none⟩),.pointer (some p),.int .u64 386]) W:=by
 rw[JrT];simp only[Sem.run_bind,Jlb,Result.andThen];simp[ReflectliteValue.elem,loadVar,isAgg,underlying,Tryz.underlying180,ha,Result.andThen,JpW,as_mk]
theorem as_rls(v x:Value):ReflectliteValue.set #[v,x]=(do
    let (some (dst,a,fl),some (src,b,_)):=(← ReflectliteValue.parts v,←ReflectliteValue.parts x)
     | unsupported (.noEntry "extern/(internal/reflectlite.Value).Set.zeroValue")
    if fl / ReflectliteValue.flagAddr % 2==0 then unsupported (.noEntry "extern/(internal/reflectlite.Value).Set.unaddressable")
    let val ← loadVar src b
    if ← Rtype.directlyAssignable dst src then storeVar dst a val
    else if ← Rtype.implements dst src then
     if (← Rtype.kind src)==20 then
      match val with
      | .nilIface=>unsupported (.noEntry "extern/reflectlite: a nil value of one interface type handed on as a value of another")
      | _=>storeVar dst a val
     else storeVar dst a (.iface src val)
    else panicString ("reflectlite.Set: value of type " ++ (← Rtype.spelt src) ++ " is not assignable to type " ++ (← Rtype.spelt dst))
    pure (.tuple #[])):=rfl
theorem JpU(a:Addr)(w:World):(ReflectliteValue.parts (.agg #[.pointer (some ⟨9,26,none⟩),.pointer (some a),.int .u64 386])).run Tryz.prog w=.ok (some (26,a,386)) w:=by kernel_rfl
theorem JpT(a:Addr)(w:World):(ReflectliteValue.parts (.agg #[.pointer (some ⟨9,26,none⟩),.pointer (some a),.int .u64 130])).run Tryz.prog w=.ok (some (26,a,130)) w:=by kernel_rfl
theorem JpX(w:World):(Rtype.directlyAssignable 26 26).run Tryz.prog w=.ok true w:=by kernel_rfl
theorem as_set(ta b:Addr)(n:Int)(old:Value)(W:World)(hb:W.cell? b=some (.int .i64 n))(ht:W.cell? ta=some old)(hf:W.frozen? ta=false) :
    (ReflectliteValue.set #[.agg #[.pointer (some ⟨9,26,none⟩),.pointer (some ta),.int .u64 386],.agg #[.pointer (some ⟨9,26,none⟩),.pointer (some b),.int .u64 130]]).run Tryz.prog W
      = .ok (.tuple #[]) (W.setCell ta (.int .i64 n)):=by
 rw[as_rls];simp only[Sem.run_bind,JpU,JpT,Result.andThen];simp[ReflectliteValue.flagAddr,loadVar,isAgg,underlying,Tryz.underlying26,hb,Result.andThen,JpX,storeVar,Value.cells,storeCells,Addr.add];rw[run_store Tryz.prog W ta _ _ (by rfl)];simp[ht,hf]
theorem as_noAs(v:Value)(xT:TypeId)(w:World):(Instr.typeAssert (.iface 273 v) xT 332 true).run Tryz.prog w=.ok (.tuple #[.nilIface,.bool false]) w:=run_typeAssert_lacksB Tryz.underlying332 (by kernel_rfl) (by kernel_rfl) v xT w
theorem Jlc(v:Value)(xT:TypeId)(w:World):(Instr.typeAssert (.iface 273 v) xT 276 true).run Tryz.prog w=.ok (.tuple #[.iface 273 v,.bool true]) w:=run_typeAssert_hasB Tryz.underlying276 (by kernel_rfl) v xT w
theorem Jic(a:Addr)(w:World):(nilAhead 555 273 (.pointer (some a)) "Unwrap").run Tryz.prog w=.ok (some false) w:=by kernel_rfl
theorem JhK(a:Addr)(w:World):(Go.method 555 273 (.pointer (some a)) "Unwrap").run Tryz.prog w=.ok (370,.pointer (some a)) w:=by kernel_rfl
def JcM (w:World):Prop:=w.cell? ⟨0,0,none⟩=some (.iface 327 (.agg #[.pointer (some ⟨9,33,none⟩)]))
def target (q:Nat):Value:=.agg #[.pointer (some ⟨9,180,none⟩),.pointer (some ⟨q,0,none⟩),.int .u64 150]
theorem JoJ{w:World}{t:Nat}{n:Int}{old:Value}(ht:w.cell? ⟨t,0,none⟩=some old)(o1 o2:Obj) :
    (((w.setCell ⟨t,0,none⟩ (.int .i64 n)).alloc o1).alloc o2).cell? ⟨t,0,none⟩=some (.int .i64 n)/\Below t w (((w.setCell ⟨t,0,none⟩ (.int .i64 n)).alloc o1).alloc o2):=by
 have htl:=blt w _ ht;have hz:(w.setCell ⟨t,0,none⟩ (.int .i64 n)).heap.size=w.heap.size:=by simp
 have h1:t<(w.setCell ⟨t,0,none⟩ (.int .i64 n)).heap.size:=by rw[hz];exact htl
 refine⟨?_,?_⟩
 . rw[World.cell?_alloc_lt _ _ ⟨t,0,none⟩ (by rw[wsa];exact Nat.lt_succ_of_lt h1),World.cell?_alloc_lt _ _ ⟨t,0,none⟩ h1]
   exact World.cell?_setCell_same _ _ _ ht
 . exact((((brf t w).setCell (p:=⟨t,0,none⟩) (nlr _) _)).alloc (Nat.le_of_lt h1) _).alloc (by rw[wsa];exact Nat.le_succ_of_le (Nat.le_of_lt h1)) _
theorem JpV(n:Int)(t q:Nat)(old:Value)(w:World)(hq:w.cell? ⟨q,0,none⟩=some (.pointer (some ⟨t,0,none⟩)))(ht:w.cell? ⟨t,0,none⟩=some old)(hf:w.frozen? ⟨t,0,none⟩=false) :
    Calls Tryz.prog 172 #[.iface 26 (.int .i64 n),.iface 180 (.pointer (some ⟨t,0,none⟩)),target q,.iface 327 (.agg #[.pointer (some ⟨9,26,none⟩)])] w
     fun e w'=>e=.returned (.bool true)/\w'.cell? ⟨t,0,none⟩=some (.int .i64 n)/\Below t w w':=by
 have hTO:=@run_callFunc_extern Tryz.prog 216 _ ReflectliteType.typeOf Tryz.func216 (by kernel_rfl) (by kernel_rfl) (by kernel_rfl) (by kernel_rfl);have hAT:=@run_callFunc_extern Tryz.prog 372 _ (ReflectliteType.relation "AssignableTo" ReflectliteType.assignableTo) Tryz.func372 (by kernel_rfl) (by kernel_rfl) (by kernel_rfl) (by kernel_rfl);have hVE:=@run_callFunc_extern Tryz.prog 217 _ (ReflectliteValue.method (ReflectliteValue.valueError "reflectlite.Value.Elem" 0) ReflectliteValue.elem) Tryz.func217 (by kernel_rfl) (by kernel_rfl) (by kernel_rfl) (by kernel_rfl);have hVS:=@run_callFunc_extern Tryz.prog 218 _ ReflectliteValue.set Tryz.func218 (by kernel_rfl) (by kernel_rfl) (by kernel_rfl) (by kernel_rfl);have hVO:=@run_callFunc_extern Tryz.prog 169 _ (fun args=>ReflectliteValue.unpack (args.getD 0 (.tuple #[]))) Tryz.func169 (by kernel_rfl) (by kernel_rfl) (by kernel_rfl) (by kernel_rfl);have tE:=JnY;have tA:=JnZ;have mA:=JeG;have aE:=Joa;have aA:=Job;have vE:=Jms;have nA:=as_noAs;have hU:=Jlc;have uA:=Jic;have mU:=JhK;have htl:=blt w _ ht;have hql:=blt w _ hq;have hq2:(w.alloc (.cells #[.pointer (some ⟨9,180,none⟩),.pointer (some ⟨q,0,none⟩),.int .u64 150] 261)).cell? ⟨q,0,none⟩=some (.pointer (some ⟨t,0,none⟩)):=by
  rw[World.cell?_alloc_lt _ _ ⟨q,0,none⟩ hql];exact hq
 have el:=Jr4 ⟨q,0,none⟩ ⟨t,0,none⟩ (w.alloc (.cells #[.pointer (some ⟨9,180,none⟩),.pointer (some ⟨q,0,none⟩),.int .u64 150] 261)) hq2
 have st:=as_set ⟨t,0,none⟩ ⟨w.heap.size+1,0,none⟩ n old ((w.alloc (.cells #[.pointer (some ⟨9,180,none⟩),.pointer (some ⟨q,0,none⟩),.int .u64 150] 261)).alloc (.cells #[.int .i64 n] 26))
  (by rw[World.cell?_alloc_at _ _ _ _ (by simp)];rfl)
  (by rw[World.cell?_alloc_lt _ _ ⟨t,0,none⟩ (by rw[wsa];exact Nat.lt_succ_of_lt htl),World.cell?_alloc_lt _ _ ⟨t,0,none⟩ htl];exact ht)
  (by rw[World.frozen?_alloc_old _ _ ⟨t,0,none⟩ (by rw[wsa];exact Nat.ne_of_lt (Nat.lt_succ_of_lt htl)),World.frozen?_alloc_old _ _ ⟨t,0,none⟩ (Nat.ne_of_lt htl)];exact hf)
 have fin:=fun o1 o2=>@JoJ w t n old ht o1 o2
 have HF:Hid (∀o1 o2,_/\_):=fin;clear fin;clear hq ht hf hq2;unfold target
 go_enter Tryz.func172,Tryz.ntmps172
 go_wp2;refine wp_loop_rounds 1 ?_
 rw[rounds_succ];go_wp2;go_ret;exact⟨rfl,HF.out _ _⟩
theorem JrB(w:World):Calls Tryz.prog 27 #[.nilIface] w fun e w'=>e=.returned (.int .i64 0)/\w'=w:=by
 go_enter Tryz.func27,Tryz.ntmps27
 go_wp2;go_ret;exact⟨rfl,rfl⟩
theorem JeH{w w':World}(h:JcM w)(hb:Below w.heap.size w w'):JcM w':=by
 unfold JcM;rw[hb.cell (p:=⟨0,0,none⟩) (blt w _ h)];exact h
theorem Jqh(n:Int)(t:Nat)(old:Value)(w:World)(hg:JcM w)(ht:w.cell? ⟨t,0,none⟩=some old)(hf:w.frozen? ⟨t,0,none⟩=false) :
    Calls Tryz.prog 104 #[.iface 26 (.int .i64 n),.iface 180 (.pointer (some ⟨t,0,none⟩))] w
     fun e w'=>e=.returned (.bool true)/\w'.cell? ⟨t,0,none⟩=some (.int .i64 n)/\Below t w w':=by
 have hVO:=@run_callFunc_extern Tryz.prog 169 _ (fun args=>ReflectliteValue.unpack (args.getD 0 (.tuple #[]))) Tryz.func169 (by kernel_rfl) (by kernel_rfl) (by kernel_rfl) (by kernel_rfl);have hTy:=@run_callFunc_extern Tryz.prog 170 _ (ReflectliteValue.methodAny (ReflectliteValue.valueError "reflectlite.Value.Type" 0) (fun t _ _ _=>ReflectliteType.toType t)) Tryz.func170 (by kernel_rfl) (by kernel_rfl) (by kernel_rfl) (by kernel_rfl);have hIN:=@run_callFunc_extern Tryz.prog 171 _ (ReflectliteValue.method (ReflectliteValue.valueError "reflectlite.Value.IsNil" 0) ReflectliteValue.isNil) Tryz.func171 (by kernel_rfl) (by kernel_rfl) (by kernel_rfl) (by kernel_rfl);have hKd:=@run_callFunc_extern Tryz.prog 360 _ (ReflectliteType.abiMethod fun t=>do pure (.int .u8 (← Rtype.kind t))) Tryz.func360 (by kernel_rfl) (by kernel_rfl) (by kernel_rfl) (by kernel_rfl);have hEl:=@run_callFunc_extern Tryz.prog 374 _ (ReflectliteType.method ReflectliteType.elem) Tryz.func374 (by kernel_rfl) (by kernel_rfl) (by kernel_rfl) (by kernel_rfl);have hIm:=@run_callFunc_extern Tryz.prog 375 _ (ReflectliteType.relation "Implements" ReflectliteType.implements_) Tryz.func375 (by kernel_rfl) (by kernel_rfl) (by kernel_rfl) (by kernel_rfl);have f6:=JnX;have f7:=as_type;have mK:=JjI;have mE:=JjJ;have mI:=Jfs;have k92:=Jr1;have k23:=Jr2;have e92:=as_elem;have i23:=JjK;have htl:=blt w _ ht;have hgl:=blt w _ hg;obtain⟨o1,ho1⟩:∃o,o=Obj.cells #[.pointer (some ⟨t,0,none⟩)] 180:=⟨_,rfl⟩;obtain⟨o2,ho2⟩:∃o,o=Obj.cells #[.pointer (some ⟨9,180,none⟩),.pointer (some ⟨w.heap.size,0,none⟩),.int .u64 150] 261:=⟨_,rfl⟩;have hn8:=Jr3 ⟨w.heap.size,0,none⟩ ⟨t,0,none⟩ ((w.alloc o1).alloc o2) (by rw[World.cell?_alloc_lt _ _ ⟨w.heap.size,0,none⟩ (by rw[wsa];exact Nat.lt_succ_self _),ho1];simp[go_sem]);have hg2:((w.alloc o1).alloc o2).cell? ⟨0,0,none⟩=some (.iface 327 (.agg #[.pointer (some ⟨9,33,none⟩)])):=by
  rw[World.cell?_alloc_lt _ _ ⟨0,0,none⟩ (by rw[wsa];exact Nat.lt_succ_of_lt hgl),World.cell?_alloc_lt _ _ ⟨0,0,none⟩ hgl];exact hg
 have hb2:Below w.heap.size w ((w.alloc o1).alloc o2):=((brf _ _).alloc (nlr _) _).alloc (by rw[wsa];exact Nat.le_succ _) _
 have cA:=JpV n t w.heap.size old ((w.alloc o1).alloc o2)
  (by rw[World.cell?_alloc_lt _ _ ⟨w.heap.size,0,none⟩ (by rw[wsa];exact Nat.lt_succ_self _),ho1];simp[go_sem])
  (by rw[hb2.cell (p:=⟨t,0,none⟩) htl];exact ht)
  (by rw[hb2.frozen (p:=⟨t,0,none⟩) htl];exact hf)
 unfold target at cA;subst ho1 ho2;have HB:Hid (Below t w _):=hb2.mono (Nat.le_of_lt htl);clear ht hf hg hb2
 go_enter Tryz.func104,Tryz.ntmps104
 go_wp2_with (first | (go_at_call 172;refine cA.mono ?_;rintro e wx ⟨rfl,hc,hbx⟩) | fail)
 go_ret;exact⟨rfl,hc,HB.out.trans hbx⟩
theorem Jmv(n:Int)(w:World)(hg:JcM w) :
    Calls Tryz.prog 27 #[.iface 26 (.int .i64 n)] w fun e w'=>e=.returned (.int .i64 n)/\Below w.heap.size w w':=by
 have hgl:=blt w _ hg;have hb1:Below w.heap.size w (w.alloc (.cells #[.int .i64 0] 26)):=(brf _ _).alloc (nlr _) _
 have cA:=Jqh n w.heap.size (.int .i64 0) (w.alloc (.cells #[.int .i64 0] 26)) (by unfold JcM;rw[hb1.cell (p:=⟨0,0,none⟩) hgl];exact hg)
  (by simp[go_sem]) (by simp[go_sem])
 clear hg
 go_enter Tryz.func27,Tryz.ntmps27
 go_wp2_with (first | (go_at_call 104;refine cA.mono ?_;rintro e wx ⟨rfl,hc,hbx⟩) | fail)
 go_ret;exact⟨rfl,hb1.trans hbx⟩
def errV (n:Int):Value:=if n=0 then .nilIface else .iface 26 (.int .i64 n)
end
section
open Go.RowKit
def oneB (p:Pt):Bool:=if p.drop=0/\p.put=[] then decide (0<p.keep) else if p.keep=0/\p.put=[] then decide (0<p.drop) else decide (p.keep=0/\p.drop=0)
def chk1:List Pt->Int
 | []=>0
 | p :: ps=>if oneB p then (if (scan p.put).2 then chk1 ps else 3) else 1
def chk2:List Pt->Int->Int
 | [],n=>if n=0 then 0 else 2
 | p :: ps,n=>if n<p.keep+p.drop then 2 else chk2 ps (n - (p.keep+p.drop))
def chkE (ps:List Pt) (n:Int):Int:=if chk1 ps=0 then chk2 ps n else chk1 ps
theorem Jpv(p:Pt)(w:World):Calls Tryz.prog 157 #[Jay p] w fun e w'=>e=.returned (.bool (oneB p))/\Below w.heap.size w w':=by
 obtain⟨k,d,q⟩:=p;have cK:=JbX ⟨k,d,q⟩;have cD:=JcA ⟨k,d,q⟩;unfold oneB;unfold Jay at *;simp only at cK cD ⊢
 by_cases hq:q=[]
 . subst hq
   by_cases hd:d=0
   . subst hd
     go_enter Tryz.func157,Tryz.ntmps157
     go_wp2_with (first | (go_at_call 107;refine(cK _).mono ?_;rintro e w1 ⟨rfl,hb1⟩) | fail)
     go_ret;exact⟨by simp,((brf _ _).alloc (nlr _) _).trans (hb1.mono (by simp))⟩
   . have hdb:(d==0)=false:=beq_eq_false_iff_ne.2 hd
     by_cases hk:k=0
     . subst hk
       go_enter Tryz.func157,Tryz.ntmps157
       go_wp2_with (first | (go_at_call 211;refine(cD _).mono ?_;rintro e w1 ⟨rfl,hb1⟩) | fail)
       go_ret;exact⟨by simp,((brf _ _).alloc (nlr _) _).trans (hb1.mono (by simp))⟩
     . have hkb:(k==0)=false:=beq_eq_false_iff_ne.2 hk
       go_enter Tryz.func157,Tryz.ntmps157
       go_wp2;go_ret;exact⟨by simp,(brf _ _).alloc (nlr _) _⟩
 . have ho:(if d=0/\q=[] then decide (0<k) else if k=0/\q=[] then decide (0<d) else decide (k=0/\d=0))=decide (k=0/\d=0):=by simp[hq]
   rw[ho];clear ho;have HD:Hid (decide (k=0/\d=0)=(k==0 && d==0)):=by show _=_;by_cases h1:k=0<;>by_cases h2:d=0<;>simp[h1,h2]
   rw[HD.out]
   by_cases hd:d=0
   . subst hd
     by_cases hk:k=0
     . subst hk
       go_enter Tryz.func157,Tryz.ntmps157
       go_wp2;go_ret;exact⟨rfl,(brf _ _).alloc (nlr _) _⟩
     . have hkb:(k==0)=false:=beq_eq_false_iff_ne.2 hk
       go_enter Tryz.func157,Tryz.ntmps157
       go_wp2;go_ret;exact⟨rfl,(brf _ _).alloc (nlr _) _⟩
   . have hdb:(d==0)=false:=beq_eq_false_iff_ne.2 hd
     by_cases hk:k=0
     . subst hk
       go_enter Tryz.func157,Tryz.ntmps157
       go_wp2;go_ret;exact⟨rfl,(brf _ _).alloc (nlr _) _⟩
     . have hkb:(k==0)=false:=beq_eq_false_iff_ne.2 hk
       go_enter Tryz.func157,Tryz.ntmps157
       go_wp2;go_ret;exact⟨by rw[hkb];rfl,(brf _ _).alloc (nlr _) _⟩
def wfP (p:Pt):Prop:=-9223372036854775808<=p.keep/\p.keep<9223372036854775808/\-9223372036854775808<=p.drop/\p.drop<9223372036854775808/\p.put.length<1000000000000
theorem JcG{p:Pt}(h:oneB p=true):JbA p/\(p.keep=0\/p.drop=0):=by
 unfold oneB at h;unfold JbA
 split at h
 . rename_i h1
   have:=of_decide_eq_true h;exact⟨⟨by omega,by omega⟩,.inr h1.1⟩
 . split at h
   . rename_i h1
     have:=of_decide_eq_true h;exact⟨⟨by omega,by omega⟩,.inl h1.1⟩
   . have:=of_decide_eq_true h
     exact⟨⟨by omega,by omega⟩,.inl this.1⟩
theorem JfN{ps:List Pt}(h:chk1 ps=0):∀p∈ps,oneB p=true/\(scan p.put).2=true:=by
 induction ps with
 | nil=>simp
 | cons p ps ih =>
  unfold chk1 at h
  split at h
  . rename_i h1
    split at h
    . rename_i h2
      intro q hq
      rcases List.mem_cons.1 hq with rfl|hq
      . exact⟨h1,h2⟩
      . exact ih h q hq
    . cases h
  . cases h
theorem Jco(v:Value)(ps:List Pt)(N:Int)(w:World)(hT:Lib.Utf8Tabs 2 3 w)(hr:opAt w v ps)(hwf:∀p∈ps,wfP p)(hN: -9223372036854775808<=N/\N<9223372036854775808)(hl:ps.length<10000000) :
    Calls Tryz.prog 92 #[v,.int .i64 N] w fun e w'=>e=.returned (errV (chkE ps N))/\Below w.heap.size w w':=by
 obtain⟨p,c,rfl,r1,r2,r3⟩:=hr;obtain⟨n,hn⟩:∃n,n=ps.length:=⟨_,rfl⟩;rw[←hn]at r1 hl ⊢;have HN:Hid (n=ps.length):=hn;clear hn
 have R3:Hid (ps≠[]->∃b o,p=some ⟨b,o,none⟩/\b<w.heap.size/\∀i q,ps[i]?=some q ->
  w.cell? ⟨b,o+i*3,none⟩=some (.int .i64 q.keep)/\w.cell? ⟨b,o+i*3+1,none⟩=some (.int .i64 q.drop)/\w.cell? ⟨b,o+i*3+2,none⟩=some (.string ⟨q.put.toArray⟩)):=r3
 have HWF:Hid (∀p∈ps,wfP p):=hwf;have HT:Hid (Lib.Utf8Tabs 2 3 w):=hT;obtain⟨hN0,hN1⟩:=hN;clear r3 hwf hT
 go_enter Tryz.func92,Tryz.ntmps92
 go_wp2
 go_loopw [11] (fun i wr=>∃(k:Nat),k<=n/\i=.int .i64 k/\chk1 ps=chk1 (ps.drop k)/\Below w.heap.size w wr) (fun i _=>n - (intOf i).toNat)
 case atStart=>exact⟨0,Nat.zero_le _,rfl,rfl,brf _ _⟩
 case round =>
  obtain⟨k,hk,rfl,hch,hwr⟩:=hrel
  by_cases hlt:k<n
  . have hkr:k<ps.length:=by rw[←HN.out];exact hlt
    have hne:ps≠[]:=by intro e;rw[e]at hkr;exact absurd hkr (Nat.not_lt_zero _)
    obtain⟨b,o,rfl,hbw,hcell⟩:=R3.out hne;obtain⟨c0,c1,c2⟩:=hcell k ps[k] (lgg hkr);have g0:=(hwr.cell (p:=⟨b,o+k*3,none⟩) hbw).trans c0;have g1:=(hwr.cell (p:=⟨b,o+k*3+1,none⟩) hbw).trans c1;have g2:=(hwr.cell (p:=⟨b,o+k*3+2,none⟩) hbw).trans c2;rw[List.drop_eq_getElem_cons hkr,chk1]at hch;have hwq:=HWF.out ps[k] (List.getElem_mem _);generalize ps[k]=q at *;have hsize:=hwr.size;have HWR:=hdz hwr;have hb0:Below wr.heap.size wr (wr.alloc (.cells #[.int .i64 q.keep,.int .i64 q.drop,.string ⟨q.put.toArray⟩] 50)):=(brf _ _).alloc (nlr _) _;have HB0:Hid (Below w.heap.size w (wr.alloc (.cells #[.int .i64 q.keep,.int .i64 q.drop,.string ⟨q.put.toArray⟩] 50))):=hwr.trans (hb0.mono hsize);have x2:(wr.alloc (.cells #[.int .i64 q.keep,.int .i64 q.drop,.string ⟨q.put.toArray⟩] 50)).cell? ⟨wr.heap.size,2,none⟩=some (.string ⟨q.put.toArray⟩):=by simp[go_sem]
    have X2:=hdz x2;have cO:=Jpv q;unfold Jay at cO;have cV:Hid (∀wx,Below w.heap.size w wx->Calls Tryz.prog 158 #[.string ⟨q.put.toArray⟩] wx fun e w'=>e=.returned (.bool (scan q.put).2)/\Below wx.heap.size wx w'):=fun wx hb =>
     JhQ ⟨q.put.toArray⟩ wx (by have:=hwq.2.2.2.2;simp[ByteArray.size];omega) (Go.Proofs.Utf8Tabs_below HT.out hb)
    by_cases h1:oneB q=true
    . rw [if_pos h1]at hch
      rw[h1]at cO
      by_cases h2:(scan q.put).2=true
      . rw[if_pos h2]at hch
        rw[h2]at cV;have HCH:Hid (chk1 ps=chk1 (ps.drop (k+1))):=hch;clear hcell c0 c1 c2 hch hwq hwr hb0 x2 HWF h1 h2
        go_wp2_with (first | (go_at_call 157;refine(cO _).mono ?_;rintro e w1 ⟨rfl,hb1⟩;have HB1:=hdz (HB0.out.trans (hb1.mono HB0.out.size));have hc2:=(hb1.cell (p:=⟨wr.heap.size,2,none⟩) (by simp)).trans X2.out;clear hb1) | (go_at_call 158;refine(cV.out _ HB1.out).mono ?_;rintro e w2 ⟨rfl,hb2⟩;have HB2:=hdz (HB1.out.trans (hb2.mono HB1.out.size));clear hb2) | fail)
        go_roundw
        case rel=>exact⟨k+1,by omega,by go_num,HCH.out,HB2.out⟩
        case measure=>simp[intOf];omega
      . have h2:(scan q.put).2=false:=Bool.eq_false_iff.2 h2
        rw[h2]at hch cV;have HCH:Hid (chk1 ps=3):=by show chk1 ps=3;simpa using hch
        clear hcell c0 c1 c2 hch hwq hwr hb0 x2 HWF h1 h2
        go_wp2_with (first | (go_at_call 157;refine(cO _).mono ?_;rintro e w1 ⟨rfl,hb1⟩;have HB1:=hdz (HB0.out.trans (hb1.mono HB0.out.size));have hc2:=(hb1.cell (p:=⟨wr.heap.size,2,none⟩) (by simp)).trans X2.out;clear hb1) | (go_at_call 158;refine(cV.out _ HB1.out).mono ?_;rintro e w2 ⟨rfl,hb2⟩;have HB2:=hdz (HB1.out.trans (hb2.mono HB1.out.size));clear hb2) | fail)
        go_ret;refine⟨?_,HB2.out⟩;unfold chkE;rw[HCH.out];rfl
    . have h1:oneB q=false:=Bool.eq_false_iff.2 h1
      rw[h1]at hch cO;have HCH:Hid (chk1 ps=1):=by show chk1 ps=1;simpa using hch
      clear hcell c0 c1 c2 hch hwq hwr hb0 x2 HWF h1
      go_wp2_with (first | (go_at_call 157;refine(cO _).mono ?_;rintro e w1 ⟨rfl,hb1⟩;have HB1:=hdz (HB0.out.trans (hb1.mono HB0.out.size));clear hb1) | fail)
      go_ret;refine⟨?_,HB1.out⟩;unfold chkE;rw[HCH.out];rfl
  . have e : ps.drop k=[]:=List.drop_of_length_le (by rw[←HN.out];omega)
    rw[e]at hch;have H0:Hid (chk1 ps=0):=hch;have HWR:=hdz hwr;have HON:Hid (∀p∈ps,JbA p/\(p.keep=0\/p.drop=0)):=fun p hp=>JcG (JfN hch p hp).1
    clear e hch hwr;go_wp2
    go_loopw [1,27] (fun m i wr=>∃(k:Nat) (M:Int),k<=n/\i=.int .i64 k/\m=.int .i64 M/\-9223372036854775808<=M/\M<9223372036854775808/\chk2 ps N=chk2 (ps.drop k) M/\Below w.heap.size w wr) (fun _ i _=>n - (intOf i).toNat)
    case atStart=>exact⟨0,N,Nat.zero_le _,rfl,rfl,hN0,hN1,rfl,HWR.out⟩
    case round =>
     obtain⟨k,M,hk,rfl,rfl,hM0,hM1,hch,hwr⟩:=hrel
     by_cases hlt:k<n
     . have hkr:k<ps.length:=by rw[←HN.out];exact hlt
       have hne:ps≠[]:=by intro e;rw[e]at hkr;exact absurd hkr (Nat.not_lt_zero _)
       obtain⟨b,o,rfl,hbw,hcell⟩:=R3.out hne;obtain⟨c0,c1,c2⟩:=hcell k ps[k] (lgg hkr);have g0:=(hwr.cell (p:=⟨b,o+k*3,none⟩) hbw).trans c0;have g1:=(hwr.cell (p:=⟨b,o+k*3+1,none⟩) hbw).trans c1;have g2:=(hwr.cell (p:=⟨b,o+k*3+2,none⟩) hbw).trans c2;rw[List.drop_eq_getElem_cons hkr,chk2]at hch;have hwq:=HWF.out ps[k] (List.getElem_mem _);have hon:=HON.out ps[k] (List.getElem_mem _);generalize ps[k]=q at *;obtain⟨⟨s0,s1⟩,s2⟩:=hon;have hsum0:0<=q.keep+q.drop:=by omega
       have hsum1:q.keep+q.drop<9223372036854775808:=by have:=hwq.2.1;have:=hwq.2.2.2.1;omega
       have hw1:IntKind.i64.wrap (q.keep+q.drop)=q.keep+q.drop:=by rw[IntKind.wrap_i64];omega
       have HB0:Hid (Below w.heap.size w (wr.alloc (.cells #[.int .i64 q.keep,.int .i64 q.drop,.string ⟨q.put.toArray⟩] 50))):=hwr.alloc hwr.size _
       by_cases h1:M<q.keep+q.drop
       . rw[if_pos h1]at hch
         have HCH:Hid (chk2 ps N=2):=hch;clear hcell c0 c1 c2 hch hwq hwr HWF s2;go_wp2;go_ret;refine⟨?_,HB0.out⟩;unfold chkE;rw[if_pos H0.out,HCH.out];rfl
       . rw[if_neg h1]at hch
         have HCH:Hid (chk2 ps N=chk2 (ps.drop (k+1)) (M - (q.keep+q.drop))):=hch;have hw2:IntKind.i64.wrap (M - (q.keep+q.drop))=M - (q.keep+q.drop):=by rw[IntKind.wrap_i64];omega
         clear hcell c0 c1 c2 hch hwq hwr HWF s2;go_wp2
         go_roundw
         case rel=>exact⟨k+1,M - (q.keep+q.drop),by omega,by go_num,by first | rfl | go_num,by omega,by omega,HCH.out,HB0.out⟩
         case measure=>simp[intOf];omega
     . have e:ps.drop k=[]:=List.drop_of_length_le (by rw[←HN.out];omega)
       rw[e,chk2]at hch;have HX:=hdz hwr
       by_cases h0:M=0
       . rw[if_pos h0]at hch
         subst h0;have HCH:Hid (chk2 ps N=0):=hch;clear e hch hwr;go_wp2;go_ret;refine⟨?_,HX.out⟩;unfold chkE;rw[if_pos H0.out,HCH.out];rfl
       . rw[if_neg h0]at hch
         have hmb:(M==0)=false:=beq_eq_false_iff_ne.2 h0;have HCH:Hid (chk2 ps N=2):=hch;clear e hch hwr;go_wp2;go_ret;refine⟨?_,HX.out⟩;unfold chkE;rw[if_pos H0.out,HCH.out];rfl
end
section
variable {p : Pt}
def Jac (p:Pt):Int:=p.keep+p.drop+p.put.length
def noP:Pt:=⟨0,0,[]⟩
def cutP (p:Pt) (n:Int):Pt×List Pt :=
 if Jac p=n then (p,[])
 else if 0<p.keep then (⟨n,0,[]⟩,[⟨p.keep - n,p.drop,p.put⟩])
 else if 0<p.drop then (⟨0,n,[]⟩,[⟨p.keep,p.drop - n,p.put⟩])
 else (⟨0,0,p.put.take n.toNat⟩,[⟨p.keep,p.drop,p.put.drop n.toNat⟩])
def Ja8 (la lb:Pt->Bool):Nat->List Pt->List Pt->List (Pt×Pt)
 | 0,_,_=>[]
 | f + 1,p :: a,b=>if la p then (p,noP) :: Ja8 la lb f a b else match b with
  | q :: b=>if lb q then (noP,q) :: Ja8 la lb f (p :: a) b else
   ((cutP p (min (Jac p) (Jac q))).1,(cutP q (min (Jac p) (Jac q))).1) :: Ja8 la lb f ((cutP p (min (Jac p) (Jac q))).2++a) ((cutP q (min (Jac p) (Jac q))).2++b)
  | []=>[]
 | f+1,[],q :: b=>if lb q then (noP,q) :: Ja8 la lb f [] b else []
 | f+1,[],[]=>[]
def JaE (p:Pt):Bool:=decide (0<p.drop)
def JbG (p:Pt):Bool:=decide (0<p.keep)
def Jaa (p:Pt):Bool:=decide (p.put≠[])
def JbI (x:Pt×Pt):List Pt:=if JaE x.1 || JbG x.2 then [x.1] else if Jaa x.2 || JbG x.1 then [x.2] else []
def Jbl (x:Pt×Pt):List Pt:=if Jaa x.2 then [⟨x.2.put.length,0,[]⟩] else if Jaa x.1 || JbG x.2 then [x.1] else []
def oneP (p:Pt):Prop:=(0<p.keep/\p.drop=0/\p.put=[])\/(p.keep=0/\0<p.drop/\p.put=[])\/(p.keep=0/\p.drop=0/\p.put≠[])
theorem JaJ(h:oneP p):0<Jac p:=by
 unfold Jac
 rcases h with ⟨h1,h2,h3⟩|⟨h1,h2,h3⟩|⟨h1,h2,h3⟩
 . rw[h2,h3];simp;omega
 . rw[h1,h3];simp;omega
 . have:=List.length_pos_iff.2 h3;omega
theorem Jgl(h:oneP p){n:Int}(h0:0<n)(hn:n<=Jac p):oneP (cutP p n).1/\Jac (cutP p n).1=n/\(∀q∈(cutP p n).2,oneP q/\Jac q=Jac p - n)/\((cutP p n).2=[]↔Jac p=n):=by
 unfold cutP
 by_cases e:Jac p=n
 . rw[if_pos e];exact⟨h,e,by simp,by simp[e]⟩
 . rw [if_neg e]
   obtain⟨K,D,U⟩:=p;have e':¬K+D+(U.length:Int)=n:=e;have hn':n<=K+D+(U.length:Int):=hn;clear e hn
   rcases h with ⟨h1,h2,h3⟩|⟨h1,h2,h3⟩|⟨h1,h2,h3⟩
   . replace h1:0<K:=h1
     obtain rfl:D=0:=h2;obtain rfl:U=[]:=h3;have hl:(([]:List UInt8).length:Int)=0:=rfl;rw[hl]at e' hn';rw[if_pos (show 0<(⟨K,0,[]⟩:Pt).keep from h1)];refine⟨.inl ⟨h0,rfl,rfl⟩,by simp[Jac],?_,⟨fun h=>(by cases h),fun h=>absurd h (by simp only[Jac,List.length_nil];omega)⟩⟩;intro q hq;obtain rfl:=List.mem_singleton.1 hq;exact⟨.inl ⟨by show 0<K - n;omega,rfl,rfl⟩,by simp only[Jac,List.length_nil];omega⟩
   . obtain rfl:K=0:=h1
     replace h2:0<D:=h2
     obtain rfl:U=[]:=h3;have hl:(([]:List UInt8).length:Int)=0:=rfl;rw[hl]at e' hn';rw[if_neg (show ¬0<(⟨0,D,[]⟩:Pt).keep from Int.lt_irrefl 0),if_pos (show 0<(⟨0,D,[]⟩:Pt).drop from h2)];refine⟨.inr (.inl ⟨rfl,h0,rfl⟩),by simp[Jac],?_,⟨fun h=>(by cases h),fun h=>absurd h (by simp only[Jac,List.length_nil];omega)⟩⟩;intro q hq;obtain rfl:=List.mem_singleton.1 hq;exact⟨.inr (.inl ⟨rfl,by show 0<D - n;omega,rfl⟩),by simp only[Jac,List.length_nil];omega⟩
   . obtain rfl:K=0:=h1
     obtain rfl:D=0:=h2
     replace h3:U≠[]:=h3
     rw[if_neg (show ¬0<(⟨0,0,U⟩:Pt).keep from Int.lt_irrefl 0),if_neg (show ¬0<(⟨0,0,U⟩:Pt).drop from Int.lt_irrefl 0)];have hl:(U.take n.toNat).length=n.toNat:=by rw[List.length_take];omega
     have hd:(U.drop n.toNat).length=U.length - n.toNat:=List.length_drop;refine⟨.inr (.inr ⟨rfl,rfl,?_⟩),by simp only[Jac,hl];omega,?_,⟨fun h=>(by cases h),fun h=>absurd h (by simp only[Jac];omega)⟩⟩
     . intro e'
       have:=congrArg List.length e';rw[hl,List.length_nil]at this;omega
     . intro q hq
       obtain rfl:=List.mem_singleton.1 hq;refine⟨.inr (.inr ⟨rfl,rfl,?_⟩),by simp only[Jac,hd];omega⟩;intro e';have:=congrArg List.length e';rw[hd,List.length_nil]at this;omega
end
section
theorem Jfh(d:Bool):∀(n:Nat)(l:List (List UInt8×Bool))(g:GSt),JdN d n (l++g.1,g.2)=(l++(JdN d n g).1,(JdN d n g).2)
 | 0,l,g=>rfl
 | n+1,l,g=>by
  rw[JdN,JdN];have e:tick d (l++g.1,g.2)=(l++(tick d g).1,(tick d g).2):=by simp[tick]
  rw[e];exact Jfh d n l (tick d g)
theorem Jjo(l:List (List UInt8×Bool))(g:GSt)(p:Pt):Jcb (l++g.1,g.2) p=(l++(Jcb g p).1,(Jcb g p).2):=by
 unfold Jcb;rw[Jfh true p.drop.toNat l (g.1,g.2++p.put),Jfh]
def Jbc:List UInt8->List Pt->GSt
 | acc,[]=>([],acc)
 | acc,p :: ps=>((Jcb ([],acc) p).1++(Jbc (Jcb ([],acc) p).2 ps).1,(Jbc (Jcb ([],acc) p).2 ps).2)
theorem Jkj(ps:List Pt):∀(l:List (List UInt8×Bool))(acc:List UInt8),ps.foldl Jcb (l,acc)=(l++(Jbc acc ps).1,(Jbc acc ps).2):=by
 induction ps with
 | nil=>intro l acc;simp[Jbc]
 | cons p ps ih =>
  intro l acc;have e:=Jjo l ([],acc) p;rw[List.append_nil]at e;rw[List.foldl_cons,e,ih];simp[Jbc]
theorem Jiu(ps:List Pt):Jdd ps=Jbc [] ps:=by
 have:=Jkj ps [] [];simpa[Jdd] using this
theorem Jes(acc u:List UInt8)(ps:List Pt):Jbc acc (⟨0,0,u⟩ :: ps)=Jbc (acc++u) ps:=by
 simp[Jbc,Jcb,JdN]
theorem Jhd(d:Bool):∀(n:Nat)(acc:List UInt8),JdN d (n+1) ([],acc)=((acc,d) :: List.replicate n ([],d),[])
 | 0,acc=>by simp[JdN,tick]
 | n+1,acc=>by
  rw[Jim,Jhd d n acc];simp[tick,List.replicate_succ']
theorem Jp7(acc:List UInt8)(n:Nat)(ps:List Pt):Jbc acc (⟨(n:Int)+1,0,[]⟩ :: ps)=((acc,false) :: List.replicate n ([],false)++(Jbc [] ps).1,(Jbc [] ps).2):=by
 have h1:((n:Int)+1).toNat=n+1:=by omega
 have h2:=Jhd false n acc;rw[JdN]at h2;simp only[Jbc,Jcb,h1,Int.toNat_zero,JdN,List.append_nil,h2]
theorem Jp8(acc:List UInt8)(n:Nat)(ps:List Pt):Jbc acc (⟨0,(n:Int)+1,[]⟩ :: ps)=((acc,true) :: List.replicate n ([],true)++(Jbc [] ps).1,(Jbc [] ps).2):=by
 have h1:((n:Int)+1).toNat=n+1:=by omega
 have h2:=Jhd true n acc;rw[JdN]at h2;simp only[Jbc,Jcb,h1,Int.toNat_zero,JdN,List.append_nil,h2]
def docT (first:Bool):List (List UInt8×Bool)->List UInt8->List (List UInt8×Bool)->List UInt8->List Pt
 | (u,d) :: x,xl,(v,e) :: y,yl=>(if first then [⟨0,0,u⟩,⟨v.length,0,[]⟩] else [⟨v.length,0,[]⟩,⟨0,0,u⟩])++(if e then [] else [Jlk d])++docT first x xl y yl
 | _,xl,_,yl=>if first then [⟨0,0,xl⟩,⟨yl.length,0,[]⟩] else [⟨yl.length,0,[]⟩,⟨0,0,xl⟩]
def Jam (d:Bool) (k:Nat):Pt:=if d then ⟨0,k,[]⟩ else ⟨k,0,[]⟩
theorem Jbn{p:Pt}(h:oneP p):(∃u,u≠[]/\p=⟨0,0,u⟩)\/∃d n,p=Jam d (n+1):=by
 obtain⟨K,D,U⟩:=p
 rcases h with ⟨h1,h2,h3⟩|⟨h1,h2,h3⟩|⟨h1,h2,h3⟩
 . obtain rfl:D=0:=h2
   obtain rfl:U=[]:=h3
   replace h1:0<K:=h1
   refine .inr ⟨false,K.toNat - 1,?_⟩;have:K=((K.toNat - 1+1:Nat):Int):=by omega
   show(⟨K,0,[]⟩:Pt)=⟨((K.toNat - 1+1:Nat):Int),0,[]⟩;rw[←this]
 . obtain rfl:K=0:=h1
   obtain rfl:U=[]:=h3
   replace h2:0<D:=h2
   refine .inr ⟨true,D.toNat - 1,?_⟩;have:D=((D.toNat - 1+1:Nat):Int):=by omega
   show(⟨0,D,[]⟩:Pt)=⟨0,((D.toNat - 1+1:Nat):Int),[]⟩;rw[←this]
 . obtain rfl:K=0:=h1
   obtain rfl:D=0:=h2;exact .inl ⟨U,h3,rfl⟩
theorem Jc0(acc:List UInt8)(d:Bool)(n:Nat)(ps:List Pt):Jbc acc (Jam d (n+1) :: ps)=((acc,d) :: List.replicate n ([],d)++(Jbc [] ps).1,(Jbc [] ps).2):=by
 cases d with
 | true=>exact Jp8 acc n ps
 | false=>exact Jp7 acc n ps
def accG (acc:List UInt8):GSt->GSt
 | ([],l)=>([],acc++l)
 | ((u,d) :: x,l)=>((acc++u,d) :: x,l)
theorem Jqb(a b:List UInt8)(g:GSt):accG a (accG b g)=accG (a++b) g:=by
 obtain⟨x,l⟩:=g
 cases x<;>simp[accG]
theorem JjA(ps:List Pt)(h:∀p∈ps,oneP p):∀acc,Jbc acc ps=accG acc (Jbc [] ps):=by
 induction ps with
 | nil=>intro acc;simp[Jbc,accG]
 | cons p ps ih =>
  intro acc;have ih:=ih fun q hq=>h q (by simp[hq])
  rcases Jbn (h p (by simp)) with ⟨u,hu,rfl⟩|⟨d,n,rfl⟩
  . rw[Jes,Jes,ih,ih ([]++u),Jqb,List.nil_append]
  . rw[Jc0,Jc0];simp[accG]
def docG (eA eB:List UInt8->NSt->NSt) (eU:Bool->Bool->NSt->NSt):List (List UInt8×Bool)->List UInt8->List (List UInt8×Bool)->List UInt8->NSt->NSt
 | (u,d) :: x,xl,(v,e) :: y,yl,s=>docG eA eB eU x xl y yl (eU d e (eB v (eA u s)))
 | [],xl,_,yl,s=>eB yl (eA xl s)
 | _,xl,[],yl,s=>eB yl (eA xl s)
def docS (eA eB:List UInt8->NSt->NSt) (eU:Bool->Bool->NSt->NSt) (a b:GSt) (s:NSt):NSt:=docG eA eB eU a.1 a.2 b.1 b.2 s
def Jfz (eU:NSt->NSt):Nat->NSt->NSt
 | 0,s=>s
 | n+1,s=>Jfz eU n (eU s)
theorem JpD(eA eB:List UInt8->NSt->NSt)(eU:Bool->Bool->NSt->NSt)(hA:∀u v s,eA (u++v) s=eA v (eA u s))(acc:List UInt8)(a b:GSt)(s:NSt)(hl:a.1.length=b.1.length):docS eA eB eU (accG acc a) b s=docS eA eB eU a b (eA acc s):=by
 obtain⟨x,xl⟩:=a;obtain⟨y,yl⟩:=b
 cases x with
 | nil=>cases y<;>simp[docS,accG,docG,hA]
 | cons c x =>
  cases y with
  | nil=>simp at hl
  | cons e y=>simp[docS,accG,docG,hA]
def JrH (a:GSt):Prop:=match a with
 | ([],l)=>l=[]
 | ((u,_) :: _,_)=>u=[]
theorem JkL(eA eB:List UInt8->NSt->NSt)(eU:Bool->Bool->NSt->NSt)(hA0:∀s,eA [] s=s)(hB:∀u v s,eB (u++v) s=eB v (eB u s))(acc:List UInt8)(a b:GSt)(s:NSt)(hl:a.1.length=b.1.length)(hq:JrH a):docS eA eB eU a (accG acc b) s=docS eA eB eU a b (eB acc s):=by
 obtain⟨x,xl⟩:=a;obtain⟨y,yl⟩:=b
 cases x with
 | nil =>
  obtain rfl:xl=[]:=hq
  cases y with
  | nil=>simp[docS,accG,docG,hA0,hB]
  | cons e y=>simp at hl
 | cons c x =>
  cases y with
  | nil=>simp at hl
  | cons e y =>
   obtain⟨u,d⟩:=c;obtain rfl:u=[]:=hq;simp[docS,accG,docG,hA0,hB]
theorem JiK(eA eB:List UInt8->NSt->NSt)(eU:Bool->Bool->NSt->NSt)(hA0:∀s,eA [] s=s)(hB0:∀s,eB [] s=s)(d e:Bool):∀(k:Nat)(a b:GSt)(s:NSt),docS eA eB eU (List.replicate k ([],d)++a.1,a.2) (List.replicate k ([],e)++b.1,b.2) s=docS eA eB eU a b (Jfz (eU d e) k s)
 | 0,a,b,s=>rfl
 | k+1,a,b,s=>by
  have:=JiK eA eB eU hA0 hB0 d e k a b (eU d e s);simpa[docS,docG,List.replicate_succ,hA0,hB0,Jfz] using this
theorem Jdj(d:Bool)(n k:Nat)(hk:k<=n):(cutP (Jam d (n+1)) ((k:Int)+1)).1=Jam d (k+1)/\∀ps,Jbc [] (Jam d (n+1) :: ps)=(List.replicate (k+1) ([],d)++(Jbc [] ((cutP (Jam d (n+1)) ((k:Int)+1)).2++ps)).1,(Jbc [] ((cutP (Jam d (n+1)) ((k:Int)+1)).2++ps)).2):=by
 have hl:Jac (Jam d (n+1))=(n:Int)+1:=by cases d<;>simp[Jac,Jam]
 by_cases e:n=k
 . subst e
   have hc:cutP (Jam d (n+1)) ((n:Int)+1)=(Jam d (n+1),[]):=by unfold cutP;rw[if_pos hl]
   rw[hc];refine⟨rfl,fun ps=>?_⟩;rw[Jc0];simp[List.replicate_succ]
 . obtain ⟨m,rfl⟩:∃m,n=k+(m+1):=⟨n - k - 1,by omega⟩
   have hc:cutP (Jam d (k+(m+1)+1)) ((k:Int)+1)=(Jam d (k+1),[Jam d (m+1)]):=by
    unfold cutP;rw[if_neg (by rw[hl];omega)]
    cases d with
    | true =>
     have h1:¬0<(Jam true (k+(m+1)+1)).keep:=by simp[Jam]
     have h2:0<(Jam true (k+(m+1)+1)).drop:=by simp[Jam];omega
     rw[if_neg h1,if_pos h2];simp[Jam];omega
    | false =>
     have h1:0<(Jam false (k+(m+1)+1)).keep:=by simp[Jam];omega
     rw[if_pos h1];simp[Jam];omega
   rw[hc];refine⟨rfl,fun ps=>?_⟩;rw[List.singleton_append,Jc0,Jc0];have e2:List.replicate (k+(m+1)) (([]:List UInt8),d)=List.replicate k ([],d)++([],d) :: List.replicate m ([],d):=by
    rw[←List.replicate_succ,List.replicate_append_replicate]
   rw[e2];simp[List.replicate_succ]
def runS (t:Pt×Pt->List Pt) (l:List (Pt×Pt)) (s:NSt):NSt:=l.foldl (fun s x=>(t x).foldl addP s) s
def Jeo (ps:List Pt):Nat:=(Jbc [] ps).1.length
theorem Jnw(d:Bool)(n:Nat)(ps:List Pt):JrH (Jbc [] (Jam d (n+1) :: ps)):=by
 rw[Jc0];rfl
theorem JbS{u:List UInt8}(h:u≠[]):Jaa ⟨0,0,u⟩=true:=by simp[Jaa,h]
theorem Jbr(d:Bool)(n:Nat):Jaa (Jam d n)=false:=by cases d<;>simp[Jaa,Jam]
def Jai (ps:List Pt):Nat:=(ps.map fun p=>(Jac p).toNat).sum
theorem Ja7(p:Pt)(ps:List Pt):Jai (p :: ps)=(Jac p).toNat+Jai ps:=by simp[Jai]
theorem Jbe(a b:List Pt):Jai (a++b)=Jai a+Jai b:=by simp[Jai]
theorem Jb9(d:Bool)(n:Nat):Jac (Jam d n)=(n:Int):=by cases d<;>simp[Jac,Jam]
theorem Jcv(d:Bool)(n k:Nat)(hk:k<=n):Jai (cutP (Jam d (n+1)) ((k:Int)+1)).2=n - k:=by
 have hl:Jac (Jam d (n+1))=(n:Int)+1:=by rw[Jb9];simp
 unfold cutP
 by_cases e:n=k
 . subst e
   rw[if_pos hl];simp[Jai]
 . rw [if_neg (by rw[hl];omega)]
   cases d with
   | true =>
    have h1:¬0<(Jam true (n+1)).keep:=by simp[Jam]
    have h2:0<(Jam true (n+1)).drop:=by simp[Jam]
    rw[if_neg h1,if_pos h2];simp[Jai,Jac,Jam];omega
   | false =>
    have h1:0<(Jam false (n+1)).keep:=by simp[Jam]
    rw[if_pos h1];simp[Jai,Jac,Jam];omega
theorem Jko(t:Pt×Pt->List Pt)(eA eB:List UInt8->NSt->NSt)(eU:Bool->Bool->NSt->NSt)(hA0:∀s,eA [] s=s)(hB0:∀s,eB [] s=s)
    (hA:∀u v s,eA (u++v) s=eA v (eA u s)) (hB:∀u v s,eB (u++v) s=eB v (eB u s))
    (tA:∀u s,u≠[]->(t (⟨0,0,u⟩,noP)).foldl addP s=eA u s) (tB:∀u s,u≠[]->(t (noP,⟨0,0,u⟩)).foldl addP s=eB u s)
    (tU:∀d e k s,(t (Jam d (k+1),Jam e (k+1))).foldl addP s=Jfz (eU d e) (k+1) s) :
    ∀ (f:Nat) (a b:List Pt) (s:NSt),(∀p∈a,oneP p)->(∀p∈b,oneP p)->Jeo a=Jeo b->Jai a+Jai b<=f ->
     runS t (Ja8 Jaa Jaa f a b) s=docS eA eB eU (Jbc [] a) (Jbc [] b) s:=by
 intro f
 induction f with
 | zero =>
  intro a b s ha hb hl hw
  have h0:∀(l:List Pt),(∀p∈l,oneP p)->Jai l=0->l=[]:=by
   intro l hl hw
   cases l with
   | nil=>rfl
   | cons p l =>
    have:=JaJ (hl p (by simp));rw[Ja7]at hw;omega
  obtain rfl:=h0 a ha (by omega);obtain rfl:=h0 b hb (by omega);simp[Ja8,runS,docS,docG,Jbc,hA0,hB0]
 | succ f ih =>
  intro a b s ha hb hl hw
  cases a with
  | nil =>
   cases b with
   | nil=>simp[Ja8,runS,docS,docG,Jbc,hA0,hB0]
   | cons q b =>
    rcases Jbn (hb q (by simp)) with ⟨v,hv,rfl⟩|⟨e,m,rfl⟩
    . have hlq:=JaJ (hb _ (List.mem_cons_self ..))
      rw[Ja7]at hw;have hb':∀p∈b,oneP p:=fun p hp=>hb p (by simp[hp])
      unfold Jeo at hl;rw[Jes,JjA b hb']at hl ⊢;have hl':(Jbc [] ([]:List Pt)).1.length=(Jbc [] b).1.length:=by
       rw[hl];cases h:Jbc [] b with | mk x l=>cases x<;>simp[accG]
      rw[JkL eA eB eU hA0 hB _ _ _ _ hl' rfl];rw[←ih [] b (eB ([]++v) s) (by simp) hb' hl' (by omega)];simp only[Ja8,JbS hv,if_true,runS,List.foldl_cons,tB v s hv,List.nil_append]
    . unfold Jeo at hl
      rw[Jc0]at hl;simp[Jbc]at hl
  | cons p a =>
   have hlp:=JaJ (ha p (by simp));have ha':∀p∈a,oneP p:=fun p hp=>ha p (by simp[hp])
   rcases Jbn (ha p (by simp)) with ⟨u,hu,rfl⟩|⟨d,n,rfl⟩
   . rw [Ja7]at hw
     unfold Jeo at hl;rw[Jes,JjA a ha']at hl ⊢;have hl':(Jbc [] a).1.length=(Jbc [] b).1.length:=by
      rw[←hl];cases h:Jbc [] a with | mk x l=>cases x<;>simp[accG]
     rw[JpD eA eB eU hA _ _ _ _ hl'];rw[←ih a b (eA ([]++u) s) ha' hb hl' (by omega)];simp only[Ja8,JbS hu,if_true,runS,List.foldl_cons,tA u s hu,List.nil_append]
   . cases b with
     | nil =>
      unfold Jeo at hl;rw[Jc0]at hl;simp[Jbc]at hl
     | cons q b =>
      have hb':∀p∈b,oneP p:=fun p hp=>hb p (by simp[hp])
      have hlq:=JaJ (hb q (by simp))
      rcases Jbn (hb q (by simp)) with ⟨v,hv,rfl⟩|⟨e,m,rfl⟩
      . rw [Ja7 _ b]at hw
        unfold Jeo at hl;rw[Jes,JjA b hb']at hl ⊢;have hl':(Jbc [] (Jam d (n+1) :: a)).1.length=(Jbc [] b).1.length:=by
         rw[hl];cases h:Jbc [] b with | mk x l=>cases x<;>simp[accG]
        rw[JkL eA eB eU hA0 hB _ _ _ _ hl' (Jnw d n a)];rw[←ih (Jam d (n+1) :: a) b (eB ([]++v) s) ha hb' hl' (by omega)];simp only[Ja8,Jbr,JbS hv,if_true,Bool.false_eq_true,if_false,runS,List.foldl_cons,tB v s hv,List.nil_append]
      . obtain ⟨k,hk⟩:∃k,k=min n m:=⟨_,rfl⟩
        have l1:Jac (Jam d (n+1))=(n:Int)+1:=by cases d<;>simp[Jac,Jam]
        have l2:Jac (Jam e (m+1))=(m:Int)+1:=by cases e<;>simp[Jac,Jam]
        have hmin:min (Jac (Jam d (n+1))) (Jac (Jam e (m+1)))=(k:Int)+1:=by rw[l1,l2];omega
        obtain⟨c1,c2⟩:=Jdj d n k (by omega);obtain⟨c3,c4⟩:=Jdj e m k (by omega);obtain⟨_,_,o1,_⟩:=Jgl (ha _ (List.mem_cons_self ..)) (n:=(k:Int)+1) (by omega) (by rw[l1];omega);obtain⟨_,_,o2,_⟩:=Jgl (hb _ (List.mem_cons_self ..)) (n:=(k:Int)+1) (by omega) (by rw[l2];omega);have wA:=Jcv d n k (by omega);have wB:=Jcv e m k (by omega);rw[Ja7,Ja7,Jb9,Jb9]at hw;have gA:=c2 a;have gB:=c4 b;have ho1:∀p∈(cutP (Jam d (n+1)) ((k:Int)+1)).2++a,oneP p:=fun p hp=>by
         rcases List.mem_append.1 hp with h|h
         . exact(o1 p h).1
         . exact ha' p h
        have ho2:∀p∈(cutP (Jam e (m+1)) ((k:Int)+1)).2++b,oneP p:=fun p hp=>by
         rcases List.mem_append.1 hp with h|h
         . exact(o2 p h).1
         . exact hb' p h
        have hl':Jeo ((cutP (Jam d (n+1)) ((k:Int)+1)).2++a)=Jeo ((cutP (Jam e (m+1)) ((k:Int)+1)).2++b):=by
         unfold Jeo at hl ⊢;rw[gA,gB]at hl;simp only[List.length_append,List.length_replicate]at hl;omega
        rw[gA,gB,JiK eA eB eU hA0 hB0 d e (k+1),←ih _ _ _ ho1 ho2 hl' (by rw[Jbe,Jbe,wA,wB];omega)];simp only[Ja8,Jbr,Bool.false_eq_true,if_false,runS,List.foldl_cons,hmin,c1,c3,tU]
def tPut (u:List UInt8) (s:NSt):NSt:=addP s ⟨0,0,u⟩
def Jhh (v:List UInt8) (s:NSt):NSt:=addP s ⟨v.length,0,[]⟩
def JhU (d e:Bool) (s:NSt):NSt:=if e then s else addP s (Jlk d)
theorem Jm2(s:NSt):tPut [] s=s:=JhP s
theorem Jkf(s:NSt):Jhh [] s=s:=JhP s
theorem Jke(u v:List UInt8)(s:NSt):tPut (u++v) s=tPut v (tPut u s):=(JpZ s u v).symm
theorem Jiq(u v:List UInt8)(s:NSt):Jhh (u++v) s=Jhh v (Jhh u s):=by
 unfold Jhh
 cases u with
 | nil=>simp[JhP]
 | cons c u =>
  rw[Jjb s ((c :: u).length:Int) (v.length:Int) (by simp) (by omega),List.length_append];simp
theorem JjX(d:Bool):∀(k:Nat)(s:NSt),Jfz (JhU d false) (k+1) s=addP s (Jam d (k+1))
 | 0,s=>by cases d<;>rfl
 | k + 1,s=>by
  have e1:Jfz (JhU d false) (k+1+1) s=Jfz (JhU d false) (k+1) (JhU d false s):=rfl;rw[e1,JjX d k]
  cases d with
  | true =>
   show addP (addP s ⟨0,1,[]⟩) ⟨0,((k+1:Nat):Int),[]⟩=addP s ⟨0,((k+1+1:Nat):Int),[]⟩;rw[Joh]
   congr 2
   omega
  | false =>
   show addP (addP s ⟨1,0,[]⟩) ⟨((k+1:Nat):Int),0,[]⟩=addP s ⟨((k+1+1:Nat):Int),0,[]⟩;rw[Jjb s 1 _ (by omega) (by omega)]
   congr 2
   omega
theorem Jig(d:Bool):∀(k:Nat)(s:NSt),Jfz (JhU d true) k s=s
 | 0,_=>rfl
 | k+1,s=>Jig d k s
theorem Jka(u:List UInt8)(s:NSt)(h:u≠[]):(Jbl (⟨0,0,u⟩,noP)).foldl addP s=tPut u s:=by simp[Jbl,Jaa,noP,h,tPut]
theorem Jii(v:List UInt8)(s:NSt)(h:v≠[]):(Jbl (noP,⟨0,0,v⟩)).foldl addP s=Jhh v s:=by simp[Jbl,Jaa,h,Jhh]
theorem Jih(d e:Bool)(k:Nat)(s:NSt):(Jbl (Jam d (k+1),Jam e (k+1))).foldl addP s=Jfz (JhU d e) (k+1) s:=by
 cases e with
 | true =>
  rw[Jig];have h1:Jaa (Jam true (k+1))=false:=Jbr true (k+1);have h2:Jaa (Jam d (k+1))=false:=Jbr d (k+1);have h3:JbG (Jam true (k+1))=false:=by simp[JbG,Jam]
  simp[Jbl,h1,h2,h3]
 | false =>
  rw[JjX];have h1:Jaa (Jam false (k+1))=false:=Jbr false (k+1);have h3:JbG (Jam false (k+1))=true:=by simp[JbG,Jam]
  simp[Jbl,h1,h3]
theorem JkH:∀(x:List (List UInt8×Bool))(xl:List UInt8)(y:List (List UInt8×Bool))(yl:List UInt8)(s:NSt),(docT true x xl y yl).foldl addP s=docG tPut Jhh JhU x xl y yl s
 | [],xl,[],yl,s=>rfl
 | [],xl,_ :: _,yl,s=>rfl
 | _ :: _,xl,[],yl,s=>rfl
 | (u,d) :: x,xl,(v,e) :: y,yl,s=>by
   rw[docT,docG,List.foldl_append,JkH x xl y yl]
   cases e<;>rfl
theorem JiJ:∀(x:List (List UInt8×Bool))(xl:List UInt8)(y:List (List UInt8×Bool))(yl:List UInt8)(s:NSt),(docT false x xl y yl).foldl addP s=docG Jhh tPut (fun e d=>JhU d e) y yl x xl s
 | [],xl,[],yl,s=>rfl
 | [],xl,_ :: _,yl,s=>rfl
 | _ :: _,xl,[],yl,s=>rfl
 | (u,d) :: x,xl,(v,e) :: y,yl,s=>by
   rw[docT,docG,List.foldl_append,JiJ x xl y yl]
   cases e<;>rfl
theorem Jng(f:Nat)(a b:List Pt)(s:NSt)(ha:∀p∈a,oneP p)(hb:∀p∈b,oneP p)(hl:Jeo a=Jeo b)(hw:Jai a+Jai b<=f) :
    runS Jbl (Ja8 Jaa Jaa f a b) s=(docT true (Jbc [] a).1 (Jbc [] a).2 (Jbc [] b).1 (Jbc [] b).2).foldl addP s:=by
 rw[JkH];exact Jko Jbl tPut Jhh JhU Jm2 Jkf Jke Jiq Jka Jii Jih f a b s ha hb hl hw
theorem Jlm(f:Nat)(a b:List Pt)(s:NSt)(ha:∀p∈a,oneP p)(hb:∀p∈b,oneP p)(hl:Jeo a=Jeo b)(hw:Jai a+Jai b<=f) :
    runS (fun x=>Jbl (x.2,x.1)) (Ja8 Jaa Jaa f b a) s=(docT false (Jbc [] a).1 (Jbc [] a).2 (Jbc [] b).1 (Jbc [] b).2).foldl addP s:=by
 rw[JiJ];exact Jko (fun x=>Jbl (x.2,x.1)) Jhh tPut (fun e d=>JhU d e) Jkf Jm2 Jiq Jke (fun v s h=>Jii v s h) (fun u s h=>Jka u s h) (fun e d k s=>Jih d e k s) f b a s hb ha hl.symm (by omega)
end
end Go.Proofs.YtedgnlgjmnccgabGreatDoor
