/-
  A part of the texts that the proof uses.
-/
import Derived.WalkKit
import Derived.BigQuiet
import Derived.OrdersIn
import Derived.CallsIn
import Derived.TacticsIn
import Derived.RangeFuncCalls
import Derived.RegionTactic
import Derived.Shelf.Strings.Builder1
import Derived.Shelf.Small.Utf8
import Derived.Shelf.Strings.BuilderF
import Derived.Shelf.Strings.BuilderK
import Derived.Shelf.Utf8.AppendRune
import Derived.Shelf.Utf8.AppendRunePlain
import Derived.Shelf.Utf8.RuneCount
import Derived.Shelf.LaysM
import Derived.Shelf.Strconv.Clone
import Derived.Shelf.Strings.Search1
import Derived.Shelf.Strings.Search2
import Derived.Shelf.Strings.Search3
import Derived.Shelf.Strings.Count
import Derived.Shelf.Strings.Shaped
import Derived.Shelf.Strings.Split
import Derived.Shelf.Unicode.Decode
import Derived.Shelf.Strings.RuneCount
import Derived.Shelf.Unicode.DecodeSlow
import Derived.Shelf.Unicode.DecodeAny
import Derived.Shelf.Strings.BuilderCap
import Derived.Test.YtkcpjanmemdjlaaGreatDoorProg
import Derived.Lib.DecodeN
import Derived.Lib.RuneBytes
import Derived.Lib.Strings
import Derived.WalkSpells
import Derived.WalkLawsBesides
import Derived.OwnWalk
import Derived.Lib.QuoteBits
import Derived.Laws.IdiomStrings
import Derived.Lib.UnsafeStr
import Derived.Deep.QuietTactic
import Derived.Deep.RegionWith
import Derived.Shelf.Pu.Clone
import Derived.RangeFuncNested
import Derived.RangeFuncBound
import Derived.RangeFuncLeaves
import Derived.OwnWalkIn
import Derived.TacticsInMore
import Derived.LoopNIn
import Derived.LoopIn
import Derived.Lib.Builder
import Derived.RangeFuncRecord
import Derived.Lib.AppendStr
import Derived.Laws.OwnMore
import Derived.Maps.AppendAt
import Derived.Laws.EntriesVeiled
import Derived.Shelf.Unicode.ValidAny
import Derived.LaidEql
import Derived.Stop.Asserts
import Derived.RowKitTokens
import Derived.Stop.RegionWithIn
import Derived.Lib.OthersKept
import Derived.Lib.FrozenHead
import Derived.Deep.LoopGhost
import Derived.Laws.AppendOwnNone
import Derived.Lib.ConvBytes
import Derived.Test.YtkcpjanmemdjlaaGreatDoorRows
import Derived.Deep.Slices
import Derived.Deep.Strs
import Derived.ChangeSame
import Derived.OpenShut
import Derived.Deep.Cut
import Derived.Maps.OwnOps
import Derived.Maps.OwnSet
import Derived.Maps.Views
import Derived.Lib.SliceRun
import Derived.Deep.CutRange
import Derived.Lib.SmallJoins
import Derived.Deep.CutBlock
set_option maxRecDepth 100000
set_option maxHeartbeats 40000000
set_option linter.all false
namespace Go.Proofs.YtkcpjanmemdjlaaGreatDoor
open Go.Proofs.Tryz Go.RowKit Go.Maps
def AA{a:Type}:=@List.length_append a
def AC:=@Calls.mono
def AD{a:Type}:=@List.take_succ_eq_append_getElem a
def AE:=@World.cell?_of_block
def AF:=@Nat.le_trans
def AG:=@World.frozen?_setCell
def AH{a:Type}:=@List.append_assoc a
def AJ{a:Type}:=@List.length_cons a
def AK:=@Nat.lt_of_lt_of_le
def AL{a:Type}:=@List.getElem?_append_right a
def AM{a:Type}:=@List.length_drop a
def AN:=@World.size_alloc
def AO{a:Type}:=@List.length_take a
def AP:=@Nat.not_lt_zero
def AQ{a:Type}:=@List.take_of_length_le a
def AR{a:Type}:=@List.length_nil a
def AU:=@World.cell?_setCell_same
def AV:=@Nat.zero_le
def AW{a:Type}:=@List.take_append_drop a
def AX{a:Type}:=@List.getElem?_append_left a
def AY{a b:Type}:=@List.map_cons a b
def AZ{a:Type}:=@List.append_nil a
def BA{a:Type}:=@List.nil_append a
def BC{a:Type}:=@List.eq_nil_of_length_eq_zero a
def BD{a b:Type}:=@List.getElem?_map a b
def BE{a:Type}:=@List.getElem_mem a
def BF:=@Below.heap_setCell
def BG:=@IntKind.wrap_i64
def BI{a:Type}:=@List.mem_of_getElem? a
def BJ{a b:Type}:=@List.foldl_append a b
def BK{a:Type}:=@List.drop_eq_getElem_cons a
def BL:=@World.ownsRow_nil
def BM{a b:Type}:=@List.map_append a b
def BN:=@World.cell?_alloc_lt
def BO:=@Int.le_refl
def BP:=@Nat.sub_self
def BQ{a:Type}:=@List.sum_cons a
def BR{a:Type}:=@List.cons_append a
def BS{a b:Type}:=@List.length_map a b
def BT{a b:Type}:=@List.foldl_cons a b
def BU{a b:Type}:=@List.map_nil a b
def BV{a:Type}:=@List.take_length a
def BW:=@Bool.false_eq_true
def BX:=@Nat.le_succ
def BZ{a:Type}:=@List.mem_of_mem_take a
def CE{a:Type}:=@Array.getElem?_toList a
def CH{a:Type}:=@List.replicate_succ a
def CJ:=@World.putObj_heap_other
def CQ:=@Nat.lt_or_ge
def CW:=@Nat.le_of_lt
def CY{a b:Type}:=@List.flatMap_cons a b
def CZ:=@Lib.size_eq
def DC:=@Nat.zero_add
def DE{a:Type}:=@List.drop_zero a
def DF:=@Nat.lt_succ_self
def DG:=@Addr.add_lit
def DH{a:Type}:=@List.drop_of_length_le a
def DI{a:Type}:=@List.drop_drop a
def DJ{a:Type}:=@List.mem_of_mem_drop a
def DK{a:Type}:=@List.sum_append a
def DL{a:Type}:=@List.not_mem_nil a
def DM{a:Type}:=@List.mem_singleton a
def DN{a:Type}:=@List.length_singleton a
def DO:=@Int.add_zero
def DP{a:Type}:=@List.take_left' a
def DQ:=@Int.toNat_zero
def DR{a:Type}:=@List.mem_cons a
def DS{a:Type}:=@List.mem_cons_of_mem a
def DT{a:Type}:=@List.drop_eq_nil_of_le a
def DU{a:Type}:=@List.getElem?_take a
def DV:=@Nat.lt_of_le_of_lt
def DW{a:Type}:=@List.take_zero a
def DX:=@Bool.or_eq_true
def DY{a:Type}:=@List.getD_cons_zero a
def DZ:=@Nat.le_of_eq
def EC:=@Int.toNat_natCast
def ED:=@Bool.and_eq_true
def EF:=@World.frozen?_of_block
def EG{a:Type}:=@List.count_cons a
def EH:=@Lib.wpList_append_own_string
def EI:=@Nat.add_zero
def EJ:=@World.size_setCell
def EK{a:Type}:=@List.getD_eq_getElem?_getD a
def EL{a:Type}:=@List.size_toArray a
def EM{a:Type}:=@List.take_succ_cons a
def EN:=@CallsIn.inRound
def EO{a:Type}:=@List.mem_cons_self a
def EP:=@Nat.lt_succ_of_lt
def EQ{a:Type}:=@List.mem_append a
def ER{a:Type}:=@List.drop_left' a
def ES{a:Type}:=@List.getD_cons_succ a
def ET{a:Type}:=@List.append_toArray a
def EU{a:Type}:=@Array.getElem?_eq_none a
def EW{a b c:Type}:=@List.map_map a b c
def EX:=@World.putObj_heap_same
def EY:=@Int.zero_add
def EZ:=@ByteArray.ext
def FA:=@Nat.min_eq_left
def FB:=@Region.noSelect_spec
def FC:=@World.alloc_heap_new
def FD{a:Type}:=@Array.replicate_zero a
def FE{a:Type}:=@List.sum_nil a
def FF:=@Int.lt_irrefl
def FG{a b:Type}:=@List.flatMap_append a b
def FH:=@World.frozen?_alloc_old
def FJ:=@Act.put_comm
def FK:=@ByteArray.size_extract
def FL{a:Type}:=@List.any_append a
def FM{a:Type}:=@List.take_add a
def FN{a:Type}:=@List.set_append_right a
def FO{a:Type}:=@List.length_replicate a
def FP{a:Type}:=@List.push_toArray a
def FQ:=@Region.free_spec
def FS:=@Below.heap_alloc
def FT:=@Nat.zero_mul
def FU{a b:Type}:=@Sem.run_bind a b
def FV:=@World.cell?_setCell_other
def FW{a:Type}:=@Array.getElem?_eq_getElem a
def FX:=@Int.toNat_of_nonneg
def FY{a:Type}:=@Array.setIfInBounds_comm a
def FZ{a b c:Type}:=@Function.comp_def a b c
def GA:=@World.ownsRow_lit
def GB{a b:Type}:=@List.foldl_nil a b
def GC{a:Type}:=@List.singleton_append a
def GD:=@Lib.extract_data
def GE{a:Type}:=@Ne.symm a
def GF{a:Type}:=@List.mem_of_getLast? a
def GG{a:Type}:=@List.dropLast_subset a
def GH:=@Lib.byteCells_length
def GI{a:Type}:=@List.set_cons_zero a
def GJ:=@Nat.mul_one
def GK:=@Bool.false_or
def GL:=@Int.add_assoc
def GM:=@Nat.sub_zero
def GN:=@Int.le_trans
def GO:=@Nat.ne_of_lt
theorem Ai (n : Nat) : n ≤ n := Nat.le_refl n
theorem Az {w : World} {b : Nat} {a : Array Value} {T : TypeId} {d : Nat × Nat} (c : w.heap[b]? = some (.cells a T d)) (j : Nat) : w.cell? ⟨b, j, none⟩ = a[j]? := Lib.cell_of_heap c j
theorem cQ {w : World} {b : Nat} {a : Array Value} {T : TypeId} {e : Nat × Nat} (d : w.heap[b]? = some (.cells a T e)) (j : Nat) {v : Value} (c : a[j]? = some v) : w.cell? ⟨b, j, none⟩ = some v := (Lib.cell_of_heap d j).trans c
theorem fZ {w : World} {b : Nat} {a : Array Value} {T : TypeId} (h : w.heap[b]? = some (.cells a T (0, 0))) (j : Nat) : w.frozen? ⟨b, j, none⟩ = false := by simp [World.frozen?, h]
theorem A9 (n : Nat) (w : World) : Below n w w := Below.refl n w
theorem Bb (w : World) (o : Obj) : (w.alloc o).heap.size = w.heap.size + 1 := AN w o
theorem Aa {p : Prop} (h : p) : Hid p := h
theorem As {α : Type} {b : Array α} {i : Nat} {a : α} (h : b[i]? = some a) : i < b.size := (Array.getElem?_eq_some_iff.1 h).1
theorem De {α : Type} {b : List α} {i : Nat} {a : α} (h : b[i]? = some a) : i < b.length := (List.getElem?_eq_some_iff.1 h).1
theorem B7 {α : Type} {a : List α} {i : Nat} (h : i < a.length) : a[i]? = some a[i] := List.getElem?_eq_getElem h
theorem Ca (w : World) (p : Addr) {v : Value} (h : w.cell? p = some v) : p.block < w.heap.size := World.block_lt_of_cell? w p h
theorem Bq {α : Type} {a b : α} (h : some a = some b) : a = b := Option.some.inj h
abbrev Ad (b j:Nat):Addr:=⟨b,j,none⟩
abbrev Pd (b j:Nat):Value:=.pointer (some ⟨b,j,none⟩)
abbrev I6 (n:Int):Value:=.int .i64 n
abbrev Sx (x:List UInt8):Value:=.string ⟨x.toArray⟩
abbrev Bw (w x:World):Prop:=Below w.heap.size w x
abbrev Rt (w:World) (v:Value):Ending->World->Prop:=λe x=>e=.returned v/\Below w.heap.size w x
abbrev Cg:=Calls prog
abbrev Sl (b n c:Nat):Value:=.slice (some ⟨b,0,none⟩) n c
abbrev Oc (a:Array Value) (T:TypeId):Obj:=.cells a T (0,0)
theorem zA (w:World) (o:Obj):Below w.heap.size w (w.alloc o):=(Below.refl _ w).alloc (Nat.le_refl _) o
theorem zC {n:Nat}{w x:World}(h:Below n w x)(b j:Nat)(l:b<n):x.cell? (Ad b j)=w.cell? (Ad b j):=h.cell (p:=(Ad b j)) l
end Go.Proofs.YtkcpjanmemdjlaaGreatDoor
namespace Go.Proofs.YtkcpjanmemdjlaaGreatDoor
open Go.Proofs.Tryz Go.RowKit Go.Maps
structure Growth (W:World) (G:World->World):Prop where
 below:∀x,Bw W (G x)
 onto:∀w,Bw W w->G w=w
open Classical in
theorem Vc(W:World):∃G,Growth W G :=
 ⟨λx=>if Bw W x then x else W,λx=>by
  show Bw W (if Bw W x then x else W)
  split
  . assumption
  . exact A9 _ _,λw h=>if_pos h⟩
theorem Growth.cell{W:World}{G:World->World}(a:Growth W G){b o:Nat}{v:Value}(h:W.cell? (Ad b o)=some v):∀x,(G x).cell? (Ad b o)=some v :=
 λx=>(zC (a.below x) b o (Ca W _ h)).trans h
section
variable {P : Program} {ops : Array Oper} {md : Region.Mode} {C : World → Prop} {l0 n : Nat}
def Rn:List Oper->Bool
 | []=>true
 | o :: l=>(match o.op with | .defer _=>false | _=>true) && Rn l
theorem Zi:∀{l:List Oper},Rn l=true->∀(i:Nat)(o:Oper),l[i]?=some o->∀c,o.op≠.defer c
 | [],_,i,o,hi=>by simp at hi
 | o' :: l,h,i,o,hi=>by
  rw[Rn,ED]at h
  cases i with
  | zero =>
   simp at hi;subst hi;intro c e;rw[e]at h;exact absurd h.1 (by simp)
  | succ i=>exact Zi h.2 i o (by simpa using hi)
end
section
variable {P : Program} {ops : Array Oper} {md : Region.Mode} {m : Nat} {Q : Exit → Act → World → Prop}
def Dl (P:Program) (o:Oper) (a:Act) (K:Act->World->Prop):Result Next->Prop
 | .ok (.value v) w'=>K (a.put o.dst v) w'
 | .ok .skip w'=>K (a.put o.dst undef) w'
 | .ok (.enter f args) w'=>Calls P f args w' λe w''=>∃v,e=.returned v/\K (a.put o.dst v) w''
 | _=>False
theorem jG{o:Oper}{a:Act}{K c:Act->World->Prop}(h:∀a w,K a w->c a w){r:Result Next}(b:Dl P o a K r):Dl P o a c r:=by
 cases r with
 | ok n w =>
  cases n<;>simp only[Dl]at b ⊢
  case value=>exact h _ _ b
  case skip=>exact h _ _ b
  case enter=>exact b.mono λe w ⟨v,f,d⟩=>⟨v,f,h _ _ d⟩
 | halt x w=>simp only[Dl]at b
theorem YO{o:Oper}{a:Act}{K:Act->World->Prop}{r:Result Next}(b:Dl P o a K r):o.upon P a K Q r:=by
 cases r with
 | ok n w =>
  cases n<;>simp only[Dl]at b<;>simp only[Oper.upon]
  case value=>exact b
  case skip=>exact b
  case enter=>exact b.mono λe w ⟨v,d,c⟩=>by subst d;exact c
 | halt x w=>simp only[Dl]at b
def Hw (P:Program) (ops:Array Oper) (i:Nat) (K:Act->World->Prop) (a:Act) (w:World):Prop :=
 match ops[i]? with
 | none=>K a w
 | some o=>if Region.wanted o (yielded ops a.tmps) then Dl P o a K ((execOp a.eval o).run P w) else K (a.put o.dst undef) w
theorem MD{i:Nat}{K c:Act->World->Prop}{a:Act}{w:World}(h:∀a w,K a w->c a w)(b:Hw P ops i K a w):Hw P ops i c a w:=by
 unfold Hw at *
 split
 . rename_i ho;simp only[ho]at b;exact h _ _ b
 . rename_i o ho
   simp only[ho]at b
   split
   . rename_i hw;simp only[hw,if_true]at b;exact jG h b
   . rename_i hw;simp only[hw]at b;exact h _ _ b
def Fw (P:Program) (md:Region.Mode) (ops:Array Oper) (m:Nat) (Q:Exit->Act->World->Prop):Nat->Array Bool->Act->World->Prop
 | 0,listed,a,w=>Region.ready md ops listed=[]/\∀w',Bw w w'->Q .normal a w'
 | fuel+1,listed,a,w =>
  (Region.ready md ops listed=[]->∀w',Bw w w'->Q .normal a w') /\
  ∀i∈Region.ready md ops listed,∀w',Bw w w'->Hw P ops i (λa' w''=>(i<m->Bw w' w'')/\Fw P md ops m Q fuel (listed.setIfInBounds i true) a' w'') a w'
theorem ZI:∀(c:Nat)(b:Array Bool)(a:Act)(w:World),Fw P md ops m Q c b a w->wpAny P md ops Q c b a w
 | 0,_,_,w,h=>⟨h.1,h.2 w (A9 _ _)⟩
 | c + 1,b,a,w,h=>⟨λl=>h.1 l w (A9 _ _),λi f=>by
     have k:=h.2 i f w (A9 _ _);have d:=MD (λj e g=>ZI c _ j e g.2) k;unfold Hw at d;unfold wpOp
     split
     . rename_i ho;simp only[ho]at d;exact d
     . rename_i o ho
       simp only[ho]at d
       split
       . rename_i hw;simp only[hw,if_true]at d;exact .inl (YO d)
       . rename_i hw;simp only[hw]at d;exact d⟩
theorem Yp:∀{c:Nat}{listed:Array Bool}{a:Act}{w w2:World},Fw P md ops m Q c listed a w->Bw w w2->Fw P md ops m Q c listed a w2
 | 0,_,_,_,_,h,hb=>⟨h.1,λw' b=>h.2 w' (hb.trans (b.mono hb.size))⟩
 | _+1,_,_,_,_,h,hb=>⟨λe w' b=>h.1 e w' (hb.trans (b.mono hb.size)),λi d w' b=>h.2 i d w' (hb.trans (b.mono hb.size))⟩
def Dz (P:Program) (w:World) (v:Value):Result Next->Prop
 | .ok (.value u) w'=>w'=w/\u=v
 | .ok .skip w'=>w'=w/\v=undef
 | .ok (.enter f args) w'=>w'=w/\Calls P f args w (λe w''=>e=.returned v/\Bw w w'')
 | _=>False
def JK (P:Program) (ops:Array Oper) (o:Oper) (v:Value) (a:Act) (w:World):Prop :=
 if Region.wanted o (yielded ops a.tmps) then ∀w',Bw w w'->Dz P w' v ((execOp a.eval o).run P w') else v=undef
theorem aF{o:Oper}{v:Value}{a d:Act}{w f:World}(b:JK P ops o v a w)(i:execOp d.eval o=execOp a.eval o)
    (g:Region.wanted o (yielded ops d.tmps)=Region.wanted o (yielded ops a.tmps)) (e:Bw w f):JK P ops o v d f:=by
 unfold JK at *;rw[g]
 split
 . rename_i h
   rw[if_pos h]at b;intro w' c;rw[i];exact b w' (e.trans (c.mono e.size))
 . rename_i h
   rw[if_neg h]at b;exact b
theorem aE{i:Nat}{o:Oper}{v:Value}{a:Act}{w w':World}(l:ops[i]?=some o)(g:JK P ops o v a w)(p:Bw w w'){K:Act->World->Prop}
    (h:∀b,Bw w' b->K (a.put o.dst v) b):Hw P ops i K a w':=by
 unfold Hw;simp only[l];unfold JK at g
 split
 . rename_i hw
   rw[if_pos hw]at g;have c:=g w' p;generalize (execOp a.eval o).run P w'=r at *
   cases r with
   | ok n w2 =>
    cases n<;>simp only[Dz]at c<;>simp only[Dl]
    case value u =>
     obtain⟨j,k⟩:=c;rw[k];exact h _ (by rw[j];exact A9 _ _)
    case skip =>
     obtain⟨j,k⟩:=c;rw[←k];exact h _ (by rw[j];exact A9 _ _)
    case enter f args =>
     obtain⟨j,s⟩:=c;rw[j];exact s.mono λe b ⟨q,d⟩=>⟨v,q,h _ d⟩
   | halt x w2=>simp only[Dz]at c
 . rename_i hw
   rw[if_neg hw]at g;rw[←g];exact h _ (A9 _ _)
theorem Lc{j:Nat}{c d:Oper}{v:Value}(z:ops[j]?=some d)(k:c.apart ops d=true)(o:∀i b,c.op≠.select i b)(l:∀i b,d.op≠.select i b)
    {K:Act->World->Prop} {a:Act} {w0 w:World} (y:JK P ops c v a w0) (h:Hw P ops j K (a.put c.dst v) w) :
    Hw P ops j (λq w'=>JK P ops c v q w0/\K (q.put c.dst v) w') a w:=by
 obtain⟨s,g,p⟩:=Oper.apart_spec k;have keep:∀u,JK P ops c v (a.put d.dst u) w0:=λu=>aF y (execOp_put c o a d.dst u p) (wanted_put c a d.dst u p) (A9 _ _);unfold Hw at *;simp only[z]at *;rw[wanted_put d a c.dst v s]at h
 split
 . rename_i hw
   simp only[hw,if_true]at h;rw[execOp_put d l a c.dst v s]at h;generalize (execOp a.eval d).run P w=r at *
   cases r with
   | ok n w2 =>
    cases n<;>simp only[Dl]at h ⊢
    case value u=>exact⟨keep u,by rw[←FJ a v u g];exact h⟩
    case skip=>exact⟨keep _,by rw[←FJ a v undef g];exact h⟩
    case enter f args=>exact h.mono λe A ⟨u,B,t⟩=>⟨u,B,keep u,by rw[←FJ a v u g];exact t⟩
   | halt x w2=>simp only[Dl]at h
 . rename_i hw
   simp only[hw]at h;exact⟨keep _,by rw[←FJ a v undef g];exact h⟩
def Kq (md:Region.Mode) (ops:Array Oper) (m:Nat):Bool :=
 (List.range ops.size).all λj=>j<m || match ops[j]? with
   | some o=>(List.range m).all λi=>o.after.any λe=>Region.binds md e && e.on==i
   | none=>true
theorem ZC(h:Kq md ops m=true){j i:Nat}{o:Oper}(b:ops[j]?=some o)(g:¬j<m)(d:i<m):∃e∈o.after,Region.binds md e=true/\e.on=i:=by
 unfold Kq at h;rw[List.all_eq_true]at h;have c:=h j (List.mem_range.2 (As b));simp only[b,g,decide_false,GK,List.all_eq_true,List.mem_range]at c;obtain⟨e,f,a⟩:=Array.any_eq_true'.1 (c i d);rw[ED,beq_iff_eq]at a;exact⟨e,f,a.1,a.2⟩
theorem gC{i:Nat}{E:Oper}{v:Value}(X:ops[i]?=some E)(S:i<m)(t:∀(j:Nat)(o:Oper) F b,ops[j]?=some o->o.op≠.select F b)(D:Kq md ops m=true) :
    ∀ (f:Nat) (c:Array Bool) (a:Act) (w:World),
     (∀j y,ops[j]?=some y->j≠i->c.getD j true=false->(∀e∈y.after,Region.binds md e=true->e.on≠i)->E.apart ops y=true) ->
     i∈Region.ready md ops c->JK P ops E v a w ->
     Fw P md ops m Q f (c.setIfInBounds i true) (a.put E.dst v) w->Fw P md ops m Q (f+1) c a w:=by
 intro f
 induction f with
 | zero =>
  intro c a w _ B L H;refine⟨λh=>(by rw[h]at B;cases B),λj N w' g=>?_⟩
  by_cases d:j=i
  . subst d;exact aE X L g λA l=>⟨λ_=>l,Yp H (g.trans (l.mono g.size))⟩
  . have:=ready_mono N d
    rw[H.1]at this
    cases this
 | succ f ih =>
  intro c a w p B L H;refine⟨λh=>(by rw[h]at B;cases B),λj N w' g=>?_⟩
  by_cases d:j=i
  . subst d;exact aE X L g λA l=>⟨λ_=>l,Yp H (g.trans (l.mono g.size))⟩
  . have z:=H.2 j (ready_mono N d) w' g
    obtain⟨u,y,q,J⟩:=mem_ready.1 N;have x:∀e∈y.after,Region.binds md e=true->e.on≠i:=λe O g heq=>by
     have z:=J e O g;have h0:=(mem_ready.1 B).1;rw[heq]at z
     rcases CQ i c.size with Y | Y
     . simp[Y]at h0 z;rw[h0]at z;cases z
     . simp[EU Y]at z
    have r:j<m:=by
     by_cases r:j<m
     . exact r
     . obtain⟨e,O,g,hon⟩:=ZC D q r S
       exact absurd hon (x e O g)
    have h2:=Lc q (p j y q d u x) (λF b=>t i E F b X) (λF b=>t j y F b q) L z
    have s:∀k K,ops[k]?=some K->k≠i->(c.setIfInBounds j true).getD k true=false ->
        (∀e∈K.after,Region.binds md e=true->e.on≠i)->E.apart ops K=true:=λk K hk Z G hno=>by
     refine p k K hk Z ?_ hno
     by_cases I:j=k
     . subst I;exact u
     . rw[getD_set_ne true I]at G;exact G
    refine MD (λa' A h3=>?_) h2;obtain⟨R,U,W⟩:=h3;have hg:=U r;refine⟨λ_=>hg,ih (c.setIfInBounds j true) a' A s (ready_mono B (GE d)) (aF R rfl rfl (g.trans (hg.mono g.size))) ?_⟩;rw[FY _ _ d];exact W
theorem Xd{i c:Nat}{d:Oper}{v:Value}{b:Array Bool}{a:Act}{w:World}(h:ops[i]?=some d)(e:i<m)(f:(Region.noSelect ops && Kq md ops m)=true)
    (g:(Region.free md ops b i && (Region.ready md ops b).contains i)=true) (j:JK P ops d v a w) (H:Fw P md ops m Q c (b.setIfInBounds i true) (a.put d.dst v) w):Fw P md ops m Q (c+1) b a w:=by
 rw[ED]at f g;exact gC h e (FB f.1) f.2 c b a w (FQ h g.1) (by simpa using g.2) j H
theorem G6{i c:Nat}{o:Oper}{b:Array Bool}{a:Act}{w:World}{G:World->World}(q:Growth w G)(g:ops[i]?=some o)(e:decide (i<m)=true)(j:(Region.noSelect ops && Kq md ops m)=true)
    (k:(Region.free md ops b i && (Region.ready md ops b).contains i)=true)
    (h:∀K:Act->Prop,(∀a,Fw P md ops m Q c (b.setIfInBounds i true) a w->K a)->if Region.wanted o (yielded ops a.tmps) then ∃v,(∀x,Dz P (G x) v ((execOp a.eval o).run P (G x)))/\K (a.put o.dst v) else K (a.put o.dst undef)) :
    Fw P md ops m Q (c+1) b a w:=by
 have f:=h _ λ_ h=>h;have d:i<m:=of_decide_eq_true e
 split at f
 . rename_i hw
   obtain⟨v,r,l⟩:=f;refine Xd g d j k ?_ l;unfold JK;rw[if_pos hw];intro w' p;have:=r w';rw[q.onto w' p]at this;exact this
 . rename_i hw
   refine Xd g d j k ?_ f;unfold JK;rw[if_neg hw]
theorem TA{c:Nat}{b:Array Bool}{a:Act}{w:World}(d:Region.ready md ops b=[])(h:∀w',Bw w w'->Q .normal a w'):Fw P md ops m Q c b a w:=by
 cases c with
 | zero=>exact⟨d,h⟩
 | succ n=>exact⟨λ_=>h,λi e=>(by rw[d]at e;cases e)⟩
theorem aN{id:Nat}{a:Act}{w:World}{l:List Oper}(m n:Nat)(c:P.follows .mixedOrders=true)(b:l.length=n)
    (h:∀w',Bw w w'->Fw P .any l.toArray m Q n (Array.replicate n false) a w'):(Code.region id l.toArray true).wp P Q a w :=
 wp_region_any c (ZI _ _ _ _ (by subst b;simpa using h { w with drawn:=w.drawn+1 } (Below.drew (A9 _ w))))
end
end Go.Proofs.YtkcpjanmemdjlaaGreatDoor
namespace Go.Proofs
open Go.Shelf
def Tryz.lays197_ren:Go.Shelf.Ren:=⟨λ| 197=>126 | 260=>164 | n=>n,λ| 9=>9 | 21=>21 | 3=>3 | 4=>4 | 5=>5 | 105=>211 | 119=>245 | 0=>0 | 46=>249 | 139=>248 | 138=>247 | n=>n,λ| 3=>1 | 4=>2 | n=>n⟩
theorem Tryz.lays197:Go.Proofs.Lays.n197 Tryz.prog Tryz.lays197_ren:={
 mixed:=by kernel_rfl
 f197:=Tryz.func126.trans (congrArg some (by kernel_rfl))
 f260:=Tryz.func164.trans (congrArg some (by kernel_rfl))
 t0:=Tryz.underlying0
 a0:=Tryz.isAgg0
 z0:=Tryz.sizeOf0
 v0:=Tryz.zeroValue0
 t3:=Tryz.underlying3
 a3:=Tryz.isAgg3
 z3:=Tryz.sizeOf3
 v3:=Tryz.zeroValue3
 t4:=Tryz.underlying4
 a4:=Tryz.isAgg4
 z4:=Tryz.sizeOf4
 v4:=Tryz.zeroValue4
 t5:=Tryz.underlying5
 a5:=Tryz.isAgg5
 z5:=Tryz.sizeOf5
 v5:=Tryz.zeroValue5
 t9:=Tryz.underlying9
 a9:=Tryz.isAgg9
 z9:=Tryz.sizeOf9
 v9:=Tryz.zeroValue9
 t21:=Tryz.underlying21
 a21:=Tryz.isAgg21
 z21:=Tryz.sizeOf21
 v21:=Tryz.zeroValue21
 t46:=Tryz.underlying249
 a46:=Tryz.isAgg249
 z46:=Tryz.sizeOf249
 v46:=Tryz.zeroValue249
 t105:=Tryz.underlying211
 a105:=Tryz.isAgg211
 z105:=Tryz.sizeOf211
 v105:=Tryz.zeroValue211
 t119:=Tryz.underlying245
 a119:=Tryz.isAgg245
 z119:=Tryz.sizeOf245
 t138:=Tryz.underlying247
 a138:=Tryz.isAgg247
 z138:=Tryz.sizeOf247
 v138:=Tryz.zeroValue247
 t139:=Tryz.underlying248
 a139:=Tryz.isAgg248
 z139:=Tryz.sizeOf248
 v139:=Tryz.zeroValue248
 g3:=by kernel_rfl
 g4:=by kernel_rfl }
def Tryz.lays260_ren:Go.Shelf.Ren:=⟨λ| 260=>164 | n=>n,λ| 9=>9 | 21=>21 | 3=>3 | 4=>4 | 5=>5 | 119=>245 | 0=>0 | 46=>249 | 139=>248 | 138=>247 | n=>n,λ| 3=>1 | 4=>2 | n=>n⟩
theorem Tryz.lays260:Go.Proofs.Lays.n260 Tryz.prog Tryz.lays260_ren:={
 mixed:=by kernel_rfl
 f260:=Tryz.func164.trans (congrArg some (by kernel_rfl))
 t0:=Tryz.underlying0
 a0:=Tryz.isAgg0
 z0:=Tryz.sizeOf0
 v0:=Tryz.zeroValue0
 t3:=Tryz.underlying3
 a3:=Tryz.isAgg3
 z3:=Tryz.sizeOf3
 v3:=Tryz.zeroValue3
 t4:=Tryz.underlying4
 a4:=Tryz.isAgg4
 z4:=Tryz.sizeOf4
 v4:=Tryz.zeroValue4
 t5:=Tryz.underlying5
 a5:=Tryz.isAgg5
 z5:=Tryz.sizeOf5
 v5:=Tryz.zeroValue5
 t9:=Tryz.underlying9
 a9:=Tryz.isAgg9
 z9:=Tryz.sizeOf9
 v9:=Tryz.zeroValue9
 t21:=Tryz.underlying21
 a21:=Tryz.isAgg21
 z21:=Tryz.sizeOf21
 v21:=Tryz.zeroValue21
 t46:=Tryz.underlying249
 a46:=Tryz.isAgg249
 z46:=Tryz.sizeOf249
 v46:=Tryz.zeroValue249
 t119:=Tryz.underlying245
 a119:=Tryz.isAgg245
 z119:=Tryz.sizeOf245
 t138:=Tryz.underlying247
 a138:=Tryz.isAgg247
 z138:=Tryz.sizeOf247
 v138:=Tryz.zeroValue247
 t139:=Tryz.underlying248
 a139:=Tryz.isAgg248
 z139:=Tryz.sizeOf248
 v139:=Tryz.zeroValue248
 g3:=by kernel_rfl
 g4:=by kernel_rfl }
open Go.RowKit Go.Lib in
theorem Tryz.utf8_DecodeRuneInString(s:ByteArray)(w:World)(hT:Lib.Utf8Tabs 1 2 w) :
    Calls Tryz.prog 126 #[.string s] w λe w'=>e=.returned (.tuple #[.int .i32 (Lib.decodeGo s).1,.int .i64 (Lib.decodeGo s).2])/\Below w.heap.size w w':=Any.utf8_DecodeRuneInString Tryz.lays197 s w hT
end Go.Proofs
namespace Go.Proofs.YtkcpjanmemdjlaaGreatDoor
open Go.Proofs.Tryz Go.RowKit Go.Maps
section
open Go.Lib
variable {l : List UInt8}{r n : Nat}{p : Nat × Nat}
def Cb (l:List UInt8):Nat×Nat:=decodeN l.length (l.getD 0 0).toNat (l.getD 1 0).toNat (l.getD 2 0).toNat (l.getD 3 0).toNat
theorem cd(n b a c d:Nat):1<=(decodeN n b a c d).2:=by
 unfold decodeN
 repeat' split
 all_goals simp
theorem cg(n b a c d:Nat):(decodeN n b a c d).2<=4:=by
 unfold decodeN
 repeat' split
 all_goals simp
theorem Lt(n b a c d:Nat)(h:1<=n):(decodeN n b a c d).2<=n:=by
 unfold decodeN
 repeat' split
 all_goals simp
 all_goals omega
theorem MA(l:List UInt8):1<=(Cb l).2:=cd _ _ _ _ _
theorem Ti(l:List UInt8):(Cb l).2<=4:=cg _ _ _ _ _
theorem N5(h:l≠[]):(Cb l).2<=l.length:=Lt _ _ _ _ _ (by cases l<;>simp_all)
def Dc (p:Nat×Nat):Bool:=p.1==65533 && p.2==1
def LO:Nat->List UInt8->List (Nat×Nat)×Bool
 | 0,_=>([],true)
 | n+1,l=>if l=[] then ([],true) else if Dc (Cb l) then ([],false) else (Cb l :: (LO n (l.drop (Cb l).2)).1,(LO n (l.drop (Cb l).2)).2)
theorem Uf:∀(n m:Nat)(l:List UInt8),l.length<=n->l.length<=m->LO n l=LO m l
 | 0,m,l,hn,_=>by
  obtain rfl:l=[]:=BC (by omega)
  cases m<;>simp[LO]
 | n+1,0,l,_,hm=>by
  obtain rfl:l=[]:=BC (by omega);simp[LO]
 | n + 1,m+1,l,hn,hm=>by
  unfold LO
  by_cases h:l=[]
  . simp[h]
  . have a:=MA l
    have b:l.length≠0:=by simpa using h
    rw[Uf n m (l.drop (Cb l).2) (by rw[AM];omega) (by rw[AM];omega)]
def scan (l:List UInt8):List (Nat×Nat)×Bool:=LO l.length l
theorem X6(l:List UInt8)(h:l≠[]):scan l=if Dc (Cb l) then ([],false) else (Cb l :: (scan (l.drop (Cb l).2)).1,(scan (l.drop (Cb l).2)).2):=by
 have a:=MA l;have b:l.length≠0:=by simpa using h
 unfold scan;rw[Uf l.length ((l.length - 1)+1) l (Ai _) (by omega),LO,if_neg h,Uf (l.length - 1) (l.drop (Cb l).2).length _ (by rw[AM];omega) (Ai _)]
theorem Oi:scan []=([],true):=rfl
theorem Qo(h:l≠[])(a:Dc (Cb l)=true):scan l=([],false):=by rw[X6 l h,a];rfl
theorem Op(h:l≠[])(a:Dc (Cb l)=false):scan l=(Cb l :: (scan (l.drop (Cb l).2)).1,(scan (l.drop (Cb l).2)).2):=by
 rw[X6 l h,a];rfl
def Df (r:Nat):Prop:=r<55296\/(57344<=r/\r<=1114111)
def enc (r:Nat):List UInt8:=encodeRune r
theorem I5(h:r<=127):enc r=[r.toUInt8]:=by
 unfold enc encodeRune;rw[encodeRuneZ_one (by omega) (by omega)];simp
theorem I4(b:128<=r)(a:r<=2047):enc r=[(192+r / 64).toUInt8,(128+r % 64).toUInt8]:=by
 unfold enc encodeRune;rw[encodeRuneZ_two (by omega) (by omega)];simp only[AY,BU];rw[show(192+(r:Int) / 64).toNat=192+r / 64 by omega,show(128+(r:Int) % 64).toNat=128+r % 64 by omega]
theorem I3(h:(2048<=r/\r<55296)\/(57343<r/\r<=65535)):enc r=[(224+r / 4096).toUInt8,(128+r / 64 % 64).toUInt8,(128+r % 64).toUInt8]:=by
 unfold enc encodeRune;rw[encodeRuneZ_three (by omega)];simp only[AY,BU];rw[show(224+(r:Int) / 4096).toNat=224+r / 4096 by omega,show(128+(r:Int) / 64 % 64).toNat=128+r / 64 % 64 by omega,show(128+(r:Int) % 64).toNat=128+r % 64 by omega]
theorem I2(b:65536<=r)(a:r<=1114111):enc r=[(240+r / 262144).toUInt8,(128+r / 4096 % 64).toUInt8,(128+r / 64 % 64).toUInt8,(128+r % 64).toUInt8]:=by
 unfold enc encodeRune;rw[encodeRuneZ_four (by omega) (by omega)];simp only[AY,BU];rw[show(240+(r:Int) / 262144).toNat=240+r / 262144 by omega,show(128+(r:Int) / 4096 % 64).toNat=128+r / 4096 % 64 by omega,show(128+(r:Int) / 64 % 64).toNat=128+r / 64 % 64 by omega,show(128+(r:Int) % 64).toNat=128+r % 64 by omega]
theorem Cy(h:n<256):n.toUInt8.toNat=n:=by simp[Nat.toUInt8];omega
theorem LS{a:UInt8}(h:n=a.toNat):n.toUInt8=a:=by
 subst h;simp[Nat.toUInt8]
theorem Wt(h:l≠[])(g:Dc (Cb l)=false):Df (Cb l).1/\l.take (Cb l).2=enc (Cb l).1:=by
 revert g;unfold Dc Cb Df;have u:(l.getD 0 0).toNat<256:=(l.getD 0 0).toNat_lt;have x:(l.getD 1 0).toNat<256:=(l.getD 1 0).toNat_lt;have v:(l.getD 2 0).toNat<256:=(l.getD 2 0).toNat_lt;have y:(l.getD 3 0).toNat<256:=(l.getD 3 0).toNat_lt;obtain⟨a,t,rfl⟩:=List.exists_cons_of_ne_nil h;unfold decodeN
 split
 . intro _
   refine⟨by simp only[DY]at *;omega,?_⟩;rw[I5 (by omega)];simp
 split
 . rename_i c
   split
   . intro _
     obtain⟨k,i,o⟩:=c;obtain⟨b,t,rfl⟩:∃b f,t=b :: f:=by cases t with|nil=>simp at i|cons b t=>exact⟨b,t,rfl⟩
     simp only[DY,ES]at *;refine⟨by omega,?_⟩;rw[I4 (by omega) (by omega)];simp only[EM,DW];rw[LS (a:=a) (by omega),LS (a:=b) (by omega)]
   . intro g;simp at g
 split
 . rename_i c
   split
   . intro _
     obtain⟨k,⟨i,o⟩,j,s⟩:=c;obtain⟨b,t,rfl⟩:∃b f,t=b :: f:=by cases t with|nil=>simp at i|cons b t=>exact⟨b,t,rfl⟩
     obtain⟨d,t,rfl⟩:∃b f,t=b :: f:=by cases t with|nil=>simp at j|cons b t=>exact⟨b,t,rfl⟩
     simp only[DY,ES]at *;refine⟨by omega,?_⟩;rw[I3 (by omega)];simp only[EM,DW];rw[LS (a:=a) (by omega),LS (a:=b) (by omega),LS (a:=d) (by omega)]
   . intro g;simp at g
 split
 . rename_i c
   split
   . intro _
     obtain⟨k,⟨i,o⟩,⟨j,s⟩,q,w⟩:=c;obtain⟨b,t,rfl⟩:∃b f,t=b :: f:=by cases t with|nil=>simp at i|cons b t=>exact⟨b,t,rfl⟩
     obtain⟨d,t,rfl⟩:∃b f,t=b :: f:=by cases t with|nil=>simp at j|cons b t=>exact⟨b,t,rfl⟩
     obtain⟨e,t,rfl⟩:∃b f,t=b :: f:=by cases t with|nil=>simp at q|cons b t=>exact⟨b,t,rfl⟩
     simp only[DY,ES]at *;refine⟨by omega,?_⟩;rw[I2 (by omega) (by omega)];simp only[EM,DW];rw[LS (a:=a) (by omega),LS (a:=b) (by omega),LS (a:=d) (by omega),LS (a:=e) (by omega)]
   . intro g;simp at g
 . intro g;simp at g
theorem Rf(d:Df r)(t:List UInt8):Cb (enc r++t)=(r,(enc r).length)/\Dc (Cb (enc r++t))=false:=by
 have a:Cb (enc r++t)=(r,(enc r).length)/\((enc r).length=1->r<=127):=by
  unfold Df at d
  by_cases c:r<=127
  . rw[I5 c]
    simp only[Cb,BR,BA,DY,Cy (show r<256 by omega),AJ,AR];exact⟨by simp[decodeN,show r<128 by omega],λ_=>c⟩
  by_cases e:r<=2047
  . rw[I4 (by omega) e]
    simp only[Cb,BR,BA,DY,ES,Cy (show 192+r / 64<256 by omega),Cy (show 128+r % 64<256 by omega),AJ,AR];refine⟨?_,by simp⟩;unfold decodeN;rw[if_neg (by omega),if_pos ⟨by omega,by omega,by omega⟩,if_pos (by omega)];simp;omega
  by_cases f:r<=65535
  . rw[I3 (by omega)]
    simp only[Cb,BR,BA,DY,ES,Cy (show 224+r / 4096<256 by omega),Cy (show 128+r / 64 % 64<256 by omega),Cy (show 128+r % 64<256 by omega),AJ,AR];refine⟨?_,by simp⟩;unfold decodeN;rw[if_neg (by omega),if_neg (by omega),if_pos ⟨by omega,⟨by omega,by omega⟩,by omega,by omega⟩,if_pos (by omega)];simp;omega
  . rw[I2 (by omega) (by omega)]
    simp only[Cb,BR,BA,DY,ES,Cy (show 240+r / 262144<256 by omega),Cy (show 128+r / 4096 % 64<256 by omega),Cy (show 128+r / 64 % 64<256 by omega),Cy (show 128+r % 64<256 by omega),AJ,AR];refine⟨?_,by simp⟩;unfold decodeN;rw[if_neg (by omega),if_neg (by omega),if_neg (by omega),if_pos ⟨by omega,⟨by omega,by omega⟩,⟨by omega,by omega⟩,by omega,by omega⟩,if_pos (by omega)];simp;omega
 refine⟨a.1,?_⟩;rw[a.1];unfold Dc
 by_cases b:(enc r).length=1
 . have:=a.2 b;simp;omega
 . simp[b]
theorem Q6(r:Nat):enc r≠[]:=by
 have:=(encodeRuneZ_length r).1;intro h;have a:=congrArg List.length h;simp[enc,encodeRune]at a;rw[a]at this;simp at this
def wide (rs:List Nat):List (Nat×Nat):=rs.map λr=>(r,(enc r).length)
def encs (rs:List Nat):List UInt8:=rs.flatMap enc
theorem Kb(r:Nat)(a:List Nat):encs (r :: a)=enc r++encs a:=rfl
theorem Mk(a b:List Nat):encs (a++b)=encs a++encs b:=by simp[encs]
theorem MN:∀(a:List Nat),(∀r∈a,Df r)->scan (encs a)=(wide a,true)
 | [],_=>Oi
 | r :: a,h=>by
  have c:=h r (by simp);obtain⟨e,f⟩:=Rf c (encs a);have b:encs (r :: a)≠[]:=by rw[Kb];simp[Q6]
  rw[Kb]at b ⊢;rw[Op b f,e];simp only[List.drop_left];rw[MN a (λx d=>h x (by simp[d]))];rfl
theorem Oq(n:Nat):∀(l:List UInt8),l.length<=n->(∀p∈(scan l).1,Df p.1/\p.2=(enc p.1).length)/\(∃t,l=encs ((scan l).1.map (·.1))++t/\((scan l).2=true->t=[])/\((scan l).2=false->t≠[]/\Dc (Cb t)=true)):=by
 induction n with
 | zero =>
  intro l e;obtain rfl:l=[]:=by cases l<;>simp_all
  rw[Oi];exact⟨by simp,[],by simp[encs]⟩
 | succ n ih =>
  intro l e
  by_cases h:l=[]
  . subst h;rw[Oi];exact⟨by simp,[],by simp[encs]⟩
  by_cases a:Dc (Cb l)=true
  . rw[Qo h a];exact⟨by simp,l,by simp[encs],by simp,λ_=>⟨h,a⟩⟩
  have a:Dc (Cb l)=false:=by simpa using a
  obtain⟨d,c⟩:=Wt h a;have o:=MA l;have q:=N5 h;obtain⟨i,t,j,k,g⟩:=ih (l.drop (Cb l).2) (by simp;omega);rw[Op h a];have f:(Cb l).2=(enc (Cb l).1).length:=by rw[←c];simp;omega
  refine⟨?_,t,?_,k,g⟩
  . intro p b
    rcases List.mem_cons.1 b with rfl|b
    . exact⟨d,f⟩
    . exact i p b
  . simp only[AY,Kb]
    rw[←c,AH,←j];exact(AW _ _).symm
def Ch (l:List UInt8):List Nat:=(scan l).1.map (·.1)
theorem NV(h:r∈Ch l):Df r:=by
 obtain⟨p,a,rfl⟩:=List.mem_map.1 h;exact((Oq l.length l (Ai _)).1 p a).1
theorem X7(l:List UInt8):(scan l).1=wide (Ch l):=by
 unfold wide Ch;rw[EW];have h:=(Oq l.length l (Ai _)).1
 conv=>lhs;rw[←List.map_id (scan l).1]
 refine List.map_congr_left λp a=>?_;have:=(h p a).2;simp[←this]
theorem MP(h:(scan l).2=true):encs (Ch l)=l:=by
 obtain⟨_,t,a,b,_⟩:=Oq l.length l (Ai _);rw[b h]at a;exact(a.trans (AZ _)).symm
theorem TI(a:List Nat):a.length<=(encs a).length:=by
 induction a with
 | nil=>simp[encs]
 | cons r a ih =>
  have h:(enc r).length≠0:=by simpa using Q6 r
  rw[Kb,AA,AJ];omega
theorem Oh(l:List UInt8):(scan l).1.length<=l.length:=by
 obtain⟨_,t,a,_⟩:=Oq l.length l (Ai _);have h:=TI ((scan l).1.map (·.1));rw[BS]at h;have b:=congrArg List.length a;rw[AA]at b;omega
theorem VZ(l:List UInt8):∀p∈(scan l).1,p.2<=4:=by
 intro p a;rw[((Oq l.length l (Ai _)).1 p a).2];have:=(encodeRuneZ_length p.1).2;simpa[enc,encodeRune] using this
/-! ### Halves -/
def hal (r:Nat):List Nat:=if r<65536 then [r] else [55296+(r - 65536) / 1024,56320+(r - 65536) % 1024]
def Hh (rs:List Nat):List Nat:=rs.flatMap hal
theorem get!_getD (s:ByteArray)(i:Nat):s.get! i=s.data.toList.getD i 0:=by
 simp only[ByteArray.get!,EK,CE]
 cases h:s.data[i]? with
 | none=>rw[getElem!_def];simp[h];rfl
 | some x=>rw[getElem!_def];simp[h]
theorem Uz(s:ByteArray)(k:Nat):Utf8.decode (s.extract k s.size) 0=Cb (s.data.toList.drop k):=by
 have a:(s.extract k s.size).data.toList=s.data.toList.drop k:=by
  rw[extract_data,AQ (by rw[AM,Array.length_toList];exact Ai _)]
 have e:(s.extract k s.size).size=(s.data.toList.drop k).length:=by rw[←a,Array.length_toList];rfl
 rw[decode_at,e,get!_getD,get!_getD,get!_getD,get!_getD,a];rfl
def Gs (l:List UInt8):Nat:=((scan l).1.map (·.2)).sum
theorem Ul(h:Dc p=true):p.1=65533/\p.2=1:=by simpa[Dc] using h
theorem YR(h:Dc p=false):p.1≠65533\/(p.1=65533/\p.2≠1):=by
 simp[Dc]at h
 by_cases a:p.1=65533
 . exact .inr ⟨a,h a⟩
 . exact .inl a
end
section
variable {w w' : World}{v : Value}{n : Int}
def Fi (w w':World) (v:Value) (at_:Int):Prop :=
 ∃b,v=.iface 132 (.pointer (some ⟨b,0,none⟩))/\w.heap.size<=b/\b<w'.heap.size/\w'.cell? ⟨b,0,none⟩=some (.int .i64 3)/\w'.cell? ⟨b,1,none⟩=some (.int .i64 at_)
theorem Yn(n:Int)(w:World) :
    Cg 127 #[I6 n] w λe w'=>(∃v,e=.returned v/\Fi w w' v n)/\Bw w w':=by
 go_enter func127,ntmps127
 go_wp2;go_ret;refine⟨⟨_,rfl,w.heap.size,rfl,Ai _,by simp,by simp[go_sem],by simp[go_sem]⟩,zA _ _⟩
theorem fS{a:World}(h:Fi w w' v n)(c:Bw w' a):Fi w a v n:=by
 obtain⟨b,rfl,g,d,e,f⟩:=h;exact⟨b,rfl,g,AK d c.size,by rw[zC c b 0 d];exact e,by rw[zC c b 1 d];exact f⟩
theorem eW{w0:World}(h:Fi w w' v n)(d:w0.heap.size<=w.heap.size):Fi w0 w' v n:=by
 obtain⟨b,rfl,a,c⟩:=h;exact⟨b,rfl,AF d a,c⟩
structure Iv (W:World) (F:Nat) (cap:Array Value) (l:List (Nat×Nat)) (I:List (Nat×Nat)->World->Prop):Prop where
 enters:∀args w,(callFunc F args).run prog w=.ok (.enter F args) w
 stays:∀done w w',I done w->Bw w w'->I done w'
 step:∀done p rest,l=done++p :: rest->∀w,I done w->Bw W w ->
  Cg F (#[.int .i32 p.1,I6 p.2]++cap) w λe w'=>e=.returned (.bool true)/\I (done++[p]) w'/\Bw W w'
theorem TH(s:ByteArray)(hs:s.size<=maxLen)(F:Nat)(X:Array Value)(W:World)(hT:Lib.Utf8Tabs 1 2 W)(I:List (Nat×Nat)->World->Prop)
    (H:Iv W F X (scan s.data.toList).1 I) (w:World) (hw:Bw W w) (h0:I [] w) :
    Cg 94 #[.string s,.func (.func F) #[] X] w λe w'=>Bw W w'/\I (scan s.data.toList).1 w' /\
     (((scan s.data.toList).2=true/\e=.returned .nilIface)\/((scan s.data.toList).2=false/\∃v,e=.returned v/\Fi W w' v (Gs s.data.toList))):=by
 unfold maxLen at hs;have hent:=H.enters
 have D:∀a k,(scan s.data.toList).1=a++(scan (s.data.toList.drop k)).1->(a.map (·.2)).sum=k->(scan s.data.toList).2=(scan (s.data.toList.drop k)).2 ->
     (scan (s.data.toList.drop k)).1=[]->Gs s.data.toList=k:=by
  intro a k h1 h2 _ h4;unfold Gs;rw[h1,h4,AZ,h2]
 go_enter func94,ntmps94
 go_wp2
 go_loopw [5,6,7,12] (λat_ _ _ _ wr=>∃(k:Nat) (a:List (Nat×Nat)),k<=s.size/\at_=.int .i64 k/\(scan s.data.toList).1=a++(scan (s.data.toList.drop k)).1/\(a.map (·.2)).sum=k /\
     (scan s.data.toList).2=(scan (s.data.toList.drop k)).2/\I a wr/\Bw W wr) (λat_ _ _ _ _=>s.size - (intOf at_).toNat)
 case atStart=>exact⟨0,[],AV _,rfl,by rw[DE];rfl,rfl,by rw[DE],h0,hw⟩
 case round =>
  obtain⟨k,a,hk,rfl,c,B,g,U,d⟩:=hrel;have Z:=Go.Proofs.Utf8Tabs_below hT d
  by_cases hlt:k<s.size
  . have x:s.data.toList.drop k≠[]:=by
      intro e;have:=congrArg List.length e;rw[AM,AR,←CZ]at this;omega
    have y:Lib.decodeGo (s.extract k s.size)=Cb (s.data.toList.drop k):=by
     unfold Lib.decodeGo;rw[if_neg (by rw[FK];omega),Uz]
    have O:=MA (s.data.toList.drop k);have z:=N5 x;have q:=Ti (s.data.toList.drop k);have S:=utf8_DecodeRuneInString (s.extract k s.size) wr Z;rw[y]at S
    by_cases A:Dc (Cb (s.data.toList.drop k))=true
    . have f:=Qo x A
      have hpl:Hid (Gs s.data.toList=k):=D a k c B g (by rw[f]);have hf:(scan s.data.toList).2=false:=by rw[g,f]
      have u:Hid (I (scan s.data.toList).1 wr):=by show I _ wr;rw[c,f,AZ];exact U
      have L:(Cb (s.data.toList.drop k)).1=65533/\(Cb (s.data.toList.drop k)).2=1:=Ul A;rw[L.1,L.2]at S;clear y O z q A L c B g f x D U
      go_wp2_with (first | (go_at_call 126;refine S.mono ?_;rintro e w1 ⟨rfl,b⟩) | (go_at_call 127;refine(Yn _ _).mono ?_;rintro e w2 ⟨⟨v,rfl,hv⟩,o⟩))
      go_ret;have J:Bw wr w2:=b.trans (o.mono b.size);refine⟨d.trans (J.mono d.size),H.stays _ _ _ u J,.inr ⟨hf,v,rfl,?_⟩⟩;rw[hpl];exact eW hv (AF d.size b.size)
    . have A:Dc (Cb (s.data.toList.drop k))=false:=Bool.eq_false_iff.2 A
      have f:=Op x A;have Y:(scan s.data.toList).1=a++Cb (s.data.toList.drop k) :: (scan ((s.data.toList.drop k).drop (Cb (s.data.toList.drop k)).2)).1:=by rw[c,f]
      have E:(scan s.data.toList).2=(scan ((s.data.toList.drop k).drop (Cb (s.data.toList.drop k)).2)).2:=by rw[g,f]
      rw[DI]at Y E;rw[AM,←CZ]at z;have h:=H.step a _ _ Y;obtain⟨R,hR⟩:∃R,R=(Cb (s.data.toList.drop k)).1:=⟨_,rfl⟩;obtain⟨K,hK⟩:∃K,K=(Cb (s.data.toList.drop k)).2:=⟨_,rfl⟩;have hp:Cb (s.data.toList.drop k)=(R,K):=by rw[hR,hK]
      rw[hp]at S A O z q Y E h;have t:Hid ((scan s.data.toList).1=a++[(R,K)]++(scan (s.data.toList.drop (k+K))).1):=by
       show _=_;rw[Y,AH];rfl
      have j:Hid (((a++[(R,K)]).map (·.2)).sum=k+K):=by
       show _=_;rw[BM,DK,B];rfl
      have i:=Aa E;simp only[]at O z;clear y c B g f x D q Y E hR hK hp;have hbF:=YR A;clear A
      rcases hbF with hr|⟨hr,hr2⟩
      . have hr0:((R:Int)==65533)=false:=by
          rw[beq_eq_false_iff_ne];intro e;exact hr (by omega)
        clear hr
        go_wp2_with (first | (go_at_call 126;refine S.mono ?_;rintro e w1 ⟨rfl,b⟩) | (go_at_fn F;refine(h w1 (H.stays _ _ _ U b) (d.trans (b.mono d.size))).mono ?_;rintro e w2 ⟨rfl,N,o⟩))
        go_roundw
        case rel=>exact⟨k+K,a++[(R,K)],by omega,by go_num,t,j,i,N,o⟩
        case measure=>simp[intOf];omega
      . have hr0:((K:Int)==1)=false:=by
          rw[beq_eq_false_iff_ne];intro e;exact hr2 (by omega)
        subst hr;clear hr2
        go_wp2_with (first | (go_at_call 126;refine S.mono ?_;rintro e w1 ⟨rfl,b⟩) | (go_at_fn F;refine(h w1 (H.stays _ _ _ U b) (d.trans (b.mono d.size))).mono ?_;rintro e w2 ⟨rfl,N,o⟩))
        go_roundw
        case rel=>exact⟨k+K,a++[(65533,K)],by omega,by go_num,t,j,i,N,o⟩
        case measure=>simp[intOf];omega
  . have G:s.data.toList.drop k=[]:=DT (by rw[←CZ];omega)
    rw[G,Oi]at c g;rw[AZ]at c;have u:Hid (I (scan s.data.toList).1 wr):=by show I _ wr;rw[c];exact U
    clear c G D Z;go_wp2;go_ret;refine⟨d,u,?_⟩
    first | exact rfl | exact .inl ⟨g,rfl⟩
end
section
variable {w w' : World}{B e size n a : Nat}{v : Value}{xs : List Value}
theorem Fe(h:w.ownsRow B e size v n xs)(f:Bw w w'):w'.ownsRow B e size v n xs:=by
 refine⟨h.1,?_⟩
 rcases h.2 with j|⟨g,c,d,rfl,i,b,rest⟩
 . exact .inl j
 . exact .inr ⟨g,c,d,rfl,i,by rw[f.block g (As b)];exact b,rest⟩
theorem Bm(h:w.ownsRow B e size v n xs):∃p c,v=.slice p n c:=by
 rcases h.2 with ⟨rfl,rfl⟩|⟨g,d,b,rfl,_⟩
 . exact⟨_,_,rfl⟩
 . exact⟨_,_,rfl⟩
def J4 (w:World) (e a:Nat) (xs:List Value):Prop :=
 ∃p c,w.cell? (Ad a 0)=some (.slice p xs.length c)/\w.frozen? (Ad a 0)=false/\w.ownsRow (a+1) e 1 (.slice p xs.length c) xs.length xs
theorem UE(h:J4 w e a xs):a<w.heap.size:=by
 obtain⟨p,c,b,_⟩:=h;exact Ca w _ b
theorem ax(h:J4 w e a xs)(d:Bw w w'):J4 w' e a xs:=by
 have b:=UE h;obtain⟨p,c,g,i,f⟩:=h;exact⟨p,c,by rw[zC d a 0 b];exact g,by rw[d.frozen (p:=(Ad a 0)) b];exact i,Fe f d⟩
theorem Z0(w:World)(e T:Nat):J4 (w.alloc (Oc #[.slice none 0 0] T)) e w.heap.size [] :=
 ⟨none,0,by simp[go_sem],by simp[go_sem],BL _ _ _ _⟩
theorem Z1{w d:World}{e a:Nat}{xs ys:List Value}{p:Option Addr}{c:Nat}{o:Obj}{s:Value}(q:a<w.heap.size)(A:w.frozen? (Ad a 0)=false)(z:w.cell? (Ad a 0)=some (.slice p xs.length c))
    (j:w.ownsRow (a+1) e 1 (.slice p xs.length c) xs.length xs)
    (b:d.ownsRow (a+1) e 1 s (xs.length+ys.length) (xs++ys)) (u:(w.alloc o).grownBy d (Value.slice p xs.length c).ownBlock) :
    J4 (d.setCell (Ad a 0) s) e a (xs++ys)/\Below a w (d.setCell (Ad a 0) s)/\d.cell? (Ad a 0)=some (.slice p xs.length c)/\d.frozen? (Ad a 0)=false/\w.heap.size<=d.heap.size:=by
 have g:∀k,(Value.slice p xs.length c).ownBlock=some k->a+1<=k:=λk t=>(j.lt k t).1;have f:Below (a+1) w d:=((A9 (a+1) w).alloc q o).grown u (by rw[Bb];omega) g;have h:d.cell? (Ad a 0)=some (.slice p xs.length c):=by rw[zC f a 0 (DF a)];exact z
 have i:d.frozen? (Ad a 0)=false:=by rw[f.frozen (p:=(Ad a 0)) (DF a)];exact A
 obtain⟨y,x,rfl⟩:=Bm b;refine⟨⟨y,x,?_,?_,?_⟩,(f.mono (BX a)).setCell (Ai _) _,h,i,f.size⟩
 . rw[AA];exact AU _ _ _ h
 . rw[AG];exact i
 . rw[AA];exact ownsRow_setCell_below b (DF a) _
theorem VE:(prog.info? 21).map (λi=>(i.zero,i.size,i.bytes))=some (some (.int .i32 0),1,4):=by kernel_rfl
theorem Tf:(prog.info? 218).map (λi=>(i.zero,i.size,i.bytes))=some (some (.int .u16 0),1,2):=by kernel_rfl
theorem iC(r n:Int)(a:Nat)(w:World)(xs:List Value)(h:J4 w 21 a xs)(o:xs.length<1000000000) :
    Cg 173 #[.int .i32 r,I6 n,Pd a 0] w λe w'=>e=.returned (.bool true)/\J4 w' 21 a (xs++[.int .i32 r])/\Below a w w':=by
 obtain⟨x,z,f,g,j⟩:=info_parts VE;have i:=UE h;obtain⟨p,c,t,s,d⟩:=h
 go_enter func173,ntmps173
 go_wp2_with (at_builtin;refine wpList_append_own _ rfl _ _ 180 rfl (a+1) 21 x (.int .i32 0) 1 4 underlying180 z f g j rfl (by decide) _ _ _ rfl (d.alloc _) (Ad w.heap.size 0) 1 1 [.int .i32 r] rfl rfl (cell_one_new _ _ _) (ints_oneCell .i32 [r]) ?c3 ?c4 ?c5 ?_)
 case c3=>unfold maxLen;omega
 case c4=>omega
 case c5=>first | omega | (simp;omega)
 intro E A b k _;obtain⟨q,u,G,F,D⟩:=Z1 (ys:=[.int .i32 r]) i s t d b k;obtain⟨I,H,y⟩:=Bm b;clear d b k t s;rw[y]at q u ⊢;go_wp2;go_ret;exact⟨rfl,q,u⟩
def GY (r:Nat):List Value:=(hal r).map λh:Nat=>Value.int .u16 (h:Int)
theorem LG(r:Int)(d:0<=r)(c:r<=1114111):bits BinOp.and IntKind.i32 r 1023=r % 1024:=by
 obtain⟨x,rfl⟩:∃x:Nat,r=x:=⟨r.toNat,by omega⟩;show IntKind.i32.wrap ((BitVec.ofInt 32 (x:Int) &&& BitVec.ofInt 32 ((1023:Nat):Int)).toNat:Int)=_;have b:x &&& 1023=x % 1024:=Nat.and_two_pow_sub_one_eq_mod x 10;rw[BitVec.toNat_and,ofInt_u32 x (by omega),ofInt_u32 1023 (by omega),b];exact(Lib.wrap_i32_small _ (by omega)).trans (Int.natCast_emod x 1024)
theorem lC(r:Int)(A:0<=r)(D:r<65536)(B n:Nat)(w:World)(v:Value)(xs:List Value)(d:w.ownsRow B 218 1 v n xs)(k:n<1000000000)(z:B<=w.heap.size) :
    Cg 171 #[v,.int .i32 r] w λe w'=>∃i o,e=.returned i/\w'.ownsRow B 218 1 i (n+1) (xs++[.int .u16 r])/\(w.alloc o).grownBy w' v.ownBlock:=by
 obtain⟨s,j,h,f,g⟩:=info_parts Tf;obtain⟨p,c,rfl⟩:=Bm d
 go_enter func171,ntmps171
 go_wp2_with (at_builtin;refine wpList_append_own _ rfl _ _ 179 rfl B 218 s (.int .u16 0) 1 2 underlying179 j h f g rfl (by decide) _ _ _ rfl (d.alloc _) (Ad w.heap.size 0) 1 1 [.int .u16 r] rfl rfl (cell_one_new _ _ _) (ints_oneCell .u16 [r]) ?c3 ?c4 ?c5 ?_)
 case c3=>unfold maxLen;omega
 case c4=>omega
 case c5=>first | omega | (simp;omega)
 intro i u b q _;obtain⟨y,x,t⟩:=Bm b;clear d j h f g;rw[t]at b ⊢;go_wp2;go_ret;exact⟨_,_,rfl,b,q⟩
theorem lD(r:Int)(D:¬r<65536)(A:r<=1114111)(B n:Nat)(w:World)(v:Value)(xs:List Value)(d:w.ownsRow B 218 1 v n xs)(k:n<1000000000)(z:B<=w.heap.size) :
    Cg 171 #[v,.int .i32 r] w λe w'=>∃i o,e=.returned i/\w'.ownsRow B 218 1 i (n+2) (xs++[.int .u16 (55296+(r - 65536) / 1024),.int .u16 (56320+(r - 65536) % 1024)])/\(w.alloc o).grownBy w' v.ownBlock:=by
 obtain⟨s,j,h,f,g⟩:=info_parts Tf;obtain⟨p,c,rfl⟩:=Bm d;have ha:=LG (r - 65536) (by omega) (by omega)
 go_enter func171,ntmps171
 go_wp2_with (at_builtin;refine wpList_append_own _ rfl _ _ 179 rfl B 218 s (.int .u16 0) 1 2 underlying179 j h f g rfl (by decide) _ _ _ rfl (d.alloc _) (Ad w.heap.size 0) 2 2 [.int .u16 (55296+(r - 65536) / 1024),.int .u16 (56320+(r - 65536) % 1024)] rfl rfl (cell_two_new _ _ _ _) (ints_oneCell .u16 [55296+(r - 65536) / 1024,56320+(r - 65536) % 1024]) ?c3 ?c4 ?c5 ?_)
 case c3=>unfold maxLen;omega
 case c4=>omega
 case c5=>first | omega | (simp;omega)
 intro i u b q _;obtain⟨y,x,t⟩:=Bm b;clear d j h f g;rw[t]at b ⊢;go_wp2;go_ret;exact⟨_,_,rfl,b,q⟩
end
section
variable {r a B : Nat}{w w' : World}{n1 n2 n3 n4 : Int}
theorem Z2(h:r<65536):GY r=[.int .u16 r]:=by simp[GY,hal,h]
theorem Z5(h:¬r<65536):GY r=[.int .u16 (55296+((r:Int) - 65536) / 1024),.int .u16 (56320+((r:Int) - 65536) % 1024)]:=by
 simp only[GY,hal,h,if_false,AY,BU];rw[show((55296+(r - 65536) / 1024:Nat):Int)=55296+((r:Int) - 65536) / 1024 by omega,show((56320+(r - 65536) % 1024:Nat):Int)=56320+((r:Int) - 65536) % 1024 by omega]
theorem je(r:Nat):(GY r).length<=2:=by
 by_cases h:r<65536
 . rw[Z2 h];simp
 . rw[Z5 h];simp
theorem lz(r:Nat)(g:r<=1114111)(B n:Nat)(w:World)(v:Value)(xs:List Value)(d:w.ownsRow B 218 1 v n xs)(b:n<1000000000)(i:B<=w.heap.size) :
    Cg 171 #[v,.int .i32 r] w λe w'=>∃p c o m,e=.returned (.slice p m c)/\m=n+(GY r).length/\w'.ownsRow B 218 1 (.slice p m c) m (xs++GY r)/\(w.alloc o).grownBy w' v.ownBlock:=by
 by_cases h:r<65536
 . rw[Z2 h]
   refine(lC r (by omega) (by omega) B n w v xs d b i).mono ?_;rintro e w' ⟨j,o,rfl,f,g⟩;obtain⟨p,c,rfl⟩:=Bm f;exact⟨p,c,o,_,rfl,rfl,f,g⟩
 . rw[Z5 h]
   refine(lD r (by omega) (by omega) B n w v xs d b i).mono ?_;rintro e w' ⟨j,o,rfl,f,g⟩;obtain⟨p,c,rfl⟩:=Bm f;exact⟨p,c,o,_,rfl,rfl,f,g⟩
theorem jg(r:Nat)(s:r<=1114111)(n:Int)(a:Nat)(w:World)(xs:List Value)(h:J4 w 218 a xs)(f:xs.length<1000000000) :
    Cg 170 #[.int .i32 r,I6 n,Pd a 0] w λe w'=>e=.returned (.bool true)/\J4 w' 218 a (xs++GY r)/\Below a w w':=by
 have g:=UE h;obtain⟨p,c,z,y,d⟩:=h;have k:=lz r s (a+1) xs.length w _ xs d f g;obtain⟨ys,i⟩:∃ys,ys=GY r:=⟨_,rfl⟩;rw[←i]at k ⊢;clear s i;generalize (r:Int)=R at k ⊢;have u:=λ(j:World) (o:Obj) (D:Value)=>@Z1 w j 218 a xs ys p c o D g y z d;have E:=Aa u;clear u d
 go_enter func170,ntmps170
 go_wp2_with (go_at_call 171;refine k.mono ?_;rintro e j ⟨K,J,o,m,rfl,t,b,q⟩;have F:=E.out j o _ (by rw[←t];exact b) q;obtain⟨x,A,I,H,G⟩:=F;clear b q t)
 go_ret;exact⟨rfl,x,A⟩
theorem T3(c h j i g d f b:Int)(w:World) :
    Cg 96 #[.agg #[I6 c,I6 h,I6 j,I6 i],.agg #[I6 g,I6 d,I6 f,I6 b]] w
     (Rt w (.agg #[I6 (wrap64 (c+g)),I6 (wrap64 (h+d)),I6 (wrap64 (j+f)),I6 (wrap64 (i+b))])):=by
 go_enter func96,ntmps96
 go_wp2;refine bodyPost_ret (v:=.agg #[I6 (wrap64 (c+g)),I6 (wrap64 (h+d)),I6 (wrap64 (j+f)),I6 (wrap64 (i+b))]) (by simp[results,results96,go_sem]) rfl ⟨rfl,?_⟩;exact((zA _ _).alloc (by simp) _).alloc (by simp[Nat.le_add_right,Nat.add_assoc]) _
def cH (r:Nat):Int:=if r<65536 then 1 else 2
def cL (r:Nat):Int:=if r=10 then 1 else 0
theorem ZZ(r:Nat)(n:Int)(w:World) :
    Cg 97 #[.int .i32 r,I6 n] w
     (Rt w (.agg #[I6 n,I6 (cH r),I6 1,I6 (cL r)])):=by
 by_cases d:r<65536
 . have c:cH r=1:=if_pos d
   by_cases f:r=10
   . have b:cL r=1:=if_pos f
     rw[c,b];subst f;clear d c b
     go_enter func97,ntmps97
     go_wp2;refine bodyPost_ret (v:=.agg #[I6 n,I6 1,I6 1,I6 1]) (by simp[results,results97,go_sem]) rfl ⟨rfl,?_⟩;exact(zA _ _).alloc (by simp) _
   . have b:cL r=0:=if_neg f
     rw[c,b];have g:(r:Int)<65536:=by omega
     have h:((r:Int)==10)=false:=by rw[beq_eq_false_iff_ne];omega
     clear c b d f;generalize (r:Int)=R at g h ⊢
     go_enter func97,ntmps97
     go_wp2;refine bodyPost_ret (v:=.agg #[I6 n,I6 1,I6 1,I6 0]) (by simp[results,results97,go_sem]) rfl ⟨rfl,?_⟩;exact(zA _ _).alloc (by simp) _
 . have c:cH r=2:=if_neg d
   have b:cL r=0:=if_neg (by omega);rw[c,b]
   . have g:¬(r:Int)<65536:=by omega
     have h:((r:Int)==10)=false:=by rw[beq_eq_false_iff_ne];omega
     clear c b d;generalize (r:Int)=R at g h ⊢
     go_enter func97,ntmps97
     go_wp2;refine bodyPost_ret (v:=.agg #[I6 n,I6 2,I6 1,I6 0]) (by simp[results,results97,go_sem]) rfl ⟨rfl,?_⟩;exact(zA _ _).alloc (by simp) _
def counted (w:World) (a:Nat) (n1 n2 n3 n4:Int):Prop :=
 (w.cell? (Ad a 0)=some (I6 n1)/\w.cell? (Ad a 1)=some (I6 n2)/\w.cell? (Ad a 2)=some (I6 n3)/\w.cell? (Ad a 3)=some (I6 n4)) /\
 (w.frozen? (Ad a 0)=false/\w.frozen? (Ad a 1)=false/\w.frozen? (Ad a 2)=false/\w.frozen? (Ad a 3)=false)
theorem OD(h:counted w a n1 n2 n3 n4):a<w.heap.size:=Ca w _ h.1.1
theorem JR(h:counted w a n1 n2 n3 n4)(c:Below B w w')(b:a<B):counted w' a n1 n2 n3 n4:=by
 obtain⟨⟨d,f,j,q⟩,o,k,g,i⟩:=h;refine⟨⟨?_,?_,?_,?_⟩,?_,?_,?_,?_⟩
 . rw[zC c a 0 b];exact d
 . rw[zC c a 1 b];exact f
 . rw[zC c a 2 b];exact j
 . rw[zC c a 3 b];exact q
 . rw[c.frozen (p:=(Ad a 0)) b];exact o
 . rw[c.frozen (p:=(Ad a 1)) b];exact k
 . rw[c.frozen (p:=(Ad a 2)) b];exact g
 . rw[c.frozen (p:=(Ad a 3)) b];exact i
theorem Hp(h:counted w a n1 n2 n3 n4)(b:Bw w w'):counted w' a n1 n2 n3 n4:=JR h b (OD h)
theorem QI{m1 m2 m3 m4:Int}(h:counted w a n1 n2 n3 n4) :
    counted ((((w.setCell (Ad a 0) (I6 m1)).setCell (Ad a 1) (I6 m2)).setCell (Ad a 2) (I6 m3)).setCell (Ad a 3) (I6 m4)) a m1 m2 m3 m4:=by
 obtain⟨⟨b,c,g,k⟩,j,i,d,f⟩:=h;refine⟨⟨?_,?_,?_,?_⟩,?_,?_,?_,?_⟩
 all_goals simp[go_sem,b,c,g,k,j,i,d,f]
theorem R5(c:Below B w w')(b:B<=a)(h g d f:Value) :
    Below B w ((((w'.setCell (Ad a 0) h).setCell (Ad a 1) g).setCell (Ad a 2) d).setCell (Ad a 3) f) :=
 (((c.setCell (p:=(Ad a 0)) b _).setCell (p:=(Ad a 1)) b _).setCell (p:=(Ad a 2)) b _).setCell (p:=(Ad a 3)) b _
theorem YX(r:Nat)(n:Int)(a:Nat)(w:World)(n1 n2 n3 n4:Int)(h:counted w a n1 n2 n3 n4) :
    Cg 95 #[.int .i32 r,I6 n,Pd a 0] w λe w'=>e=.returned (.bool true) /\
     counted w' a (wrap64 (n1+n)) (wrap64 (n2+cH r)) (wrap64 (n3+1)) (wrap64 (n4+cL r))/\Below a w w':=by
 have c:=OD h;have A:=Aa h;obtain⟨⟨E,F,G,H⟩,L,J,K,I⟩:=h;have j:=λ(w:World)=>ZZ r n w;generalize cH r=x2 at j ⊢;generalize cL r=x4 at j ⊢;generalize (r:Int)=R at j ⊢
 go_enter func95,ntmps95
 go_wp2
 go_region_with (first | (go_at_call 97;refine(j _).mono ?_;rintro e q ⟨rfl,b⟩;have f:counted q a n1 n2 n3 n4:=JR (w:=w.drew) A.out b c;have i:=Aa f;obtain⟨⟨y,z,x,u⟩,s,d1,d2,t⟩:=f) | (go_at_call 96;refine(T3 _ _ _ _ _ _ _ _ _).mono ?_;rintro e D ⟨rfl,d⟩;have g:counted D a n1 n2 n3 n4:=JR (w:=q) i.out d (AK c b.size);have o:=Aa g;obtain⟨⟨y,z,x,u⟩,s,d1,d2,t⟩:=g))
 all_goals
  have k:Below a w D:=(Below.drew (A9 a w)).trans ((b.trans (d.mono b.size)).mono (CW c));clear E F G H L J K I A i b d y z x u s d1 d2 t;go_wp2;go_ret;exact⟨rfl,QI o.out,R5 k (Ai _) _ _ _ _⟩
/-! ### What is gathered over runes -/
def Gw (l:List (Nat×Nat)):List Value:=l.map λp=>Value.int .i32 (p.1:Int)
def Ka (l:List (Nat×Nat)):List Value:=l.flatMap λp=>GY p.1
def sum1 (l:List (Nat×Nat)):Int:=(l.map λp=>(p.2:Int)).sum
def sum2 (l:List (Nat×Nat)):Int:=(l.map λp=>cH p.1).sum
def sum4 (l:List (Nat×Nat)):Int:=(l.map λp=>cL p.1).sum
theorem jj(W:World)(a:Nat)(l:List (Nat×Nat))(ha:W.heap.size<=a)(k:l.length<1000000000) :
    Iv W 173 #[Pd a 0] l λb w=>J4 w 21 a (Gw b) where
 enters:=enters_of func173 (by kernel_rfl) rfl
 stays:=λ_ _ _ h d=>ax h d
 step := λb p rest e w g f=>by
  have c:(Gw b).length<1000000000:=by
   have:=congrArg List.length e;rw[AA]at this;unfold Gw;rw[BS];omega
  refine(iC p.1 p.2 a w _ g c).mono ?_;rintro e w' ⟨rfl,i,j⟩;refine⟨rfl,?_,f.trans (j.mono ha)⟩;unfold Gw;rw[BM];exact i
theorem kc(l:List (Nat×Nat)):(Ka l).length<=2*l.length:=by
 induction l with
 | nil=>simp[Ka]
 | cons p l ih =>
  have:=je p.1;unfold Ka at ih ⊢;rw[CY,AA,AJ];omega
theorem kr(W:World)(a:Nat)(l:List (Nat×Nat))(ha:W.heap.size<=a)(q:l.length<500000000)(f:∀p∈l,Df p.1) :
    Iv W 170 #[Pd a 0] l λb w=>J4 w 218 a (Ka b) where
 enters:=enters_of func170 (by kernel_rfl) rfl
 stays:=λ_ _ _ h d=>ax h d
 step := λb p rest e w i g=>by
  have c:(Ka b).length<1000000000:=by
   have:=congrArg List.length e;rw[AA]at this;have:=kc b;omega
  have o:p.1<=1114111:=by
   have:=f p (by rw[e];simp);unfold Df at this;omega
  refine(jg p.1 o p.2 a w _ i c).mono ?_;rintro e w' ⟨rfl,j,k⟩;refine⟨rfl,?_,g.trans (k.mono ha)⟩;unfold Ka;rw[FG,CY,List.flatMap_nil,AZ];exact j
theorem QY(r:Nat):0<=cH r/\cH r<=2:=by unfold cH;split<;>omega
theorem QZ(r:Nat):0<=cL r/\cL r<=1:=by unfold cL;split<;>omega
theorem Rh(l:List (Nat×Nat)):0<=sum2 l/\sum2 l<=2*l.length:=by
 induction l with
 | nil=>simp[sum2]
 | cons p l ih=>have:=QY p.1;unfold sum2 at ih ⊢;rw[AY,BQ,AJ];omega
theorem Ri(l:List (Nat×Nat)):0<=sum4 l/\sum4 l<=l.length:=by
 induction l with
 | nil=>simp[sum4]
 | cons p l ih=>have:=QZ p.1;unfold sum4 at ih ⊢;rw[AY,BQ,AJ];omega
theorem Tm(l:List (Nat×Nat))(h:∀p∈l,p.2<=4):0<=sum1 l/\sum1 l<=4*l.length:=by
 induction l with
 | nil=>simp[sum1]
 | cons p l ih =>
  have c:=h p (by simp);have:=ih λq b=>h q (by simp[b]);unfold sum1 at this ⊢;rw[AY,BQ,AJ];omega
theorem E0{n:Int}(c:0<=n)(b:n<9223372036854775808):wrap64 n=n:=by unfold wrap64;omega
theorem iX(W:World)(a:Nat)(l:List (Nat×Nat))(ha:W.heap.size<=a)(F:l.length<1000000000)(d:∀p∈l,p.2<=4) :
    Iv W 95 #[Pd a 0] l λb w=>counted w a (sum1 b) (sum2 b) (b.length:Int) (sum4 b) where
 enters:=enters_of func95 (by kernel_rfl) rfl
 stays:=λ_ _ _ h g=>Hp h g
 step:=λb p rest e w j y=>by
  have c:=congrArg List.length e;rw[AA]at c;have A:=Tm b λq z=>d q (by rw[e];simp[z]);have E:=Rh b;have D:=Ri b;have G:=d p (by rw[e];simp);have s:=QY p.1;have k:=QZ p.1;refine(YX p.1 p.2 a w _ _ _ _ j).mono ?_;rintro e w' ⟨rfl,f,o⟩;refine⟨rfl,?_,y.trans (o.mono ha)⟩;rw[E0 (by omega) (by omega),E0 (by omega) (by omega),E0 (by omega) (by omega),E0 (by omega) (by omega)]at f;have x:sum1 (b++[p])=sum1 b+p.2:=by simp[sum1]
  have i:sum2 (b++[p])=sum2 b+cH p.1:=by simp[sum2]
  have t:(((b++[p]).length:Nat):Int)=b.length+1:=by simp
  have u:sum4 (b++[p])=sum4 b+cL p.1:=by simp[sum4]
  rw[x,i,t,u];exact f
end
section
def Nm (w w':World) (e:Nat) (v:Value) (xs:List Value):Prop:=∃p c,v=.slice p xs.length c/\w'.ownsRow w.heap.size e 1 v xs.length xs
theorem J8{w:World}{B d e size n:Nat}{v:Value}{xs:List Value}(h:w.ownsRow B e size v n xs)(j:d<=B):w.ownsRow d e size v n xs:=by
 refine⟨h.1,?_⟩
 rcases h.2 with i|⟨g,b,c,rfl,f,rest⟩
 . exact .inl i
 . exact .inr ⟨g,b,c,rfl,AF j f,rest⟩
theorem d9(s:ByteArray)(y:s.size<400000000)(w:World)(t:Lib.Utf8Tabs 1 2 w) :
    Cg 140 #[.string s] w λe w'=>∃v x,e=.returned (.tuple #[v,x])/\Bw w w' /\
     (((scan s.data.toList).2=true/\x=.nilIface/\Nm w w' 21 v (Gw (scan s.data.toList).1)) \/
      ((scan s.data.toList).2=false/\v=.slice none 0 0/\Fi w w' x (Gs s.data.toList))):=by
 have d:=Oh s.data.toList;rw[←CZ]at d;have g:Bw w (w.alloc (Oc #[.slice none 0 0] 180)):=zA _ _;have h:=TH s (by unfold maxLen;omega) 173 #[Pd w.heap.size 0] w t _ (jj w w.heap.size (scan s.data.toList).1 (Ai _) (by omega)) _ g (Z0 w 21 180);clear d y g;generalize Gs s.data.toList=pl at h ⊢;generalize scan s.data.toList=sc at h ⊢;obtain⟨D,E⟩:=sc;simp only[]at h ⊢;generalize Gw D=xs at h ⊢
 go_enter func140,ntmps140
 go_wp2_with (go_at_call 94;refine h.mono ?_;rintro e j ⟨f,⟨p,c,F,G,o⟩,⟨rfl,rfl⟩|⟨rfl,v,rfl,⟨b,rfl,A,u,q,z⟩⟩⟩)
 . go_ret2
   have i:Nm w j 21 (.slice p xs.length c) xs:=⟨_,_,rfl,J8 o (BX _)⟩;refine⟨_,_,rfl,f,?_⟩
   first | exact⟨rfl,i⟩ | exact .inl ⟨rfl,rfl,i⟩
 . go_ret2
   have k:Fi w j (.iface 132 (Pd b 0)) pl:=⟨b,rfl,A,u,q,z⟩;refine⟨_,_,rfl,f,?_⟩
   first | exact⟨rfl,k⟩ | exact .inr ⟨rfl,rfl,k⟩
theorem gw(s:ByteArray)(y:s.size<400000000)(w:World)(A:Lib.Utf8Tabs 1 2 w) :
    Cg 136 #[.string s] w λe w'=>∃v x,e=.returned (.tuple #[v,x])/\Bw w w' /\
     (((scan s.data.toList).2=true/\x=.nilIface/\Nm w w' 218 v (Ka (scan s.data.toList).1)) \/
      ((scan s.data.toList).2=false/\v=.slice none 0 0/\Fi w w' x (Gs s.data.toList))):=by
 have d:=Oh s.data.toList;rw[←CZ]at d;have g:Bw w (w.alloc (Oc #[.slice none 0 0] 179)):=zA _ _;have h:=TH s (by unfold maxLen;omega) 170 #[Pd w.heap.size 0] w A _ (kr w w.heap.size (scan s.data.toList).1 (Ai _) (by omega) λp E=>((Oq s.data.toList.length _ (Ai _)).1 p E).1) _ g (Z0 w 218 179);clear d y g;generalize Gs s.data.toList=pl at h ⊢;generalize scan s.data.toList=sc at h ⊢;obtain⟨o,G⟩:=sc;simp only[]at h ⊢;generalize Ka o=xs at h ⊢
 go_enter func136,ntmps136
 go_wp2_with (go_at_call 94;refine h.mono ?_;rintro e i ⟨f,⟨p,c,H,F,q⟩,⟨rfl,rfl⟩|⟨rfl,v,rfl,⟨b,rfl,z,u,t,D⟩⟩⟩)
 . go_ret2
   have j:Nm w i 218 (.slice p xs.length c) xs:=⟨_,_,rfl,J8 q (BX _)⟩;refine⟨_,_,rfl,f,?_⟩
   first | exact⟨rfl,j⟩ | exact .inl ⟨rfl,rfl,j⟩
 . go_ret2
   have k:Fi w i (.iface 132 (Pd b 0)) pl:=⟨b,rfl,z,u,t,D⟩;refine⟨_,_,rfl,f,?_⟩
   first | exact⟨rfl,k⟩ | exact .inr ⟨rfl,rfl,k⟩
theorem kh(w:World):counted ((w.alloc (Oc #[I6 0,I6 0,I6 0,I6 0] 118)).alloc (Oc #[I6 0,I6 0,I6 0,I6 0] 118)) w.heap.size 0 0 0 0:=by
 refine⟨⟨?_,?_,?_,?_⟩,?_,?_,?_,?_⟩<;>simp[go_sem]
theorem ki(w:World):counted ((w.alloc (Oc #[I6 0,I6 0,I6 0,I6 0] 118)).alloc (Oc #[I6 0,I6 0,I6 0,I6 0] 118)) (w.heap.size+1) (sum1 []) (sum2 []) (([]:List (Nat×Nat)).length:Int) (sum4 []):=by
 refine⟨⟨?_,?_,?_,?_⟩,?_,?_,?_,?_⟩<;>simp[go_sem,sum1,sum2,sum4]
theorem kg(w:World)(l:List (Nat×Nat))(D:l.length<1000000000)(f:∀p∈l,p.2<=4) :
    Iv w 95 #[.pointer (some (Ad (w.heap.size+1) 0))] l λb w'=>counted w' (w.heap.size+1) (sum1 b) (sum2 b) (b.length:Int) (sum4 b)/\counted w' w.heap.size 0 0 0 0:=by
 have T:=iX w (w.heap.size+1) l (BX _) D f;refine⟨T.enters,λb d o h g=>⟨T.stays b d o h.1 g,Hp h.2 g⟩,λb p rest e d i A=>?_⟩;have F:=Tm b λq E=>f q (by rw[e];simp[E]);have c:=congrArg List.length e;rw[AA]at c;have H:=Rh b;have G:=Ri b;have I:=f p (by rw[e];simp);have u:=QY p.1;have t:=QZ p.1;refine(YX p.1 p.2 (w.heap.size+1) d _ _ _ _ i.1).mono ?_;rintro e o ⟨rfl,k,j⟩;refine⟨rfl,⟨?_,JR i.2 j (DF _)⟩,A.trans (j.mono (BX _))⟩;rw[E0 (by omega) (by omega),E0 (by omega) (by omega),E0 (by omega) (by omega),E0 (by omega) (by omega)]at k;have z:sum1 (b++[p])=sum1 b+p.2:=by simp[sum1]
 have s:sum2 (b++[p])=sum2 b+cH p.1:=by simp[sum2]
 have x:(((b++[p]).length:Nat):Int)=b.length+1:=by simp
 have y:sum4 (b++[p])=sum4 b+cL p.1:=by simp[sum4]
 rw[z,s,x,y];exact k
def Ia (n1 n2 n3 n4:Int):Value:=.agg #[I6 n1,I6 n2,I6 n3,I6 n4]
theorem Uh(s:ByteArray)(A:s.size<400000000)(w:World)(E:Lib.Utf8Tabs 1 2 w) :
    Cg 62 #[.string s] w λe w'=>∃v x,e=.returned (.tuple #[v,x])/\Bw w w' /\
     (((scan s.data.toList).2=true/\x=.nilIface/\v=Ia (sum1 (scan s.data.toList).1) (sum2 (scan s.data.toList).1) (scan s.data.toList).1.length (sum4 (scan s.data.toList).1)) \/
      ((scan s.data.toList).2=false/\v=Ia 0 0 0 0/\Fi w w' x (Gs s.data.toList))):=by
 have d:=Oh s.data.toList;rw[←CZ]at d;have h:Bw w ((w.alloc (.cells #[.int .i64 0,.int .i64 0,.int .i64 0,.int .i64 0] 118)).alloc (.cells #[.int .i64 0,.int .i64 0,.int .i64 0,.int .i64 0] 118)):=(zA _ _).alloc (by rw[Bb];omega) _
 have f:=TH s (by unfold maxLen;omega) 95 #[.pointer (some ⟨w.heap.size+1,0,none⟩)] w E
  (λc w'=>counted w' (w.heap.size+1) (sum1 c) (sum2 c) (c.length:Int) (sum4 c)/\counted w' w.heap.size 0 0 0 0)
  (kg w (scan s.data.toList).1 (by omega) (VZ _)) _ h ⟨ki w,kh w⟩
 clear d A h;generalize Gs s.data.toList=pl at f ⊢;generalize scan s.data.toList=sc at f ⊢;obtain⟨i,S⟩:=sc;simp only[]at f ⊢;generalize sum1 i=n1 at f ⊢;generalize sum2 i=n2 at f ⊢;generalize sum4 i=n4 at f ⊢;generalize (i.length:Int)=n3 at f ⊢
 go_enter func62,ntmps62
 go_wp2_with (go_at_call 94;refine f.mono ?_;rintro e y ⟨g,⟨⟨⟨H,I,K,L⟩,W,R,U,N⟩,⟨k,u,t,q⟩,J,d1,d2,O⟩,⟨rfl,rfl⟩|⟨rfl,v,rfl,⟨b,rfl,D,z,j,G⟩⟩⟩)
 . refine bodyPost_ret (v:=.tuple #[Ia n1 n2 n3 n4,.nilIface]) (by simp[results,results62,go_sem,Ia,k,u,t,q]) rfl ?_
   refine⟨_,_,rfl,?_,?_⟩
   . exact R5 g (Ai _) _ _ _ _
   . first | exact⟨rfl,rfl⟩ | exact .inl ⟨rfl,rfl,rfl⟩
 . have F:b≠w.heap.size:=by
     intro e;subst e;rw[k]at j
     cases j
   refine bodyPost_ret (v:=.tuple #[Ia 0 0 0 0,.iface 132 (.pointer (some ⟨b,0,none⟩))]) (by simp[results,results62,go_sem,Ia,k,u,t,q]) rfl ?_;refine⟨_,_,rfl,?_,?_⟩
   . exact R5 g (Ai _) _ _ _ _
   . have o:Fi w ((((y.setCell ⟨w.heap.size,0,none⟩ (.int .i64 0)).setCell ⟨w.heap.size,1,none⟩ (.int .i64 0)).setCell ⟨w.heap.size,2,none⟩ (.int .i64 0)).setCell ⟨w.heap.size,3,none⟩ (.int .i64 0)) (.iface 132 (.pointer (some ⟨b,0,none⟩))) pl :=
       ⟨b,rfl,D,by simpa using z,by simp[go_sem,j],by simp[go_sem,G]⟩
     first | exact⟨rfl,o⟩ | exact .inr ⟨rfl,rfl,o⟩
variable {w : World}{k : IntKind}{v : Value}{zs : List Int}{B : Nat}
def reads (w:World) (k:IntKind) (v:Value) (zs:List Int):Prop :=
 ∃p c,v=.slice p zs.length c/\zs.length<=c/\c<=maxLen/\(zs≠[]->∃b o,p=some (Ad b o)/\b<w.heap.size/\∀i,i<zs.length->w.cell? (Ad b (o+i))=some (.int k (zs.getD i 0)))
theorem ZE{w':World}(h:reads w k v zs){B:Nat}(f:Below B w w')(u:w.heap.size<=B):reads w' k v zs:=by
 obtain⟨p,c,rfl,y,x,s⟩:=h;refine⟨p,c,rfl,y,x,λd=>?_⟩;obtain⟨b,o,t,g,q⟩:=s d;exact⟨b,o,t,AK g f.size,λi j=>by rw[zC f b (o+i) (AK g u)];exact q i j⟩
theorem Xz{e:Nat}{xs:List Value}(t:xs=zs.map (Value.int k))(h:w.ownsRow B e 1 v zs.length xs):reads w k v zs:=by
 subst t;obtain⟨y,b⟩:=h
 rcases b with ⟨rfl,q⟩|⟨g,d,f,rfl,q,j,s,x,z,o⟩
 . obtain rfl:zs=[]:=BC q
   exact⟨none,0,rfl,Ai _,AV _,λh=>absurd rfl h⟩
 . refine ⟨_,d,rfl,s,x,λ_=>⟨g,0,rfl,(As j),λi c=>?_⟩⟩
   rw[GJ]at o;have u:f[i]?=some (.int k (zs.getD i 0)):=by
    rw[←CE];have:=congrArg (·[i]?) o;simp only[DU,c,if_true,BD]at this;rw[this,B7 c,EK,B7 c];rfl
   rw[DC];show w.cell? (Ad g i)=_;unfold World.cell?;simp[j,u]
theorem YC{n:Nat}{l:List UInt8}(t:n=l.length)(h:w.ownsRow B 5 1 v n (Lib.byteCells l)):(convert 146 9 v).run prog w=.ok (Sx l) w:=by
 subst t;obtain⟨y,b⟩:=h
 rcases b with ⟨rfl,o⟩|⟨g,c,d,rfl,o,s,x,z,A,f⟩
 . obtain rfl:l=[]:=BC o
   kernel_rfl
 . refine run_convert_bytes_back w 146 9 5 (Ad g 0) c l underlying146 underlying5 underlying9 λj i=>?_
   rw[GJ]at f;have u:d[j]?=some (.int .u8 (l[j].toNat:Int)):=by
    rw[←CE];have:=congrArg (·[j]?) f;simp only[DU,i,if_true,Lib.byteCells,BD]at this;rw[this,B7 i];rfl
   have q:((Ad g 0):Addr).add j=(Ad g j):=by simp[Addr.add]<;>omega
   rw[q];unfold World.cell?;simp[s,u]
end
def E6 (l:List Nat):List Int:=l.map λn:Nat=>(n:Int)
theorem SL{r:Nat}(h:Df r):Lib.validRune (r:Int)=true:=by
 unfold Df at h;unfold Lib.validRune;apply decide_eq_true;omega
theorem Na(r:Nat):hal r≠[]:=by unfold hal;split<;>simp
theorem eP(r:Nat)(b:List Nat):Hh (r :: b)=hal r++Hh b:=rfl
theorem cX(b:List Nat):(Hh b).length<=2*b.length/\b.length<=(Hh b).length:=by
 induction b with
 | nil=>simp[Hh]
 | cons r b ih =>
  have d:(hal r).length≠0:=by simpa using Na r
  have c:(hal r).length<=2:=by unfold hal;split<;>simp
  rw[eP,AA,AJ];omega
theorem gJ(l:List UInt8):Gw (scan l).1=(E6 (Ch l)).map (Value.int .i32):=by
 unfold Gw Ch E6;rw[EW,EW];rfl
theorem gK(l:List UInt8):Ka (scan l).1=(E6 (Hh (Ch l))).map (Value.int .u16):=by
 unfold Ka Ch Hh E6;generalize (scan l).1=ps
 induction ps with
 | nil=>rfl
 | cons p ps ih =>
  rw[CY,ih,AY,CY,BM,BM]
  congr 1
  unfold GY;rw[EW];rfl
def Hq (n lo hi:Int):Bool:=decide (lo<=n/\n<=hi)
theorem Jk(n lo b:Int)(w:World):Cg 36 #[I6 n,I6 lo,I6 b] w λe w'=>e=.returned (.bool (Hq n lo b))/\w'=w:=by
 by_cases f:lo<=n
 . by_cases d:n<=b
   . have e:Hq n lo b=true:=decide_eq_true ⟨f,d⟩
     rw[e];clear e
     go_enter func36,ntmps36
     go_wp2;go_ret;exact⟨rfl,rfl⟩
   . have e:Hq n lo b=false:=decide_eq_false λc=>d c.2
     rw[e];clear e
     go_enter func36,ntmps36
     go_wp2;go_ret;exact⟨rfl,rfl⟩
 . have e:Hq n lo b=false:=decide_eq_false λc=>f c.1
   rw[e];clear e
   go_enter func36,ntmps36
   go_wp2;go_ret;exact⟨rfl,rfl⟩
theorem Rq(r:Int)(h: -2147483648<=r)(i:r<=2147483647)(w:World):Cg 174 #[.int .i32 r] w λe w'=>e=.returned (.bool (Lib.validRune r))/\w'=w:=by
 have d:=Jk r 0 55295;have g:=Jk r 57344 1114111
 by_cases c:Hq r 0 55295=true
 . have e:Lib.validRune r=true:=by
     have:=of_decide_eq_true c;unfold Lib.validRune;apply decide_eq_true;omega
   rw[c]at d;rw[e];clear e c
   go_enter func174,ntmps174
   go_wp2_with (go_at_call_of 36 (55295:Int);refine(d _).mono ?_;rintro e f ⟨rfl,rfl⟩)
   go_ret;exact⟨rfl,rfl⟩
 . have c:Hq r 0 55295=false:=Bool.eq_false_iff.2 c
   have e:Hq r 57344 1114111=Lib.validRune r:=by
    have:=of_decide_eq_false c;unfold Lib.validRune Hq;apply decide_eq_decide.2;omega
   rw[e]at g;rw[c]at d;generalize Lib.validRune r=b at g ⊢;clear e c
   cases b
   . go_enter func174,ntmps174
     go_wp2_with (first | (go_at_call_of 36 (55295:Int);refine(d _).mono ?_;rintro e f ⟨rfl,rfl⟩) | (go_at_call_of 36 (1114111:Int);refine(g _).mono ?_;rintro e f ⟨rfl,rfl⟩))
     go_ret;exact⟨rfl,rfl⟩
   . go_enter func174,ntmps174
     go_wp2_with (first | (go_at_call_of 36 (55295:Int);refine(d _).mono ?_;rintro e f ⟨rfl,rfl⟩) | (go_at_call_of 36 (1114111:Int);refine(g _).mono ?_;rintro e f ⟨rfl,rfl⟩))
     go_ret;exact⟨rfl,rfl⟩
theorem Sk(w:World)(l:List UInt8)(xs:List Int)(d:xs=l.map λb=>(b.toNat:Int)) :
    (convert 146 9 (Sl w.heap.size l.length l.length)).run prog (w.alloc (.cells (xs.map (Value.int .u8)).toArray 5))=.ok (Sx l) (w.alloc (.cells (xs.map (Value.int .u8)).toArray 5)):=by
 subst d;refine run_convert_bytes_back _ 146 9 5 (Ad w.heap.size 0) l.length l underlying146 underlying5 underlying9 λj f=>?_;have c:((Ad w.heap.size 0):Addr).add j=(Ad w.heap.size j):=by simp[Addr.add]<;>omega
 rw[c];have:=World.cell?_alloc_mark w ((l.map λb=>Value.int .u8 (b.toNat:Int)).toArray) 5 (0,0) j;rw[EW];refine Eq.trans this ?_;rw[List.getElem?_toArray,BD,B7 f];rfl
theorem Qm(r:Nat)(h:Df r)(w:World):Cg 158 #[.int .i32 r] w (Rt w (.string ⟨(enc r).toArray⟩)):=by
 unfold Df at h
 by_cases g:r<=127
 . have b:=Sk w (enc r) [(r:Int)] (by rw[I5 g];simp only[AY,BU,Cy (show r<256 by omega)])
   have c:(enc r).length=1:=by rw[I5 g];rfl
   rw[c]at b;simp only[AY,BU]at b;generalize enc r=l at b ⊢;have d:(r:Int)<128:=by omega
   have f:(0:Int)<=(r:Int):=by omega
   clear c h g;generalize (r:Int)=R at b d f ⊢
   go_enter func158,ntmps158
   go_wp2;go_ret;exact⟨rfl,zA _ _⟩
 by_cases j:r<=2047
 . have b:=Sk w (enc r) [192+(r:Int) / 64,128+(r:Int) % 64] (by
     rw[I4 (by omega) j];simp only[AY,BU,Cy (show 192+r / 64<256 by omega),Cy (show 128+r % 64<256 by omega)]
     rw[show((192+r / 64:Nat):Int)=192+(r:Int) / 64 by omega,show((128+r % 64:Nat):Int)=128+(r:Int) % 64 by omega])
   have c:(enc r).length=2:=by rw[I4 (by omega) j];rfl
   rw[c]at b;simp only[AY,BU]at b;generalize enc r=l at b ⊢;have d:¬(r:Int)<128:=by omega
   have f:(r:Int)<2048:=by omega
   have i:(0:Int)<=(r:Int):=by omega
   clear c h g j;generalize (r:Int)=R at b d f i ⊢
   go_enter func158,ntmps158
   go_wp2;go_ret;exact⟨rfl,zA _ _⟩
 by_cases q:r<=65535
 . have b:=Sk w (enc r) [224+(r:Int) / 4096,128+(r:Int) / 64 % 64,128+(r:Int) % 64] (by
     rw[I3 (by omega)];simp only[AY,BU,Cy (show 224+r / 4096<256 by omega),Cy (show 128+r / 64 % 64<256 by omega),Cy (show 128+r % 64<256 by omega)]
     rw[show((224+r / 4096:Nat):Int)=224+(r:Int) / 4096 by omega,show((128+r / 64 % 64:Nat):Int)=128+(r:Int) / 64 % 64 by omega,show((128+r % 64:Nat):Int)=128+(r:Int) % 64 by omega])
   have c:(enc r).length=3:=by rw[I3 (by omega)];rfl
   rw[c]at b;simp only[AY,BU]at b;generalize enc r=l at b ⊢;have d:¬(r:Int)<128:=by omega
   have f:¬(r:Int)<2048:=by omega
   have i:(r:Int)<65536:=by omega
   have o:(0:Int)<=(r:Int):=by omega
   clear c h g j q;generalize (r:Int)=R at b d f i o ⊢
   go_enter func158,ntmps158
   go_wp2;go_ret;exact⟨rfl,zA _ _⟩
 . have b:=Sk w (enc r) [240+(r:Int) / 262144,128+(r:Int) / 4096 % 64,128+(r:Int) / 64 % 64,128+(r:Int) % 64] (by
     rw[I2 (by omega) (by omega)];simp only[AY,BU,Cy (show 240+r / 262144<256 by omega),Cy (show 128+r / 4096 % 64<256 by omega),Cy (show 128+r / 64 % 64<256 by omega),Cy (show 128+r % 64<256 by omega)]
     rw[show((240+r / 262144:Nat):Int)=240+(r:Int) / 262144 by omega,show((128+r / 4096 % 64:Nat):Int)=128+(r:Int) / 4096 % 64 by omega,show((128+r / 64 % 64:Nat):Int)=128+(r:Int) / 64 % 64 by omega,show((128+r % 64:Nat):Int)=128+(r:Int) % 64 by omega])
   have c:(enc r).length=4:=by rw[I2 (by omega) (by omega)];rfl
   rw[c]at b;simp only[AY,BU]at b;generalize enc r=l at b ⊢;have d:¬(r:Int)<128:=by omega
   have f:¬(r:Int)<2048:=by omega
   have i:¬(r:Int)<65536:=by omega
   have o:(r:Int)<=1114111:=by omega
   have s:(0:Int)<=(r:Int):=by omega
   clear c h g j q;generalize (r:Int)=R at b d f i o s ⊢
   go_enter func158,ntmps158
   go_wp2;go_ret;exact⟨rfl,zA _ _⟩
def Nk (e p:Int):Value:=.agg #[I6 e,I6 p]
theorem Tv(n:Int)(w:World):Cg 35 #[I6 n] w (Rt w (.agg #[I6 n,I6 (-1)])):=by
 go_enter func35,ntmps35
 go_wp2;refine bodyPost_ret (v:=.agg #[I6 n,I6 (-1)]) (by simp[results,results35,go_sem]) rfl ⟨rfl,?_⟩;exact zA _ _
theorem OL(a b:List UInt8):(⟨a.toArray⟩:ByteArray)++(⟨b.toArray⟩:ByteArray)=⟨(a++b).toArray⟩:=by
 apply EZ;simp
section
variable {l : List UInt8}{n : Nat}
def O3 (b0:Nat):Nat:=b0
def KI (b0 b1:Nat):Nat:=b0 % 32*64+b1 % 64
def KH (b0 b1 b2:Nat):Nat:=b0 % 16*4096+b1 % 64*64+b2 % 64
def KG (b0 b1 b2 b3:Nat):Nat:=b0 % 8*262144+b1 % 64*4096+b2 % 64*64+b3 % 64
def Dn (l:List UInt8) (i:Nat):Nat:=(l.getD i 0).toNat
theorem Jp(l:List UInt8)(i:Nat):Dn l i<256:=(l.getD i 0).toNat_lt
def Cu (l:List UInt8) (n:Nat):Nat :=
 if n=1 then O3 (Dn l 0) else if n=2 then KI (Dn l 0) (Dn l 1) else if n=3 then KH (Dn l 0) (Dn l 1) (Dn l 2) else KG (Dn l 0) (Dn l 1) (Dn l 2) (Dn l 3)
def Eg (l:List UInt8) (n:Nat):Prop:=Df (Cu l n)/\enc (Cu l n)=l.take n
theorem KE(l:List UInt8)(n:Nat):Cu l n<2097152:=by
 have d:=Jp l 0;have b:=Jp l 1;have f:=Jp l 2;have c:=Jp l 3;unfold Cu O3 KI KH KG
 split
 . omega
 split
 . omega
 split
 . omega
 . omega
theorem iY(g:n<=l.length)(h:Eg l n):Cb l=(Cu l n,n)/\Dc (Cb l)=false:=by
 obtain⟨f,b⟩:=h;have e:l=enc (Cu l n)++l.drop n:=by rw[b];exact(AW n l).symm
 have d:(enc (Cu l n)).length=n:=by rw[b,AO];omega
 have c:=Rf f (l.drop n);rw[←e,d]at c;exact c
theorem Lp{r:Nat}(b:Df r)(t:List UInt8):Cu (enc r++t) (enc r).length=r:=by
 unfold Df at b
 by_cases c:r<=127
 . rw[I5 c]
   show Dn (r.toUInt8 :: t) 0=r;unfold Dn;rw[DY,Cy (show r<256 by omega)]
 by_cases d:r<=2047
 . rw[I4 (by omega) d]
   show KI ((192+r / 64).toUInt8.toNat) ((128+r % 64).toUInt8.toNat)=r;rw[Cy (show 192+r / 64<256 by omega),Cy (show 128+r % 64<256 by omega)];unfold KI;omega
 by_cases f:r<=65535
 . rw[I3 (by omega)]
   show KH ((224+r / 4096).toUInt8.toNat) ((128+r / 64 % 64).toUInt8.toNat) ((128+r % 64).toUInt8.toNat)=r;rw[Cy (show 224+r / 4096<256 by omega),Cy (show 128+r / 64 % 64<256 by omega),Cy (show 128+r % 64<256 by omega)];unfold KH;omega
 . rw[I2 (by omega) (by omega)]
   show KG ((240+r / 262144).toUInt8.toNat) ((128+r / 4096 % 64).toUInt8.toNat) ((128+r / 64 % 64).toUInt8.toNat) ((128+r % 64).toUInt8.toNat)=r;rw[Cy (show 240+r / 262144<256 by omega),Cy (show 128+r / 4096 % 64<256 by omega),Cy (show 128+r / 64 % 64<256 by omega),Cy (show 128+r % 64<256 by omega)];unfold KG;omega
theorem i6(b:l≠[])(g:Dc (Cb l)=false):Eg l (Cb l).2/\Cu l (Cb l).2=(Cb l).1:=by
 obtain⟨f,d⟩:=Wt b g;have i:=N5 b;have h:(enc (Cb l).1).length=(Cb l).2:=by rw[←d,AO];omega
 have e:l=enc (Cb l).1++l.drop (Cb l).2:=by rw[←d];exact(AW _ l).symm
 have c:Cu l (Cb l).2=(Cb l).1:=by
  have:=Lp f (l.drop (Cb l).2);rw[←e,h]at this;exact this
 exact⟨⟨by rw[c];exact f,by rw[c];exact d.symm⟩,c⟩
def J3 (l:List UInt8):Nat×Nat:=if l=[] then (0,0) else if Dc (Cb l) then (0,0) else Cb l
theorem kl(g:1<=n)(c:n<=l.length)(h:Eg l n):J3 l=(Cu l n,n):=by
 obtain⟨d,f⟩:=iY c h;have b:l≠[]:=by rintro rfl;simp at c;omega
 unfold J3;rw[if_neg b,f,d];simp
theorem km(h:∀n,1<=n->n<=4->n<=l.length->¬Eg l n):J3 l=(0,0):=by
 unfold J3
 by_cases b:l=[]
 . rw[if_pos b]
 rw[if_neg b]
 by_cases c:Dc (Cb l)=true
 . rw[if_pos c]
 . have c:Dc (Cb l)=false:=Bool.eq_false_iff.2 c
   exact absurd (i6 b c).1 (h _ (MA l) (Ti l) (N5 b))
end
theorem Kv(s:ByteArray)(i:Nat)(h:i<s.size):(s[i]'h).toNat=Dn s.data.toList i:=by
 have e:s[i]'h=s.get! i:=by
  show s.data[i]=s.data[i]!;exact(getElem!_pos s.data i h).symm
 rw[e,get!_getD];rfl
theorem fM(s:ByteArray)(k:Nat):Df (Cu s.data.toList k)/\(⟨(enc (Cu s.data.toList k)).toArray⟩:ByteArray)=s.extract 0 k↔Eg s.data.toList k:=by
 have e:(s.extract 0 k).data.toList=s.data.toList.take k:=by
  rw[GD,DE,GM]
 constructor
 . rintro ⟨b,c⟩
   refine⟨b,?_⟩;rw[←e,←c]
 . rintro ⟨b,c⟩
   refine⟨b,?_⟩;apply EZ;apply Array.toList_inj.1;rw[e,←c]
theorem RU{r:Nat}(h:¬Df r):Lib.validRune (r:Int)=false:=by
 unfold Df at h;unfold Lib.validRune;apply decide_eq_false;omega
theorem Sw{a b:ByteArray}(h:a.toList=b.toList):a=b:=by
 rw[ByteArray.toList_eq,ByteArray.toList_eq]at h;exact EZ (Array.toList_inj.1 h)
theorem dF(s:ByteArray)(hs:s.size<100000000)(w:World) :
    Cg 141 #[.string s] w (Rt w (.tuple #[.int .i32 (J3 s.data.toList).1,.int .i64 (J3 s.data.toList).2])):=by
 have hsz:=Aa (CZ s);obtain⟨R1,W⟩:∃z:Int,z=(J3 s.data.toList).1:=⟨_,rfl⟩;obtain⟨R2,S⟩:∃z:Int,z=(J3 s.data.toList).2:=⟨_,rfl⟩;rw[←W,←S];have L:=Aa W;have J:=Aa S;clear W S
 go_enter func141,ntmps141
 go_wp2
 go_loopw [4] (λn wr=>∃k:Nat,1<=k/\k<=5/\n=.int .i64 k/\(∀j,1<=j->j<k->j<=s.data.toList.length->¬Eg s.data.toList j)/\Bw w wr) (λn _=>5 - (intOf n).toNat)
 case atStart=>exact⟨1,Ai _,by omega,rfl,λj E H=>by omega,A9 _ _⟩
 case round =>
  obtain⟨k,hk1,hk5,hn,N,q⟩:=hrel
  by_cases O:k<=4/\k<=s.size
  . obtain ⟨hk4,hks⟩:=O
    have d:Hid (¬Eg s.data.toList k->∀j,1<=j->j<k+1->j<=s.data.toList.length->¬Eg s.data.toList j):=λhf j E H h3=>by
     by_cases hj:j=k
     . rw[hj];exact hf
     . exact N j E (by omega) h3
    have f:Hid (Eg s.data.toList k->J3 s.data.toList=(Cu s.data.toList k,k)):=λhf=>kl hk1 (by rw[←hsz.out];exact hks) hf;have g:=Aa (fM s k);have R:=KE s.data.toList k;clear N;obtain rfl|rfl|rfl|rfl:k=1\/k=2\/k=3\/k=4:=by omega
    . obtain rfl:_=Value.int .i64 1:=hn
      have U:0<s.size:=by omega
      have e0:=Kv s 0 U;have l0:=Jp s.data.toList 0;have i:(Cu s.data.toList 1:Int)=(Dn s.data.toList 0:Int):=by
       show((Dn s.data.toList 0:Nat):Int)=_;omega
      have x:=Rq (Cu s.data.toList 1) (by omega) (by omega)
      by_cases b:Df (Cu s.data.toList 1)
      . have D:=Qm _ b
        have y:=SL b;rw[y]at x;have c:Hid ((⟨(enc (Cu s.data.toList 1)).toArray⟩:ByteArray)=s.extract 0 1↔Eg s.data.toList 1):=⟨λh=>g.out.1 ⟨b,h⟩,λh=>(g.out.2 h).2⟩;generalize (⟨(enc (Cu s.data.toList 1)).toArray⟩:ByteArray)=u at D c;rw[i]at x D;clear y b g R;generalize Dn s.data.toList 0=B0 at *;have Y:=Aa i;clear i
        by_cases A:u=s.extract 0 1
        . have F:=f.out (c.out.1 A)
          have E:Hid (R1=(B0:Int)):=by show _=_;rw[L.out,F];exact Y.out
          have H:Hid (R2=1):=by show _=_;rw[J.out,F];rfl
          subst A;clear F f d c;go_wp2
          go_region_with (first | (go_at_call 174;refine(x _).mono ?_;rintro e K ⟨rfl,rfl⟩) | (go_at_call 158;refine(D _).mono ?_;rintro e I ⟨rfl,t⟩))
          all_goals
           go_wp2
           go_ret2
           exact⟨by rw[E.out,H.out];rfl,(q.drew).trans (t.mono (by simpa using q.size))⟩
        . have o:=d.out λh=>A (c.out.2 h)
          have G:Hid _:=o;have X:(u.toList==(s.extract 0 1).toList)=false:=beq_eq_false_iff_ne.2 λh=>A (Sw h);clear o d f c;go_wp2
          go_region_with (first | (go_at_call 174;refine(x _).mono ?_;rintro e K ⟨rfl,rfl⟩) | (go_at_call 158;refine(D _).mono ?_;rintro e I ⟨rfl,t⟩))
          all_goals
           go_wp2;have hrel:∃k:Nat,1<=k/\k<=5/\Value.int .i64 2=.int .i64 k/\(∀j,1<=j->j<k->j<=s.data.toList.length->¬Eg s.data.toList j)/\Bw w I:=⟨2,by omega,by omega,rfl,G.out,(q.drew).trans (t.mono (by simpa using q.size))⟩;exact⟨hrel,by simp[intOf]⟩
      . have o:=d.out λh=>b h.1
        have G:Hid _:=o;rw[RU b,i]at x;clear o d f g b R i;generalize Dn s.data.toList 0=B0 at *;go_wp2
        go_quiet (first | (go_at_call 174;refine(x _).mono ?_;rintro e K ⟨rfl,rfl⟩;exact⟨rfl,_,rfl⟩))
        go_wp2;have hrel:∃k:Nat,1<=k/\k<=5/\Value.int .i64 2=.int .i64 k/\(∀j,1<=j->j<k->j<=s.data.toList.length->¬Eg s.data.toList j)/\Bw w (wr.drewN (nq)):=⟨2,by omega,by omega,rfl,G.out,q.trans ⟨rfl,rfl,rfl,Ai _,λ_ _=>rfl⟩⟩;exact⟨hrel,by simp[intOf]⟩
    . obtain rfl:_=Value.int .i64 2:=hn
      have U:0<s.size:=by omega
      have e0:=Kv s 0 U;have l0:=Jp s.data.toList 0;have Z:1<s.size:=by omega
      have e1:=Kv s 1 Z;have l1:=Jp s.data.toList 1;have i:(Cu s.data.toList 2:Int)=(Dn s.data.toList 0:Int) % 32*64+(Dn s.data.toList 1:Int) % 64:=by
       show((Dn s.data.toList 0 % 32*64+Dn s.data.toList 1 % 64:Nat):Int)=_;omega
      have x:=Rq (Cu s.data.toList 2) (by omega) (by omega)
      by_cases b:Df (Cu s.data.toList 2)
      . have D:=Qm _ b
        have y:=SL b;rw[y]at x;have c:Hid ((⟨(enc (Cu s.data.toList 2)).toArray⟩:ByteArray)=s.extract 0 2↔Eg s.data.toList 2):=⟨λh=>g.out.1 ⟨b,h⟩,λh=>(g.out.2 h).2⟩;generalize (⟨(enc (Cu s.data.toList 2)).toArray⟩:ByteArray)=u at D c;rw[i]at x D;clear y b g R;generalize Dn s.data.toList 0=B0 at *;generalize Dn s.data.toList 1=B1 at *;have Y:=Aa i;clear i
        by_cases A:u=s.extract 0 2
        . have F:=f.out (c.out.1 A)
          have E:Hid (R1=(B0:Int) % 32*64+(B1:Int) % 64):=by show _=_;rw[L.out,F];exact Y.out
          have H:Hid (R2=2):=by show _=_;rw[J.out,F];rfl
          subst A;clear F f d c
          go_wp2;go_region;go_wp2
          go_region_with (first | (go_at_call 174;refine(x _).mono ?_;rintro e K ⟨rfl,rfl⟩) | (go_at_call 158;refine(D _).mono ?_;rintro e I ⟨rfl,t⟩))
          all_goals
           go_wp2
           go_ret2
           exact⟨by rw[E.out,H.out];rfl,(q.drew.drew).trans (t.mono (by simpa using q.size))⟩
        . have o:=d.out λh=>A (c.out.2 h)
          have G:Hid _:=o;have X:(u.toList==(s.extract 0 2).toList)=false:=beq_eq_false_iff_ne.2 λh=>A (Sw h);clear o d f c
          go_wp2;go_region;go_wp2
          go_region_with (first | (go_at_call 174;refine(x _).mono ?_;rintro e K ⟨rfl,rfl⟩) | (go_at_call 158;refine(D _).mono ?_;rintro e I ⟨rfl,t⟩))
          all_goals
           go_wp2;have hrel:∃k:Nat,1<=k/\k<=5/\Value.int .i64 3=.int .i64 k/\(∀j,1<=j->j<k->j<=s.data.toList.length->¬Eg s.data.toList j)/\Bw w I:=⟨3,by omega,by omega,rfl,G.out,(q.drew.drew).trans (t.mono (by simpa using q.size))⟩;exact⟨hrel,by simp[intOf]⟩
      . have o:=d.out λh=>b h.1
        have G:Hid _:=o;rw[RU b,i]at x;clear o d f g b R i;generalize Dn s.data.toList 0=B0 at *;generalize Dn s.data.toList 1=B1 at *
        go_wp2;go_region;go_wp2
        go_quiet (first | (go_at_call 174;refine(x _).mono ?_;rintro e K ⟨rfl,rfl⟩;exact⟨rfl,_,rfl⟩))
        go_wp2;have hrel:∃k:Nat,1<=k/\k<=5/\Value.int .i64 3=.int .i64 k/\(∀j,1<=j->j<k->j<=s.data.toList.length->¬Eg s.data.toList j)/\Bw w (wr.drewN (1+nq)):=⟨3,by omega,by omega,rfl,G.out,q.trans ⟨rfl,rfl,rfl,Ai _,λ_ _=>rfl⟩⟩;exact⟨hrel,by simp[intOf]⟩
    . obtain rfl:_=Value.int .i64 3:=hn
      have U:0<s.size:=by omega
      have e0:=Kv s 0 U;have l0:=Jp s.data.toList 0;have Z:1<s.size:=by omega
      have e1:=Kv s 1 Z;have l1:=Jp s.data.toList 1;have p2:2<s.size:=by omega
      have e2:=Kv s 2 p2;have l2:=Jp s.data.toList 2;have i:(Cu s.data.toList 3:Int)=(Dn s.data.toList 0:Int) % 16*4096+(Dn s.data.toList 1:Int) % 64*64+(Dn s.data.toList 2:Int) % 64:=by
       show((Dn s.data.toList 0 % 16*4096+Dn s.data.toList 1 % 64*64+Dn s.data.toList 2 % 64:Nat):Int)=_;omega
      have x:=Rq (Cu s.data.toList 3) (by omega) (by omega)
      by_cases b:Df (Cu s.data.toList 3)
      . have D:=Qm _ b
        have y:=SL b;rw[y]at x;have c:Hid ((⟨(enc (Cu s.data.toList 3)).toArray⟩:ByteArray)=s.extract 0 3↔Eg s.data.toList 3):=⟨λh=>g.out.1 ⟨b,h⟩,λh=>(g.out.2 h).2⟩;generalize (⟨(enc (Cu s.data.toList 3)).toArray⟩:ByteArray)=u at D c;rw[i]at x D;clear y b g R;generalize Dn s.data.toList 0=B0 at *;generalize Dn s.data.toList 1=B1 at *;generalize Dn s.data.toList 2=B2 at *;have Y:=Aa i;clear i
        by_cases A:u=s.extract 0 3
        . have F:=f.out (c.out.1 A)
          have E:Hid (R1=(B0:Int) % 16*4096+(B1:Int) % 64*64+(B2:Int) % 64):=by show _=_;rw[L.out,F];exact Y.out
          have H:Hid (R2=3):=by show _=_;rw[J.out,F];rfl
          subst A;clear F f d c
          go_wp2;go_region;go_wp2
          go_region_with (first | (go_at_call 174;refine(x _).mono ?_;rintro e K ⟨rfl,rfl⟩) | (go_at_call 158;refine(D _).mono ?_;rintro e I ⟨rfl,t⟩))
          all_goals
           go_wp2
           go_ret2
           exact⟨by rw[E.out,H.out];rfl,(q.drew.drew).trans (t.mono (by simpa using q.size))⟩
        . have o:=d.out λh=>A (c.out.2 h)
          have G:Hid _:=o;have X:(u.toList==(s.extract 0 3).toList)=false:=beq_eq_false_iff_ne.2 λh=>A (Sw h);clear o d f c
          go_wp2;go_region;go_wp2
          go_region_with (first | (go_at_call 174;refine(x _).mono ?_;rintro e K ⟨rfl,rfl⟩) | (go_at_call 158;refine(D _).mono ?_;rintro e I ⟨rfl,t⟩))
          all_goals
           go_wp2;have hrel:∃k:Nat,1<=k/\k<=5/\Value.int .i64 4=.int .i64 k/\(∀j,1<=j->j<k->j<=s.data.toList.length->¬Eg s.data.toList j)/\Bw w I:=⟨4,by omega,by omega,rfl,G.out,(q.drew.drew).trans (t.mono (by simpa using q.size))⟩;exact⟨hrel,by simp[intOf]⟩
      . have o:=d.out λh=>b h.1
        have G:Hid _:=o;rw[RU b,i]at x;clear o d f g b R i;generalize Dn s.data.toList 0=B0 at *;generalize Dn s.data.toList 1=B1 at *;generalize Dn s.data.toList 2=B2 at *
        go_wp2;go_region;go_wp2
        go_quiet (first | (go_at_call 174;refine(x _).mono ?_;rintro e K ⟨rfl,rfl⟩;exact⟨rfl,_,rfl⟩))
        go_wp2;have hrel:∃k:Nat,1<=k/\k<=5/\Value.int .i64 4=.int .i64 k/\(∀j,1<=j->j<k->j<=s.data.toList.length->¬Eg s.data.toList j)/\Bw w (wr.drewN (1+nq)):=⟨4,by omega,by omega,rfl,G.out,q.trans ⟨rfl,rfl,rfl,Ai _,λ_ _=>rfl⟩⟩;exact⟨hrel,by simp[intOf]⟩
    . obtain rfl:_=Value.int .i64 4:=hn
      have U:0<s.size:=by omega
      have e0:=Kv s 0 U;have l0:=Jp s.data.toList 0;have Z:1<s.size:=by omega
      have e1:=Kv s 1 Z;have l1:=Jp s.data.toList 1;have p2:2<s.size:=by omega
      have e2:=Kv s 2 p2;have l2:=Jp s.data.toList 2;have p3:3<s.size:=by omega
      have e3:=Kv s 3 p3;have l3:=Jp s.data.toList 3;have i:(Cu s.data.toList 4:Int)=(Dn s.data.toList 0:Int) % 8*262144+(Dn s.data.toList 1:Int) % 64*4096+(Dn s.data.toList 2:Int) % 64*64+(Dn s.data.toList 3:Int) % 64:=by
       show((Dn s.data.toList 0 % 8*262144+Dn s.data.toList 1 % 64*4096+Dn s.data.toList 2 % 64*64+Dn s.data.toList 3 % 64:Nat):Int)=_;omega
      have x:=Rq (Cu s.data.toList 4) (by omega) (by omega)
      by_cases b:Df (Cu s.data.toList 4)
      . have D:=Qm _ b
        have y:=SL b;rw[y]at x;have c:Hid ((⟨(enc (Cu s.data.toList 4)).toArray⟩:ByteArray)=s.extract 0 4↔Eg s.data.toList 4):=⟨λh=>g.out.1 ⟨b,h⟩,λh=>(g.out.2 h).2⟩;generalize (⟨(enc (Cu s.data.toList 4)).toArray⟩:ByteArray)=u at D c;rw[i]at x D;clear y b g R;generalize Dn s.data.toList 0=B0 at *;generalize Dn s.data.toList 1=B1 at *;generalize Dn s.data.toList 2=B2 at *;generalize Dn s.data.toList 3=B3 at *;have Y:=Aa i;clear i
        by_cases A:u=s.extract 0 4
        . have F:=f.out (c.out.1 A)
          have E:Hid (R1=(B0:Int) % 8*262144+(B1:Int) % 64*4096+(B2:Int) % 64*64+(B3:Int) % 64):=by show _=_;rw[L.out,F];exact Y.out
          have H:Hid (R2=4):=by show _=_;rw[J.out,F];rfl
          subst A;clear F f d c
          go_wp2;go_region;go_wp2
          go_region_with (first | (go_at_call 174;refine(x _).mono ?_;rintro e K ⟨rfl,rfl⟩) | (go_at_call 158;refine(D _).mono ?_;rintro e I ⟨rfl,t⟩))
          all_goals
           go_wp2
           go_ret2
           exact⟨by rw[E.out,H.out];rfl,(q.drew.drew).trans (t.mono (by simpa using q.size))⟩
        . have o:=d.out λh=>A (c.out.2 h)
          have G:Hid _:=o;have X:(u.toList==(s.extract 0 4).toList)=false:=beq_eq_false_iff_ne.2 λh=>A (Sw h);clear o d f c
          go_wp2;go_region;go_wp2
          go_region_with (first | (go_at_call 174;refine(x _).mono ?_;rintro e K ⟨rfl,rfl⟩) | (go_at_call 158;refine(D _).mono ?_;rintro e I ⟨rfl,t⟩))
          all_goals
           go_wp2;have hrel:∃k:Nat,1<=k/\k<=5/\Value.int .i64 5=.int .i64 k/\(∀j,1<=j->j<k->j<=s.data.toList.length->¬Eg s.data.toList j)/\Bw w I:=⟨5,by omega,by omega,rfl,G.out,(q.drew.drew).trans (t.mono (by simpa using q.size))⟩;exact⟨hrel,by simp[intOf]⟩
      . have o:=d.out λh=>b h.1
        have G:Hid _:=o;rw[RU b,i]at x;clear o d f g b R i;generalize Dn s.data.toList 0=B0 at *;generalize Dn s.data.toList 1=B1 at *;generalize Dn s.data.toList 2=B2 at *;generalize Dn s.data.toList 3=B3 at *
        go_wp2;go_region;go_wp2
        go_quiet (first | (go_at_call 174;refine(x _).mono ?_;rintro e K ⟨rfl,rfl⟩;exact⟨rfl,_,rfl⟩))
        go_wp2;have hrel:∃k:Nat,1<=k/\k<=5/\Value.int .i64 5=.int .i64 k/\(∀j,1<=j->j<k->j<=s.data.toList.length->¬Eg s.data.toList j)/\Bw w (wr.drewN (1+nq)):=⟨5,by omega,by omega,rfl,G.out,q.trans ⟨rfl,rfl,rfl,Ai _,λ_ _=>rfl⟩⟩;exact⟨hrel,by simp[intOf]⟩
  . have hz:J3 s.data.toList=(0,0):=km λn E H h3=>N n E (by rw[←hsz.out]at h3;omega) h3
    have E:Hid (R1=0):=by show _=_;rw[L.out,hz];rfl
    have H:Hid (R2=0):=by show _=_;rw[J.out,hz];rfl
    subst hn;clear N hz
    by_cases hk:k<=4
    . have hks:¬k<=s.size:=λh=>O ⟨hk,h⟩
      clear O;go_wp2
      go_ret2
      exact⟨by rw[E.out,H.out];rfl,q⟩
    . clear O
      go_wp2
      go_ret2
      exact⟨by rw[E.out,H.out];rfl,q⟩
theorem kj(s:ByteArray)(k:Nat):(s.extract k s.size).data.toList=s.data.toList.drop k:=by
 rw[GD,AQ (by rw[AM,←CZ];exact Ai _)]
theorem SH(s:ByteArray)(hs:s.size<100000000)(w:World) :
    Cg 100 #[.string s] w λe w'=>Bw w w' /\
     (((scan s.data.toList).2=true/\∃v,e=.returned (.tuple #[v,Nk 0 (-1)])/\Nm w w' 21 v (Gw (scan s.data.toList).1)) \/
      ((scan s.data.toList).2=false/\e=.returned (.tuple #[.slice none 0 0,Nk 3 (Gs s.data.toList)]))):=by
 have hsz:=Aa (CZ s);obtain⟨i0,hi,hz0,hz1,hz2⟩:=info_parts VE;unfold Nk
 go_enter func100,ntmps100
 go_wp2
 go_loopw [4,5] (λb i wr=>∃(k:Nat) (c:List (Nat×Nat)),k<=s.size/\i=.int .i64 k/\(scan s.data.toList).1=c++(scan (s.data.toList.drop k)).1/\(c.map (·.2)).sum=k/\(scan s.data.toList).2=(scan (s.data.toList.drop k)).2/\c.length<=k /\
     wr.ownsRow (w.heap.size+1) 21 1 b c.length (Gw c) /\
     wr.cell? (Ad w.heap.size 0)=some (I6 0)/\wr.cell? (Ad w.heap.size 1)=some (I6 0)/\wr.frozen? (Ad w.heap.size 0)=false/\wr.frozen? (Ad w.heap.size 1)=false/\Bw w wr) (λ_ i _=>s.size - (intOf i).toNat)
 case atStart=>exact⟨0,[],AV _,rfl,by rw[DE];rfl,rfl,by rw[DE],Ai _,BL _ _ _ _,by simp[go_sem],by simp[go_sem],by simp[go_sem],by simp[go_sem],zA _ _⟩
 case round =>
  obtain⟨k,c,hk,rfl,j,y,q,N,f,c0,c1,f0,f1,D⟩:=hrel;have g:w.heap.size<wr.heap.size:=Ca wr _ c0
  by_cases hlt:k<s.size
  . have u:s.data.toList.drop k≠[]:=by
      intro e;have:=congrArg List.length e;rw[AM,AR,←CZ]at this;omega
    have z:=dF (s.extract k s.size) (by rw[FK];omega) wr;rw[kj]at z;unfold J3 at z;rw[if_neg u]at z;have U:=MA (s.data.toList.drop k);have E:=N5 u;rw[AM,←hsz.out]at E;have hdn:c.length<100000000:=by omega
    by_cases I:Dc (Cb (s.data.toList.drop k))=true
    . rw [I]at z
      simp only[if_true]at z;have h:=Qo u I;have hpl:Hid (Gs s.data.toList=k):=by
       show _=_;unfold Gs;rw[j,h,AZ,y]
      have hf:Hid ((scan s.data.toList).2=false):=by show _=_;rw[q,h]
      clear j y q N h f u I U E
      go_wp2_with (go_at_call 141;refine z.mono ?_;rintro e t ⟨rfl,d⟩;have e0:=(zC d w.heap.size 0 g).trans c0;have e1:=(zC d w.heap.size 1 g).trans c1;have g0:=(d.frozen (p:=(Ad w.heap.size 0)) g).trans f0;have g1:=(d.frozen (p:=(Ad w.heap.size 1)) g).trans f1)
      refine bodyPost_ret (v:=.tuple #[.slice none 0 0,.agg #[I6 3,I6 k]]) (by simp[results,results100,go_sem,e0,e1]) rfl ?_;refine⟨((D.trans (d.mono D.size)).setCell (p:=(Ad w.heap.size 0)) (Ai _) _).setCell (p:=(Ad w.heap.size 1)) (Ai _) _,.inr ⟨hf.out,by rw[hpl.out]⟩⟩
    . have I:Dc (Cb (s.data.toList.drop k))=false:=Bool.eq_false_iff.2 I
      rw[I]at z;simp only[BW,if_false]at z;have h:=Op u I;rw[DI]at h;obtain⟨R,hR⟩:∃R,R=(Cb (s.data.toList.drop k)).1:=⟨_,rfl⟩;obtain⟨K,hK⟩:∃K,K=(Cb (s.data.toList.drop k)).2:=⟨_,rfl⟩;have hp:Cb (s.data.toList.drop k)=(R,K):=by rw[hR,hK]
      rw[hp]at z h U E;simp only[]at z h U E;have S:Hid ((scan s.data.toList).1=c++[(R,K)]++(scan (s.data.toList.drop (k+K))).1):=by
       show _=_;rw[j,h,AH];rfl
      have G:Hid (((c++[(R,K)]).map (·.2)).sum=k+K):=by
       show _=_;rw[BM,DK,y];rfl
      have F:Hid ((scan s.data.toList).2=(scan (s.data.toList.drop (k+K))).2):=by show _=_;rw[q,h]
      have H:Hid ((c++[(R,K)]).length<=k+K):=by
       show _<=_;rw[AA];simp;omega
      have hr0:((K:Int)==0)=false:=by
       rw[beq_eq_false_iff_ne];intro e;omega
      have NX:Hid (∀w0 t Y o,Bw wr w0->t.ownsRow (w.heap.size+1) 21 1 Y (c.length+1) (Gw c++[.int .i32 R])->(w0.alloc o).grownBy t (u4).ownBlock ->
          t.ownsRow (w.heap.size+1) 21 1 Y (c++[(R,K)]).length (Gw (c++[(R,K)])) /\
          t.cell? (Ad w.heap.size 0)=some (I6 0)/\t.cell? (Ad w.heap.size 1)=some (I6 0)/\t.frozen? (Ad w.heap.size 0)=false/\t.frozen? (Ad w.heap.size 1)=false/\Bw w t):=by
       intro w0 t Y o O h1 Z;have W:Below (w.heap.size+1) wr t:=((O.mono g).alloc (AF g O.size) o).grown Z (by rw[Bb];have:=O.size;omega) λk hk=>(f.lt k hk).1;refine⟨?_,(zC W w.heap.size 0 (DF _)).trans c0,(zC W w.heap.size 1 (DF _)).trans c1,(W.frozen (p:=(Ad w.heap.size 0)) (DF _)).trans f0,(W.frozen (p:=(Ad w.heap.size 1)) (DF _)).trans f1,D.trans (W.mono (BX _))⟩;have e:Gw (c++[(R,K)])=Gw c++[.int .i32 R]:=by simp[Gw]
       rw[AA,e];exact h1
      obtain⟨pb,cb,rfl⟩:=Bm f;clear j y q N h hp hR hK u I;generalize Gw c=xs at f NX
      go_wp2_with (first | (go_at_call 141;refine z.mono ?_;rintro e w0 ⟨rfl,d⟩;have x:=Fe f d;have hz9:=d.size) | (at_builtin;refine wpList_append_own _ rfl (.tmp 23) (.tmp 25) 180 rfl (w.heap.size+1) 21 i0 (.int .i32 0) 1 4 underlying180 hi hz0 hz1 hz2 rfl (by decide) _ _ _ rfl (x.alloc _) (Ad w0.heap.size 0) 1 1 [.int .i32 R] rfl rfl (cell_one_new _ _ _) (ints_oneCell .i32 [(R:Int)]) (by unfold maxLen;omega) (by omega) (by first|omega | (simp;omega)) ?_;intro Y t A Z _))
      have hnx:=NX.out w0 t Y _ d A Z;obtain⟨n0,n1,n2,n3,n4,n5⟩:=hnx;clear A Z f x;go_wp2
      go_roundw
      case rel=>exact⟨k+K,_,by omega,by go_num,S.out,G.out,F.out,H.out,n0,n1,n2,n3,n4,n5⟩
      case measure=>simp[intOf];omega
  . have L:s.data.toList.drop k=[]:=DT (by rw[←CZ];omega)
    rw[L,Oi]at j q;rw[AZ]at j;obtain⟨pb,cb,rfl⟩:=Bm f;have HO:=Aa f;have X:=Aa j;have hok:=Aa q;clear j q L N y f
    go_wp2_with (go_at_call 35;refine(Tv _ _).mono ?_;rintro e t ⟨rfl,d⟩;have e0:=(zC d w.heap.size 0 g).trans c0;have e1:=(zC d w.heap.size 1 g).trans c1;have g0:=(d.frozen (p:=(Ad w.heap.size 0)) g).trans f0;have g1:=(d.frozen (p:=(Ad w.heap.size 1)) g).trans f1)
    refine bodyPost_ret (v:=.tuple #[.slice pb c.length cb,.agg #[I6 0,I6 (-1)]]) (by simp[results,results100,go_sem,e0,e1]) rfl ?_;refine⟨((D.trans (d.mono D.size)).setCell (p:=(Ad w.heap.size 0)) (Ai _) _).setCell (p:=(Ad w.heap.size 1)) (Ai _) _,.inl ⟨hok.out,_,rfl,?_⟩⟩;rw[X.out];have J:(Gw c).length=c.length:=by simp[Gw]
    refine⟨pb,cb,by rw[J],?_⟩;rw[J];exact J8 (ownsRow_setCell_below (a:=(Ad w.heap.size 1)) (ownsRow_setCell_below (a:=(Ad w.heap.size 0)) (Fe HO.out d) (DF _) _) (DF _) _) (BX _)
def Fo (rs:List Nat):List Value:=rs.flatMap GY
theorem jf(b:List Nat)(r:Nat):Fo (b++[r])=Fo b++GY r:=by simp[Fo]
theorem fP(b:List Nat):(Fo b).length<=2*b.length:=by
 induction b with
 | nil=>simp[Fo]
 | cons r b ih =>
  have h:(GY r).length<=2:=by unfold GY hal;split<;>simp
  have e:Fo (r :: b)=GY r++Fo b:=by simp[Fo]
  rw[e,AA,AJ];omega
theorem kZ(v:Value)(f:List Nat)(w:World)(hz:∀r∈f,Df r)(hr:reads w .i32 v (E6 f))(hl:f.length<100000000) :
    Cg 101 #[v] w λe w'=>∃v,e=.returned v/\Nm w w' 218 v (Fo f)/\Bw w w':=by
 obtain⟨p,c,rfl,r1,r2,r3⟩:=hr;obtain⟨n,hn⟩:∃n,n=(E6 f).length:=⟨_,rfl⟩;rw[←hn]at r1 r3 ⊢;have HN:Hid (n=f.length):=by show _=_;rw[hn];simp[E6]
 have HT:Hid (E6 f≠[]↔f≠[]):=by show _↔_;simp[E6]
 have hln:n<100000000:=by rw[HN.out];exact hl
 clear hn hl;have R3:=Aa r3;have HZ:=Aa hz;clear r3 hz;obtain⟨i0,hi,J,K,N⟩:=info_parts Tf
 go_enter func101,ntmps101
 go_wp2
 go_loopw [3,9] (λb i wr=>∃(k:Nat),k<=n/\i=.int .i64 k/\wr.ownsRow w.heap.size 218 1 b (Fo (f.take k)).length (Fo (f.take k))/\Bw w wr) (λ_ i _=>n - (intOf i).toNat)
 case atStart=>exact⟨0,AV _,rfl,BL _ _ _ _,A9 _ _⟩
 case round =>
  obtain⟨k,U,rfl,d,h⟩:=hrel;have t:=fP (f.take k);rw[AO]at t
  by_cases L:k<n
  . have D:k<f.length:=by rw[←HN.out];exact L
    have hne:f≠[]:=by intro e;rw[e]at D;exact absurd D (AP _)
    obtain⟨b,o,rfl,W,s⟩:=R3.out (HT.out.2 hne);have R:=(zC h b (o+k) W).trans (s k L);have E:(E6 f).getD k 0=(f[k]:Int):=by
     rw[EK,E6,BD,B7 D];rfl
    rw[E]at R;have A:=HZ.out f[k] (BE _);have F:f.take (k+1)=f.take k++[f[k]]:=AD D;have q:=jf (f.take k) f[k];rw[←F]at q;generalize f[k]=r at R A q;unfold Df at A;have hm:(Fo (f.take k)).length<300000000:=by omega
    by_cases u:r<65536
    . have I:GY r=[.int .u16 r]:=by simp[GY,hal,u]
      rw[I]at q
      have G:Hid (∀j x o,j.ownsRow w.heap.size 218 1 x ((Fo (f.take k)).length+1) (Fo (f.take k)++[.int .u16 r])->(wr.alloc o).grownBy j (u3).ownBlock ->
          j.ownsRow w.heap.size 218 1 x (Fo (f.take (k+1))).length (Fo (f.take (k+1)))/\Bw w j):=by
       intro j x o Y y;have Z:Below w.heap.size wr j:=((A9 _ wr).alloc h.size o).grown y (by rw[Bb];have:=h.size;omega) λk U=>(d.lt k U).1;refine⟨?_,h.trans Z⟩;rw[q,AA];exact Y
      obtain⟨O,S,rfl⟩:=Bm d;have q0:(0:Int)<=(r:Int):=by omega
      have q1:(r:Int)<65536:=by omega
      have X:=h.size;clear q F E I s t A u;generalize (r:Int)=z at R q0 q1 G;generalize Fo (f.take k)=xs at d hm G
      go_wp2_with (at_builtin;refine wpList_append_own _ rfl (.tmp 30) (.tmp 33) 179 rfl w.heap.size 218 i0 (.int .u16 0) 1 2 underlying179 hi J K N rfl (by decide) _ _ _ rfl (d.alloc _) (Ad wr.heap.size 0) 1 1 [.int .u16 z] rfl rfl (cell_one_new _ _ _) (ints_oneCell .u16 [z]) (by unfold maxLen;omega) (by omega) (by first | omega | (simp;omega)) ?_;intro x j g y _)
      have H:=G.out j x _ g y;obtain⟨n0,n1⟩:=H;clear g y d;go_wp2
      go_roundw
      case rel=>exact⟨k+1,by omega,by go_num,n0,n1⟩
      case measure=>simp[intOf];omega
    . have I:GY r=[.int .u16 (55296+((r:Int) - 65536) / 1024),.int .u16 (56320+((r:Int) - 65536) % 1024)]:=by
        simp only[GY,hal,u,if_false,AY,BU];rw[show((55296+(r - 65536) / 1024:Nat):Int)=55296+((r:Int) - 65536) / 1024 by omega,show((56320+(r - 65536) % 1024:Nat):Int)=56320+((r:Int) - 65536) % 1024 by omega]
      rw[I]at q
      have G:Hid (∀j x o,j.ownsRow w.heap.size 218 1 x ((Fo (f.take k)).length+2) (Fo (f.take k)++[.int .u16 (55296+((r:Int) - 65536) / 1024),.int .u16 (56320+((r:Int) - 65536) % 1024)])->(wr.alloc o).grownBy j (u3).ownBlock ->
          j.ownsRow w.heap.size 218 1 x (Fo (f.take (k+1))).length (Fo (f.take (k+1)))/\Bw w j):=by
       intro j x o Y y;have Z:Below w.heap.size wr j:=((A9 _ wr).alloc h.size o).grown y (by rw[Bb];have:=h.size;omega) λk U=>(d.lt k U).1;refine⟨?_,h.trans Z⟩;rw[q,AA];exact Y
      obtain⟨O,S,rfl⟩:=Bm d;have q0:¬(r:Int)<65536:=by omega
      have q1:(r:Int)<=1114111:=by omega
      have q2:(65536:Int)<=(r:Int):=by omega
      have X:=h.size;clear q F E I s t A u;generalize (r:Int)=z at R q0 q1 q2 G;generalize Fo (f.take k)=xs at d hm G
      go_wp2_with (at_builtin;refine wpList_append_own _ rfl (.tmp 17) (.tmp 28) 179 rfl w.heap.size 218 i0 (.int .u16 0) 1 2 underlying179 hi J K N rfl (by decide) _ _ _ rfl (d.alloc _) (Ad wr.heap.size 0) 2 2 [.int .u16 (55296+(z - 65536) / 1024),.int .u16 (56320+(z - 65536) % 1024)] rfl rfl (cell_two_new _ _ _ _) (ints_oneCell .u16 [55296+(z - 65536) / 1024,56320+(z - 65536) % 1024]) (by unfold maxLen;omega) (by omega) (by first | omega | (simp;omega)) ?_;intro x j g y _)
      have H:=G.out j x _ g y;obtain⟨n0,n1⟩:=H;clear g y d;go_wp2
      go_roundw
      case rel=>exact⟨k+1,by omega,by go_num,n0,n1⟩
      case measure=>simp[intOf];omega
  . have e:f.take k=f:=AQ (by rw[←HN.out];omega)
    rw[e]at d;obtain⟨O,S,rfl⟩:=Bm d;have HO:Hid (Nm w wr 218 (.slice O (Fo f).length S) (Fo f)):=⟨O,S,rfl,d⟩;clear e d R3 HZ t;go_wp2;go_ret;exact⟨_,rfl,HO.out,h⟩
end Go.Proofs.YtkcpjanmemdjlaaGreatDoor
namespace Go.Proofs
open Go.Shelf
def Tryz.lays138_ren:Go.Shelf.Ren:=⟨λ| 138=>102 | 195=>142 | 218=>143 | 143=>144 | 219=>175 | 217=>184 | 225=>185 | 224=>186 | 267=>187 | 266=>188 | 314=>189 | n=>n,λ| 9=>9 | 3=>3 | 4=>4 | 5=>5 | 0=>0 | 46=>249 | 146=>282 | 51=>281 | n=>n,λ| 1=>3 | n=>n⟩
theorem Tryz.lays138:Go.Proofs.Lays.n138 Tryz.prog Tryz.lays138_ren:={
 mixed:=by kernel_rfl
 f138:=Tryz.func102.trans (congrArg some (by kernel_rfl))
 f143:=Tryz.func144.trans (congrArg some (by kernel_rfl))
 f195:=Tryz.func142.trans (congrArg some (by kernel_rfl))
 f217:=Tryz.func184.trans (congrArg some (by kernel_rfl))
 f218:=Tryz.func143.trans (congrArg some (by kernel_rfl))
 f219:=Tryz.func175.trans (congrArg some (by kernel_rfl))
 f224:=Tryz.func186.trans (congrArg some (by kernel_rfl))
 f225:=Tryz.func185.trans (congrArg some (by kernel_rfl))
 f266:=Tryz.func188.trans (congrArg some (by kernel_rfl))
 f267:=Tryz.func187.trans (congrArg some (by kernel_rfl))
 f314:=Tryz.func189.trans (congrArg some (by kernel_rfl))
 t0:=Tryz.underlying0
 a0:=Tryz.isAgg0
 z0:=Tryz.sizeOf0
 v0:=Tryz.zeroValue0
 t3:=Tryz.underlying3
 a3:=Tryz.isAgg3
 z3:=Tryz.sizeOf3
 v3:=Tryz.zeroValue3
 t4:=Tryz.underlying4
 a4:=Tryz.isAgg4
 z4:=Tryz.sizeOf4
 v4:=Tryz.zeroValue4
 t5:=Tryz.underlying5
 a5:=Tryz.isAgg5
 z5:=Tryz.sizeOf5
 v5:=Tryz.zeroValue5
 t9:=Tryz.underlying9
 a9:=Tryz.isAgg9
 z9:=Tryz.sizeOf9
 v9:=Tryz.zeroValue9
 t46:=Tryz.underlying249
 a46:=Tryz.isAgg249
 z46:=Tryz.sizeOf249
 v46:=Tryz.zeroValue249
 t51:=Tryz.underlying281
 a51:=Tryz.isAgg281
 z51:=Tryz.sizeOf281
 v51:=Tryz.zeroValue281
 t146:=Tryz.underlying282
 a146:=Tryz.isAgg282
 z146:=Tryz.sizeOf282
 v146:=Tryz.zeroValue282
 g1:=by kernel_rfl }
open Go.RowKit Go.Lib in
theorem Tryz.strings_Count_one(s:ByteArray)(c:UInt8)(w:World) :
    Calls Tryz.prog 102 #[.string s,.string ⟨#[c]⟩] w λe w'=>e=.returned (.int .i64 (Lib.countByte s.data.toList c))/\w'=w:=Any.strings_Count_one Tryz.lays138 s c w
end Go.Proofs
namespace Go.Proofs.YtkcpjanmemdjlaaGreatDoor
open Go.Proofs.Tryz Go.RowKit Go.Maps
section
variable {W w w1 : World}{o1 o2 : Obj}
def JV (W:World) (B:Nat):Prop :=
 (W.cell? (Ad B 0)=some (I6 0)/\W.cell? (Ad B 1)=some (I6 0)/\W.cell? (Ad B 2)=some (I6 0)/\W.cell? (Ad B 3)=some (I6 0)) /\
 (W.frozen? (Ad B 0)=false/\W.frozen? (Ad B 1)=false/\W.frozen? (Ad B 2)=false/\W.frozen? (Ad B 3)=false) /\
 (W.cell? (Ad (B+1) 0)=some (I6 0)/\W.cell? (Ad (B+1) 1)=some (I6 0)) /\
 (W.frozen? (Ad (B+1) 0)=false/\W.frozen? (Ad (B+1) 1)=false)
theorem OR{b:World}{B:Nat}(h:JV W B)(c:Bw W b):JV b B:=by
 obtain⟨⟨q,D,A,y⟩,⟨x,d1,d2,z⟩,⟨s,t⟩,⟨E,u⟩⟩:=h;have l0:B<W.heap.size:=Ca W _ q;have g:B+1<W.heap.size:=Ca W _ s;have d:∀i v,W.cell? (Ad B i)=some v->b.cell? (Ad B i)=some v:=λi v h=>(zC c B i l0).trans h;have f:∀i,W.frozen? (Ad B i)=false->b.frozen? (Ad B i)=false:=λi h=>(c.frozen (p:=(Ad B i)) l0).trans h;have j:∀i v,W.cell? (Ad (B+1) i)=some v->b.cell? (Ad (B+1) i)=some v:=λi v h=>(zC c (B+1) i g).trans h;have o:∀i,W.frozen? (Ad (B+1) i)=false->b.frozen? (Ad (B+1) i)=false:=λi h=>(c.frozen (p:=(Ad (B+1) i)) g).trans h;exact⟨⟨d _ _ q,d _ _ D,d _ _ A,d _ _ y⟩,⟨f _ x,f _ d1,f _ d2,f _ z⟩,⟨j _ _ s,j _ _ t⟩,⟨o _ E,o _ u⟩⟩
theorem XT(w:World):JV ((w.alloc (Oc #[I6 0,I6 0,I6 0,I6 0] 118)).alloc (Oc #[I6 0,I6 0] 32)) w.heap.size:=by
 refine⟨⟨?_,?_,?_,?_⟩,⟨?_,?_,?_,?_⟩,⟨?_,?_⟩,⟨?_,?_⟩⟩<;>simp[go_sem]
theorem Xi(b:Below ((w.alloc o1).alloc o2).heap.size ((w.alloc o1).alloc o2) w1):Bw w w1 :=
 (((A9 _ w).alloc (Ai _) _).alloc (by rw[Bb];exact BX _) _).trans (b.mono (by rw[Bb,AN];omega))
theorem WW(b:Below ((w.alloc o1).alloc o2).heap.size ((w.alloc o1).alloc o2) w1):w.heap.size+1<w1.heap.size:=by
 have:=b.size;rw[Bb,AN]at this;omega
theorem Xh{i g f b c d:Value}(h:Bw w W) :
    Bw w ((((((W.setCell (Ad w.heap.size 0) i).setCell (Ad w.heap.size 1) g).setCell (Ad w.heap.size 2) f).setCell (Ad w.heap.size 3) b).setCell (Ad (w.heap.size+1) 0) c).setCell (Ad (w.heap.size+1) 1) d) :=
 (((((h.setCell (p:=(Ad w.heap.size 0)) (Ai _) _).setCell (p:=(Ad w.heap.size 1)) (Ai _) _).setCell (p:=(Ad w.heap.size 2)) (Ai _) _).setCell (p:=(Ad w.heap.size 3)) (Ai _) _).setCell (p:=(Ad (w.heap.size+1) 0)) (BX _) _).setCell (p:=(Ad (w.heap.size+1) 1)) (BX _) _
theorem ka(s:ByteArray)(f:s.size<100000000)(w:World)(c:(scan s.data.toList).2=false) :
    Cg 65 #[.string s] w λe w'=>Bw w w'/\e=.returned (.tuple #[Ia 0 0 0 0,Nk 3 (Gs s.data.toList)]):=by
 have g:∀w,Cg 100 #[.string s] w (Rt w (.tuple #[.slice none 0 0,.agg #[I6 3,I6 (Gs s.data.toList)]])):=λw=>by
  refine(SH s f w).mono ?_;rintro e w' ⟨i,⟨h,_⟩|⟨_,rfl⟩⟩
  . rw[c]at h;cases h
  . exact⟨rfl,i⟩
 clear c f;generalize ((Gs s.data.toList:Nat):Int)=P at g ⊢;unfold Ia Nk
 go_enter func65,ntmps65
 go_wp2_with (go_at_call 100;refine(g _).mono ?_;rintro e w1 ⟨rfl,b⟩;have q:=OR (OR (XT w) b) ((A9 _ w1).alloc (Ai _) (Oc #[I6 3,I6 P] 32));obtain⟨⟨x,y,u,t⟩,⟨F,d1,d2,G⟩,⟨j,o⟩,⟨H,I⟩⟩:=q;have d:=WW b;have E:¬w1.heap.size=w.heap.size:=(by omega);have D:¬w.heap.size=w1.heap.size:=(by omega);have z:¬w1.heap.size=w.heap.size+1:=(by omega);have A:¬w.heap.size+1=w1.heap.size:=(by omega))
 go_region
 all_goals go_wp2
 all_goals
  refine bodyPost_ret (v:=.tuple #[.agg #[I6 0,I6 0,I6 0,I6 0],.agg #[I6 3,I6 P]]) (by simp[results,results65,go_sem,x,y,u,t,j,o]) rfl ?_;exact⟨(Xh ((Xi b).alloc (CW (Nat.lt_trans (DF _) d)) _)).drew,rfl⟩
theorem ZP(b:List Nat):Gw (wide b)=(E6 b).map (Value.int .i32):=by
 simp[Gw,wide,E6,EW,FZ]
theorem Vf(s:ByteArray)(I:s.size<100000000)(w:World)(j:(scan s.data.toList).2=true) :
    Cg 65 #[.string s] w λe w'=>Bw w w' /\
     e=.returned (.tuple #[Ia s.size (Fo (Ch s.data.toList)).length (Ch s.data.toList).length (Lib.countByte s.data.toList 10),Nk 0 (-1)]):=by
 have o:∀r∈Ch s.data.toList,Df r:=λr h=>NV h;have g:(Ch s.data.toList).length<100000000:=by
  have:=Oh s.data.toList;rw[←CZ]at this;unfold Ch;rw[BS];omega
 have L:∀w,Cg 100 #[.string s] w λe w'=>Bw w w'/\∃p c,e=.returned (.tuple #[.slice p (Ch s.data.toList).length c,.agg #[I6 0,I6 (-1)]])/\reads w' .i32 (.slice p (Ch s.data.toList).length c) (E6 (Ch s.data.toList)):=λw=>by
  refine(SH s I w).mono ?_;rintro e w' ⟨O,⟨_,v,rfl,p,c,rfl,d⟩|⟨h,_⟩⟩
  . have D:Gw (scan s.data.toList).1=(E6 (Ch s.data.toList)).map (Value.int .i32):=by rw[X7,ZP]
    have H:(Gw (scan s.data.toList).1).length=(E6 (Ch s.data.toList)).length:=by rw[D,BS]
    have Y:(E6 (Ch s.data.toList)).length=(Ch s.data.toList).length:=by simp[E6]
    rw[H]at d;rw[H,←Y];exact⟨O,p,c,rfl,Xz D d⟩
  . rw[j]at h;cases h
 have J:=λw=>strings_Count_one s 10 w;have x:Lib.countByte s.data.toList 10<100000000:=by
  have:Lib.countByte s.data.toList 10<=s.data.toList.length:=List.count_le_length;rw[←CZ]at this;omega
 clear j I;generalize Lib.countByte s.data.toList 10=CB at J x ⊢;generalize Ch s.data.toList=rs at *;have E:=Aa o;obtain⟨n,N⟩:∃n,n=rs.length:=⟨_,rfl⟩;have A:=Aa g;rw[←N]at L g ⊢;clear o N;unfold Ia Nk
 go_enter func65,ntmps65
 go_wp2_with (go_at_call 100;refine(L _).mono ?_;rintro e w1 ⟨f,p,c,rfl,i⟩;have y:=Aa i;clear i;have q:Bw w1 (w1.alloc (Oc #[I6 0,I6 (-1)] 32)):=(A9 _ w1).alloc (Ai _) _;have K:=OR (OR (XT w) f) q;have KZ:=Aa K;obtain⟨⟨c0,c1,c2,c3⟩,⟨d0,d1,d2,d3⟩,⟨f0,f1⟩,⟨g0,g1⟩⟩:=K;have S:=WW f;have hn1:¬w1.heap.size=w.heap.size:=(by omega);have hn2:¬w.heap.size=w1.heap.size:=(by omega);have hn3:¬w1.heap.size=w.heap.size+1:=(by omega);have hn4:¬w.heap.size+1=w1.heap.size:=(by omega))
 go_region_with (first | (go_at_call 101;refine(kZ _ rs _ E.out (ZE y.out q.drew (Ai _)) A.out).mono ?_;rintro e G ⟨v2,rfl,⟨p2,R,rfl,z⟩,b⟩;clear z;have X:=OR (W:=(w1.alloc (Oc #[I6 0,I6 (-1)] 32)).drew) (OR KZ.out (A9 _ _).drew) b;obtain⟨⟨C0,C1,C2,C3⟩,⟨D0,D1,D2,D3⟩,⟨U,Z⟩,⟨G0,G1⟩⟩:=X;have e0:G.cell? (Ad w1.heap.size 0)=some (I6 0):=(zC b w1.heap.size 0 (by simp)).trans (by simp[go_sem]);have D:G.cell? (Ad w1.heap.size 1)=some (I6 (-1)):=(zC b w1.heap.size 1 (by simp)).trans (by simp[go_sem])) | (go_at_call 102;refine(J _).mono ?_;rintro e wx ⟨rfl,F⟩;obtain rfl:=F.symm))
 all_goals
  go_wp2;refine bodyPost_ret (v:=.tuple #[.agg #[I6 s.size,I6 (Fo rs).length,I6 n,I6 CB],.agg #[I6 0,I6 (-1)]]) (by simp[results,results65,go_sem,C0,C1,C2,C3,U,Z]) rfl ?_;have t:w.heap.size<=w1.heap.size:=by omega
  have u:Bw w G:=((Xi f).alloc t _).drew.trans (b.mono (by simp;omega));exact⟨Xh u,rfl⟩
end
theorem eK(b:List Nat):sum1 (wide b)=((encs b).length:Int):=by
 induction b with
 | nil=>rfl
 | cons r b ih =>
  have e:sum1 (wide (r :: b))=((enc r).length:Int)+sum1 (wide b):=by simp[sum1,wide]
  rw[e,ih,Kb,AA]
  push_cast
  rfl
theorem Yc(b:List Nat):sum2 (wide b)=((Fo b).length:Int):=by
 induction b with
 | nil=>rfl
 | cons r b ih =>
  have e:sum2 (wide (r :: b))=cH r+sum2 (wide b):=by simp[sum2,wide]
  have c:Fo (r :: b)=GY r++Fo b:=by simp[Fo]
  have d:((GY r).length:Int)=cH r:=by
   unfold GY hal cH
   split<;>simp
  rw[e,ih,c,AA,←d]
  push_cast
  rfl
theorem dC{r:Nat}(f:Df r):((enc r).count 10:Int)=cL r:=by
 unfold Df at f;have b:∀n:Nat,n<256->n≠10->(n.toUInt8==(10:UInt8))=false:=by
  intro n c d;rw[beq_eq_false_iff_ne];intro e;have:=congrArg UInt8.toNat e;rw[Cy c]at this;exact d this
 unfold cL
 by_cases c:r<=127
 . rw[I5 c]
   by_cases h:r=10
   . subst h;rfl
   . rw[if_neg h,EG,b r (by omega) h];rfl
 rw[if_neg (by omega)]
 by_cases d:r<=2047
 . rw[I4 (by omega) d,EG,EG,b _ (by omega) (by omega),b _ (by omega) (by omega)];rfl
 by_cases g:r<=65535
 . rw[I3 (by omega),EG,EG,EG,b _ (by omega) (by omega),b _ (by omega) (by omega),b _ (by omega) (by omega)];rfl
 . rw[I2 (by omega) (by omega),EG,EG,EG,EG,b _ (by omega) (by omega),b _ (by omega) (by omega),b _ (by omega) (by omega),b _ (by omega) (by omega)];rfl
theorem Yd{b:List Nat}(h:∀r∈b,Df r):sum4 (wide b)=(Lib.countByte (encs b) 10:Int):=by
 unfold Lib.countByte
 induction b with
 | nil=>rfl
 | cons r b ih =>
  have e:sum4 (wide (r :: b))=cL r+sum4 (wide b):=by simp[sum4,wide]
  rw[e,ih λx c=>h x (by simp[c]),Kb,List.count_append,←dC (h r (by simp))]
  push_cast
  rfl
/-! ### What runes count -/
def C1 (rs:List Nat):Int:=sum1 (wide rs)
def C2 (rs:List Nat):Int:=sum2 (wide rs)
def C3 (rs:List Nat):Int:=rs.length
def C4 (rs:List Nat):Int:=sum4 (wide rs)
theorem QH(a b:List Nat):wide (a++b)=wide a++wide b:=by simp[wide]
theorem Ok(a b:List Nat):C1 (a++b)=C1 a+C1 b:=by unfold C1 sum1;rw[QH,BM,DK]
theorem Xb(a b:List Nat):C2 (a++b)=C2 a+C2 b:=by unfold C2 sum2;rw[QH,BM,DK]
theorem Xc(a b:List Nat):C3 (a++b)=C3 a+C3 b:=by unfold C3;rw[AA];push_cast;rfl
theorem dZ(a b:List Nat):C4 (a++b)=C4 a+C4 b:=by unfold C4 sum4;rw[QH,BM,DK]
theorem Ie(b:List Nat):C1 b=(encs b).length:=eK b
theorem Kk(b:List Nat):0<=C3 b/\C3 b<=C1 b:=by
 have:=TI b;rw[Ie];unfold C3;omega
theorem MV(b:List Nat):0<=C4 b/\C4 b<=C1 b:=by
 have h:=Ri (wide b);have c:=Kk b;have e:(wide b).length=b.length:=by simp[wide]
 rw[e]at h;unfold C4;unfold C3 at c;omega
theorem Nl(b:List Nat):0<=C2 b/\C2 b<=2*C1 b:=by
 have h:=Rh (wide b);have c:=Kk b;have e:(wide b).length=b.length:=by simp[wide]
 rw[e]at h;unfold C2;unfold C3 at c;omega
def Fs (rs:List Nat):ByteArray:=⟨(encs rs).toArray⟩
theorem Sv(b:List Nat):(Fs b).size=(encs b).length:=by simp[Fs,ByteArray.size]
theorem Su(b:List Nat):(Fs b).data.toList=encs b:=rfl
inductive T where
 | nil
 | node (l:T) (rs:List Nat) (r:T)
theorem GT{W c:World}(d:Bw W c){b o:Nat}{v:Value}(h:W.cell? (Ad b o)=some v):c.cell? (Ad b o)=some v :=
 (zC d b o (Ca W _ h)).trans h
theorem Np(b:List Nat):0<=C1 b:=by rw[Ie];omega
section
attribute [local go_sem] Dz Dl
theorem Wp(b:List Nat)(j:∀r∈b,Df r)(d:C1 b<=300000000)(w:World)(i:Lib.Utf8Tabs 1 2 w) :
    Cg 62 #[.string (Fs b)] w (Rt w (.tuple #[.agg #[I6 (C1 b),I6 (C2 b),I6 (C3 b),I6 (C4 b)],.nilIface])):=by
 have o:(Fs b).size<400000000:=by rw[Sv];rw[Ie]at d;omega
 have c:scan (Fs b).data.toList=(wide b,true):=by rw[Su];exact MN b j
 refine(Uh _ o w i).mono ?_;rintro e w' ⟨v,x,rfl,g,⟨_,rfl,rfl⟩|⟨h,_⟩⟩
 . refine⟨?_,g⟩
   rw[c];have f:((wide b).length:Int)=C3 b:=by simp[wide,C3]
   simp only[f];rfl
 . rw[c]at h;cases h
end
section
variable {n : Nat}
def LW (b:UInt8):Bool:=Lib.runeStart (b.toNat:Int)
theorem SD(h:n<256)(b:n / 64≠2):LW n.toUInt8=true:=by
 unfold LW Lib.runeStart;rw[Cy h,bne_iff_ne];omega
theorem U6(h:n<64):LW (128+n).toUInt8=false:=by
 unfold LW Lib.runeStart;rw[Cy (by omega),bne_eq_false_iff_eq];omega
theorem Y8{r:Nat}(d:Df r):∃b t,enc r=b :: t/\LW b=true/\(∀x∈t,LW x=false)/\t.length<=3:=by
 unfold Df at d
 by_cases f:r<=127
 . rw[I5 f];exact⟨_,[],rfl,SD (by omega) (by omega),by simp,by simp⟩
 by_cases g:r<=2047
 . rw[I4 (by omega) g]
   exact⟨_,_,rfl,SD (by omega) (by omega),λx c=>by simp only[DR,DL,or_false]at c;subst c;exact U6 (by omega),by simp⟩
 by_cases h:r<=65535
 . rw[I3 (by omega)]
   exact⟨_,_,rfl,SD (by omega) (by omega),λx c=>by simp only[DR,DL,or_false]at c;rcases c with rfl|rfl<;>exact U6 (by omega),by simp⟩
 . rw[I2 (by omega) (by omega)]
   exact⟨_,_,rfl,SD (by omega) (by omega),λx c=>by simp only[DR,DL,or_false]at c;rcases c with rfl|rfl|rfl<;>exact U6 (by omega),by simp⟩
def VB (rs:List Nat) (j:Nat):Prop:=∃k,k<=rs.length/\j=(encs (rs.take k)).length
theorem iZ(b:List Nat):VB b 0:=⟨0,AV _,by simp[encs]⟩
theorem aR:∀{c:List Nat},(∀r∈c,Df r)->∀{j:Nat}{b:UInt8},(encs c)[j]?=some b->LW b=true->VB c j
 | [],_,j,b,h,_=>by simp[encs]at h
 | r :: c,hr,j,b,h,hb=>by
  obtain⟨s,t,e,q,i,_⟩:=Y8 (hr r (by simp));rw[Kb]at h
  by_cases g:j<(enc r).length
  . rw [AX g,e]at h
    cases j with
    | zero=>exact iZ _
    | succ j =>
     rw[List.getElem?_cons_succ]at h;have:=i b (BI h);rw[this]at hb
     cases hb
  . rw[AL (by omega)]at h
    obtain⟨k,o,d⟩:=aR (λx f=>hr x (by simp[f])) h hb;refine⟨k+1,by simp;omega,?_⟩;rw[EM,Kb,AA,←d];omega
end
section
variable {n B : Nat}
structure Same2 (n:Nat) (W W':World):Prop where
 a:W'.heap[n]?=W.heap[n]?
 b:W'.heap[n+1]?=W.heap[n+1]?
theorem Same2.refl(n:Nat)(W:World):Same2 n W W:=⟨rfl,rfl⟩
theorem Same2.of_below{W b:World}(h:Below B W b)(c:n+2<=B):Same2 n W b:=⟨h.block n (by omega),h.block (n+1) (by omega)⟩
theorem Same2.setCell{n:Nat}{A W:World}(h:Same2 n A W){p:Addr}(b:p.block≠n)(c:p.block≠n+1)(v:Value):Same2 n A (W.setCell p v) :=
 ⟨(BF W p v n (λe=>b e.symm)).trans h.a,(BF W p v (n+1) (λe=>c e.symm)).trans h.b⟩
theorem Same2.alloc{n:Nat}{A W:World}(h:Same2 n A W)(b:n+2<=W.heap.size)(o:Obj):Same2 n A (W.alloc o) :=
 ⟨(FS W o n (by omega)).trans h.a,(FS W o (n+1) (by omega)).trans h.b⟩
structure Put1 (n:Nat) (A B:World):Prop where
 os:B.os=A.os
 tape:B.tape=A.tape
 output:B.output=A.output
 size:B.heap.size=A.heap.size
 block:∀k,k≠n->B.heap[k]?=A.heap[k]?
theorem Put1.putObj(n:Nat)(A:World)(o:Obj):Put1 n A (A.putObj n o):=⟨rfl,rfl,rfl,by simp,λ_ h=>CJ h⟩
theorem Put1.below{A b:World}(h:Put1 n A b)(c:B<=n):Below B A b:=⟨h.os,h.tape,h.output,DZ h.size.symm,λk d=>h.block k (by omega)⟩
theorem Put1.cell{n:Nat}{A c:World}(h:Put1 n A c){b o:Nat}(d:b≠n):c.cell? (Ad b o)=A.cell? (Ad b o):=AE (w:=A) (a:=(Ad b o)) (h.block b d)
theorem Put1.frozen{n:Nat}{A c:World}(h:Put1 n A c){b o:Nat}(d:b≠n):c.frozen? (Ad b o)=A.frozen? (Ad b o):=EF (w:=A) (a:=(Ad b o)) (h.block b d)
def WQ {α:Type} (n:Nat) (Kp:World->World->Prop) (I:List α->World->Prop) (Ix:Code->List α->World->Prop) (xs:List α) (W:World):Exit->Act->World->Prop
 | .normal,_,W'=>Same2 n W W'/\Kp W W'/\I xs W'
 | .ret,_,W'=>Same2 n W W'/\Kp W W'/\Ix .ret xs W'
 | .exit id,_,W'=>Same2 n W W'/\Kp W W'/\Ix (.exit id) xs W'
 | .goto t,_,W'=>Same2 n W W'/\Kp W W'/\Ix (.goto t) xs W'
 | .panic _,_,_=>False
 | .outgrown,_,_=>False
def Q4 {α:Type} (P:Program) (g:Nat) (lb:Array Value) (encs:List α->α->Array Value) (It Kp:World->World->Prop) (Z:World->Prop) (S Sp:List α->Prop) (W:World):Prop :=
 ∀ (l : Nat) (J Jx:List α->World->Prop),(∀pre A,J pre A->Z A)->(∀pre A,Jx pre A->Z A)->(∀pre A B,J pre A->It A B->J pre B)->(∀pre A B,Jx pre A->It A B->Jx pre B) ->
  (∀ pre x A,J pre A->Sp (pre++[x])->YieldAt Fence.wide 0 P l (encs pre x) A λe A' =>
    (e=.returned (.bool true)/\J (pre++[x]) A'/\Kp A A')\/(e=.returned (.bool false)/\Jx (pre++[x]) A'/\Kp A A')) ->
  J [] W ->
  CallsIn Fence.wide 0 P g (#[.func (.yield l) #[] #[]]++lb) W λe W'=>(∃v,e=.returned v)/\((∃xs,S xs/\J xs W')\/(∃pre,Sp pre/\Jx pre W'))
theorem ai{α:Type}{P:Program}{g:Operand}{ps:Array Tmp}{assign body:Code}{Q:Exit->Act->World->Prop}{a:Act}{w:World}{n:Nat}
    {gf:Nat} {lb:Array Value} (hg:a.eval g=.func (.func gf) #[] lb) (eg:∀args w,(callFunc gf args).run P w=.ok (.enter gf args) w)
    {encs:List α->α->Array Value} (hps:∀b x,(encs b x).size=ps.size)
    {It Kp:World->World->Prop} {Z:World->Prop} {S Sp:List α->Prop}
    (hseq:∀W,W.heap.size=w.heap.size+2->Below w.heap.size w W->Q4 P gf lb encs It Kp Z S Sp W)
    (hIt:∀A B,It A B->Same2 w.heap.size A B)
    (j:∀{A B C:World},Kp A B->Kp B C->Kp A C) (K:∀(A:World) (r:Loop),Kp A (A.putObj (w.heap.size+1) (.loop r)))
    (I:List α->World->Prop) (Ix:Code->List α->World->Prop)
    (hIz:∀b A,I b A->Z A) (hIxz:∀c b A,Ix c b A->Z A)
    (hI:∀b A B,I b A->It A B->I b B) (hIb:∀b A (r:Loop),I b A->I b (A.putObj (w.heap.size+1) (.loop r)))
    (hIx:∀c b A B,Ix c b A->It A B->Ix c b B) (F:∀c b A (r:Loop),Ix c b A->Ix c b (A.putObj (w.heap.size+1) (.loop r)))
    (h0:∀W,W.heap.size=w.heap.size+2->Below w.heap.size w W->(∃r,W.heap[w.heap.size+1]?=some (.loop r))->I [] W)
    (X:∀(l:Nat) (b:List α) (x:α) (W:World),I b W->w.heap.size+2<=W.heap.size->Sp (b++[x]) ->
      assign.wpIn (Fence.wide.inRound l) 0 P (Exit.then (λa₁ L=>Same2 w.heap.size W L/\Kp W L/\∀G,Put1 (w.heap.size+1) L G->(∃r,G.heap[w.heap.size+1]?=some (.loop r))->body.wpIn (Fence.wide.inRound l) 0 P (WQ w.heap.size Kp I Ix (b++[x]) G) a₁ G) (λ_ _ _=>False))
       { tmps:=(ps.zip (encs b x)).foldl (λt (p,v)=>t.setIfInBounds p v) a.tmps,defers:=[] } W)
    (hdone:∀(xs:List α) (W:World),S xs->I xs W->W.heap[w.heap.size]?=some (.deferred (some []))->Q .normal { a with defers:={ target:=.collected w.heap.size,args:=#[] } :: a.defers } W)
    (hstop:∀(c:Code) (b:List α) (W:World),Sp b->Ix c b W->W.heap[w.heap.size]?=some (.deferred (some []))->c.wpIn Fence.wide n P Q { a with defers:={ target:=.collected w.heap.size,args:=#[] } :: a.defers } W) :
    (Code.rangeFunc g ps assign body).wpIn Fence.wide n P Q a w:=by
 refine wpIn_rangeFunc ?_;intro fn hfn;obtain⟨f,i⟩:∃f:LoopState->Option Code->Loop,f=λst pe=>{ state:=st,pending:=pe,fn,tmps:=a.tmps,params:=ps,assign,body,defers:=w.heap.size }:=⟨_,rfl⟩;obtain⟨H,N⟩:∃H,(w.alloc (.deferred (some []))).alloc (.loop (f .ready none))=H:=⟨_,rfl⟩;have hL1:H.heap[w.heap.size+1]?=some (.loop (f .ready none)):=by
  rw[←N];have:=FC (w.alloc (.deferred (some []))) (.loop (f .ready none));rwa[AN]at this
 have hK1:H.heap[w.heap.size]?=some (.deferred (some [])):=by
  rw[←N];exact(FS _ _ _ (by simp)).trans (FC w _)
 have hs1:H.heap.size=w.heap.size+2:=by rw[←N,AN,AN]
 have hb1:Below w.heap.size w H:=by
  rw[←N];exact((A9 _ w).alloc (Ai _) _).alloc (by simp) _
 have hI1:I [] H:=h0 H hs1 hb1 ⟨_,hL1⟩
 refine ⟨w.heap.size+1,[{ target:=.collected w.heap.size,args:=#[] }],H,{ target:=.fn (.func gf) lb,args:=#[.func (.yield (w.heap.size+1)) #[] #[]] },H,gf,
  #[.func (.yield (w.heap.size+1)) #[] #[]]++lb,H,?_,?_,?_,?_,λh=>(by cases h),?_⟩
 . rw[←N,i];exact run_enterLoop_outer _ _ _ _ _
 . simp only[resolve,hg]
   simp[go_sem]
 . intro f' hf';trivial
 . simp[invoke,go_sem,eg]
 . refine CallsIn.more ((hseq H hs1 hb1 (w.heap.size+1)
     (λb W=>I b W/\W.heap[w.heap.size+1]?=some (.loop (f .ready none))/\W.heap[w.heap.size]?=some (.deferred (some [])))
     (λb W=>∃c,Ix c b W/\W.heap[w.heap.size+1]?=some (.loop (f .done (some c)))/\W.heap[w.heap.size]?=some (.deferred (some [])))
     (λs A U=>hIz s A U.1) (λs A U=>(by obtain⟨c,hc,_⟩:=U;exact hIxz c s A hc))
     (λs A B U D=>⟨hI s A B U.1 D,(hIt A B D).b.trans U.2.1,(hIt A B D).a.trans U.2.2⟩)
     (λs A B U D=>by
       obtain⟨c,hc,J,hk⟩:=U
       exact⟨c,hIx c s A B hc D,(hIt A B D).b.trans J,(hIt A B D).a.trans hk⟩)
     ?_ ⟨hI1,hL1,hK1⟩).mono ?_) (AV _)
   . -- one round
     rintro b x W ⟨hi,J,hk⟩ hSp;have hlt:w.heap.size+1<W.heap.size:=(As J);have hy:=run_yield (P:=P) (args:=encs b x) J (by rw[i];exact hps b x);rw[i]at hy;refine⟨fn,_,assign,body,hy,roundIn_of_wpIn hfn (wpIn_mono (X _ b x W hi (by omega) hSp) ?_)⟩;clear hy;rintro ea a' Wa hq
     cases ea with
     | normal=>?_
     | ret=>exact hq.elim
     | exit id=>exact hq.elim
     | goto t=>exact hq.elim
     | panic c=>exact hq.elim
     | outgrown=>exact hq.elim
     obtain⟨h2a,E,hbody⟩:=hq
     replace J:=h2a.b.trans J
     replace hk:=h2a.a.trans hk
     replace hlt:w.heap.size+1<Wa.heap.size:=(As J)
     refine⟨_,run_beginRound J (by rw[i]),?_⟩;have hl2:(Wa.putObj (w.heap.size+1) (.loop { f .ready none with state:=.busy })).heap[w.heap.size+1]?=some (.loop { f .ready none with state:=.busy }):=EX hlt;have hk2:(Wa.putObj (w.heap.size+1) (.loop { f .ready none with state:=.busy })).heap[w.heap.size]?=some (.deferred (some [])):=(CJ (by omega)).trans hk;have R:Kp Wa (Wa.putObj (w.heap.size+1) (.loop { f .ready none with state:=.busy })):=K _ _;refine wpIn_mono (hbody _ (Put1.putObj _ _ _) ⟨_,hl2⟩) ?_
     have Y:∀(d:Option Code) (O:World),Same2 w.heap.size (Wa.putObj (w.heap.size+1) (.loop { f .ready none with state:=.busy })) O ->
         (Instr.endRound (w.heap.size+1) d).run P O=.ok (.bool d.isNone) (O.putObj (w.heap.size+1) (.loop (f (if d.isNone then .ready else .done) d))) /\
         (O.putObj (w.heap.size+1) (.loop (f (if d.isNone then .ready else .done) d))).heap[w.heap.size+1]?=some (.loop (f (if d.isNone then .ready else .done) d)) /\
         (O.putObj (w.heap.size+1) (.loop (f (if d.isNone then .ready else .done) d))).heap[w.heap.size]?=some (.deferred (some [])):=λd O q=>by
      have hl3:=q.b.trans hl2;have:=run_endRound (P:=P) d hl3;rw[i]at this ⊢;exact⟨this,EX (As hl3),(CJ (by omega)).trans (q.a.trans hk2)⟩
     rintro e a3 O hp
     cases e with
     | normal =>
      obtain⟨q,o,u⟩:=hp;obtain⟨hr,z,y⟩:=Y none O q;exact⟨_,_,hr,.inl ⟨rfl,⟨hIb _ _ _ u,z,y⟩,j E (j (j R o) (K _ _))⟩⟩
     | ret =>
      obtain⟨q,o,u⟩:=hp;obtain⟨hr,z,y⟩:=Y (some .ret) O q;exact⟨_,_,hr,.inr ⟨rfl,⟨.ret,F _ _ _ _ u,z,y⟩,j E (j (j R o) (K _ _))⟩⟩
     | exit id =>
      obtain⟨q,o,u⟩:=hp;obtain⟨hr,z,y⟩:=Y (some (.exit id)) O q;exact⟨_,_,hr,.inr ⟨rfl,⟨.exit id,F _ _ _ _ u,z,y⟩,j E (j (j R o) (K _ _))⟩⟩
     | goto t =>
      obtain⟨q,o,u⟩:=hp;obtain⟨hr,z,y⟩:=Y (some (.goto t)) O q;exact⟨_,_,hr,.inr ⟨rfl,⟨.goto t,F _ _ _ _ u,z,y⟩,j E (j (j R o) (K _ _))⟩⟩
     | panic ch=>exact hp.elim
     | outgrown=>exact hp.elim
   . -- behind the iterator
     rintro e W2 ⟨⟨v,rfl⟩,(⟨xs,hS,hi,J,hk⟩|⟨b,hSp,c,hi,J,hk⟩)⟩
     . exact⟨none,_,by have:=run_endLoop (P:=P) J (by rw[i];simp);rw[i]at this;exact this,hdone xs _ hS (hIb _ _ _ hi) ((CJ (by omega)).trans hk)⟩
     . exact⟨some c,_,by have:=run_endLoop (P:=P) J (by rw[i];simp);rw[i]at this;exact this,hstop c b _ hSp (F _ _ _ _ hi) ((CJ (by omega)).trans hk)⟩
end
end Go.Proofs.YtkcpjanmemdjlaaGreatDoor
namespace Go.Proofs
open Go.Shelf
def Tryz.lays120_ren:Go.Shelf.Ren:=⟨λ| 120=>107 | n=>n,λ| 5=>5 | 4=>4 | n=>n,λ| n=>n⟩
theorem Tryz.lays120:Go.Proofs.Lays.n120 Tryz.prog Tryz.lays120_ren:={
 mixed:=by kernel_rfl
 f120:=Tryz.func107.trans (congrArg some (by kernel_rfl))
 t4:=Tryz.underlying4
 a4:=Tryz.isAgg4
 z4:=Tryz.sizeOf4
 v4:=Tryz.zeroValue4
 t5:=Tryz.underlying5
 a5:=Tryz.isAgg5
 z5:=Tryz.sizeOf5
 v5:=Tryz.zeroValue5 }
theorem Tryz.utf8_RuneStart(b:Int)(w:World)(d:0<=b)(c:b<256) :
    Calls Tryz.prog 107 #[.int .u8 b] w λe w'=>e=.returned (.bool (Lib.runeStart b))/\w'=w:=Any.utf8_RuneStart Tryz.lays120 b w d c
end Go.Proofs
namespace Go.Proofs.YtkcpjanmemdjlaaGreatDoor
open Go.Proofs.Tryz Go.RowKit Go.Maps
section
variable {P : Program} {ops : Array Oper} {md : Region.Mode} {m l0 n : Nat} {Q : Exit → Act → World → Prop}
theorem ju{o:Oper}{a:Act}{K:Act->World->Prop}{r:Result Next}(b:Dl P o a K r):o.uponIn (Fence.wide.inRound l0) n P a K Q r:=by
 cases r with
 | ok x w =>
  cases x<;>simp only[Dl]at b<;>simp only[Oper.uponIn]
  case value=>exact b
  case skip=>exact b
  case enter=>exact⟨λh=>(by cases h),(EN l0 (callsIn_wide.2 b)).mono λe w ⟨v,d,c⟩=>by subst d;exact c⟩
 | halt x w=>simp only[Dl]at b
theorem ZV(g:∀(i:Nat)(o:Oper),ops[i]?=some o->∀c,o.op≠.defer c):∀(d:Nat)(b:Array Bool)(a:Act)(w:World),Fw P md ops m Q d b a w->wpAnyIn (Fence.wide.inRound l0) n P md ops Q d b a w
 | 0,_,_,w,h=>⟨h.1,h.2 w (A9 _ _)⟩
 | d + 1,b,a,w,h=>⟨λx=>h.1 x w (A9 _ _),λi q=>by
     have u:=h.2 i q w (A9 _ _);have f:=MD (λt j s=>ZV g d _ t j s.2) u;unfold Hw at f;unfold wpOpIn
     split
     . rename_i ho;simp only[ho]at f;exact f
     . rename_i o ho
       simp only[ho]at f
       split
       . rename_i hw
         simp only[hw,if_true]at f;unfold Oper.wpIn;refine⟨λ_ _=>trivial,?_⟩;rw[Fence.inRound_round,Oper.semAt_some _ _ _ (g i o ho)];exact ju f
       . rename_i hw;simp only[hw]at f;exact⟨λ_ _=>trivial,f⟩⟩
end
theorem lu{P:Program}{Q:Exit->Act->World->Prop}{id l0 k:Nat}{a:Act}{w:World}{l:List Oper}(m n:Nat)(f:P.follows .mixedOrders=true)(d:l.length=n)(b:Rn l=true)
    (h:∀w',Bw w w'->Fw P .any l.toArray m Q n (Array.replicate n false) a w'):(Code.region id l.toArray true).wpIn (Fence.wide.inRound l0) k P Q a w :=
 wpIn_region_any f (ZV (λi o c=>Zi b i o (by simpa using c)) _ _ _ _ (by subst d;simpa using h { w with drawn:=w.drawn+1 } (Below.drew (A9 _ w))))
section
attribute [local go_sem] Oper.semAt_some
theorem NT(w:World)(n1 n2 n3 n4:Int)(t:TypeId):counted (w.alloc (Oc #[I6 n1,I6 n2,I6 n3,I6 n4] t)) w.heap.size n1 n2 n3 n4:=by
 refine⟨⟨?_,?_,?_,?_⟩,?_,?_,?_,?_⟩<;>simp[go_sem]
theorem Ux{lo:Nat}{w W:World}{B:Nat}(c:Below lo w W)(b:lo<=B)(u0 u1 u2 u3:Value) :
    Below lo w ((((W.setCell (Ad B 0) u0).setCell (Ad B 1) u1).setCell (Ad B 2) u2).setCell (Ad B 3) u3) :=
 (((c.setCell (p:=(Ad B 0)) b _).setCell (p:=(Ad B 1)) b _).setCell (p:=(Ad B 2)) b _).setCell (p:=(Ad B 3)) b _
theorem Mm{a b:List Nat}{k:Int}(h:C1 (a++b)<=k):C1 a<=k:=by rw[Ok]at h;have:=Np b;omega
end
structure JZ (W:World) (F:Nat) (cap:Array Value) (l:List (Nat×Nat)) (I Ix:List (Nat×Nat)->World->Prop):Prop where
 enters:∀args w,(callFunc F args).run prog w=.ok (.enter F args) w
 stays:∀done w w',I done w->Bw w w'->I done w'
 step:∀done p rest,l=done++p :: rest->∀w,I done w->Bw W w ->
  Cg F (#[.int .i32 p.1,I6 p.2]++cap) w λe w'=>Bw W w'/\((e=.returned (.bool true)/\I (done++[p]) w')\/(e=.returned (.bool false)/\Ix (done++[p]) w'))
theorem fG(s:ByteArray)(hs:s.size<=maxLen)(F:Nat)(N:Array Value)(W:World)(hT:Lib.Utf8Tabs 1 2 W)(I Ix:List (Nat×Nat)->World->Prop)
    (H:JZ W F N (scan s.data.toList).1 I Ix) (w:World) (hw:Bw W w) (h0:I [] w) :
    Cg 94 #[.string s,.func (.func F) #[] N] w λe w'=>(∃v,e=.returned v)/\Bw W w' /\
     (I (scan s.data.toList).1 w'\/(∃U rest,(scan s.data.toList).1=U++rest/\Ix U w')):=by
 unfold maxLen at hs;have hent:=H.enters
 go_enter func94,ntmps94
 go_wp2
 go_loopw [5,6,7,12] (λat_ _ _ _ wr=>∃(k:Nat) (b:List (Nat×Nat)),k<=s.size/\at_=.int .i64 k/\(scan s.data.toList).1=b++(scan (s.data.toList.drop k)).1/\I b wr/\Bw W wr) (λat_ _ _ _ _=>s.size - (intOf at_).toNat)
 case atStart=>exact⟨0,[],AV _,rfl,by rw[DE];rfl,h0,hw⟩
 case round =>
  obtain⟨k,b,hk,rfl,f,L,g⟩:=hrel;have S:=Go.Proofs.Utf8Tabs_below hT g
  by_cases hlt:k<s.size
  . have u:s.data.toList.drop k≠[]:=by
      intro e;have:=congrArg List.length e;rw[AM,AR,←CZ]at this;omega
    have x:Lib.decodeGo (s.extract k s.size)=Cb (s.data.toList.drop k):=by
     unfold Lib.decodeGo;rw[if_neg (by rw[FK];omega),Uz]
    have G:=MA (s.data.toList.drop k);have y:=N5 u;have q:=Ti (s.data.toList.drop k);have J:=utf8_DecodeRuneInString (s.extract k s.size) wr S;rw[x]at J
    by_cases z:Dc (Cb (s.data.toList.drop k))=true
    . have o:=Qo u z
      have t:Hid (I (scan s.data.toList).1 wr):=by show I _ wr;rw[f,o,AZ];exact L
      have E:(Cb (s.data.toList.drop k)).1=65533/\(Cb (s.data.toList.drop k)).2=1:=Ul z;rw[E.1,E.2]at J;clear x G y q z E f o u L
      go_wp2_with (first | (go_at_call 126;refine J.mono ?_;rintro e w1 ⟨rfl,d⟩) | (go_at_call 127;refine(Yn _ _).mono ?_;rintro e w2 ⟨⟨v,rfl,hv⟩,i⟩))
      go_ret;have D:Bw wr w2:=d.trans (i.mono d.size);exact⟨⟨_,rfl⟩,g.trans (D.mono g.size),.inl (H.stays _ _ _ t D)⟩
    . have z:Dc (Cb (s.data.toList.drop k))=false:=Bool.eq_false_iff.2 z
      have o:=Op u z;have O:(scan s.data.toList).1=b++Cb (s.data.toList.drop k) :: (scan ((s.data.toList.drop k).drop (Cb (s.data.toList.drop k)).2)).1:=by rw[f,o]
      rw[DI]at O;rw[AM,←CZ]at y;have j:=H.step b _ _ O;obtain⟨R,hR⟩:∃R,R=(Cb (s.data.toList.drop k)).1:=⟨_,rfl⟩;obtain⟨K,hK⟩:∃K,K=(Cb (s.data.toList.drop k)).2:=⟨_,rfl⟩;have hp:Cb (s.data.toList.drop k)=(R,K):=by rw[hR,hK]
      rw[hp]at J z G y q O j;have c:Hid ((scan s.data.toList).1=b++[(R,K)]++(scan (s.data.toList.drop (k+K))).1):=by
       show _=_;rw[O,AH];rfl
      simp only[]at G y;clear x f o u q O hR hK hp;have hbF:=YR z;clear z
      rcases hbF with Y|⟨Y,X⟩
      . have Z:((R:Int)==65533)=false:=by
          rw[beq_eq_false_iff_ne];intro e;exact Y (by omega)
        clear Y
        go_wp2_with (first | (go_at_call 126;refine J.mono ?_;rintro e w1 ⟨rfl,d⟩) | (go_at_fn F;refine(j w1 (H.stays _ _ _ L d) (g.trans (d.mono g.size))).mono ?_;rintro e w2 ⟨i,⟨rfl,h⟩|⟨rfl,h⟩⟩))
        . go_roundw
          case rel=>exact⟨k+K,b++[(R,K)],by omega,by go_num,c,h,i⟩
          case measure=>simp[intOf];omega
        . go_ret
          exact⟨⟨_,rfl⟩,i,.inr ⟨_,_,c,h⟩⟩
      . have Z:((K:Int)==1)=false:=by
          rw[beq_eq_false_iff_ne];intro e;exact X (by omega)
        subst Y;clear X
        go_wp2_with (first | (go_at_call 126;refine J.mono ?_;rintro e w1 ⟨rfl,d⟩) | (go_at_fn F;refine(j w1 (H.stays _ _ _ L d) (g.trans (d.mono g.size))).mono ?_;rintro e w2 ⟨i,⟨rfl,h⟩|⟨rfl,h⟩⟩))
        . go_roundw
          case rel=>exact⟨k+K,b++[(65533,K)],by omega,by go_num,c,h,i⟩
          case measure=>simp[intOf];omega
        . go_ret
          exact⟨⟨_,rfl⟩,i,.inr ⟨_,_,c,h⟩⟩
  . have A:s.data.toList.drop k=[]:=DT (by rw[←CZ];omega)
    rw[A,Oi]at f;rw[AZ]at f;have t:Hid (I (scan s.data.toList).1 wr):=by show I _ wr;rw[f];exact L
    clear f A S;go_wp2;go_ret;exact⟨⟨_,rfl⟩,g,.inl t⟩
end Go.Proofs.YtkcpjanmemdjlaaGreatDoor
