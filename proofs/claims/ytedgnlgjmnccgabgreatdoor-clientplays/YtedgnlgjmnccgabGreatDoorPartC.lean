/-
  A part of the texts that the proof uses.
-/
import Derived.Test.YtedgnlgjmnccgabGreatDoorPartB
import Derived.Test.YtedgnlgjmnccgabGreatDoorPartA
import Derived.Shelf.Unicode.ValidAny
import Derived.Test.YtedgnlgjmnccgabGreatDoorProg
import Derived.WalkKit
import Derived.WalkSpells
import Derived.WalkLawsBesides
import Derived.LaidEql
import Derived.Stop.Asserts
import Derived.RowKitTokens
import Derived.Deep.QuietTactic
import Derived.BigQuiet
import Derived.Shelf.Strings.Builder1
import Derived.Shelf.Strings.Builder2
import Derived.Shelf.Small.Utf8
import Derived.Shelf.Strings.BuilderF
import Derived.Shelf.Strings.BuilderK
import Derived.Shelf.Utf8.AppendRunePlain
import Derived.Shelf.Utf8.RuneCount
import Derived.Shelf.Strings.Builder2Cap
import Derived.Shelf.LaysM
import Derived.Shelf.Strconv.Clone
import Derived.Shelf.Strings.Search1
import Derived.Shelf.Strings.Search2
import Derived.Shelf.Strings.Search3
import Derived.Shelf.Strings.Cut
import Derived.Shelf.Strings.Count
import Derived.Shelf.Strings.Shaped
import Derived.Shelf.Strings.RuneCount
import Derived.Shelf.Unicode.DecodeSlow
import Derived.Shelf.Unicode.DecodeAny
import Derived.Shelf.Strings.BuilderCap
import Derived.Laws.EntriesVeiled
set_option maxRecDepth 100000
set_option maxHeartbeats 40000000
set_option linter.unusedVariables false
namespace Go.Proofs.YtedgnlgjmnccgabGreatDoor
section
open Go.RowKit
def lenW (s:Int×Int) (p:Pt):Int×Int:=(IntKind.i64.wrap (s.1+IntKind.i64.wrap (p.keep+p.drop)),IntKind.i64.wrap (s.2+IntKind.i64.wrap (p.keep+p.put.length)))
def Jar (ps:List Pt):Int×Int:=ps.foldl lenW (0,0)
theorem Jc0(v:Value)(ps:List Pt)(w:World)(hr:opAt w v ps)(hl:ps.length<10000000) :
    Calls Tryz.prog 120 #[v] w fun e w'=>e=.returned (.tuple #[.int .i64 (Jar ps).1,.int .i64 (Jar ps).2])/\Below w.heap.size w w':=by
 obtain⟨p,c,rfl,r1,r2,r3⟩:=hr;obtain⟨n,hn⟩:∃n,n=ps.length:=⟨_,rfl⟩;rw[←hn]at r1 hl ⊢;have HN:=hdz hn;clear hn
 have R3:Hid (ps≠[]->∃b o,p=some ⟨b,o,none⟩/\b<w.heap.size/\∀i q,ps[i]?=some q ->
  w.cell? ⟨b,o+i*3,none⟩=some (.int .i64 q.keep)/\w.cell? ⟨b,o+i*3+1,none⟩=some (.int .i64 q.drop)/\w.cell? ⟨b,o+i*3+2,none⟩=some (.string ⟨q.put.toArray⟩)):=r3
 clear r3
 go_enter Tryz.func120,Tryz.ntmps120
 go_wp2
 go_loopw [2,3,8] (fun x y i wr=>∃(k:Nat),k<=n/\i=.int .i64 k/\x=.int .i64 (Jar (ps.take k)).1/\y=.int .i64 (Jar (ps.take k)).2/\Below w.heap.size w wr) (fun _ _ i _=>n - (intOf i).toNat)
 case atStart=>exact⟨0,Nat.zero_le _,rfl,rfl,rfl,brf _ _⟩
 case round =>
  obtain⟨k,hk,rfl,rfl,rfl,hwr⟩:=hrel
  by_cases hlt:k<n
  . have hkr:k<ps.length:=by rw[←HN.out];exact hlt
    have hne:ps≠[]:=by intro e;rw[e]at hkr;exact absurd hkr (Nat.not_lt_zero _)
    obtain⟨b,o,rfl,hbw,hcell⟩:=R3.out hne;obtain⟨c0,c1,c2⟩:=hcell k ps[k] (lgg hkr);have g0:=(hwr.cell (p:=⟨b,o+k*3,none⟩) hbw).trans c0;have g1:=(hwr.cell (p:=⟨b,o+k*3+1,none⟩) hbw).trans c1;have g2:=(hwr.cell (p:=⟨b,o+k*3+2,none⟩) hbw).trans c2;have hts:Jar (ps.take (k+1))=lenW (Jar (ps.take k)) ps[k]:=by
     unfold Jar;rw[List.take_succ_eq_append_getElem hkr,List.foldl_append];rfl
    generalize ps[k]=q at *;generalize Jar (ps.take k)=AB at *;obtain⟨A,B⟩:=AB;obtain⟨K,D,U⟩:=q;unfold lenW at hts;simp only at hts g0 g1 g2 ⊢;obtain⟨x1,h1⟩:∃x,IntKind.i64.wrap (K+D)=x:=⟨_,rfl⟩;obtain⟨x2,h2⟩:∃x,IntKind.i64.wrap (K+(U.length:Int))=x:=⟨_,rfl⟩;obtain⟨y1,h3⟩:∃x,IntKind.i64.wrap (A+x1)=x:=⟨_,rfl⟩;obtain⟨y2,h4⟩:∃x,IntKind.i64.wrap (B+x2)=x:=⟨_,rfl⟩;rw[h1,h2,h3,h4]at hts;have HTS:=hdz hts;have HWR:=hdz hwr;clear hcell c0 c1 c2 hts hwr;go_wp2
    go_roundw
    case rel=>exact⟨k+1,by omega,by go_num,by rw[HTS.out],by rw[HTS.out],HWR.out.alloc HWR.out.size _⟩
    case measure=>simp[intOf];omega
  . have e:ps.take k=ps:=List.take_of_length_le (by rw[←HN.out];omega)
    rw[e];obtain⟨A,hA⟩:∃A,(Jar ps).1=A:=⟨_,rfl⟩;obtain⟨B,hB⟩:∃B,(Jar ps).2=B:=⟨_,rfl⟩;have HA:=hdz hA;have HB:=hdz hB;rw[hA,hB];clear e hA hB R3;go_wp2
    go_ret2
    exact⟨by rw[HA.out,HB.out];rfl,hwr⟩
theorem JbD(v:Value)(ps:List Pt)(w:World)(hr:opAt w v ps)(hl:ps.length<10000000) :
    Calls Tryz.prog 184 #[v] w fun e w'=>e=.returned (.tuple #[.int .i64 (Jar ps).1,.int .i64 (Jar ps).2])/\Below w.heap.size w w':=by
 obtain⟨p,c,rfl,r1,r2,r3⟩:=hr;obtain⟨n,hn⟩:∃n,n=ps.length:=⟨_,rfl⟩;rw[←hn]at r1 hl ⊢;have HN:=hdz hn;clear hn
 have R3:Hid (ps≠[]->∃b o,p=some ⟨b,o,none⟩/\b<w.heap.size/\∀i q,ps[i]?=some q ->
  w.cell? ⟨b,o+i*3,none⟩=some (.int .i64 q.keep)/\w.cell? ⟨b,o+i*3+1,none⟩=some (.int .i64 q.drop)/\w.cell? ⟨b,o+i*3+2,none⟩=some (.string ⟨q.put.toArray⟩)):=r3
 clear r3
 go_enter Tryz.func184,Tryz.ntmps184
 go_wp2
 go_loopw [4,5,10] (fun x y i wr=>∃(k:Nat),k<=n/\i=.int .i64 k/\x=.int .i64 (Jar (ps.take k)).1/\y=.int .i64 (Jar (ps.take k)).2/\Below w.heap.size w wr) (fun _ _ i _=>n - (intOf i).toNat)
 case atStart=>exact⟨0,Nat.zero_le _,rfl,rfl,rfl,brf _ _⟩
 case round =>
  obtain⟨k,hk,rfl,rfl,rfl,hwr⟩:=hrel
  by_cases hlt:k<n
  . have hkr:k<ps.length:=by rw[←HN.out];exact hlt
    have hne:ps≠[]:=by intro e;rw[e]at hkr;exact absurd hkr (Nat.not_lt_zero _)
    obtain⟨b,o,rfl,hbw,hcell⟩:=R3.out hne;obtain⟨c0,c1,c2⟩:=hcell k ps[k] (lgg hkr);have g0:=(hwr.cell (p:=⟨b,o+k*3,none⟩) hbw).trans c0;have g1:=(hwr.cell (p:=⟨b,o+k*3+1,none⟩) hbw).trans c1;have g2:=(hwr.cell (p:=⟨b,o+k*3+2,none⟩) hbw).trans c2;have hts:Jar (ps.take (k+1))=lenW (Jar (ps.take k)) ps[k]:=by
     unfold Jar;rw[List.take_succ_eq_append_getElem hkr,List.foldl_append];rfl
    generalize ps[k]=q at *;generalize Jar (ps.take k)=AB at *;obtain⟨A,B⟩:=AB;obtain⟨K,D,U⟩:=q;unfold lenW at hts;simp only at hts g0 g1 g2 ⊢;obtain⟨x1,h1⟩:∃x,IntKind.i64.wrap (K+D)=x:=⟨_,rfl⟩;obtain⟨x2,h2⟩:∃x,IntKind.i64.wrap (K+(U.length:Int))=x:=⟨_,rfl⟩;obtain⟨y1,h3⟩:∃x,IntKind.i64.wrap (A+x1)=x:=⟨_,rfl⟩;obtain⟨y2,h4⟩:∃x,IntKind.i64.wrap (B+x2)=x:=⟨_,rfl⟩;rw[h1,h2,h3,h4]at hts;have HTS:=hdz hts;have HWR:=hdz hwr;clear hcell c0 c1 c2 hts hwr;go_wp2
    go_roundw
    case rel=>exact⟨k+1,by omega,by go_num,by rw[HTS.out],by rw[HTS.out],HWR.out.alloc HWR.out.size _⟩
    case measure=>simp[intOf];omega
  . have e:ps.take k=ps:=List.take_of_length_le (by rw[←HN.out];omega)
    rw[e];obtain⟨A,hA⟩:∃A,(Jar ps).1=A:=⟨_,rfl⟩;obtain⟨B,hB⟩:∃B,(Jar ps).2=B:=⟨_,rfl⟩;have HA:=hdz hA;have HB:=hdz hB;rw[hA,hB];clear e hA hB R3;go_wp2
    go_ret2
    exact⟨by rw[HA.out,HB.out];rfl,hwr⟩
def fewP (p:Pt):Bool:=!(decide (300<(p.put.length:Int)) || decide (5000<p.keep) || decide (5000<p.drop))
def fewB (ps:List Pt):Bool:=decide (ps.length<=100) && ps.all fewP
theorem few_any(v:Value)(ps:List Pt)(w:World)(hr:opAt w v ps)(hl:ps.length<10000000) :
    Calls Tryz.prog 31 #[v] w fun e w'=>e=.returned (.bool (fewB ps))/\Below w.heap.size w w':=by
 obtain⟨p,c,rfl,r1,r2,r3⟩:=hr
 by_cases hm:100<ps.length
 . have hb:fewB ps=false:=by unfold fewB;rw[decide_eq_false (by omega)];rfl
   rw[hb];have hm':(100:Int)<(ps.length:Int):=by omega
   clear r3
   go_enter Tryz.func31,Tryz.ntmps31
   go_wp2;go_ret;exact⟨rfl,brf _ _⟩
 have hb:fewB ps=ps.all fewP:=by unfold fewB;rw[decide_eq_true (by omega)];rfl
 rw[hb];obtain⟨n,hn⟩:∃n,n=ps.length:=⟨_,rfl⟩;rw[←hn]at r1 hl hm ⊢;have HN:=hdz hn;have hm':¬(100:Int)<(n:Int):=by omega
 clear hn hb hm
 have R3:Hid (ps≠[]->∃b o,p=some ⟨b,o,none⟩/\b<w.heap.size/\∀i q,ps[i]?=some q ->
  w.cell? ⟨b,o+i*3,none⟩=some (.int .i64 q.keep)/\w.cell? ⟨b,o+i*3+1,none⟩=some (.int .i64 q.drop)/\w.cell? ⟨b,o+i*3+2,none⟩=some (.string ⟨q.put.toArray⟩)):=r3
 clear r3;obtain⟨R,hR⟩:∃R,ps.all fewP=R:=⟨_,rfl⟩;have HR:=hdz hR;rw[hR];clear hR
 go_enter Tryz.func31,Tryz.ntmps31
 go_wp2
 go_loopw [3] (fun i wr=>∃(k:Nat),k<=n/\i=.int .i64 k/\(ps.drop k).all fewP=R/\Below w.heap.size w wr) (fun i _=>n - (intOf i).toNat)
 case atStart=>exact⟨0,Nat.zero_le _,rfl,HR.out,brf _ _⟩
 case round =>
  obtain⟨k,hk,rfl,hch,hwr⟩:=hrel
  by_cases hlt:k<n
  . have hkr : k<ps.length:=by rw[←HN.out];exact hlt
    have hne:ps≠[]:=by intro e;rw[e]at hkr;exact absurd hkr (Nat.not_lt_zero _)
    obtain⟨b,o,rfl,hbw,hcell⟩:=R3.out hne;obtain⟨c0,c1,c2⟩:=hcell k ps[k] (lgg hkr);have g0:=(hwr.cell (p:=⟨b,o+k*3,none⟩) hbw).trans c0;have g1:=(hwr.cell (p:=⟨b,o+k*3+1,none⟩) hbw).trans c1;have g2:=(hwr.cell (p:=⟨b,o+k*3+2,none⟩) hbw).trans c2;rw[List.drop_eq_getElem_cons hkr,List.all_cons]at hch;generalize ps[k]=q at *;obtain⟨K,D,U⟩:=q;unfold fewP at hch;simp only at hch g0 g1 g2
    by_cases h1:(300:Int)<(U.length:Int)
    . have hRf:R=false:=by rw[←hch,decide_eq_true h1];rfl
      subst hRf;clear hcell c0 c1 c2 hch HR;go_wp2;go_ret;exact⟨rfl,hwr⟩
    . by_cases h2:(5000:Int)<K
      . have hRf:R=false:=by rw[←hch,decide_eq_true h2,decide_eq_false h1];rfl
        subst hRf;clear hcell c0 c1 c2 hch HR;go_wp2;go_ret;exact⟨rfl,hwr⟩
      . by_cases h3:(5000:Int)<D
        . have hRf:R=false:=by rw[←hch,decide_eq_true h3,decide_eq_false h1,decide_eq_false h2];rfl
          subst hRf;clear hcell c0 c1 c2 hch HR;go_wp2;go_ret;exact⟨rfl,hwr⟩
        . have HCH:Hid ((ps.drop (k+1)).all fewP=R):=by
            show _=_;rw[decide_eq_false h1,decide_eq_false h2,decide_eq_false h3]at hch;exact hch
          clear hcell c0 c1 c2 hch HR;go_wp2
          go_roundw
          case rel=>exact⟨k+1,by omega,by go_num,HCH.out,hwr⟩
          case measure=>simp[intOf];omega
  . have e:ps.drop k=[]:=List.drop_of_length_le (by rw[←HN.out];omega)
    rw[e]at hch;have hRf:R=true:=by rw[←hch];rfl
    subst hRf;clear e R3 hch HR;go_wp2;go_ret;exact⟨rfl,hwr⟩
theorem Jth(v v':Value)(ps:List Pt)(w:World)(h1:opAt w v ps)(h2:opAt w v' ps)(hl:ps.length<10000000) :
    Calls Tryz.prog 18 #[v,v'] w fun e w'=>e=.returned (.bool true)/\Below w.heap.size w w':=by
 obtain⟨p1,c1,rfl,a1,a2,a3⟩:=h1;obtain⟨p2,c2,rfl,b1,b2,b3⟩:=h2;obtain⟨n,hn⟩:∃n,n=ps.length:=⟨_,rfl⟩;rw[←hn]at a1 b1 hl ⊢;have HN:=hdz hn;clear hn
 have A3:Hid (ps≠[]->∃b o,p1=some ⟨b,o,none⟩/\b<w.heap.size/\∀i q,ps[i]?=some q ->
  w.cell? ⟨b,o+i*3,none⟩=some (.int .i64 q.keep)/\w.cell? ⟨b,o+i*3+1,none⟩=some (.int .i64 q.drop)/\w.cell? ⟨b,o+i*3+2,none⟩=some (.string ⟨q.put.toArray⟩)):=a3
 have B3:Hid (ps≠[]->∃b o,p2=some ⟨b,o,none⟩/\b<w.heap.size/\∀i q,ps[i]?=some q ->
  w.cell? ⟨b,o+i*3,none⟩=some (.int .i64 q.keep)/\w.cell? ⟨b,o+i*3+1,none⟩=some (.int .i64 q.drop)/\w.cell? ⟨b,o+i*3+2,none⟩=some (.string ⟨q.put.toArray⟩)):=b3
 clear a3 b3
 go_enter Tryz.func18,Tryz.ntmps18
 go_wp2
 go_loopw [13] (fun i wr=>∃k:Nat,k<=n/\i=.int .i64 k/\Below w.heap.size w wr) (fun i _=>n - (intOf i).toNat)
 case atStart=>exact⟨0,Nat.zero_le _,rfl,brf _ _⟩
 case round =>
  obtain⟨k,hk,rfl,hwr⟩:=hrel
  by_cases hlt:k<n
  . have hkr:k<ps.length:=by rw[←HN.out];exact hlt
    have hne:ps≠[]:=by intro e;rw[e]at hkr;exact absurd hkr (Nat.not_lt_zero _)
    obtain⟨x1,o1,rfl,hx1,hc1⟩:=A3.out hne;obtain⟨x2,o2,rfl,hx2,hc2⟩:=B3.out hne;obtain⟨d0,d1,d2⟩:=hc1 k ps[k] (lgg hkr);obtain⟨e0,e1,e2⟩:=hc2 k ps[k] (lgg hkr);have g0:=(hwr.cell (p:=⟨x1,o1+k*3,none⟩) hx1).trans d0;have g1:=(hwr.cell (p:=⟨x1,o1+k*3+1,none⟩) hx1).trans d1;have g2:=(hwr.cell (p:=⟨x1,o1+k*3+2,none⟩) hx1).trans d2;have g3:=(hwr.cell (p:=⟨x2,o2+k*3,none⟩) hx2).trans e0;have g4:=(hwr.cell (p:=⟨x2,o2+k*3+1,none⟩) hx2).trans e1;have g5:=(hwr.cell (p:=⟨x2,o2+k*3+2,none⟩) hx2).trans e2;generalize ps[k]=q at *;obtain⟨K,D,U⟩:=q;simp only at g0 g1 g2 g3 g4 g5;clear hc1 hc2 A3 B3 hne d0 d1 d2 e0 e1 e2;go_wp2
    go_region
    all_goals
     go_wp2
     go_roundw
     case rel=>exact⟨k+1,by omega,by go_num,hwr.drew⟩
     case measure=>simp[intOf];omega
  . clear A3 B3
    go_wp2;go_ret;exact⟨rfl,hwr⟩
variable {n : Nat}{g : GSt}
theorem Jsr:(Tryz.prog.info? 9).map (fun i=>(i.zero,i.size,i.bytes))=some (some (.string ⟨#[]⟩),1,16):=by kernel_rfl
theorem JqF:(Tryz.prog.info? 4).map (fun i=>(i.zero,i.size,i.bytes))=some (some (.bool false),1,1):=by kernel_rfl
theorem Jto(n:Nat)(hn:n<100000000)(W:World):(Instr.makeSlice 80 (.int .i64 ((n:Int)+1)) (.int .i64 ((n:Int)+1))).run Tryz.prog W=.ok (.slice (some ⟨W.heap.size,0,none⟩) (n+1) (n+1)) (W.alloc (.cells (madeCells #[.string ⟨#[]⟩] (n+1)) 9)):=by
 obtain⟨i0,hi,hz0,hz1,hz2⟩:=info_parts Jsr;have h:=run_make (P:=Tryz.prog) W 80 9 i0 (.string ⟨#[]⟩) Tryz.underlying80 hi hz0 .i64 .i64 ((n:Int)+1) ((n:Int)+1) (by omega) (Int.le_refl _) (by rw[hz2];omega) (by omega);rw[h];have e:((n:Int)+1).toNat=n+1:=by omega
 rw[e,hz1];simp[Value.cells]
theorem Jq4(n:Nat)(hn:n<100000000)(W:World):(Instr.makeSlice 290 (.int .i64 (n:Int)) (.int .i64 (n:Int))).run Tryz.prog W=.ok (.slice (some ⟨W.heap.size,0,none⟩) n n) (W.alloc (.cells (madeCells #[.bool false] n) 4)):=by
 obtain⟨i0,hi,hz0,hz1,hz2⟩:=info_parts JqF;have h:=run_make (P:=Tryz.prog) W 290 4 i0 (.bool false) Tryz.underlying290 hi hz0 .i64 .i64 (n:Int) (n:Int) (by omega) (Int.le_refl _) (by rw[hz2];omega) (by omega);rw[h];have e:((n:Int)).toNat=n:=by omega
 rw[e,hz1];simp[Value.cells]
def Jci (n:Nat) (g:GSt):List (List UInt8):=g.1.map (·.1)++g.2 :: List.replicate (n - g.1.length) []
def JbY (n:Nat) (g:GSt):List Bool:=g.1.map (·.2)++List.replicate (n - g.1.length) false
def strV (u:List UInt8):Value:=.string ⟨u.toArray⟩
theorem JiQ(h:g.1.length<n)(d:Bool):Jci n (tick d g)=Jci n g:=by
 unfold Jci tick;simp only[List.map_append,List.map_cons,List.map_nil,List.length_append,List.length_cons,List.length_nil,List.append_assoc,List.singleton_append];obtain⟨k,hk⟩:∃k,n - g.1.length=k+1:=⟨n - g.1.length - 1,by omega⟩;have e:n - (g.1.length+(0+1))=k:=by omega
 rw[e,hk,List.replicate_succ]
theorem Jiv(h:g.1.length<n)(d:Bool):JbY n (tick d g)=(JbY n g).set g.1.length d:=by
 unfold JbY tick;obtain⟨k,hk⟩:∃k,n - g.1.length=k+1:=⟨n - g.1.length - 1,by omega⟩;have e:n - (g.1.length+1)=k:=by omega
 have hl:(g.1.map (·.2)).length=g.1.length:=by simp
 rw[List.set_append_right _ _ (by rw[hl];exact nlr _),hl,Nat.sub_self,hk,List.replicate_succ,List.set_cons_zero];simp[e]
theorem JlZ(h:g.1.length<n):(JbY n g)[g.1.length]?=some false:=by
 unfold JbY;obtain⟨k,hk⟩:∃k,n - g.1.length=k+1:=⟨n - g.1.length - 1,by omega⟩;rw[List.getElem?_append_right (by simp),List.length_map,Nat.sub_self,hk,List.replicate_succ];rfl
theorem JrN:(Jci n g)[g.1.length]?=some g.2:=by
 unfold Jci;rw[List.getElem?_append_right (by simp)];simp
theorem JpV(u:List UInt8):Jci n (g.1,u)=(Jci n g).set g.1.length u:=by
 unfold Jci;have hl:(g.1.map (·.1)).length=g.1.length:=by simp
 rw[List.set_append_right _ _ (by rw[hl];exact nlr _),hl,Nat.sub_self,List.set_cons_zero]
theorem JhM{n:Nat}:∀(k:Nat)(g:GSt),g.1.length+k<=n->Jci n (JbC false k g)=Jci n g/\JbY n (JbC false k g)=JbY n g
 | 0,_,_=>⟨rfl,rfl⟩
 | k+1,g,h=>by
  have hl:(tick false g).1.length=g.1.length+1:=by simp[tick]
  obtain⟨h1,h2⟩:=JhM (n:=n) k (tick false g) (by rw[hl];omega);rw[JbC,h1,h2,JiQ (n:=n) (g:=g) (by omega),Jiv (n:=n) (g:=g) (by omega)];refine⟨rfl,?_⟩;have:=JlZ (n:=n) (g:=g) (by omega);have hlt:g.1.length<(JbY n g).length:=(llt this);rw[lgg hlt]at this;have e:=osi this;rw[←e];exact List.set_getElem_self hlt
theorem JhF{n:Nat}:∀(k:Nat)(g:GSt),g.1.length+k<=n->Jci n (JbC true k g)=Jci n g
 | 0,_,_=>rfl
 | k+1,g,h=>by
  have hl:(tick true g).1.length=g.1.length+1:=by simp[tick]
  rw[JbC,JhF k (tick true g) (by rw[hl];omega),JiQ (n:=n) (g:=g) (by omega)]
theorem Jdb(ps:List Pt)(p:Pt):Jah (ps++[p])=Jbh (Jah ps) p:=by simp[Jah]
theorem Je8(g:GSt)(p:Pt):(Jbh g p).1.length=g.1.length+p.drop.toNat+p.keep.toNat:=by
 unfold Jbh;rw[JdI,JdI]
theorem Joy(ps:List Pt)(k:Nat):(Jah (ps.take k)).1.length<=(Jah ps).1.length:=by
 have key:∀(l:List Pt) (g:GSt),g.1.length<=(l.foldl Jbh g).1.length:=by
  intro l
  induction l with
  | nil=>intro g;exact nlr _
  | cons p l ih =>
   intro g;rw[List.foldl_cons];have:=ih (Jbh g p);rw[Je8]at this;omega
 have e:Jah ps=(ps.drop k).foldl Jbh (Jah (ps.take k)):=by
  unfold Jah;rw[←List.foldl_append,List.take_append_drop]
 rw[e];exact key _ _
def isP (p:Pt):Int:=p.keep+p.put.length
theorem Jcx(ps:List Pt)(h:∀p∈ps,Jbc p)(hw:wts ps<4611686018427387904):(Jar ps).1=(Jah ps).1.length/\(Jar ps).2=(ps.map isP).sum/\((Jah ps).1.length:Int)<=wts ps/\(ps.map isP).sum<=wts ps:=by
 have key:∀k,k<=ps.length->(Jar (ps.take k)).1=(Jah (ps.take k)).1.length/\(Jar (ps.take k)).2=((ps.take k).map isP).sum/\((Jah (ps.take k)).1.length:Int)<=wts (ps.take k)/\((ps.take k).map isP).sum<=wts (ps.take k)/\0<=((ps.take k).map isP).sum:=by
  intro k
  induction k with
  | zero=>intro _;simp[Jar,Jah,wts]
  | succ k ih =>
   intro hk;obtain⟨h1,h2,h3,h4,h5⟩:=ih (by omega);have hp:=h _ (List.getElem_mem (show k<ps.length by omega));have ht:=Jht h (k+1);have hts:ps.take (k+1)=ps.take k++[ps[k]]:=List.take_succ_eq_append_getElem (by omega);have hls:Jar (ps.take (k+1))=lenW (Jar (ps.take k)) ps[k]:=by
    unfold Jar;rw[hts,List.foldl_append];rfl
   rw[hls,hts,Jdb,Je8,Je3,List.map_append,List.sum_append];rw[hts,Je3]at ht;generalize ps[k]=q at *;obtain⟨q1,q2⟩:=hp;have hwq:wtP q=q.keep+q.drop+q.put.length:=rfl;have hiq:([q].map isP).sum=q.keep+q.put.length:=by simp[isP]
   rw[hiq];unfold lenW;simp only;rw[h1,h2];have w1:IntKind.i64.wrap (q.keep+q.drop)=q.keep+q.drop:=by rw[IntKind.wrap_i64];omega
   have w2:IntKind.i64.wrap (q.keep+(q.put.length:Int))=q.keep+q.put.length:=by rw[IntKind.wrap_i64];omega
   rw[w1,w2];have w3:IntKind.i64.wrap (((Jah (ps.take k)).1.length:Int)+(q.keep+q.drop))=((Jah (ps.take k)).1.length:Int)+(q.keep+q.drop):=by rw[IntKind.wrap_i64];omega
   have w4:IntKind.i64.wrap (((ps.take k).map isP).sum+(q.keep+(q.put.length:Int)))=((ps.take k).map isP).sum+(q.keep+q.put.length):=by rw[IntKind.wrap_i64];omega
   rw[w3,w4];refine⟨by omega,rfl,by omega,by omega,by omega⟩
 have:=key ps.length (nlr _);rw[List.take_length]at this;exact⟨this.1,this.2.1,this.2.2.1,this.2.2.2.1⟩
theorem Jh9(d:Bool):∀(n:Nat)(g:GSt),(JbC d n g).2.length<=g.2.length
 | 0,_=>nlr _
 | n+1,g=>by
  have:=Jh9 d n (tick d g);rw[JbC];have e:(tick d g).2.length=0:=rfl;omega
theorem Jmu(ps:List Pt)(h:∀p∈ps,Jbc p)(k:Nat)(hk:k<=ps.length):((Jah (ps.take k)).2.length:Int)<=wts (ps.take k):=by
 induction k with
 | zero=>simp[Jah,wts]
 | succ k ih =>
  have h1:=ih (by omega);have hp:=h _ (List.getElem_mem (show k<ps.length by omega));rw[List.take_succ_eq_append_getElem (by omega),Jdb,Je3];generalize ps[k]=q at *;obtain⟨q1,q2⟩:=hp;have hwq:wtP q=q.keep+q.drop+q.put.length:=rfl;have h2:=Jh9 false q.keep.toNat (JbC true q.drop.toNat ((Jah (ps.take k)).1,(Jah (ps.take k)).2++q.put));have h3:=Jh9 true q.drop.toNat ((Jah (ps.take k)).1,(Jah (ps.take k)).2++q.put);have h4:((Jah (ps.take k)).2++q.put).length=(Jah (ps.take k)).2.length+q.put.length:=List.length_append;have h5:(Jbh (Jah (ps.take k)) q).2.length<=((Jah (ps.take k)).2++q.put).length:=Nat.le_trans h2 h3;omega
theorem wp_key{P:Program}{c:Code}{Q:Exit->Act->World->Prop}{a:Act}{w:World}(F:Act->World->Prop)(h1:∀Q':Exit->Act->World->Prop,(∀a' w',F a' w'->Q' .normal a' w')->c.wp P Q' a w)(h2:∀a' w',F a' w'->Q .normal a' w'):c.wp P Q a w:=h1 Q h2
theorem Jgd{w:World}{B e size b o:Nat}{v:Value}{xs:List Value}(h:w.ownsRow B e size v n xs)(hb:b<B)(u:Value):(w.setCell ⟨b,o,none⟩ u).ownsRow B e size v n xs:=by
 obtain⟨h0,hrow⟩:=h;refine⟨h0,?_⟩
 rcases hrow with hn|⟨g,cap,cur,rfl,hg,hgg,rest⟩
 . exact .inl hn
 . exact .inr ⟨g,cap,cur,rfl,hg,(Below.heap_setCell _ _ _ _ (by show g≠b;omega)).trans hgg,rest⟩
theorem Jc7(w:World)(o1 o2 o3:Obj):Below w.heap.size w (((w.alloc o1).alloc o2).alloc o3).drew :=
 ((((brf w.heap.size w).alloc (nlr _) o1).alloc (by simp) o2).alloc (by rw[wsa,World.size_alloc];omega) o3).drew
theorem JaC(W:World)(B n g:Nat)(z:Value)(T:TypeId)(hg:W.heap.size=g)(hB:B<=g)(hn:n<=maxLen):(W.alloc (.cells (madeCells #[z] n) T)).ownsRow B T 1 (.slice (some ⟨g,0,none⟩) n n) n (List.replicate n z):=by
 subst hg;have:=World.ownsRow_lit (base:=B) (e:=T) (size:=1) W (madeCells #[z] n) n hB hn (by rw[size_madeCells];simp);rwa[toList_madeCells_one]at this
theorem Je0(v:Value)(ps:List Pt)(w:World)(hr:opAt w v ps)(hs:∀p∈ps,Jbc p)(hw:wts ps<10000000)(hl:ps.length<10000000)(n:Nat)(hn:(Jah ps).1.length=n) :
    Calls Tryz.prog 188 #[v] w fun e w'=>∃g1 g2,e=.returned (.agg #[.slice (some ⟨g1,0,none⟩) (n+1) (n+1),.slice (some ⟨g2,0,none⟩) n n]) /\
     w'.ownsRow w.heap.size 9 1 (.slice (some ⟨g1,0,none⟩) (n+1) (n+1)) (n+1) ((Jci n (Jah ps)).map strV)/\w'.ownsRow w.heap.size 4 1 (.slice (some ⟨g2,0,none⟩) n n) n ((JbY n (Jah ps)).map Value.bool)/\Below w.heap.size w w':=by
 have cL:=fun wx hb=>JbD v ps wx (JaK hr hb (nlr _)) hl;obtain⟨hp1,_,hp3,_⟩:=Jcx ps hs (by omega);rw[hp1,hn]at cL;have hn':n<10000000:=by omega
 have HNS:=hdz hn;obtain⟨l2,hl2⟩:∃l2,(Jar ps).2=l2:=⟨_,rfl⟩;rw[hl2]at cL;obtain⟨p,c,rfl,r1,r2,r3⟩:=hr;obtain⟨m,hm⟩:∃m,m=ps.length:=⟨_,rfl⟩;rw[←hm]at r1 hl cL ⊢;have HM:=hdz hm
 have R3:Hid (ps≠[]->∃b o,p=some ⟨b,o,none⟩/\b<w.heap.size/\∀i q,ps[i]?=some q ->
  w.cell? ⟨b,o+i*3,none⟩=some (.int .i64 q.keep)/\w.cell? ⟨b,o+i*3+1,none⟩=some (.int .i64 q.drop)/\w.cell? ⟨b,o+i*3+2,none⟩=some (.string ⟨q.put.toArray⟩)):=r3
 have HS:=hdz hs;have HW:=hdz hw;have hm1:=Jto n (by omega);have hm2:=Jq4 n (by omega);have hwn:IntKind.i64.wrap ((n:Int)+1)=(n:Int)+1:=by rw[IntKind.wrap_i64];omega
 clear hs hw hn hp1 hp3 hl2 hm r3
 go_enter Tryz.func188,Tryz.ntmps188
 go_wp2_with (go_at_call 184;refine(cL _ ((brf _ _).alloc (nlr _) _)).mono ?_;rintro e w1 ⟨rfl,hb1⟩)
 have hB1:Below w.heap.size w w1:=((brf _ _).alloc (nlr _) _).trans (hb1.mono (by simp));have hs1:w.heap.size<w1.heap.size:=by have:=hb1.size;rw[wsa]at this;omega
 have x0:w1.cell? ⟨w.heap.size,0,none⟩=some (.slice none 0 0):=(hb1.cell (p:=⟨w.heap.size,0,none⟩) (by simp)).trans (by simp[go_sem]);have x1:w1.cell? ⟨w.heap.size,1,none⟩=some (.slice none 0 0):=(hb1.cell (p:=⟨w.heap.size,1,none⟩) (by simp)).trans (by simp[go_sem]);have x2:w1.frozen? ⟨w.heap.size,0,none⟩=false:=(hb1.frozen (p:=⟨w.heap.size,0,none⟩) (by simp)).trans (by simp[go_sem]);have x3:w1.frozen? ⟨w.heap.size,1,none⟩=false:=(hb1.frozen (p:=⟨w.heap.size,1,none⟩) (by simp)).trans (by simp[go_sem]);clear hb1 cL
 refine wp_key (F:=fun a' w'=>∃g1 g2 b,a' = { tmps:=#[.slice p m c,undef,.pointer (some ⟨w.heap.size,0,none⟩),.int .i64 n,.int .i64 l2,.pointer (some ⟨b,0,none⟩),undef,undef,undef,.tuple #[.int .i64 n,.int .i64 l2],.slice p m c,.tuple #[.int .i64 n,.int .i64 l2],.int .i64 n,.int .i64 l2,.int .i64 n,.int .i64 ((n:Int)+1),
     .slice (some ⟨g1,0,none⟩) (n+1) (n+1),.int .i64 n,.slice (some ⟨g2,0,none⟩) n n,.agg #[.slice (some ⟨g1,0,none⟩) (n+1) (n+1),.slice (some ⟨g2,0,none⟩) n n],
     undef,undef,undef,undef,undef,undef,undef,undef,undef,undef,undef,undef,undef,undef,undef,undef,undef,undef,undef,undef,undef,undef,undef,undef,undef,undef,undef,undef,undef,undef,undef,undef],defers:=[] } /\
     w'.ownsRow (w.heap.size+1) 9 1 (.slice (some ⟨g1,0,none⟩) (n+1) (n+1)) (n+1) (List.replicate (n+1) (.string ⟨#[]⟩))/\w'.ownsRow (w.heap.size+1) 4 1 (.slice (some ⟨g2,0,none⟩) n n) n (List.replicate n (.bool false)) /\
     w'.cell? ⟨b,0,none⟩=some (.slice (some ⟨g1,0,none⟩) (n+1) (n+1))/\w'.cell? ⟨b,1,none⟩=some (.slice (some ⟨g2,0,none⟩) n n)/\b≠g1/\b≠g2/\w.heap.size<b/\Below w1.heap.size w1 w') ?_ ?_
 . intro Q' hQ
   go_region
   all_goals
    have hm0:n+1<=maxLen:=by unfold maxLen;omega
    have hm3:n<=maxLen:=by omega
    refine hQ _ _ ⟨_,_,_,rfl,?_,?_,by simp[go_sem],by simp[go_sem],by omega,by omega,by omega,?_⟩
    . first
        | exact(JaC _ _ _ _ _ _ (by simp) (by omega) hm0).drew
        | exact((JaC _ _ _ _ _ _ (by simp) (by omega) hm0).alloc _).drew
        | exact(((JaC _ _ _ _ _ _ (by simp) (by omega) hm0).alloc _).alloc _).drew
    . first
        | exact(JaC _ _ _ _ _ _ (by simp) (by omega) hm3).drew
        | exact((JaC _ _ _ _ _ _ (by simp) (by omega) hm3).alloc _).drew
        | exact(((JaC _ _ _ _ _ _ (by simp) (by omega) hm3).alloc _).alloc _).drew
    . exact Jc7 _ _ _ _
 . rintro a' w2 ⟨g1,g2,b,rfl,hO1,hO2,hc0,hc1,hn1,hn2,hb0,hb2⟩
   have HB2:Hid (Below w.heap.size w w2):=hB1.trans (hb2.mono (by omega));have y0:=(hb2.cell (p:=⟨w.heap.size,0,none⟩) hs1).trans x0;have y1:=(hb2.cell (p:=⟨w.heap.size,1,none⟩) hs1).trans x1;have y2:=(hb2.frozen (p:=⟨w.heap.size,0,none⟩) hs1).trans x2;have y3:=(hb2.frozen (p:=⟨w.heap.size,1,none⟩) hs1).trans x3;have hg1:=(hO1.lt g1 rfl);have hg2:=(hO2.lt g2 rfl);have hbl:=blt w2 _ hc0;have hng:g1≠g2:=by
    have:=JiZ hO1 hO2 (by decide)
    rcases this with h|h
    . cases h
    . intro e;subst e;exact h rfl
   have HST:Hid (Jci n ([],[])=List.replicate (n+1) []):=by show _=_;rfl
   have hO1':w2.ownsRow (w.heap.size+1) 9 1 (.slice (some ⟨g1,0,none⟩) (n+1) (n+1)) (n+1) ((Jci n (Jah (ps.take 0))).map strV):=by
    have e:(Jci n (Jah (ps.take 0))).map strV=List.replicate (n+1) (.string ⟨#[]⟩):=by
     show(Jci n ([],[])).map strV=_;rw[HST.out,List.map_replicate];rfl
    rw[e];exact hO1
   have hO2':w2.ownsRow (w.heap.size+1) 4 1 (.slice (some ⟨g2,0,none⟩) n n) n ((JbY n (Jah (ps.take 0))).map Value.bool):=by
    have e:(JbY n (Jah (ps.take 0))).map Value.bool=List.replicate n (.bool false):=by
     show((List.replicate n false)).map Value.bool=_;rw[List.map_replicate]
    rw[e];exact hO2
   have HO1:Hid _:=hO1';have HO2:Hid _:=hO2';clear hO1 hO2 hO1' hO2' x0 x1 x2 x3 hb2 hB1 hm1 hm2 HST;go_wp2
   go_loopw [6,22] (fun at_ i wr=>∃(k:Nat),k<=m/\i=.int .i64 k/\at_=.int .i64 (Jah (ps.take k)).1.length /\
       wr.ownsRow (w.heap.size+1) 9 1 (.slice (some ⟨g1,0,none⟩) (n+1) (n+1)) (n+1) ((Jci n (Jah (ps.take k))).map strV)/\wr.ownsRow (w.heap.size+1) 4 1 (.slice (some ⟨g2,0,none⟩) n n) n ((JbY n (Jah (ps.take k))).map Value.bool) /\
       wr.cell? ⟨b,0,none⟩=some (.slice (some ⟨g1,0,none⟩) (n+1) (n+1))/\wr.cell? ⟨b,1,none⟩=some (.slice (some ⟨g2,0,none⟩) n n) /\
       wr.cell? ⟨w.heap.size,0,none⟩=some (.slice none 0 0)/\wr.cell? ⟨w.heap.size,1,none⟩=some (.slice none 0 0)/\wr.frozen? ⟨w.heap.size,0,none⟩=false/\wr.frozen? ⟨w.heap.size,1,none⟩=false/\Below w.heap.size w wr) (fun _ i _=>m - (intOf i).toNat)
   case atStart=>exact⟨0,Nat.zero_le _,rfl,rfl,HO1.out,HO2.out,hc0,hc1,y0,y1,y2,y3,HB2.out⟩
   case round =>
    obtain⟨k,hk,rfl,rfl,hO1,hO2,z0,z1,z2,z3,z4,z5,hwr⟩:=hrel;clear HO1 HO2 hc0 hc1 y0 y1 y2 y3
    by_cases hlt:k<m
    . have hkr : k<ps.length:=by rw[←HM.out];exact hlt
      have hne:ps≠[]:=by intro e;rw[e]at hkr;exact absurd hkr (Nat.not_lt_zero _)
      obtain⟨pb,po,rfl,hbw,hcell⟩:=R3.out hne;obtain⟨c0,c1,c2⟩:=hcell k ps[k] (lgg hkr);have e0:=(hwr.cell (p:=⟨pb,po+k*3,none⟩) hbw).trans c0;have e1:=(hwr.cell (p:=⟨pb,po+k*3+1,none⟩) hbw).trans c1;have e2:=(hwr.cell (p:=⟨pb,po+k*3+2,none⟩) hbw).trans c2;have hsp:=HS.out ps[k] (List.getElem_mem _);have hle:=Joy ps (k+1);have hpu:=Jmu ps HS.out k (by omega);have hpt:=Jht HS.out (k+1);rw[List.take_succ_eq_append_getElem hkr,Je3]at hpt;have hpw:=HW.out;rw[HNS.out,List.take_succ_eq_append_getElem hkr,Jdb,Je8]at hle;have HSN:Hid (Jah (ps.take (k+1))=Jbh (Jah (ps.take k)) ps[k]):=by
       show _=_;rw[List.take_succ_eq_append_getElem hkr,Jdb]
      generalize ps[k]=q at *;generalize Jah (ps.take k)=G at *;obtain⟨K,D,U⟩:=q;obtain⟨s1,s2⟩:=hsp;simp only at e0 e1 e2 hle s1 s2;have hcb:¬9223372036854775807<G.2.length+U.length:=by
       have:wtP ⟨K,D,U⟩=K+D+U.length:=rfl;omega
      have hat:G.1.length<=n:=by omega
      have i0:(Jci n G).map strV=((Jci n G).map strV):=rfl;have hstr:wr.cell? ⟨g1,G.1.length,none⟩=some (.string ⟨G.2.toArray⟩):=by
       rw[hO1.cellAt _ (by omega),List.getElem?_map,JrN];rfl
      have hsf:=hO1.frozenAt G.1.length;have hgl1:=(hO1.lt g1 rfl).2;have hgl2:=(hO2.lt g2 rfl).2;have hbl':=blt wr _ z0;have hcat:=Jd5 G.2 U;have t1:((G.1.length:Nat):Int)<(n:Int)+1:=by omega
      have t0:(0:Int)<=((G.1.length:Nat):Int):=by omega
      have HO1:=hdz hO1;have HO2:=hdz hO2;have HWR:=hdz hwr;clear hcell c0 c1 c2 i0 hO1 hO2 hwr hpu hpt hpw;go_wp2
      go_region
      obtain⟨r1,r2⟩:=HO1.out.stored G.1.length (strV (G.2++U));have q1:((wr.setCell ⟨g1,G.1.length,none⟩ (strV (G.2++U))).alloc (.cells #[.int .i64 K,.int .i64 D,.string ⟨U.toArray⟩] 50)).drew.ownsRow (w.heap.size+1) 9 1 (.slice (some ⟨g1,0,none⟩) (n+1) (n+1)) (n+1) ((Jci n (G.1,G.2++U)).map strV):=by
       rw[JpV,List.map_set];exact(World.ownsRow.alloc r1 _).drew
      have q2:((wr.setCell ⟨g1,G.1.length,none⟩ (strV (G.2++U))).alloc (.cells #[.int .i64 K,.int .i64 D,.string ⟨U.toArray⟩] 50)).drew.ownsRow (w.heap.size+1) 4 1 (.slice (some ⟨g2,0,none⟩) n n) n ((JbY n (G.1,G.2++U)).map Value.bool) :=
       (World.ownsRow.alloc (HO2.out.kept r2 (JiZ HO2.out HO1.out (by decide))) _).drew
      have keep:∀(x:Nat) (o:Nat),x≠g1->x<wr.heap.size->(((wr.setCell ⟨g1,G.1.length,none⟩ (strV (G.2++U))).alloc (.cells #[.int .i64 K,.int .i64 D,.string ⟨U.toArray⟩] 50)).drew).heap[x]?=wr.heap[x]?:=by
       intro x o hx hxl;rw[←r2.block x hxl (by intro e;exact hx (osi e))];exact heap_alloc_old _ _ (by simpa using hxl)
      have hs0:=blt wr _ z2;have hg1b:=(HO1.out.lt g1 rfl).1;have hg2b:=(HO2.out.lt g2 rfl).1;have u0:=(World.cell?_of_block (a:=⟨b,0,none⟩) (keep b 0 hn1 hbl')).trans z0;have u1:=(World.cell?_of_block (a:=⟨b,1,none⟩) (keep b 0 hn1 hbl')).trans z1;have u2:=(World.cell?_of_block (a:=⟨w.heap.size,0,none⟩) (keep w.heap.size 0 (by omega) hs0)).trans z2;have u3:=(World.cell?_of_block (a:=⟨w.heap.size,1,none⟩) (keep w.heap.size 0 (by omega) hs0)).trans z3;have u4:=(World.frozen?_of_block (a:=⟨w.heap.size,0,none⟩) (keep w.heap.size 0 (by omega) hs0)).trans z4;have u5:=(World.frozen?_of_block (a:=⟨w.heap.size,1,none⟩) (keep w.heap.size 0 (by omega) hs0)).trans z5;have hset:Below w.heap.size w (wr.setCell ⟨g1,G.1.length,none⟩ (strV (G.2++U))):=HWR.out.setCell (p:=⟨g1,G.1.length,none⟩) (by show w.heap.size<=g1;omega) _;have u6:Below w.heap.size w (((wr.setCell ⟨g1,G.1.length,none⟩ (strV (G.2++U))).alloc (.cells #[.int .i64 K,.int .i64 D,.string ⟨U.toArray⟩] 50)).drew):=(hset.alloc hset.size _).drew;have u7:(((wr.setCell ⟨g1,G.1.length,none⟩ (strV (G.2++U))).alloc (.cells #[.int .i64 K,.int .i64 D,.string ⟨U.toArray⟩] 50)).drew).cell? ⟨wr.heap.size,0,none⟩=some (.int .i64 K):=by simp[go_sem]
      have u8:(((wr.setCell ⟨g1,G.1.length,none⟩ (strV (G.2++U))).alloc (.cells #[.int .i64 K,.int .i64 D,.string ⟨U.toArray⟩] 50)).drew).cell? ⟨wr.heap.size,1,none⟩=some (.int .i64 D):=by simp[go_sem]
      have hpb:w.heap.size≠wr.heap.size/\b≠wr.heap.size/\g1≠wr.heap.size/\g2≠wr.heap.size:=⟨by omega,by omega,by omega,by omega⟩;clear r1 r2 keep z0 z1 z2 z3 z4 z5 HO1 HO2 HWR hset e0 e1 e2 hstr hsf hgl1 hgl2 hbl' hs0;unfold strV at q1 q2 u0 u1 u2 u3 u4 u5 u6 u7 u8;generalize (((wr.setCell ⟨g1,G.1.length,none⟩ (.string ⟨(G.2++U).toArray⟩)).alloc (.cells #[.int .i64 K,.int .i64 D,.string ⟨U.toArray⟩] 50)).drew)=W3 at *;obtain⟨pB,hpB⟩:∃pB,wr.heap.size=pB:=⟨_,rfl⟩;rw[hpB]at u7 u8 hpb ⊢;clear hpB hcat hcb;have HQ1:Hid (W3.ownsRow (w.heap.size+1) 9 1 (.slice (some ⟨g1,0,none⟩) (n+1) (n+1)) (n+1) ((Jci n (G.1,G.2++U)).map strV)):=q1;have HQ2:=hdz q2;clear q1 q2;go_wp2
      go_loopw [6,37] (fun at_ i wr=>∃(j:Nat),j<=D.toNat/\i=.int .i64 j/\at_=.int .i64 ((G.1.length+j:Nat):Int) /\
       wr.ownsRow (w.heap.size+1) 9 1 (.slice (some ⟨g1,0,none⟩) (n+1) (n+1)) (n+1) ((Jci n (G.1,G.2++U)).map strV)/\wr.ownsRow (w.heap.size+1) 4 1 (.slice (some ⟨g2,0,none⟩) n n) n ((JbY n (JbC true j (G.1,G.2++U))).map Value.bool) /\
       wr.cell? ⟨b,0,none⟩=some (.slice (some ⟨g1,0,none⟩) (n+1) (n+1))/\wr.cell? ⟨b,1,none⟩=some (.slice (some ⟨g2,0,none⟩) n n) /\
       wr.cell? ⟨w.heap.size,0,none⟩=some (.slice none 0 0)/\wr.cell? ⟨w.heap.size,1,none⟩=some (.slice none 0 0)/\wr.frozen? ⟨w.heap.size,0,none⟩=false/\wr.frozen? ⟨w.heap.size,1,none⟩=false/\Below w.heap.size w wr /\
       wr.cell? ⟨pB,0,none⟩=some (.int .i64 K)/\wr.cell? ⟨pB,1,none⟩=some (.int .i64 D)) (fun _ i _=>D.toNat - (intOf i).toNat)
      case atStart=>exact⟨0,Nat.zero_le _,rfl,rfl,HQ1.out,HQ2.out,u0,u1,u2,u3,u4,u5,u6,u7,u8⟩
      case round =>
       obtain⟨j,hj,rfl,rfl,hO1,hO2,z0,z1,z2,z3,z4,z5,hwr,z6,z7⟩:=hrel;clear HQ1 HQ2 u0 u1 u2 u3 u4 u5 u6 u7 u8
       by_cases hjl:j<D.toNat
       . have hDj:(j:Int)<D:=by omega
         have htl:(JbC true j (G.1,G.2++U)).1.length=G.1.length+j:=JdI true j (G.1,G.2++U);have hcell:wr.cell? ⟨g2,G.1.length+j,none⟩=some (.bool false):=by
          rw[hO2.cellAt _ (by omega),List.getElem?_map,←htl,JlZ (by omega)];rfl
         have hfr:=hO2.frozenAt (G.1.length+j);have hj1:((G.1.length+j:Nat):Int)<(n:Int):=by omega
         have hj0:(0:Int)<=((G.1.length+j:Nat):Int):=by omega
         obtain⟨r1,r2⟩:=hO2.stored (G.1.length+j) (.bool true)
         have HR1:Hid ((wr.setCell ⟨g2,G.1.length+j,none⟩ (.bool true)).ownsRow (w.heap.size+1) 4 1 (.slice (some ⟨g2,0,none⟩) n n) n ((JbY n (JbC true (j+1) (G.1,G.2++U))).map Value.bool)):=by
          have e:(JbY n (JbC true (j+1) (G.1,G.2++U))).map Value.bool=((JbY n (JbC true j (G.1,G.2++U))).map Value.bool).set (G.1.length+j) (.bool true):=by
           rw[Jg9,Jiv (by omega),htl,List.map_set]
          rw[e];exact r1
         have HR2:Hid ((wr.setCell ⟨g2,G.1.length+j,none⟩ (.bool true)).ownsRow (w.heap.size+1) 9 1 (.slice (some ⟨g1,0,none⟩) (n+1) (n+1)) (n+1) ((Jci n (G.1,G.2++U)).map strV)):=hO1.kept r2 (JiZ hO1 hO2 (by decide));have kp:∀{x:Nat},x≠g2->x<wr.heap.size->(wr.setCell ⟨g2,G.1.length+j,none⟩ (.bool true)).heap[x]?=wr.heap[x]?:=fun hx hxl=>r2.block _ hxl (by intro e;exact hx (osi e));have lb:=blt wr _ z0;have lS:=blt wr _ z2;have lp:=blt wr _ z6;have HV0:Hid _:=(World.cell?_of_block (a:=⟨b,0,none⟩) (kp hn2 lb)).trans z0;have HV1:Hid _:=(World.cell?_of_block (a:=⟨b,1,none⟩) (kp hn2 lb)).trans z1;have HV2:Hid _:=(World.cell?_of_block (a:=⟨w.heap.size,0,none⟩) (kp (x:=w.heap.size) (by omega) lS)).trans z2;have HV3:Hid _:=(World.cell?_of_block (a:=⟨w.heap.size,1,none⟩) (kp (x:=w.heap.size) (by omega) lS)).trans z3;have HV4:Hid _:=(World.frozen?_of_block (a:=⟨w.heap.size,0,none⟩) (kp (x:=w.heap.size) (by omega) lS)).trans z4;have HV5:Hid _:=(World.frozen?_of_block (a:=⟨w.heap.size,1,none⟩) (kp (x:=w.heap.size) (by omega) lS)).trans z5;have HV6:Hid _:=(World.cell?_of_block (a:=⟨pB,0,none⟩) (kp (Ne.symm hpb.2.2.2) lp)).trans z6;have HV7:Hid _:=(World.cell?_of_block (a:=⟨pB,1,none⟩) (kp (Ne.symm hpb.2.2.2) lp)).trans z7;have HV8:Hid (Below w.heap.size w (wr.setCell ⟨g2,G.1.length+j,none⟩ (.bool true))):=hwr.setCell (p:=⟨g2,G.1.length+j,none⟩) (by show w.heap.size<=g2;omega) _;have hsum:((G.1.length+j:Nat):Int)+1=((G.1.length+(j+1):Nat):Int):=by omega
         clear r1 r2 hO1 hO2 kp z2 z3 z4 z5;go_wp2
         go_roundw
         case rel=>exact⟨j+1,by omega,by go_num,by first | go_num | (simp;omega),HR2.out,HR1.out,HV0.out,HV1.out,HV2.out,HV3.out,HV4.out,HV5.out,HV8.out,HV6.out,HV7.out⟩
         case measure=>simp[intOf];omega
       . have hje:j=D.toNat:=by omega
         subst hje;have hDj:¬((D.toNat:Nat):Int)<D:=by omega
         have htl:(JbC true D.toNat (G.1,G.2++U)).1.length=G.1.length+D.toNat:=JdI true D.toNat (G.1,G.2++U);obtain⟨k1,k2⟩:=JhM (n:=n) K.toNat (JbC true D.toNat (G.1,G.2++U)) (by rw[htl];omega);have HR1:Hid (wr.ownsRow (w.heap.size+1) 4 1 (.slice (some ⟨g2,0,none⟩) n n) n ((JbY n (Jah (ps.take (k+1)))).map Value.bool)):=by
          show World.ownsRow _ _ _ _ _ _ _;rw[HSN.out];show World.ownsRow _ _ _ _ _ _ ((JbY n (JbC false K.toNat (JbC true D.toNat (G.1,G.2++U)))).map Value.bool);rw[k2];exact hO2
         have HR2:Hid (wr.ownsRow (w.heap.size+1) 9 1 (.slice (some ⟨g1,0,none⟩) (n+1) (n+1)) (n+1) ((Jci n (Jah (ps.take (k+1)))).map strV)):=by
          show World.ownsRow _ _ _ _ _ _ _;rw[HSN.out];show World.ownsRow _ _ _ _ _ _ ((Jci n (JbC false K.toNat (JbC true D.toNat (G.1,G.2++U)))).map strV);rw[k1,JhF _ _ (by show G.1.length+D.toNat<=n;omega)];exact hO1
         have HAT:Hid (((Jah (ps.take (k+1))).1.length:Int)=((G.1.length+D.toNat:Nat):Int)+K):=by
          show _=_;rw[HSN.out,Je8];show((G.1.length+D.toNat+K.toNat:Nat):Int)=_;omega
         have hwk:IntKind.i64.wrap (((G.1.length+D.toNat:Nat):Int)+K)=((G.1.length+D.toNat:Nat):Int)+K:=by rw[IntKind.wrap_i64];omega
         clear k1 k2 hO1 hO2;go_wp2
         go_roundw
         case rel=>exact⟨k+1,by omega,by go_num,by rw[HAT.out];first | rfl | go_num,HR2.out,HR1.out,z0,z1,z2,z3,z4,z5,hwr⟩
         case measure=>simp[intOf];omega
    . have e:ps.take k=ps:=List.take_of_length_le (by rw[←HM.out];omega)
      rw[e]at hO1 hO2 ⊢;have hS:=blt wr _ z2;have HO1:=hdz hO1;have HO2:=hdz hO2;clear e hO1 hO2 R3 HS HW;go_wp2;refine bodyPost_ret (v:=.agg #[.slice (some ⟨g1,0,none⟩) (n+1) (n+1),.slice (some ⟨g2,0,none⟩) n n]) (by simp[results,Tryz.results188,go_sem,z2,z3]) rfl ?_;refine⟨g1,g2,rfl,JcJ (Jgd (Jgd HO1.out (by omega) _) (by omega) _) (by omega),JcJ (Jgd (Jgd HO2.out (by omega) _) (by omega) _) (by omega),?_⟩;exact(hwr.setCell (p:=⟨w.heap.size,0,none⟩) (nlr _) _).setCell (p:=⟨w.heap.size,1,none⟩) (nlr _) _
end
section
open Go.RowKit
attribute [local go_sem] Oper.semAt_some
structure stp (W:World) (s b:Nat) (u v a h:Int):Prop where
 r:W.cell? ⟨s,0,none⟩=some (.pointer (some ⟨b,0,none⟩))
 u:W.cell? ⟨s+1,0,none⟩=some (.int .i64 u)
 v:W.cell? ⟨s+2,0,none⟩=some (.int .i64 v)
 a:W.cell? ⟨s+3,0,none⟩=some (.int .i64 a)
 af:W.frozen? ⟨s+3,0,none⟩=false
 h:W.cell? ⟨s+4,0,none⟩=some (.int .i64 h)
 hf:W.frozen? ⟨s+4,0,none⟩=false
theorem stp.below{W W':World}{s b:Nat}{u v a h:Int}(k:stp W s b u v a h)(hb:Below W.heap.size W W'):stp W' s b u v a h:=by
 have l0:=blt W _ k.r;have l1:=blt W _ k.u;have l2:=blt W _ k.v;have l3:=blt W _ k.a;have l4:=blt W _ k.h;exact⟨(hb.cell l0).trans k.r,(hb.cell l1).trans k.u,(hb.cell l2).trans k.v,(hb.cell l3).trans k.a,(hb.frozen l3).trans k.af,(hb.cell l4).trans k.h,(hb.frozen l4).trans k.hf⟩
end
end Go.Proofs.YtedgnlgjmnccgabGreatDoor
namespace Go.Proofs
open Go.Shelf
def Tryz.lays196_ren:Go.Shelf.Ren:=⟨fun | 196=>158 | 259=>212 | n=>n,fun | 0=>0 | 3=>3 | 4=>4 | 5=>5 | 9=>9 | 12=>12 | 46=>86 | 53=>351 | 119=>320 | 138=>322 | 139=>323 | n=>n,fun | 3=>2 | 4=>3 | n=>n⟩
theorem Tryz.lays196:Go.Proofs.Lays.n196 Tryz.prog Tryz.lays196_ren:={
 mixed:=by kernel_rfl
 f196:=Tryz.func158.trans (congrArg some (by kernel_rfl))
 f259:=Tryz.func212.trans (congrArg some (by kernel_rfl))
 t0:=Tryz.underlying0
 a0:=Tryz.isAgg0
 z0:=Tryz.sizeOf0
 v0:=Tryz.zeroValue0
 t3:=Tryz.underlying3
 a3:=Tryz.isAgg3
 z3:=Tryz.sizeOf3
 v3:=Tryz.zeroValue3
 t4:=Tryz.underlying4
 a4:=Tryz.isAgg4
 z4:=Tryz.sizeOf4
 v4:=Tryz.zeroValue4
 t5:=Tryz.underlying5
 a5:=Tryz.isAgg5
 z5:=Tryz.sizeOf5
 v5:=Tryz.zeroValue5
 t9:=Tryz.underlying9
 a9:=Tryz.isAgg9
 z9:=Tryz.sizeOf9
 v9:=Tryz.zeroValue9
 t12:=Tryz.underlying12
 a12:=Tryz.isAgg12
 z12:=Tryz.sizeOf12
 v12:=Tryz.zeroValue12
 t46:=Tryz.underlying86
 a46:=Tryz.isAgg86
 z46:=Tryz.sizeOf86
 v46:=Tryz.zeroValue86
 t53:=Tryz.underlying351
 a53:=Tryz.isAgg351
 z53:=Tryz.sizeOf351
 v53:=Tryz.zeroValue351
 t119:=Tryz.underlying320
 a119:=Tryz.isAgg320
 z119:=Tryz.sizeOf320
 t138:=Tryz.underlying322
 a138:=Tryz.isAgg322
 z138:=Tryz.sizeOf322
 v138:=Tryz.zeroValue322
 t139:=Tryz.underlying323
 a139:=Tryz.isAgg323
 z139:=Tryz.sizeOf323
 v139:=Tryz.zeroValue323
 g3:=by kernel_rfl
 g4:=by kernel_rfl }
end Go.Proofs
namespace Go.Proofs.YtedgnlgjmnccgabGreatDoor
open Go.RowKit
theorem Jon(n:Nat):∀(l:List UInt8),l.length<=n->Lib.validGoD n l=(scan l).2:=by
 induction n with
 | zero =>
  intro l hl;have:l=[]:=List.eq_nil_of_length_eq_zero (by omega);subst this;rfl
 | succ n ih =>
  intro l hl;unfold Lib.validGoD
  by_cases hne:l=[]
  . subst hne;rfl
  . rw [if_neg hne]
    have hd:Lib.decodeL l=dec l:=by
     have:=JgM ⟨l.toArray⟩ 0;rw[List.drop_zero]at this;rw[←this];unfold Lib.decodeL
     congr 1
     apply ByteArray.ext;simp
    rw[hd]
    by_cases hb:badB (dec l)=true
    . rw[JfW hne hb,if_pos (Jiw hb)]
    . have hb':badB (dec l)=false:=Bool.eq_false_iff.2 hb
      rw[Jet hne hb',if_neg (by intro h;exact hb (by unfold badB;simp[h])),ih];have h1:=Jfe l;rw[List.length_drop];omega
theorem Ji4(s:ByteArray)(w:World)(hs:s.size<=9223372036854775807)(hT:Lib.Utf8Tabs 2 3 w) :
    Calls Tryz.prog 158 #[.string s] w fun e w'=>e=.returned (.bool (scan s.data.toList).2)/\Below w.heap.size w w':=by
 have:=Any.utf8_ValidString Tryz.lays196 s w hs hT;rwa[show Lib.validD s.data.toList=(scan s.data.toList).2 from Jon _ _ (nlr _)]at this
end Go.Proofs.YtedgnlgjmnccgabGreatDoor
namespace Go.Proofs.YtedgnlgjmnccgabGreatDoor
section
open Go.RowKit Go.Extern.Stop Go.Stop Go.Extern
theorem Jpt(t:Addr)(w:World):(ReflectliteValue.unpack (.iface 180 (.pointer (some t)))).run Tryz.prog w
    = .ok (.agg #[.pointer (some ⟨9,180,none⟩),.pointer (some ⟨w.heap.size,0,none⟩),.int .u64 150]) (w.alloc (.cells #[.pointer (some t)] 180)):=by kernel_rfl
theorem as_type(a:Addr)(w:World):(ReflectliteValue.methodAny (ReflectliteValue.valueError "reflectlite.Value.Type" 0) (fun t _ _ _=>ReflectliteType.toType t) #[.agg #[.pointer (some ⟨9,180,none⟩),.pointer (some a),.int .u64 150]]).run Tryz.prog w
    = .ok (.iface 327 (.agg #[.pointer (some ⟨9,180,none⟩)])) w:=by kernel_rfl
theorem Jkx(h:Value)(w:World):(Go.method 555 327 (.agg #[h]) "Kind").run Tryz.prog w=.ok (360,h) w:=by kernel_rfl
theorem JsV(w:World):((ReflectliteType.abiMethod fun t=>(fun a:Nat=>Value.int IntKind.u8 (a:Int)) <$> Rtype.kind t) #[.pointer (some ⟨9,180,none⟩)]).run Tryz.prog w=.ok (.int .u8 22) w:=by kernel_rfl
theorem JsW(w:World):((ReflectliteType.abiMethod fun t=>(fun a:Nat=>Value.int IntKind.u8 (a:Int)) <$> Rtype.kind t) #[.pointer (some ⟨9,26,none⟩)]).run Tryz.prog w=.ok (.int .u8 2) w:=by kernel_rfl
theorem Jt4(z:Sem Value)(f:TypeId->Addr->Nat->Nat->Sem Value)(v:Value) :
    ReflectliteValue.method z f #[v]=(do match ← ReflectliteValue.parts v with | none=>z | some (t,a,fl)=>f t a fl (fl % 32)):=rfl
theorem Jme(a:Addr)(w:World):(ReflectliteValue.parts (.agg #[.pointer (some ⟨9,180,none⟩),.pointer (some a),.int .u64 150])).run Tryz.prog w=.ok (some (180,a,150)) w:=by kernel_rfl
theorem JsX(a p:Addr)(W:World)(ha:W.cell? a=some (.pointer (some p))) :
    (ReflectliteValue.method (ReflectliteValue.valueError "reflectlite.Value.IsNil" 0) ReflectliteValue.isNil #[.agg #[.pointer (some ⟨9,180,none⟩),.pointer (some a),.int .u64 150]]).run Tryz.prog W=.ok (.bool false) W:=by
 rw[Jt4];simp only[Sem.run_bind,Jme,Result.andThen];simp[ReflectliteValue.isNil,loadVar,isAgg,underlying,Tryz.underlying180,ha,Result.andThen]
theorem Jky(h:Value)(w:World):(Go.method 555 327 (.agg #[h]) "Elem").run Tryz.prog w=.ok (374,.agg #[h]) w:=by kernel_rfl
theorem JfL(h:Value)(w:World):(Go.method 555 327 (.agg #[h]) "Implements").run Tryz.prog w=.ok (375,.agg #[h]) w:=by kernel_rfl
theorem Jfg(h:Value)(w:World):(Go.method 555 327 (.agg #[h]) "AssignableTo").run Tryz.prog w=.ok (372,.agg #[h]) w:=by kernel_rfl
theorem as_elem(w:World):(ReflectliteType.method ReflectliteType.elem #[.agg #[.pointer (some ⟨9,180,none⟩)]]).run Tryz.prog w=.ok (.iface 327 (.agg #[.pointer (some ⟨9,26,none⟩)])) w:=by kernel_rfl
theorem Jkz(w:World):(ReflectliteType.relation "Implements" ReflectliteType.implements_ #[.agg #[.pointer (some ⟨9,26,none⟩)],.iface 327 (.agg #[.pointer (some ⟨9,33,none⟩)])]).run Tryz.prog w=.ok (.bool true) w:=by kernel_rfl
theorem Jpu(v:Value)(w:World):(ReflectliteType.typeOf #[.iface 26 v]).run Tryz.prog w=.ok (.iface 327 (.agg #[.pointer (some ⟨9,26,none⟩)])) w:=by kernel_rfl
theorem Jpv(v:Value)(w:World):(ReflectliteType.typeOf #[.iface 273 v]).run Tryz.prog w=.ok (.iface 327 (.agg #[.pointer (some ⟨9,273,none⟩)])) w:=by kernel_rfl
theorem Jpw(w:World):(ReflectliteType.relation "AssignableTo" ReflectliteType.assignableTo #[.agg #[.pointer (some ⟨9,26,none⟩)],.iface 327 (.agg #[.pointer (some ⟨9,26,none⟩)])]).run Tryz.prog w=.ok (.bool true) w:=by kernel_rfl
theorem Jpx(w:World):(ReflectliteType.relation "AssignableTo" ReflectliteType.assignableTo #[.agg #[.pointer (some ⟨9,273,none⟩)],.iface 327 (.agg #[.pointer (some ⟨9,26,none⟩)])]).run Tryz.prog w=.ok (.bool false) w:=by kernel_rfl
theorem Jno(n:Int)(w:World):(ReflectliteValue.unpack (.iface 26 (.int .i64 n))).run Tryz.prog w
    = .ok (.agg #[.pointer (some ⟨9,26,none⟩),.pointer (some ⟨w.heap.size,0,none⟩),.int .u64 130]) (w.alloc (.cells #[.int .i64 n] 26)):=by kernel_rfl
theorem Jr2(w:World):(Rtype.elem? 180).run Tryz.prog w=.ok (some 26) w:=by kernel_rfl
theorem as_mk(p:Addr)(w:World):(ReflectliteValue.mk 26 p ReflectliteValue.flagAddr).run Tryz.prog w=.ok (.agg #[.pointer (some ⟨9,26,none⟩),.pointer (some p),.int .u64 386]) w:=by kernel_rfl
theorem JsY(a p:Addr)(W:World)(ha:W.cell? a=some (.pointer (some p))) :
    (ReflectliteValue.method (ReflectliteValue.valueError "reflectlite.Value.Elem" 0) ReflectliteValue.elem #[.agg #[.pointer (some ⟨9,180,none⟩),.pointer (some a),.int .u64 150]]).run Tryz.prog W
      = .ok (.agg #[.pointer (some ⟨9,26,none⟩),.pointer (some p),.int .u64 386]) W:=by
 rw[Jt4];simp only[Sem.run_bind,Jme,Result.andThen];simp[ReflectliteValue.elem,loadVar,isAgg,underlying,Tryz.underlying180,ha,Result.andThen,Jr2,as_mk]
theorem as_rls(v x:Value):ReflectliteValue.set #[v,x]=(do
    let (some (dst,a,fl),some (src,b,_)):=(← ReflectliteValue.parts v,←ReflectliteValue.parts x)
     | unsupported (.noEntry "extern/(internal/reflectlite.Value).Set.zeroValue")
    if fl / ReflectliteValue.flagAddr % 2==0 then unsupported (.noEntry "extern/(internal/reflectlite.Value).Set.unaddressable")
    let val ← loadVar src b
    if ← Rtype.directlyAssignable dst src then storeVar dst a val
    else if ← Rtype.implements dst src then
     if (← Rtype.kind src)==20 then
      match val with
      | .nilIface=>unsupported (.noEntry "extern/reflectlite: a nil value of one interface type handed on as a value of another")
      | _=>storeVar dst a val
     else storeVar dst a (.iface src val)
    else panicString ("reflectlite.Set: value of type " ++ (← Rtype.spelt src) ++ " is not assignable to type " ++ (← Rtype.spelt dst))
    pure (.tuple #[])):=rfl
theorem Jr0(a:Addr)(w:World):(ReflectliteValue.parts (.agg #[.pointer (some ⟨9,26,none⟩),.pointer (some a),.int .u64 386])).run Tryz.prog w=.ok (some (26,a,386)) w:=by kernel_rfl
theorem Jrz(a:Addr)(w:World):(ReflectliteValue.parts (.agg #[.pointer (some ⟨9,26,none⟩),.pointer (some a),.int .u64 130])).run Tryz.prog w=.ok (some (26,a,130)) w:=by kernel_rfl
theorem Jr3(w:World):(Rtype.directlyAssignable 26 26).run Tryz.prog w=.ok true w:=by kernel_rfl
theorem as_set(ta b:Addr)(n:Int)(old:Value)(W:World)(hb:W.cell? b=some (.int .i64 n))(ht:W.cell? ta=some old)(hf:W.frozen? ta=false) :
    (ReflectliteValue.set #[.agg #[.pointer (some ⟨9,26,none⟩),.pointer (some ta),.int .u64 386],.agg #[.pointer (some ⟨9,26,none⟩),.pointer (some b),.int .u64 130]]).run Tryz.prog W
      = .ok (.tuple #[]) (W.setCell ta (.int .i64 n)):=by
 rw[as_rls];simp only[Sem.run_bind,Jr0,Jrz,Result.andThen];simp[ReflectliteValue.flagAddr,loadVar,isAgg,underlying,Tryz.underlying26,hb,Result.andThen,Jr3,storeVar,Value.cells,storeCells,Addr.add];rw[run_store Tryz.prog W ta _ _ (by rfl)];simp[ht,hf]
theorem as_noAs(v:Value)(xT:TypeId)(w:World):(Instr.typeAssert (.iface 273 v) xT 332 true).run Tryz.prog w=.ok (.tuple #[.nilIface,.bool false]) w:=run_typeAssert_lacksB Tryz.underlying332 (by kernel_rfl) (by kernel_rfl) v xT w
theorem Jmf(v:Value)(xT:TypeId)(w:World):(Instr.typeAssert (.iface 273 v) xT 276 true).run Tryz.prog w=.ok (.tuple #[.iface 273 v,.bool true]) w:=run_typeAssert_hasB Tryz.underlying276 (by kernel_rfl) v xT w
theorem JiF(a:Addr)(w:World):(nilAhead 555 273 (.pointer (some a)) "Unwrap").run Tryz.prog w=.ok (some false) w:=by kernel_rfl
theorem Jix(a:Addr)(w:World):(Go.method 555 273 (.pointer (some a)) "Unwrap").run Tryz.prog w=.ok (370,.pointer (some a)) w:=by kernel_rfl
def Jdn (w:World):Prop:=w.cell? ⟨0,0,none⟩=some (.iface 327 (.agg #[.pointer (some ⟨9,33,none⟩)]))
def target (q:Nat):Value:=.agg #[.pointer (some ⟨9,180,none⟩),.pointer (some ⟨q,0,none⟩),.int .u64 150]
theorem Jqc{w:World}{t:Nat}{n:Int}{old:Value}(ht:w.cell? ⟨t,0,none⟩=some old)(o1 o2:Obj) :
    (((w.setCell ⟨t,0,none⟩ (.int .i64 n)).alloc o1).alloc o2).cell? ⟨t,0,none⟩=some (.int .i64 n)/\Below t w (((w.setCell ⟨t,0,none⟩ (.int .i64 n)).alloc o1).alloc o2):=by
 have htl:=blt w _ ht;have hz:(w.setCell ⟨t,0,none⟩ (.int .i64 n)).heap.size=w.heap.size:=by simp
 have h1:t<(w.setCell ⟨t,0,none⟩ (.int .i64 n)).heap.size:=by rw[hz];exact htl
 refine⟨?_,?_⟩
 . rw[World.cell?_alloc_lt _ _ ⟨t,0,none⟩ (by rw[wsa];exact Nat.lt_succ_of_lt h1),World.cell?_alloc_lt _ _ ⟨t,0,none⟩ h1]
   exact World.cell?_setCell_same _ _ _ ht
 . exact((((brf t w).setCell (p:=⟨t,0,none⟩) (nlr _) _)).alloc (Nat.le_of_lt h1) _).alloc (by rw[wsa];exact Nat.le_succ_of_le (Nat.le_of_lt h1)) _
theorem Jr1(n:Int)(t q:Nat)(old:Value)(w:World)(hq:w.cell? ⟨q,0,none⟩=some (.pointer (some ⟨t,0,none⟩)))(ht:w.cell? ⟨t,0,none⟩=some old)(hf:w.frozen? ⟨t,0,none⟩=false) :
    Calls Tryz.prog 172 #[.iface 26 (.int .i64 n),.iface 180 (.pointer (some ⟨t,0,none⟩)),target q,.iface 327 (.agg #[.pointer (some ⟨9,26,none⟩)])] w
     fun e w'=>e=.returned (.bool true)/\w'.cell? ⟨t,0,none⟩=some (.int .i64 n)/\Below t w w':=by
 have hTO:=@run_callFunc_extern Tryz.prog 216 _ ReflectliteType.typeOf Tryz.func216 (by kernel_rfl) (by kernel_rfl) (by kernel_rfl) (by kernel_rfl);have hAT:=@run_callFunc_extern Tryz.prog 372 _ (ReflectliteType.relation "AssignableTo" ReflectliteType.assignableTo) Tryz.func372 (by kernel_rfl) (by kernel_rfl) (by kernel_rfl) (by kernel_rfl);have hVE:=@run_callFunc_extern Tryz.prog 217 _ (ReflectliteValue.method (ReflectliteValue.valueError "reflectlite.Value.Elem" 0) ReflectliteValue.elem) Tryz.func217 (by kernel_rfl) (by kernel_rfl) (by kernel_rfl) (by kernel_rfl);have hVS:=@run_callFunc_extern Tryz.prog 218 _ ReflectliteValue.set Tryz.func218 (by kernel_rfl) (by kernel_rfl) (by kernel_rfl) (by kernel_rfl);have hVO:=@run_callFunc_extern Tryz.prog 169 _ (fun args=>ReflectliteValue.unpack (args.getD 0 (.tuple #[]))) Tryz.func169 (by kernel_rfl) (by kernel_rfl) (by kernel_rfl) (by kernel_rfl);have tE:=Jpu;have tA:=Jpv;have mA:=Jfg;have aE:=Jpw;have aA:=Jpx;have vE:=Jno;have nA:=as_noAs;have hU:=Jmf;have uA:=JiF;have mU:=Jix;have htl:=blt w _ ht;have hql:=blt w _ hq;have hq2:(w.alloc (.cells #[.pointer (some ⟨9,180,none⟩),.pointer (some ⟨q,0,none⟩),.int .u64 150] 261)).cell? ⟨q,0,none⟩=some (.pointer (some ⟨t,0,none⟩)):=by
  rw[World.cell?_alloc_lt _ _ ⟨q,0,none⟩ hql];exact hq
 have el:=JsY ⟨q,0,none⟩ ⟨t,0,none⟩ (w.alloc (.cells #[.pointer (some ⟨9,180,none⟩),.pointer (some ⟨q,0,none⟩),.int .u64 150] 261)) hq2
 have st:=as_set ⟨t,0,none⟩ ⟨w.heap.size+1,0,none⟩ n old ((w.alloc (.cells #[.pointer (some ⟨9,180,none⟩),.pointer (some ⟨q,0,none⟩),.int .u64 150] 261)).alloc (.cells #[.int .i64 n] 26))
  (by rw[World.cell?_alloc_at _ _ _ _ (by simp)];rfl)
  (by rw[World.cell?_alloc_lt _ _ ⟨t,0,none⟩ (by rw[wsa];exact Nat.lt_succ_of_lt htl),World.cell?_alloc_lt _ _ ⟨t,0,none⟩ htl];exact ht)
  (by rw[World.frozen?_alloc_old _ _ ⟨t,0,none⟩ (by rw[wsa];exact Nat.ne_of_lt (Nat.lt_succ_of_lt htl)),World.frozen?_alloc_old _ _ ⟨t,0,none⟩ (Nat.ne_of_lt htl)];exact hf)
 have fin:=fun o1 o2=>@Jqc w t n old ht o1 o2;have HF:=hdz fin;clear fin;clear hq ht hf hq2;unfold target
 go_enter Tryz.func172,Tryz.ntmps172
 go_wp2;refine wp_loop_rounds 1 ?_;rw[rounds_succ];go_wp2;go_ret;exact⟨rfl,HF.out _ _⟩
theorem Jtg(w:World):Calls Tryz.prog 27 #[.nilIface] w fun e w'=>e=.returned (.int .i64 0)/\w'=w:=by
 go_enter Tryz.func27,Tryz.ntmps27
 go_wp2;go_ret;exact⟨rfl,rfl⟩
theorem Jr8(w:World):Calls Tryz.prog 110 #[.nilIface] w fun e w'=>e=.returned (.tuple #[.int .i64 0,.int .i64 (-1)])/\w'=w:=by
 go_enter Tryz.func110,Tryz.ntmps110
 go_wp2_with (go_at_call 27;refine(Jtg _).mono ?_;rintro e wx ⟨rfl,rfl⟩)
 refine wp_loop_rounds 1 ?_;rw[rounds_succ];go_wp2
 go_ret2
 exact⟨rfl,rfl⟩
theorem JoL(w:World):Calls Tryz.prog 30 #[.nilIface,.agg #[.int .i64 0,.int .i64 (-1)]] w fun e w'=>e=.returned (.bool true)/\Below w.heap.size w w':=by
 go_enter Tryz.func30,Tryz.ntmps30
 go_wp2_with (go_at_call 110;refine(Jr8 _).mono ?_;rintro e wx ⟨rfl,rfl⟩)
 go_ret;exact⟨rfl,(brf _ _).alloc (nlr _) _⟩
theorem Jdm{w w':World}(h:Jdn w)(hb:Below w.heap.size w w'):Jdn w':=by
 unfold Jdn;rw[hb.cell (p:=⟨0,0,none⟩) (blt w _ h)];exact h
theorem JrB(n:Int)(t:Nat)(old:Value)(w:World)(hg:Jdn w)(ht:w.cell? ⟨t,0,none⟩=some old)(hf:w.frozen? ⟨t,0,none⟩=false) :
    Calls Tryz.prog 104 #[.iface 26 (.int .i64 n),.iface 180 (.pointer (some ⟨t,0,none⟩))] w
     fun e w'=>e=.returned (.bool true)/\w'.cell? ⟨t,0,none⟩=some (.int .i64 n)/\Below t w w':=by
 have hVO:=@run_callFunc_extern Tryz.prog 169 _ (fun args=>ReflectliteValue.unpack (args.getD 0 (.tuple #[]))) Tryz.func169 (by kernel_rfl) (by kernel_rfl) (by kernel_rfl) (by kernel_rfl);have hTy:=@run_callFunc_extern Tryz.prog 170 _ (ReflectliteValue.methodAny (ReflectliteValue.valueError "reflectlite.Value.Type" 0) (fun t _ _ _=>ReflectliteType.toType t)) Tryz.func170 (by kernel_rfl) (by kernel_rfl) (by kernel_rfl) (by kernel_rfl);have hIN:=@run_callFunc_extern Tryz.prog 171 _ (ReflectliteValue.method (ReflectliteValue.valueError "reflectlite.Value.IsNil" 0) ReflectliteValue.isNil) Tryz.func171 (by kernel_rfl) (by kernel_rfl) (by kernel_rfl) (by kernel_rfl);have hKd:=@run_callFunc_extern Tryz.prog 360 _ (ReflectliteType.abiMethod fun t=>do pure (.int .u8 (← Rtype.kind t))) Tryz.func360 (by kernel_rfl) (by kernel_rfl) (by kernel_rfl) (by kernel_rfl);have hEl:=@run_callFunc_extern Tryz.prog 374 _ (ReflectliteType.method ReflectliteType.elem) Tryz.func374 (by kernel_rfl) (by kernel_rfl) (by kernel_rfl) (by kernel_rfl);have hIm:=@run_callFunc_extern Tryz.prog 375 _ (ReflectliteType.relation "Implements" ReflectliteType.implements_) Tryz.func375 (by kernel_rfl) (by kernel_rfl) (by kernel_rfl) (by kernel_rfl);have f6:=Jpt;have f7:=as_type;have mK:=Jkx;have mE:=Jky;have mI:=JfL;have k92:=JsV;have k23:=JsW;have e92:=as_elem;have i23:=Jkz;have htl:=blt w _ ht;have hgl:=blt w _ hg;obtain⟨o1,ho1⟩:∃o,o=Obj.cells #[.pointer (some ⟨t,0,none⟩)] 180:=⟨_,rfl⟩;obtain⟨o2,ho2⟩:∃o,o=Obj.cells #[.pointer (some ⟨9,180,none⟩),.pointer (some ⟨w.heap.size,0,none⟩),.int .u64 150] 261:=⟨_,rfl⟩;have hn8:=JsX ⟨w.heap.size,0,none⟩ ⟨t,0,none⟩ ((w.alloc o1).alloc o2) (by rw[World.cell?_alloc_lt _ _ ⟨w.heap.size,0,none⟩ (by rw[wsa];exact Nat.lt_succ_self _),ho1];simp[go_sem]);have hg2:((w.alloc o1).alloc o2).cell? ⟨0,0,none⟩=some (.iface 327 (.agg #[.pointer (some ⟨9,33,none⟩)])):=by
  rw[World.cell?_alloc_lt _ _ ⟨0,0,none⟩ (by rw[wsa];exact Nat.lt_succ_of_lt hgl),World.cell?_alloc_lt _ _ ⟨0,0,none⟩ hgl];exact hg
 have hb2:Below w.heap.size w ((w.alloc o1).alloc o2):=((brf _ _).alloc (nlr _) _).alloc (by rw[wsa];exact Nat.le_succ _) _
 have cA:=Jr1 n t w.heap.size old ((w.alloc o1).alloc o2)
  (by rw[World.cell?_alloc_lt _ _ ⟨w.heap.size,0,none⟩ (by rw[wsa];exact Nat.lt_succ_self _),ho1];simp[go_sem])
  (by rw[hb2.cell (p:=⟨t,0,none⟩) htl];exact ht)
  (by rw[hb2.frozen (p:=⟨t,0,none⟩) htl];exact hf)
 unfold target at cA;subst ho1 ho2;have HB:Hid (Below t w _):=hb2.mono (Nat.le_of_lt htl);clear ht hf hg hb2
 go_enter Tryz.func104,Tryz.ntmps104
 go_wp2_with (go_at_call 172;refine cA.mono ?_;rintro e wx ⟨rfl,hc,hbx⟩)
 go_ret;exact⟨rfl,hc,HB.out.trans hbx⟩
theorem Jnt(n:Int)(w:World)(hg:Jdn w) :
    Calls Tryz.prog 27 #[.iface 26 (.int .i64 n)] w fun e w'=>e=.returned (.int .i64 n)/\Below w.heap.size w w':=by
 have hgl:=blt w _ hg;have hb1:Below w.heap.size w (w.alloc (.cells #[.int .i64 0] 26)):=(brf _ _).alloc (nlr _) _
 have cA:=JrB n w.heap.size (.int .i64 0) (w.alloc (.cells #[.int .i64 0] 26)) (by unfold Jdn;rw[hb1.cell (p:=⟨0,0,none⟩) hgl];exact hg)
  (by simp[go_sem]) (by simp[go_sem])
 clear hg
 go_enter Tryz.func27,Tryz.ntmps27
 go_wp2_with (go_at_call 104;refine cA.mono ?_;rintro e wx ⟨rfl,hc,hbx⟩)
 go_ret;exact⟨rfl,hb1.trans hbx⟩
theorem JmH(n:Int)(w:World):(Instr.typeAssert (.iface 26 (.int .i64 n)) 33 273 true).run Tryz.prog w=.ok (.tuple #[.pointer none,.bool false]) w:=by kernel_rfl
theorem Jlz(v:Value)(xT:TypeId)(w:World):(Instr.typeAssert (.iface 26 v) xT 276 true).run Tryz.prog w=.ok (.tuple #[.nilIface,.bool false]) w:=run_typeAssert_lacksB Tryz.underlying276 (by kernel_rfl) (by kernel_rfl) v xT w
theorem Jmj(n:Int)(w:World)(hg:Jdn w) :
    Calls Tryz.prog 110 #[.iface 26 (.int .i64 n)] w fun e w'=>e=.returned (.tuple #[.int .i64 n,.int .i64 (-1)])/\Below w.heap.size w w':=by
 have cT:=Jnt n w hg;have iP:=JmH;have nU:=Jlz;clear hg
 go_enter Tryz.func110,Tryz.ntmps110
 go_wp2_with (go_at_call 27;refine cT.mono ?_;rintro e w1 ⟨rfl,hb1⟩)
 refine wp_loop_rounds 1 ?_;rw[rounds_succ];go_wp2
 go_ret2
 exact⟨rfl,hb1⟩
theorem Jkd(n:Int)(w:World)(hg:Jdn w):Calls Tryz.prog 30 #[.iface 26 (.int .i64 n),.agg #[.int .i64 n,.int .i64 (-1)]] w fun e w'=>e=.returned (.bool true)/\Below w.heap.size w w':=by
 have hb1:Below w.heap.size w (w.alloc (.cells #[.int .i64 n,.int .i64 (-1)] 28)):=(brf _ _).alloc (nlr _) _;have cP:=Jmj n (w.alloc (.cells #[.int .i64 n,.int .i64 (-1)] 28)) (Jdm hg hb1);clear hg
 go_enter Tryz.func30,Tryz.ntmps30
 go_wp2_with (go_at_call 110;refine cP.mono ?_;rintro e w1 ⟨rfl,hb2⟩;have c0:w1.cell? ⟨w.heap.size,0,none⟩=some (.int .i64 n):=(hb2.cell (p:=⟨w.heap.size,0,none⟩) (by simp)).trans (by simp[go_sem]);have c1:w1.cell? ⟨w.heap.size,1,none⟩=some (.int .i64 (-1)):=(hb2.cell (p:=⟨w.heap.size,1,none⟩) (by simp)).trans (by simp[go_sem]))
 go_ret;exact⟨rfl,hb1.trans (hb2.mono (by simp))⟩
def errV (n:Int):Value:=if n=0 then .nilIface else .iface 26 (.int .i64 n)
theorem Joi(n:Int)(w:World)(hg:Jdn w):Calls Tryz.prog 17 #[errV n,.int .i64 n] w fun e w'=>e=.returned (.bool true)/\Below w.heap.size w w':=by
 have cB:=Jol n w;unfold errV
 by_cases h:n=0
 . subst h
   simp only[if_true];clear hg
   go_enter Tryz.func17,Tryz.ntmps17
   go_wp2_with (first | (go_at_call 89;refine cB.mono ?_;rintro e w1 ⟨rfl,hb1⟩) | (go_at_call 30;refine(JoL _).mono ?_;rintro e w2 ⟨rfl,hb2⟩))
   go_ret;exact⟨rfl,hb1.trans (hb2.mono hb1.size)⟩
 . simp only[h,if_false]
   have HG:Hid (∀wx,Below w.heap.size w wx->Jdn wx):=fun wx hb=>Jdm hg hb;clear hg
   go_enter Tryz.func17,Tryz.ntmps17
   go_wp2_with (first | (go_at_call 89;refine cB.mono ?_;rintro e w1 ⟨rfl,hb1⟩) | (go_at_call 30;refine(Jkd n _ (HG.out _ hb1)).mono ?_;rintro e w2 ⟨rfl,hb2⟩))
   go_ret;exact⟨rfl,hb1.trans (hb2.mono hb1.size)⟩
end
section
open Go.RowKit
def oneB (p:Pt):Bool:=if p.drop=0/\p.put=[] then decide (0<p.keep) else if p.keep=0/\p.put=[] then decide (0<p.drop) else decide (p.keep=0/\p.drop=0)
def chk1:List Pt->Int
 | []=>0
 | p :: ps=>if oneB p then (if (scan p.put).2 then chk1 ps else 3) else 1
def chk2:List Pt->Int->Int
 | [],n=>if n=0 then 0 else 2
 | p :: ps,n=>if n<p.keep+p.drop then 2 else chk2 ps (n - (p.keep+p.drop))
def chkE (ps:List Pt) (n:Int):Int:=if chk1 ps=0 then chk2 ps n else chk1 ps
theorem JqB(p:Pt)(w:World):Calls Tryz.prog 157 #[JaO p] w fun e w'=>e=.returned (.bool (oneB p))/\Below w.heap.size w w':=by
 obtain⟨k,d,q⟩:=p;have cK:=Jch ⟨k,d,q⟩;have cD:=Jd7 ⟨k,d,q⟩;unfold oneB;unfold JaO at *;simp only at cK cD ⊢
 by_cases hq:q=[]
 . subst hq
   by_cases hd:d=0
   . subst hd
     go_enter Tryz.func157,Tryz.ntmps157
     go_wp2_with (go_at_call 107;refine(cK _).mono ?_;rintro e w1 ⟨rfl,hb1⟩)
     go_ret;exact⟨by simp,((brf _ _).alloc (nlr _) _).trans (hb1.mono (by simp))⟩
   . have hdb:(d==0)=false:=beq_eq_false_iff_ne.2 hd
     by_cases hk:k=0
     . subst hk
       go_enter Tryz.func157,Tryz.ntmps157
       go_wp2_with (go_at_call 211;refine(cD _).mono ?_;rintro e w1 ⟨rfl,hb1⟩)
       go_ret;exact⟨by simp,((brf _ _).alloc (nlr _) _).trans (hb1.mono (by simp))⟩
     . have hkb:(k==0)=false:=beq_eq_false_iff_ne.2 hk
       go_enter Tryz.func157,Tryz.ntmps157
       go_wp2;go_ret;exact⟨by simp,(brf _ _).alloc (nlr _) _⟩
 . have ho:(if d=0/\q=[] then decide (0<k) else if k=0/\q=[] then decide (0<d) else decide (k=0/\d=0))=decide (k=0/\d=0):=by simp[hq]
   rw[ho];clear ho;have HD:Hid (decide (k=0/\d=0)=(k==0 && d==0)):=by show _=_;by_cases h1:k=0<;>by_cases h2:d=0<;>simp[h1,h2]
   rw[HD.out]
   by_cases hd:d=0
   . subst hd
     by_cases hk:k=0
     . subst hk
       go_enter Tryz.func157,Tryz.ntmps157
       go_wp2;go_ret;exact⟨rfl,(brf _ _).alloc (nlr _) _⟩
     . have hkb:(k==0)=false:=beq_eq_false_iff_ne.2 hk
       go_enter Tryz.func157,Tryz.ntmps157
       go_wp2;go_ret;exact⟨rfl,(brf _ _).alloc (nlr _) _⟩
   . have hdb:(d==0)=false:=beq_eq_false_iff_ne.2 hd
     by_cases hk:k=0
     . subst hk
       go_enter Tryz.func157,Tryz.ntmps157
       go_wp2;go_ret;exact⟨rfl,(brf _ _).alloc (nlr _) _⟩
     . have hkb:(k==0)=false:=beq_eq_false_iff_ne.2 hk
       go_enter Tryz.func157,Tryz.ntmps157
       go_wp2;go_ret;exact⟨by rw[hkb];rfl,(brf _ _).alloc (nlr _) _⟩
def wfP (p:Pt):Prop:=-9223372036854775808<=p.keep/\p.keep<9223372036854775808/\-9223372036854775808<=p.drop/\p.drop<9223372036854775808/\p.put.length<1000000000000
theorem Jce{p:Pt}(h:oneB p=true):Jbc p/\(p.keep=0\/p.drop=0):=by
 unfold oneB at h;unfold Jbc
 split at h
 . rename_i h1
   have:=of_decide_eq_true h;exact⟨⟨by omega,by omega⟩,.inr h1.1⟩
 . split at h
   . rename_i h1
     have:=of_decide_eq_true h;exact⟨⟨by omega,by omega⟩,.inl h1.1⟩
   . have:=of_decide_eq_true h
     exact⟨⟨by omega,by omega⟩,.inl this.1⟩
theorem Jey{ps:List Pt}(h:chk1 ps=0):∀p∈ps,oneB p=true/\(scan p.put).2=true:=by
 induction ps with
 | nil=>simp
 | cons p ps ih =>
  unfold chk1 at h
  split at h
  . rename_i h1
    split at h
    . rename_i h2
      intro q hq
      rcases List.mem_cons.1 hq with rfl|hq
      . exact⟨h1,h2⟩
      . exact ih h q hq
    . cases h
  . cases h
theorem JcM(v:Value)(ps:List Pt)(N:Int)(w:World)(hT:Lib.Utf8Tabs 2 3 w)(hr:opAt w v ps)(hwf:∀p∈ps,wfP p)(hN: -9223372036854775808<=N/\N<9223372036854775808)(hl:ps.length<10000000) :
    Calls Tryz.prog 92 #[v,.int .i64 N] w fun e w'=>e=.returned (errV (chkE ps N))/\Below w.heap.size w w':=by
 obtain⟨p,c,rfl,r1,r2,r3⟩:=hr;obtain⟨n,hn⟩:∃n,n=ps.length:=⟨_,rfl⟩;rw[←hn]at r1 hl ⊢;have HN:=hdz hn;clear hn
 have R3:Hid (ps≠[]->∃b o,p=some ⟨b,o,none⟩/\b<w.heap.size/\∀i q,ps[i]?=some q ->
  w.cell? ⟨b,o+i*3,none⟩=some (.int .i64 q.keep)/\w.cell? ⟨b,o+i*3+1,none⟩=some (.int .i64 q.drop)/\w.cell? ⟨b,o+i*3+2,none⟩=some (.string ⟨q.put.toArray⟩)):=r3
 have HWF:=hdz hwf;have HT:=hdz hT;obtain⟨hN0,hN1⟩:=hN;clear r3 hwf hT
 go_enter Tryz.func92,Tryz.ntmps92
 go_wp2
 go_loopw [11] (fun i wr=>∃(k:Nat),k<=n/\i=.int .i64 k/\chk1 ps=chk1 (ps.drop k)/\Below w.heap.size w wr) (fun i _=>n - (intOf i).toNat)
 case atStart=>exact⟨0,Nat.zero_le _,rfl,rfl,brf _ _⟩
 case round =>
  obtain⟨k,hk,rfl,hch,hwr⟩:=hrel
  by_cases hlt:k<n
  . have hkr:k<ps.length:=by rw[←HN.out];exact hlt
    have hne:ps≠[]:=by intro e;rw[e]at hkr;exact absurd hkr (Nat.not_lt_zero _)
    obtain⟨b,o,rfl,hbw,hcell⟩:=R3.out hne;obtain⟨c0,c1,c2⟩:=hcell k ps[k] (lgg hkr);have g0:=(hwr.cell (p:=⟨b,o+k*3,none⟩) hbw).trans c0;have g1:=(hwr.cell (p:=⟨b,o+k*3+1,none⟩) hbw).trans c1;have g2:=(hwr.cell (p:=⟨b,o+k*3+2,none⟩) hbw).trans c2;rw[List.drop_eq_getElem_cons hkr,chk1]at hch;have hwq:=HWF.out ps[k] (List.getElem_mem _);generalize ps[k]=q at *;have hsize:=hwr.size;have HWR:=hdz hwr;have hb0:Below wr.heap.size wr (wr.alloc (.cells #[.int .i64 q.keep,.int .i64 q.drop,.string ⟨q.put.toArray⟩] 50)):=(brf _ _).alloc (nlr _) _;have HB0:Hid (Below w.heap.size w (wr.alloc (.cells #[.int .i64 q.keep,.int .i64 q.drop,.string ⟨q.put.toArray⟩] 50))):=hwr.trans (hb0.mono hsize);have x2:(wr.alloc (.cells #[.int .i64 q.keep,.int .i64 q.drop,.string ⟨q.put.toArray⟩] 50)).cell? ⟨wr.heap.size,2,none⟩=some (.string ⟨q.put.toArray⟩):=by simp[go_sem]
    have X2:=hdz x2;have cO:=JqB q;unfold JaO at cO;have cV:Hid (∀wx,Below w.heap.size w wx->Calls Tryz.prog 158 #[.string ⟨q.put.toArray⟩] wx fun e w'=>e=.returned (.bool (scan q.put).2)/\Below wx.heap.size wx w'):=fun wx hb =>
     Ji4 ⟨q.put.toArray⟩ wx (by have:=hwq.2.2.2.2;simp[ByteArray.size];omega) (Go.Proofs.Utf8Tabs_below HT.out hb)
    by_cases h1:oneB q=true
    . rw [if_pos h1]at hch
      rw[h1]at cO
      by_cases h2:(scan q.put).2=true
      . rw[if_pos h2]at hch
        rw[h2]at cV;have HCH:=hdz hch;clear hcell c0 c1 c2 hch hwq hwr hb0 x2 HWF h1 h2
        go_wp2_with (first | (go_at_call 157;refine(cO _).mono ?_;rintro e w1 ⟨rfl,hb1⟩;have HB1:=hdz (HB0.out.trans (hb1.mono HB0.out.size));have hc2:=(hb1.cell (p:=⟨wr.heap.size,2,none⟩) (by simp)).trans X2.out;clear hb1) | (go_at_call 158;refine(cV.out _ HB1.out).mono ?_;rintro e w2 ⟨rfl,hb2⟩;have HB2:=hdz (HB1.out.trans (hb2.mono HB1.out.size));clear hb2))
        go_roundw
        case rel=>exact⟨k+1,by omega,by go_num,HCH.out,HB2.out⟩
        case measure=>simp[intOf];omega
      . have h2:(scan q.put).2=false:=Bool.eq_false_iff.2 h2
        rw[h2]at hch cV;have HCH:Hid (chk1 ps=3):=by show chk1 ps=3;simpa using hch
        clear hcell c0 c1 c2 hch hwq hwr hb0 x2 HWF h1 h2
        go_wp2_with (first | (go_at_call 157;refine(cO _).mono ?_;rintro e w1 ⟨rfl,hb1⟩;have HB1:=hdz (HB0.out.trans (hb1.mono HB0.out.size));have hc2:=(hb1.cell (p:=⟨wr.heap.size,2,none⟩) (by simp)).trans X2.out;clear hb1) | (go_at_call 158;refine(cV.out _ HB1.out).mono ?_;rintro e w2 ⟨rfl,hb2⟩;have HB2:=hdz (HB1.out.trans (hb2.mono HB1.out.size));clear hb2))
        go_ret;refine⟨?_,HB2.out⟩;unfold chkE;rw[HCH.out];rfl
    . have h1:oneB q=false:=Bool.eq_false_iff.2 h1
      rw[h1]at hch cO;have HCH:Hid (chk1 ps=1):=by show chk1 ps=1;simpa using hch
      clear hcell c0 c1 c2 hch hwq hwr hb0 x2 HWF h1
      go_wp2_with (go_at_call 157;refine(cO _).mono ?_;rintro e w1 ⟨rfl,hb1⟩;have HB1:=hdz (HB0.out.trans (hb1.mono HB0.out.size));clear hb1)
      go_ret;refine⟨?_,HB1.out⟩;unfold chkE;rw[HCH.out];rfl
  . have e : ps.drop k=[]:=List.drop_of_length_le (by rw[←HN.out];omega)
    rw[e]at hch;have H0:Hid (chk1 ps=0):=hch;have HWR:=hdz hwr;have HON:Hid (∀p∈ps,Jbc p/\(p.keep=0\/p.drop=0)):=fun p hp=>Jce (Jey hch p hp).1;clear e hch hwr;go_wp2
    go_loopw [1,27] (fun m i wr=>∃(k:Nat) (M:Int),k<=n/\i=.int .i64 k/\m=.int .i64 M/\-9223372036854775808<=M/\M<9223372036854775808/\chk2 ps N=chk2 (ps.drop k) M/\Below w.heap.size w wr) (fun _ i _=>n - (intOf i).toNat)
    case atStart=>exact⟨0,N,Nat.zero_le _,rfl,rfl,hN0,hN1,rfl,HWR.out⟩
    case round =>
     obtain⟨k,M,hk,rfl,rfl,hM0,hM1,hch,hwr⟩:=hrel
     by_cases hlt:k<n
     . have hkr:k<ps.length:=by rw[←HN.out];exact hlt
       have hne:ps≠[]:=by intro e;rw[e]at hkr;exact absurd hkr (Nat.not_lt_zero _)
       obtain⟨b,o,rfl,hbw,hcell⟩:=R3.out hne;obtain⟨c0,c1,c2⟩:=hcell k ps[k] (lgg hkr);have g0:=(hwr.cell (p:=⟨b,o+k*3,none⟩) hbw).trans c0;have g1:=(hwr.cell (p:=⟨b,o+k*3+1,none⟩) hbw).trans c1;have g2:=(hwr.cell (p:=⟨b,o+k*3+2,none⟩) hbw).trans c2;rw[List.drop_eq_getElem_cons hkr,chk2]at hch;have hwq:=HWF.out ps[k] (List.getElem_mem _);have hon:=HON.out ps[k] (List.getElem_mem _);generalize ps[k]=q at *;obtain⟨⟨s0,s1⟩,s2⟩:=hon;have hsum0:0<=q.keep+q.drop:=by omega
       have hsum1:q.keep+q.drop<9223372036854775808:=by have:=hwq.2.1;have:=hwq.2.2.2.1;omega
       have hw1:IntKind.i64.wrap (q.keep+q.drop)=q.keep+q.drop:=by rw[IntKind.wrap_i64];omega
       have HB0:Hid (Below w.heap.size w (wr.alloc (.cells #[.int .i64 q.keep,.int .i64 q.drop,.string ⟨q.put.toArray⟩] 50))):=hwr.alloc hwr.size _
       by_cases h1:M<q.keep+q.drop
       . rw[if_pos h1]at hch
         have HCH:=hdz hch;clear hcell c0 c1 c2 hch hwq hwr HWF s2;go_wp2;go_ret;refine⟨?_,HB0.out⟩;unfold chkE;rw[if_pos H0.out,HCH.out];rfl
       . rw[if_neg h1]at hch
         have HCH:=hdz hch;have hw2:IntKind.i64.wrap (M - (q.keep+q.drop))=M - (q.keep+q.drop):=by rw[IntKind.wrap_i64];omega
         clear hcell c0 c1 c2 hch hwq hwr HWF s2;go_wp2
         go_roundw
         case rel=>exact⟨k+1,M - (q.keep+q.drop),by omega,by go_num,by first | rfl | go_num,by omega,by omega,HCH.out,HB0.out⟩
         case measure=>simp[intOf];omega
     . have e:ps.drop k=[]:=List.drop_of_length_le (by rw[←HN.out];omega)
       rw[e,chk2]at hch;have HX:=hdz hwr
       by_cases h0:M=0
       . rw[if_pos h0]at hch
         subst h0;have HCH:=hdz hch;clear e hch hwr;go_wp2;go_ret;refine⟨?_,HX.out⟩;unfold chkE;rw[if_pos H0.out,HCH.out];rfl
       . rw[if_neg h0]at hch
         have hmb:(M==0)=false:=beq_eq_false_iff_ne.2 h0;have HCH:=hdz hch;clear e hch hwr;go_wp2;go_ret;refine⟨?_,HX.out⟩;unfold chkE;rw[if_pos H0.out,HCH.out];rfl
end
section
variable {p : Pt}
theorem JmU(G:GSt):JcY G=Jaq (runG G):=by
 unfold JcY;obtain⟨h1,h2⟩:=JkN G.1 kst0 inv0;obtain⟨f1,f2,f3,f4⟩:=JgA _ h2 G.2 false;rw[JqZ,f1,h1]
 . rfl
 . intro hk
   by_cases hq:G.2≠[]\/false=true
   . rw[f2 hq]at hk;omega
   . rw[f3 hq]at hk ⊢
     exact⟨(h2.quiet hk).1,(h2.quiet hk).2.1⟩
def Jad (p:Pt):Int:=p.keep+p.drop+p.put.length
def noP:Pt:=⟨0,0,[]⟩
def cutP (p:Pt) (n:Int):Pt×List Pt :=
 if Jad p=n then (p,[])
 else if 0<p.keep then (⟨n,0,[]⟩,[⟨p.keep - n,p.drop,p.put⟩])
 else if 0<p.drop then (⟨0,n,[]⟩,[⟨p.keep,p.drop - n,p.put⟩])
 else (⟨0,0,p.put.take n.toNat⟩,[⟨p.keep,p.drop,p.put.drop n.toNat⟩])
def Ja5 (la lb:Pt->Bool):Nat->List Pt->List Pt->List (Pt×Pt)
 | 0,_,_=>[]
 | f + 1,p :: a,b=>if la p then (p,noP) :: Ja5 la lb f a b else match b with
  | q :: b=>if lb q then (noP,q) :: Ja5 la lb f (p :: a) b else
   ((cutP p (min (Jad p) (Jad q))).1,(cutP q (min (Jad p) (Jad q))).1) :: Ja5 la lb f ((cutP p (min (Jad p) (Jad q))).2++a) ((cutP q (min (Jad p) (Jad q))).2++b)
  | []=>[]
 | f+1,[],q :: b=>if lb q then (noP,q) :: Ja5 la lb f [] b else []
 | f+1,[],[]=>[]
def Ja8 (p:Pt):Bool:=decide (0<p.drop)
def Jb0 (p:Pt):Bool:=decide (0<p.keep)
def Jaf (p:Pt):Bool:=decide (p.put≠[])
def Jbv (x:Pt×Pt):List Pt:=if Ja8 x.1 || Jb0 x.2 then [x.1] else if Jaf x.2 || Jb0 x.1 then [x.2] else []
def JbH (x:Pt×Pt):List Pt:=if Jaf x.2 then [⟨x.2.put.length,0,[]⟩] else if Jaf x.1 || Jb0 x.2 then [x.1] else []
def oneP (p:Pt):Prop:=(0<p.keep/\p.drop=0/\p.put=[])\/(p.keep=0/\0<p.drop/\p.put=[])\/(p.keep=0/\p.drop=0/\p.put≠[])
theorem JaE(h:oneP p):0<Jad p:=by
 unfold Jad
 rcases h with ⟨h1,h2,h3⟩|⟨h1,h2,h3⟩|⟨h1,h2,h3⟩
 . rw[h2,h3];simp;omega
 . rw[h1,h3];simp;omega
 . have:=List.length_pos_iff.2 h3;omega
theorem Jff(h:oneP p){n:Int}(h0:0<n)(hn:n<=Jad p):oneP (cutP p n).1/\Jad (cutP p n).1=n/\(∀q∈(cutP p n).2,oneP q/\Jad q=Jad p - n)/\((cutP p n).2=[]↔Jad p=n):=by
 unfold cutP
 by_cases e:Jad p=n
 . rw[if_pos e];exact⟨h,e,by simp,by simp[e]⟩
 . rw [if_neg e]
   obtain⟨K,D,U⟩:=p;have e':¬K+D+(U.length:Int)=n:=e;have hn':n<=K+D+(U.length:Int):=hn;clear e hn
   rcases h with ⟨h1,h2,h3⟩|⟨h1,h2,h3⟩|⟨h1,h2,h3⟩
   . replace h1:0<K:=h1
     obtain rfl:D=0:=h2;obtain rfl:U=[]:=h3;have hl:(([]:List UInt8).length:Int)=0:=rfl;rw[hl]at e' hn';rw[if_pos (show 0<(⟨K,0,[]⟩:Pt).keep from h1)];refine⟨.inl ⟨h0,rfl,rfl⟩,by simp[Jad],?_,⟨fun h=>(by cases h),fun h=>absurd h (by simp only[Jad,List.length_nil];omega)⟩⟩;intro q hq;obtain rfl:=List.mem_singleton.1 hq;exact⟨.inl ⟨by show 0<K - n;omega,rfl,rfl⟩,by simp only[Jad,List.length_nil];omega⟩
   . obtain rfl:K=0:=h1
     replace h2:0<D:=h2
     obtain rfl:U=[]:=h3;have hl:(([]:List UInt8).length:Int)=0:=rfl;rw[hl]at e' hn';rw[if_neg (show ¬0<(⟨0,D,[]⟩:Pt).keep from Int.lt_irrefl 0),if_pos (show 0<(⟨0,D,[]⟩:Pt).drop from h2)];refine⟨.inr (.inl ⟨rfl,h0,rfl⟩),by simp[Jad],?_,⟨fun h=>(by cases h),fun h=>absurd h (by simp only[Jad,List.length_nil];omega)⟩⟩;intro q hq;obtain rfl:=List.mem_singleton.1 hq;exact⟨.inr (.inl ⟨rfl,by show 0<D - n;omega,rfl⟩),by simp only[Jad,List.length_nil];omega⟩
   . obtain rfl:K=0:=h1
     obtain rfl:D=0:=h2
     replace h3:U≠[]:=h3
     rw[if_neg (show ¬0<(⟨0,0,U⟩:Pt).keep from Int.lt_irrefl 0),if_neg (show ¬0<(⟨0,0,U⟩:Pt).drop from Int.lt_irrefl 0)];have hl:(U.take n.toNat).length=n.toNat:=by rw[List.length_take];omega
     have hd:(U.drop n.toNat).length=U.length - n.toNat:=List.length_drop;refine⟨.inr (.inr ⟨rfl,rfl,?_⟩),by simp only[Jad,hl];omega,?_,⟨fun h=>(by cases h),fun h=>absurd h (by simp only[Jad];omega)⟩⟩
     . intro e'
       have:=congrArg List.length e';rw[hl,List.length_nil]at this;omega
     . intro q hq
       obtain rfl:=List.mem_singleton.1 hq;refine⟨.inr (.inr ⟨rfl,rfl,?_⟩),by simp only[Jad,hd];omega⟩;intro e';have:=congrArg List.length e';rw[hd,List.length_nil]at this;omega
end
section
theorem JfD(d:Bool):∀(n:Nat)(l:List (List UInt8×Bool))(g:GSt),JbC d n (l++g.1,g.2)=(l++(JbC d n g).1,(JbC d n g).2)
 | 0,l,g=>rfl
 | n+1,l,g=>by
  rw[JbC,JbC];have e:tick d (l++g.1,g.2)=(l++(tick d g).1,(tick d g).2):=by simp[tick]
  rw[e];exact JfD d n l (tick d g)
theorem JjD(l:List (List UInt8×Bool))(g:GSt)(p:Pt):Jbh (l++g.1,g.2) p=(l++(Jbh g p).1,(Jbh g p).2):=by
 unfold Jbh;rw[JfD true p.drop.toNat l (g.1,g.2++p.put),JfD]
def JaX:List UInt8->List Pt->GSt
 | acc,[]=>([],acc)
 | acc,p :: ps=>((Jbh ([],acc) p).1++(JaX (Jbh ([],acc) p).2 ps).1,(JaX (Jbh ([],acc) p).2 ps).2)
theorem JkO(ps:List Pt):∀(l:List (List UInt8×Bool))(acc:List UInt8),ps.foldl Jbh (l,acc)=(l++(JaX acc ps).1,(JaX acc ps).2):=by
 induction ps with
 | nil=>intro l acc;simp[JaX]
 | cons p ps ih =>
  intro l acc;have e:=JjD l ([],acc) p;rw[List.append_nil]at e;rw[List.foldl_cons,e,ih];simp[JaX]
theorem JbB(ps:List Pt):Jah ps=JaX [] ps:=by
 have:=JkO ps [] [];simpa[Jah] using this
theorem JeL(acc u:List UInt8)(ps:List Pt):JaX acc (⟨0,0,u⟩ :: ps)=JaX (acc++u) ps:=by
 simp[JaX,Jbh,JbC]
theorem JhA(d:Bool):∀(n:Nat)(acc:List UInt8),JbC d (n+1) ([],acc)=((acc,d) :: List.replicate n ([],d),[])
 | 0,acc=>by simp[JbC,tick]
 | n+1,acc=>by
  rw[Jg9,JhA d n acc];simp[tick,List.replicate_succ']
theorem JqO(acc:List UInt8)(n:Nat)(ps:List Pt):JaX acc (⟨(n:Int)+1,0,[]⟩ :: ps)=((acc,false) :: List.replicate n ([],false)++(JaX [] ps).1,(JaX [] ps).2):=by
 have h1:((n:Int)+1).toNat=n+1:=by omega
 have h2:=JhA false n acc;rw[JbC]at h2;simp only[JaX,Jbh,h1,Int.toNat_zero,JbC,List.append_nil,h2]
theorem JqP(acc:List UInt8)(n:Nat)(ps:List Pt):JaX acc (⟨0,(n:Int)+1,[]⟩ :: ps)=((acc,true) :: List.replicate n ([],true)++(JaX [] ps).1,(JaX [] ps).2):=by
 have h1:((n:Int)+1).toNat=n+1:=by omega
 have h2:=JhA true n acc;rw[JbC]at h2;simp only[JaX,Jbh,h1,Int.toNat_zero,JbC,List.append_nil,h2]
def docT (first:Bool):List (List UInt8×Bool)->List UInt8->List (List UInt8×Bool)->List UInt8->List Pt
 | (u,d) :: x,xl,(v,e) :: y,yl=>(if first then [⟨0,0,u⟩,⟨v.length,0,[]⟩] else [⟨v.length,0,[]⟩,⟨0,0,u⟩])++(if e then [] else [Jf5 d])++docT first x xl y yl
 | _,xl,_,yl=>if first then [⟨0,0,xl⟩,⟨yl.length,0,[]⟩] else [⟨yl.length,0,[]⟩,⟨0,0,xl⟩]
def Jat (d:Bool) (k:Nat):Pt:=if d then ⟨0,k,[]⟩ else ⟨k,0,[]⟩
theorem Jbi{p:Pt}(h:oneP p):(∃u,u≠[]/\p=⟨0,0,u⟩)\/∃d n,p=Jat d (n+1):=by
 obtain⟨K,D,U⟩:=p
 rcases h with ⟨h1,h2,h3⟩|⟨h1,h2,h3⟩|⟨h1,h2,h3⟩
 . obtain rfl:D=0:=h2
   obtain rfl:U=[]:=h3
   replace h1:0<K:=h1
   refine .inr ⟨false,K.toNat - 1,?_⟩;have:K=((K.toNat - 1+1:Nat):Int):=by omega
   show(⟨K,0,[]⟩:Pt)=⟨((K.toNat - 1+1:Nat):Int),0,[]⟩;rw[←this]
 . obtain rfl:K=0:=h1
   obtain rfl:U=[]:=h3
   replace h2:0<D:=h2
   refine .inr ⟨true,D.toNat - 1,?_⟩;have:D=((D.toNat - 1+1:Nat):Int):=by omega
   show(⟨0,D,[]⟩:Pt)=⟨0,((D.toNat - 1+1:Nat):Int),[]⟩;rw[←this]
 . obtain rfl:K=0:=h1
   obtain rfl:D=0:=h2;exact .inl ⟨U,h3,rfl⟩
theorem Jc1(acc:List UInt8)(d:Bool)(n:Nat)(ps:List Pt):JaX acc (Jat d (n+1) :: ps)=((acc,d) :: List.replicate n ([],d)++(JaX [] ps).1,(JaX [] ps).2):=by
 cases d with
 | true=>exact JqP acc n ps
 | false=>exact JqO acc n ps
def accG (acc:List UInt8):GSt->GSt
 | ([],l)=>([],acc++l)
 | ((u,d) :: x,l)=>((acc++u,d) :: x,l)
theorem Jr5(a b:List UInt8)(g:GSt):accG a (accG b g)=accG (a++b) g:=by
 obtain⟨x,l⟩:=g
 cases x<;>simp[accG]
theorem Jkg(ps:List Pt)(h:∀p∈ps,oneP p):∀acc,JaX acc ps=accG acc (JaX [] ps):=by
 induction ps with
 | nil=>intro acc;simp[JaX,accG]
 | cons p ps ih =>
  intro acc;have ih:=ih fun q hq=>h q (by simp[hq])
  rcases Jbi (h p (by simp)) with ⟨u,hu,rfl⟩|⟨d,n,rfl⟩
  . rw[JeL,JeL,ih,ih ([]++u),Jr5,List.nil_append]
  . rw[Jc1,Jc1];simp[accG]
def docG (eA eB:List UInt8->NSt->NSt) (eU:Bool->Bool->NSt->NSt):List (List UInt8×Bool)->List UInt8->List (List UInt8×Bool)->List UInt8->NSt->NSt
 | (u,d) :: x,xl,(v,e) :: y,yl,s=>docG eA eB eU x xl y yl (eU d e (eB v (eA u s)))
 | [],xl,_,yl,s=>eB yl (eA xl s)
 | _,xl,[],yl,s=>eB yl (eA xl s)
def docS (eA eB:List UInt8->NSt->NSt) (eU:Bool->Bool->NSt->NSt) (a b:GSt) (s:NSt):NSt:=docG eA eB eU a.1 a.2 b.1 b.2 s
def JfT (eU:NSt->NSt):Nat->NSt->NSt
 | 0,s=>s
 | n+1,s=>JfT eU n (eU s)
theorem Jrg(eA eB:List UInt8->NSt->NSt)(eU:Bool->Bool->NSt->NSt)(hA:∀u v s,eA (u++v) s=eA v (eA u s))(acc:List UInt8)(a b:GSt)(s:NSt)(hl:a.1.length=b.1.length):docS eA eB eU (accG acc a) b s=docS eA eB eU a b (eA acc s):=by
 obtain⟨x,xl⟩:=a;obtain⟨y,yl⟩:=b
 cases x with
 | nil=>cases y<;>simp[docS,accG,docG,hA]
 | cons c x =>
  cases y with
  | nil=>simp at hl
  | cons e y=>simp[docS,accG,docG,hA]
def Jtl (a:GSt):Prop:=match a with
 | ([],l)=>l=[]
 | ((u,_) :: _,_)=>u=[]
theorem JlL(eA eB:List UInt8->NSt->NSt)(eU:Bool->Bool->NSt->NSt)(hA0:∀s,eA [] s=s)(hB:∀u v s,eB (u++v) s=eB v (eB u s))(acc:List UInt8)(a b:GSt)(s:NSt)(hl:a.1.length=b.1.length)(hq:Jtl a):docS eA eB eU a (accG acc b) s=docS eA eB eU a b (eB acc s):=by
 obtain⟨x,xl⟩:=a;obtain⟨y,yl⟩:=b
 cases x with
 | nil =>
  obtain rfl:xl=[]:=hq
  cases y with
  | nil=>simp[docS,accG,docG,hA0,hB]
  | cons e y=>simp at hl
 | cons c x =>
  cases y with
  | nil=>simp at hl
  | cons e y =>
   obtain⟨u,d⟩:=c;obtain rfl:u=[]:=hq;simp[docS,accG,docG,hA0,hB]
theorem Jjo(eA eB:List UInt8->NSt->NSt)(eU:Bool->Bool->NSt->NSt)(hA0:∀s,eA [] s=s)(hB0:∀s,eB [] s=s)(d e:Bool):∀(k:Nat)(a b:GSt)(s:NSt),docS eA eB eU (List.replicate k ([],d)++a.1,a.2) (List.replicate k ([],e)++b.1,b.2) s=docS eA eB eU a b (JfT (eU d e) k s)
 | 0,a,b,s=>rfl
 | k+1,a,b,s=>by
  have:=Jjo eA eB eU hA0 hB0 d e k a b (eU d e s);simpa[docS,docG,List.replicate_succ,hA0,hB0,JfT] using this
theorem Jdy(d:Bool)(n k:Nat)(hk:k<=n):(cutP (Jat d (n+1)) ((k:Int)+1)).1=Jat d (k+1)/\∀ps,JaX [] (Jat d (n+1) :: ps)=(List.replicate (k+1) ([],d)++(JaX [] ((cutP (Jat d (n+1)) ((k:Int)+1)).2++ps)).1,(JaX [] ((cutP (Jat d (n+1)) ((k:Int)+1)).2++ps)).2):=by
 have hl:Jad (Jat d (n+1))=(n:Int)+1:=by cases d<;>simp[Jad,Jat]
 by_cases e:n=k
 . subst e
   have hc:cutP (Jat d (n+1)) ((n:Int)+1)=(Jat d (n+1),[]):=by unfold cutP;rw[if_pos hl]
   rw[hc];refine⟨rfl,fun ps=>?_⟩;rw[Jc1];simp[List.replicate_succ]
 . obtain ⟨m,rfl⟩:∃m,n=k+(m+1):=⟨n - k - 1,by omega⟩
   have hc:cutP (Jat d (k+(m+1)+1)) ((k:Int)+1)=(Jat d (k+1),[Jat d (m+1)]):=by
    unfold cutP;rw[if_neg (by rw[hl];omega)]
    cases d with
    | true =>
     have h1:¬0<(Jat true (k+(m+1)+1)).keep:=by simp[Jat]
     have h2:0<(Jat true (k+(m+1)+1)).drop:=by simp[Jat];omega
     rw[if_neg h1,if_pos h2];simp[Jat];omega
    | false =>
     have h1:0<(Jat false (k+(m+1)+1)).keep:=by simp[Jat];omega
     rw[if_pos h1];simp[Jat];omega
   rw[hc];refine⟨rfl,fun ps=>?_⟩;rw[List.singleton_append,Jc1,Jc1];have e2:List.replicate (k+(m+1)) (([]:List UInt8),d)=List.replicate k ([],d)++([],d) :: List.replicate m ([],d):=by
    rw[←List.replicate_succ,List.replicate_append_replicate]
   rw[e2];simp[List.replicate_succ]
def runS (t:Pt×Pt->List Pt) (l:List (Pt×Pt)) (s:NSt):NSt:=l.foldl (fun s x=>(t x).foldl addP s) s
def Jea (ps:List Pt):Nat:=(JaX [] ps).1.length
theorem JoF(d:Bool)(n:Nat)(ps:List Pt):Jtl (JaX [] (Jat d (n+1) :: ps)):=by
 rw[Jc1];rfl
theorem Jcd{u:List UInt8}(h:u≠[]):Jaf ⟨0,0,u⟩=true:=by simp[Jaf,h]
theorem Jbk(d:Bool)(n:Nat):Jaf (Jat d n)=false:=by cases d<;>simp[Jaf,Jat]
def Jao (ps:List Pt):Nat:=(ps.map fun p=>(Jad p).toNat).sum
theorem Jay(p:Pt)(ps:List Pt):Jao (p :: ps)=(Jad p).toNat+Jao ps:=by simp[Jao]
theorem Jba(a b:List Pt):Jao (a++b)=Jao a+Jao b:=by simp[Jao]
theorem JbF(d:Bool)(n:Nat):Jad (Jat d n)=(n:Int):=by cases d<;>simp[Jad,Jat]
theorem Jcy(d:Bool)(n k:Nat)(hk:k<=n):Jao (cutP (Jat d (n+1)) ((k:Int)+1)).2=n - k:=by
 have hl:Jad (Jat d (n+1))=(n:Int)+1:=by rw[JbF];simp
 unfold cutP
 by_cases e:n=k
 . subst e
   rw[if_pos hl];simp[Jao]
 . rw [if_neg (by rw[hl];omega)]
   cases d with
   | true =>
    have h1:¬0<(Jat true (n+1)).keep:=by simp[Jat]
    have h2:0<(Jat true (n+1)).drop:=by simp[Jat]
    rw[if_neg h1,if_pos h2];simp[Jao,Jad,Jat];omega
   | false =>
    have h1:0<(Jat false (n+1)).keep:=by simp[Jat]
    rw[if_pos h1];simp[Jao,Jad,Jat];omega
theorem JkP(t:Pt×Pt->List Pt)(eA eB:List UInt8->NSt->NSt)(eU:Bool->Bool->NSt->NSt)(hA0:∀s,eA [] s=s)(hB0:∀s,eB [] s=s)
    (hA:∀u v s,eA (u++v) s=eA v (eA u s)) (hB:∀u v s,eB (u++v) s=eB v (eB u s))
    (tA:∀u s,u≠[]->(t (⟨0,0,u⟩,noP)).foldl addP s=eA u s) (tB:∀u s,u≠[]->(t (noP,⟨0,0,u⟩)).foldl addP s=eB u s)
    (tU:∀d e k s,(t (Jat d (k+1),Jat e (k+1))).foldl addP s=JfT (eU d e) (k+1) s) :
    ∀ (f:Nat) (a b:List Pt) (s:NSt),(∀p∈a,oneP p)->(∀p∈b,oneP p)->Jea a=Jea b->Jao a+Jao b<=f ->
     runS t (Ja5 Jaf Jaf f a b) s=docS eA eB eU (JaX [] a) (JaX [] b) s:=by
 intro f
 induction f with
 | zero =>
  intro a b s ha hb hl hw
  have h0:∀(l:List Pt),(∀p∈l,oneP p)->Jao l=0->l=[]:=by
   intro l hl hw
   cases l with
   | nil=>rfl
   | cons p l =>
    have:=JaE (hl p (by simp));rw[Jay]at hw;omega
  obtain rfl:=h0 a ha (by omega);obtain rfl:=h0 b hb (by omega);simp[Ja5,runS,docS,docG,JaX,hA0,hB0]
 | succ f ih =>
  intro a b s ha hb hl hw
  cases a with
  | nil =>
   cases b with
   | nil=>simp[Ja5,runS,docS,docG,JaX,hA0,hB0]
   | cons q b =>
    rcases Jbi (hb q (by simp)) with ⟨v,hv,rfl⟩|⟨e,m,rfl⟩
    . have hlq:=JaE (hb _ (List.mem_cons_self ..))
      rw[Jay]at hw;have hb':∀p∈b,oneP p:=fun p hp=>hb p (by simp[hp]);unfold Jea at hl;rw[JeL,Jkg b hb']at hl ⊢;have hl':(JaX [] ([]:List Pt)).1.length=(JaX [] b).1.length:=by
       rw[hl];cases h:JaX [] b with | mk x l=>cases x<;>simp[accG]
      rw[JlL eA eB eU hA0 hB _ _ _ _ hl' rfl];rw[←ih [] b (eB ([]++v) s) (by simp) hb' hl' (by omega)];simp only[Ja5,Jcd hv,if_true,runS,List.foldl_cons,tB v s hv,List.nil_append]
    . unfold Jea at hl
      rw[Jc1]at hl;simp[JaX]at hl
  | cons p a =>
   have hlp:=JaE (ha p (by simp));have ha':∀p∈a,oneP p:=fun p hp=>ha p (by simp[hp])
   rcases Jbi (ha p (by simp)) with ⟨u,hu,rfl⟩|⟨d,n,rfl⟩
   . rw [Jay]at hw
     unfold Jea at hl;rw[JeL,Jkg a ha']at hl ⊢;have hl':(JaX [] a).1.length=(JaX [] b).1.length:=by
      rw[←hl];cases h:JaX [] a with | mk x l=>cases x<;>simp[accG]
     rw[Jrg eA eB eU hA _ _ _ _ hl'];rw[←ih a b (eA ([]++u) s) ha' hb hl' (by omega)];simp only[Ja5,Jcd hu,if_true,runS,List.foldl_cons,tA u s hu,List.nil_append]
   . cases b with
     | nil =>
      unfold Jea at hl;rw[Jc1]at hl;simp[JaX]at hl
     | cons q b =>
      have hb':∀p∈b,oneP p:=fun p hp=>hb p (by simp[hp]);have hlq:=JaE (hb q (by simp))
      rcases Jbi (hb q (by simp)) with ⟨v,hv,rfl⟩|⟨e,m,rfl⟩
      . rw [Jay _ b]at hw
        unfold Jea at hl;rw[JeL,Jkg b hb']at hl ⊢;have hl':(JaX [] (Jat d (n+1) :: a)).1.length=(JaX [] b).1.length:=by
         rw[hl];cases h:JaX [] b with | mk x l=>cases x<;>simp[accG]
        rw[JlL eA eB eU hA0 hB _ _ _ _ hl' (JoF d n a)];rw[←ih (Jat d (n+1) :: a) b (eB ([]++v) s) ha hb' hl' (by omega)];simp only[Ja5,Jbk,Jcd hv,if_true,Bool.false_eq_true,if_false,runS,List.foldl_cons,tB v s hv,List.nil_append]
      . obtain ⟨k,hk⟩:∃k,k=min n m:=⟨_,rfl⟩
        have l1:Jad (Jat d (n+1))=(n:Int)+1:=by cases d<;>simp[Jad,Jat]
        have l2:Jad (Jat e (m+1))=(m:Int)+1:=by cases e<;>simp[Jad,Jat]
        have hmin:min (Jad (Jat d (n+1))) (Jad (Jat e (m+1)))=(k:Int)+1:=by rw[l1,l2];omega
        obtain⟨c1,c2⟩:=Jdy d n k (by omega);obtain⟨c3,c4⟩:=Jdy e m k (by omega);obtain⟨_,_,o1,_⟩:=Jff (ha _ (List.mem_cons_self ..)) (n:=(k:Int)+1) (by omega) (by rw[l1];omega);obtain⟨_,_,o2,_⟩:=Jff (hb _ (List.mem_cons_self ..)) (n:=(k:Int)+1) (by omega) (by rw[l2];omega);have wA:=Jcy d n k (by omega);have wB:=Jcy e m k (by omega);rw[Jay,Jay,JbF,JbF]at hw;have gA:=c2 a;have gB:=c4 b;have ho1:∀p∈(cutP (Jat d (n+1)) ((k:Int)+1)).2++a,oneP p:=fun p hp=>by
         rcases List.mem_append.1 hp with h|h
         . exact(o1 p h).1
         . exact ha' p h
        have ho2:∀p∈(cutP (Jat e (m+1)) ((k:Int)+1)).2++b,oneP p:=fun p hp=>by
         rcases List.mem_append.1 hp with h|h
         . exact(o2 p h).1
         . exact hb' p h
        have hl':Jea ((cutP (Jat d (n+1)) ((k:Int)+1)).2++a)=Jea ((cutP (Jat e (m+1)) ((k:Int)+1)).2++b):=by
         unfold Jea at hl ⊢;rw[gA,gB]at hl;simp only[List.length_append,List.length_replicate]at hl;omega
        rw[gA,gB,Jjo eA eB eU hA0 hB0 d e (k+1),←ih _ _ _ ho1 ho2 hl' (by rw[Jba,Jba,wA,wB];omega)];simp only[Ja5,Jbk,Bool.false_eq_true,if_false,runS,List.foldl_cons,hmin,c1,c3,tU]
def tPut (u:List UInt8) (s:NSt):NSt:=addP s ⟨0,0,u⟩
def JhD (v:List UInt8) (s:NSt):NSt:=addP s ⟨v.length,0,[]⟩
def Ji9 (d e:Bool) (s:NSt):NSt:=if e then s else addP s (Jf5 d)
theorem Jn1(s:NSt):tPut [] s=s:=Jb6 s
theorem JkJ(s:NSt):JhD [] s=s:=Jb6 s
theorem JkI(u v:List UInt8)(s:NSt):tPut (u++v) s=tPut v (tPut u s):=(Jg1 s u v).symm
theorem JiP(u v:List UInt8)(s:NSt):JhD (u++v) s=JhD v (JhD u s):=by
 unfold JhD
 cases u with
 | nil=>simp[Jb6]
 | cons c u =>
  rw[Jf3 s ((c :: u).length:Int) (v.length:Int) (by simp) (by omega),List.length_append];simp
theorem JkB(d:Bool):∀(k:Nat)(s:NSt),JfT (Ji9 d false) (k+1) s=addP s (Jat d (k+1))
 | 0,s=>by cases d<;>rfl
 | k + 1,s=>by
  have e1:JfT (Ji9 d false) (k+1+1) s=JfT (Ji9 d false) (k+1) (Ji9 d false s):=rfl;rw[e1,JkB d k]
  cases d with
  | true =>
   show addP (addP s ⟨0,1,[]⟩) ⟨0,((k+1:Nat):Int),[]⟩=addP s ⟨0,((k+1+1:Nat):Int),[]⟩;rw[Jez]
   congr 2
   omega
  | false =>
   show addP (addP s ⟨1,0,[]⟩) ⟨((k+1:Nat):Int),0,[]⟩=addP s ⟨((k+1+1:Nat):Int),0,[]⟩;rw[Jf3 s 1 _ (by omega) (by omega)]
   congr 2
   omega
theorem JiJ(d:Bool):∀(k:Nat)(s:NSt),JfT (Ji9 d true) k s=s
 | 0,_=>rfl
 | k+1,s=>JiJ d k s
theorem JkD(u:List UInt8)(s:NSt)(h:u≠[]):(JbH (⟨0,0,u⟩,noP)).foldl addP s=tPut u s:=by simp[JbH,Jaf,noP,h,tPut]
theorem JiM(v:List UInt8)(s:NSt)(h:v≠[]):(JbH (noP,⟨0,0,v⟩)).foldl addP s=JhD v s:=by simp[JbH,Jaf,h,JhD]
theorem JiL(d e:Bool)(k:Nat)(s:NSt):(JbH (Jat d (k+1),Jat e (k+1))).foldl addP s=JfT (Ji9 d e) (k+1) s:=by
 cases e with
 | true =>
  rw[JiJ];have h1:Jaf (Jat true (k+1))=false:=Jbk true (k+1);have h2:Jaf (Jat d (k+1))=false:=Jbk d (k+1);have h3:Jb0 (Jat true (k+1))=false:=by simp[Jb0,Jat]
  simp[JbH,h1,h2,h3]
 | false =>
  rw[JkB];have h1:Jaf (Jat false (k+1))=false:=Jbk false (k+1);have h3:Jb0 (Jat false (k+1))=true:=by simp[Jb0,Jat]
  simp[JbH,h1,h3]
theorem JlH:∀(x:List (List UInt8×Bool))(xl:List UInt8)(y:List (List UInt8×Bool))(yl:List UInt8)(s:NSt),(docT true x xl y yl).foldl addP s=docG tPut JhD Ji9 x xl y yl s
 | [],xl,[],yl,s=>rfl
 | [],xl,_ :: _,yl,s=>rfl
 | _ :: _,xl,[],yl,s=>rfl
 | (u,d) :: x,xl,(v,e) :: y,yl,s=>by
   rw[docT,docG,List.foldl_append,JlH x xl y yl]
   cases e<;>rfl
theorem Jjn:∀(x:List (List UInt8×Bool))(xl:List UInt8)(y:List (List UInt8×Bool))(yl:List UInt8)(s:NSt),(docT false x xl y yl).foldl addP s=docG JhD tPut (fun e d=>Ji9 d e) y yl x xl s
 | [],xl,[],yl,s=>rfl
 | [],xl,_ :: _,yl,s=>rfl
 | _ :: _,xl,[],yl,s=>rfl
 | (u,d) :: x,xl,(v,e) :: y,yl,s=>by
   rw[docT,docG,List.foldl_append,Jjn x xl y yl]
   cases e<;>rfl
theorem JiK(f:Nat)(a b:List Pt)(s:NSt)(ha:∀p∈a,oneP p)(hb:∀p∈b,oneP p)(hl:Jea a=Jea b)(hw:Jao a+Jao b<=f) :
    runS JbH (Ja5 Jaf Jaf f a b) s=(docT true (JaX [] a).1 (JaX [] a).2 (JaX [] b).1 (JaX [] b).2).foldl addP s:=by
 rw[JlH];exact JkP JbH tPut JhD Ji9 Jn1 JkJ JkI JiP JkD JiM JiL f a b s ha hb hl hw
theorem Jh7(f:Nat)(a b:List Pt)(s:NSt)(ha:∀p∈a,oneP p)(hb:∀p∈b,oneP p)(hl:Jea a=Jea b)(hw:Jao a+Jao b<=f) :
    runS (fun x=>JbH (x.2,x.1)) (Ja5 Jaf Jaf f b a) s=(docT false (JaX [] a).1 (JaX [] a).2 (JaX [] b).1 (JaX [] b).2).foldl addP s:=by
 rw[Jjn];exact JkP (fun x=>JbH (x.2,x.1)) JhD tPut (fun e d=>Ji9 d e) JkJ Jn1 JiP JkI (fun v s h=>JiM v s h) (fun u s h=>JkD u s h) (fun e d k s=>JiL d e k s) f b a s hb ha hl.symm (by omega)
variable {s : NSt}
structure OneS (s:NSt):Prop where
 out:∀p∈s.out,oneP p
 drop:0<=s.drop
theorem Jhv(h:OneS s):∀p∈Jaq s,oneP p:=by
 intro p hp;unfold Jaq at hp
 rcases List.mem_append.1 hp with hp|hp
 . exact h.out p hp
 . rcases List.mem_append.1 hp with hp | hp
   . split at hp
     . simp at hp
     . rename_i hne
       rw[List.mem_singleton.1 hp];exact .inr (.inr ⟨rfl,rfl,hne⟩)
   . split at hp
     . simp at hp
     . rename_i hne
       rw[List.mem_singleton.1 hp];have:=h.drop;exact .inr (.inl ⟨rfl,by show 0<s.drop;omega,rfl⟩)
theorem JrX{l:List Pt}(h:∀p∈l,oneP p){k:Int}(hk:0<k):∀p∈JaT l k,oneP p:=by
 intro p hp;unfold JaT at hp;have hnew:oneP (⟨k,0,[]⟩:Pt):=.inl ⟨hk,rfl,rfl⟩
 cases hq:l.getLast? with
 | none =>
  rw[hq]at hp;simp only[List.mem_append,List.mem_singleton]at hp
  rcases hp with hp|rfl
  . exact h p hp
  . exact hnew
 | some q =>
  rw[hq]at hp;have hql:q∈l:=List.mem_of_getLast? hq;simp only at hp
  split at hp
  . rename_i h0
    simp only[List.mem_append,List.mem_singleton]at hp
    rcases hp with hp|rfl
    . exact h p (List.dropLast_subset l hp)
    . rcases h q hql with ⟨h1,h2,h3⟩|⟨h1,_,_⟩|⟨h1,_,_⟩
      . exact .inl ⟨by show 0<q.keep+k;omega,h2,h3⟩
      . omega
      . omega
  . simp only[List.mem_append,List.mem_singleton]at hp
    rcases hp with hp|rfl
    . exact h p hp
    . exact hnew
theorem Jns(h:OneS s)(p:Pt)(hk:0<=p.keep)(hd:0<=p.drop):OneS (addP s p):=by
 unfold addP;have h':OneS ⟨s.out,s.put++p.put,s.drop+p.drop⟩:=⟨h.out,by have:=h.drop;show 0<=s.drop+p.drop;omega⟩
 split
 . exact h'
 . rename_i hk0
   exact⟨JrX (Jhv h') (by omega),by show(0:Int)<=0;omega⟩
theorem Js3(ps:List Pt)(h:∀p∈ps,0<=p.keep/\0<=p.drop):∀s,OneS s->OneS (ps.foldl addP s):=by
 induction ps with
 | nil=>exact fun s hs=>hs
 | cons p ps ih=>exact fun s hs=>ih (fun q hq=>h q (by simp[hq])) _ (Jns hs p (h p (by simp)).1 (h p (by simp)).2)
theorem JeG(ps:List Pt)(h:∀p∈ps,0<=p.keep/\0<=p.drop):∀p∈Jac ps,oneP p :=
 Jhv (Js3 ps h nst0 ⟨by simp[nst0],by simp[nst0]⟩)
def Jag (ps:List Pt):Int:=(ps.map lenP).sum
def Jf7 (s:NSt):Int:=Jag s.out+s.drop
theorem Jby(a b:List Pt):Jag (a++b)=Jag a+Jag b:=by simp[Jag]
theorem JfR(s:NSt):Jag (Jaq s)=Jf7 s:=by
 unfold Jaq Jf7;rw[Jby,Jby]
 by_cases hp:s.put=[]<;>by_cases hd:s.drop=0<;>simp[Jag,lenP,hp,hd]
theorem Jqo(l:List Pt)(k:Int):Jag (JaT l k)=Jag l+k:=by
 unfold JaT
 cases hq:l.getLast? with
 | none=>simp[Jag,lenP]
 | some q =>
  simp only
  split
  . have e:l=l.dropLast++[q]:=by
      have hne:l≠[]:=by rintro rfl;simp at hq
      have:=List.dropLast_concat_getLast hne;rw[List.getLast?_eq_some_getLast hne]at hq;rw[osi hq]at this;exact this.symm
    conv=>rhs;rw[e]
    rw[Jby,Jby];simp[Jag,lenP];omega
  . rw[Jby];simp[Jag,lenP]
theorem Jf2(s:NSt)(p:Pt):Jf7 (addP s p)=Jf7 s+lenP p:=by
 unfold addP
 split
 . rename_i h
   simp[Jf7,lenP,h];omega
 . show Jag (JaT _ _)+0=_
   rw[Jqo,JfR];simp[Jf7,lenP];omega
theorem JlA(ps:List Pt):∀s,Jf7 (ps.foldl addP s)=Jf7 s+Jag ps:=by
 induction ps with
 | nil=>intro s;simp[Jag]
 | cons p ps ih =>
  intro s;rw[List.foldl_cons,ih,Jf2];simp[Jag];omega
theorem JhW(ps:List Pt):Jag (Jac ps)=Jag ps:=by
 unfold Jac;rw[JfR,JlA];simp[Jf7,nst0,Jag]
theorem JbJ(ps:List Pt)(h:∀p∈ps,0<=p.keep/\0<=p.drop):(Jea ps:Int)=Jag ps:=by
 unfold Jea
 have key:∀(ps:List Pt),(∀p∈ps,0<=p.keep/\0<=p.drop)->∀acc,((JaX acc ps).1.length:Int)=Jag ps:=by
  intro ps
  induction ps with
  | nil=>intro _ acc;simp[JaX,Jag]
  | cons p ps ih =>
   intro h acc;have h1:=Jmv ([],acc) p (h p (by simp)).1 (h p (by simp)).2;have h2:=ih (fun q hq=>h q (by simp[hq])) (Jbh ([],acc) p).2;simp only[JaX,List.length_append,Jag,List.map_cons,List.sum_cons]at h2 ⊢
   push_cast
   simp only[List.length_nil]at h1;omega
 exact key ps h []
end
section
open Go.RowKit
attribute [local go_sem] Oper.semAt_some
def pk (a m:Int):Int:=IntKind.u64.wrap a % m
theorem Jfy(w:World)(n:Nat)(hn:w.heap.size=n)(l:List Value)(t:TypeId):∀j u,l[j]?=some u->(w.alloc (.cells l.toArray t)).cell? ((⟨n,0,none⟩:Addr).add j)=some u:=by
 subst hn;exact JaW w l t
end
end Go.Proofs.YtedgnlgjmnccgabGreatDoor
namespace Go.Proofs
open Go.Shelf
def Tryz.laysM316_ren:Go.Shelf.Ren:=⟨fun | 316=>176 | n=>n,fun | 9=>9 | 3=>3 | 4=>4 | 37=>158 | 0=>0 | 127=>272 | 5=>5 | n=>n,fun | n=>n⟩
theorem Tryz.laysM316:Go.Proofs.LaysM.n316 Tryz.prog Tryz.laysM316_ren:={
 mixed:=by kernel_rfl
 f316:=Tryz.func176.trans (congrArg some (by kernel_rfl))
 t0:=Tryz.underlying0
 a0:=Tryz.isAgg0
 z0:=Tryz.sizeOf0
 v0:=Tryz.zeroValue0
 t3:=Tryz.underlying3
 a3:=Tryz.isAgg3
 z3:=Tryz.sizeOf3
 v3:=Tryz.zeroValue3
 t4:=Tryz.underlying4
 a4:=Tryz.isAgg4
 z4:=Tryz.sizeOf4
 v4:=Tryz.zeroValue4
 t9:=Tryz.underlying9
 a9:=Tryz.isAgg9
 z9:=Tryz.sizeOf9
 v9:=Tryz.zeroValue9
 t37:=Tryz.underlying158
 a37:=Tryz.isAgg158
 z37:=Tryz.sizeOf158
 v37:=Tryz.zeroValue158
 t127:=Tryz.underlying272
 a127:=Tryz.isAgg272
 z127:=Tryz.sizeOf272
 v127:=Tryz.zeroValue272
 t5:=Tryz.underlying5
 a5:=Tryz.isAgg5
 z5:=Tryz.sizeOf5
 v5:=Tryz.zeroValue5
 i0:=by kernel_rfl
 i3:=by kernel_rfl
 i4:=by kernel_rfl
 i5:=by kernel_rfl
 i9:=by kernel_rfl
 i37:=by kernel_rfl
 i127:=by kernel_rfl }
open Go.RowKit in
theorem Tryz.stringslite_Clone(s:ByteArray)(w:World)(hlim:s.size<=281474976710656) :
    Calls Tryz.prog 176 #[.string s] w fun e w'=>e=.returned (.string s)/\Below w.heap.size w w':=Any.stringslite_Clone Tryz.laysM316 s w hlim
end Go.Proofs
namespace Go.Proofs.YtedgnlgjmnccgabGreatDoor
section
open Go.RowKit
attribute [local go_sem] Oper.semAt_some
theorem JfE{l:List Pt}(hl:∀q∈l,0<=lenP q):0<=Jag l:=by
 induction l with
 | nil=>simp[Jag]
 | cons p l ih =>
  have:=hl p (by simp);have:=ih fun x hx=>hl x (by simp[hx]);simp only[Jag,List.map_cons,List.sum_cons]at this ⊢;omega
theorem JlU:∀{ps:List Pt}{N:Int},(∀q∈ps,0<=lenP q)->chk2 ps N=0->Jag ps=N
 | [],N,_,h=>by
  unfold chk2 at h
  split at h
  . rename_i e;simp[Jag,e]
  . cases h
 | p :: ps,N,hl,h=>by
  unfold chk2 at h
  split at h
  . cases h
  . have:=JlU (fun q hq=>hl q (by simp[hq])) h
    have e:Jag (p :: ps)=lenP p+Jag ps:=by simp[Jag]
    rw[e,this];unfold lenP;omega
theorem JcC{ps:List Pt}{N:Int}(h:chkE ps N=0):(∀p∈ps,oneB p=true/\(scan p.put).2=true)/\Jag ps=N/\∀q∈ps,0<=lenP q:=by
 unfold chkE at h
 split at h
 . rename_i h1
   have h2:=Jey h1;have h3:∀q∈ps,0<=lenP q:=fun q hq=>by
    have:=(Jce (h2 q hq).1).1;unfold Jbc at this;unfold lenP;omega
   exact⟨h2,JlU h3 h,h3⟩
 . rename_i h1;exact absurd h h1
theorem JcV{q:Pt}(h:oneB q=true):(0<q.keep/\q.drop=0/\q.put=[])\/(q.keep=0/\0<q.drop/\q.put=[])\/(q.keep=0/\q.drop=0/\q.put≠[]):=by
 unfold oneB at h
 split at h
 . rename_i h1;exact .inl ⟨of_decide_eq_true h,h1.1,h1.2⟩
 . split at h
   . rename_i h1 h2;exact .inr (.inl ⟨h2.1,of_decide_eq_true h,h2.2⟩)
   . rename_i h1 h2
     have h3:=of_decide_eq_true h;exact .inr (.inr ⟨h3.1,h3.2,fun e=>h1 ⟨h3.2,e⟩⟩)
def Jaz (u:Int):Prop:=u=1\/u=2\/u=3
end
section
variable {u v : Int}
def JcQ (n:Int) (q:Pt):Pt:=if 0<q.keep then ⟨n,0,[]⟩ else if 0<q.drop then ⟨0,n,[]⟩ else ⟨0,0,q.put⟩
def upTo (rs:List Nat) (u a:Int):List Nat:=find (JdL u a) [] rs
def JaM (rs:List Nat) (u a:Int):Bool:=decide (by_ u (upTo rs u a)=a)
def JdZ (rs:List Nat) (u v:Int):Int->List Pt->List Pt×Bool
 | _,[]=>([],true)
 | a, q :: qs=>if JaM rs u (a+lenP q) then
     (JcQ (by_ v (upTo rs u (a+lenP q)) - by_ v (upTo rs u a)) q :: (JdZ rs u v (a+lenP q) qs).1,(JdZ rs u v (a+lenP q) qs).2)
  else ([],false)
theorem C2_one(r:Nat):1<=C2 [r]:=by
 unfold C2 sum2 wide;simp only[List.map_cons,List.map_nil,List.sum_cons,List.sum_nil,Int.add_zero];unfold cH
 split<;>omega
theorem Joh(hu:Jaz u)(r:Nat):1<=by_ u [r]:=by
 unfold by_
 rcases hu with rfl|rfl|rfl
 . rw[if_pos rfl,Jcf]
   have:=List.length_pos_iff.2 (JnY r);have e:encs [r]=enc r:=by simp[encs]
   rw[e];omega
 . rw[if_neg (by decide),if_pos rfl]
   exact C2_one r
 . rw[if_neg (by decide),if_neg (by decide),if_pos rfl]
   show(1:Int)<=((1:Nat):Int);omega
theorem Jkw(hu:Jaz u):∀(rs:List Nat)(i j:Nat),i<j->j<=rs.length->by_ u (rs.take i)<by_ u (rs.take j)
 | rs,i,j,h,hj=>by
  have e:rs.take j=rs.take i++(rs.drop i).take (j - i):=by rw[←List.take_add];congr 1;omega
  rw[e,Jbp];have hne:(rs.drop i).take (j - i)≠[]:=fun e=>by
   have:=congrArg List.length e;rw[List.length_take,List.length_drop,List.length_nil]at this;omega
  cases hx:(rs.drop i).take (j - i) with
  | nil=>exact absurd hx hne
  | cons r x =>
   have e2:r :: x=[r]++x:=rfl;rw[e2,Jbp];have:=Joh hu r;have:=Jdl u x;omega
theorem Jjk(u a:Int):∀(rs pre:List Nat),a<=by_ u (pre++rs)->∃k,k<=rs.length/\find (JdL u a) pre rs=pre++rs.take k/\a<=by_ u (pre++rs.take k)/\∀i,i<k->by_ u (pre++rs.take i)<a
 | [],pre,h=>by
  refine⟨0,nlr _,?_,by simpa using h,fun i hi=>absurd hi (Nat.not_lt_zero _)⟩;have:JdL u a pre=true:=decide_eq_true (by simpa using h);unfold find;rw[if_pos this];simp
 | r :: rs,pre,h=>by
  by_cases h0:a<=by_ u pre
  . refine⟨0,Nat.zero_le _,?_,by simpa using h0,fun i hi=>absurd hi (Nat.not_lt_zero _)⟩
    have:JdL u a pre=true:=decide_eq_true h0;unfold find;rw[if_pos this];simp
  . obtain ⟨k,k1,k2,k3,k4⟩:=Jjk u a rs (pre++[r]) (by simpa using h)
    have e:∀i,pre++(r :: rs).take (i+1)=(pre++[r])++rs.take i:=fun i=>by simp
    refine⟨k+1,by simp;omega,?_,by rw[e];exact k3,fun i hi=>?_⟩
    . rw[e,←k2]
      have hf:JdL u a pre=false:=decide_eq_false h0
      conv=>lhs;unfold find
      rw[hf,if_neg (by decide),seek]
      conv=>rhs;unfold find
      split
      . rfl
      . simp
    . cases i with
      | zero=>rw[List.take_zero,List.append_nil];omega
      | succ i=>rw[e];exact k4 i (by omega)
theorem Jd2(rs:List Nat)(u a:Int)(h:a<=by_ u rs):∃k,k<=rs.length/\upTo rs u a=rs.take k/\a<=by_ u (rs.take k)/\∀i,i<k->by_ u (rs.take i)<a:=by
 obtain⟨k,h1,h2,h3,h4⟩:=Jjk u a rs [] (by simpa using h);exact⟨k,h1,by unfold upTo;simpa using h2,by simpa using h3,fun i hi=>by simpa using h4 i hi⟩
theorem JdA(hu:Jaz u){rs:List Nat}{a:Int}(h:a<=by_ u rs) :
    (JaM rs u a=true->∃k,k<=rs.length/\upTo rs u a=rs.take k/\by_ u (rs.take k)=a/\∀i,i<k->by_ u (rs.take i)≠a) /\
    (JaM rs u a=false->∀i,i<=rs.length->by_ u (rs.take i)≠a):=by
 obtain⟨k,h1,h2,h3,h4⟩:=Jd2 rs u a h;unfold JaM;rw[h2];refine⟨fun e=>⟨k,h1,h2 ▸ rfl,of_decide_eq_true e,fun i hi=>by have:=h4 i hi;omega⟩,fun e i hi e2=>?_⟩;have hne:by_ u (rs.take k)≠a:=of_decide_eq_false e
 by_cases hik:i<k
 . have:=h4 i hik;omega
 . by_cases hke:k=i
   . subst hke;exact hne e2
   . have:=Jkw hu rs k i (by omega) hi
     omega
theorem JpD(rs:List Nat){a:Int}(h:a<=by_ u rs):by_ v (upTo rs u a)<=by_ v rs:=by
 obtain⟨k,h1,h2,_,_⟩:=Jd2 rs u a h;rw[h2];have e:rs=rs.take k++rs.drop k:=(List.take_append_drop k rs).symm;have:by_ v rs=by_ v (rs.take k)+by_ v (rs.drop k):=by rw[←Jbp,List.take_append_drop]
 have:=Jdl v (rs.drop k);omega
theorem JpC(rs:List Nat){a b:Int}(hab:a<=b)(h:b<=by_ u rs):by_ v (upTo rs u a)<=by_ v (upTo rs u b):=by
 obtain⟨k,k1,k2,k3,k4⟩:=Jd2 rs u a (by omega);obtain⟨j,j1,j2,j3,j4⟩:=Jd2 rs u b h;rw[k2,j2];have hkj:k<=j:=by
  by_cases hh:k<=j
  . exact hh
  . have:=k4 j (by omega);omega
 have e:rs.take j=rs.take k++(rs.drop k).take (j - k):=by rw[←List.take_add];congr 1;omega
 rw[e,Jbp];have:=Jdl v ((rs.drop k).take (j - k));omega
theorem Jh5(rs:List Nat)(u:Int):upTo rs u 0=[]:=JqW u rs
end
section
open Go.RowKit
attribute [local go_sem] Oper.semAt_some
def Ji7 (rs:List Nat) (u v:Int) (qs:List Pt):List Pt:=if (JdZ rs u v 0 qs).2 then (JdZ rs u v 0 qs).1 else []
def Ji6 (rs:List Nat) (u v:Int) (qs:List Pt):Int:=if (JdZ rs u v 0 qs).2 then 0 else 10
end
section
open Go.RowKit
variable {K D : Int}{U : List UInt8}
theorem JjN(s:ByteArray)(hs:s.size<100000000)(w:World):Calls Tryz.prog 81 #[.string s] w fun e w'=>∃p n c d,e=.returned (.tuple #[.slice p n c,.agg #[.int .i64 (if (scan s.data.toList).2 then 0 else 3),.int .i64 d]])/\Below w.heap.size w w':=by
 refine(Jec s hs w).mono ?_;rintro e w' ⟨hb,⟨h,v,rfl,hv⟩|⟨h,rfl⟩⟩
 . rw[if_pos h]
   obtain⟨p,c,rfl,_⟩:=hv;exact⟨_,_,_,_,rfl,hb⟩
 . rw[if_neg (by rw[h];simp)]
   exact⟨_,_,_,_,rfl,hb⟩
theorem Jjc(h:oneB ⟨K,D,U⟩=true):(D=0/\U=[]/\0<K)\/(K=0/\U=[]/\0<D)\/(K=0/\D=0/\U≠[]):=by
 unfold oneB at h
 split at h
 . rename_i h1
   exact .inl ⟨h1.1,h1.2,of_decide_eq_true h⟩
 . rename_i h0
   split at h
   . rename_i h1
     exact .inr (.inl ⟨h1.1,h1.2,of_decide_eq_true h⟩)
   . have:=of_decide_eq_true h
     exact .inr (.inr ⟨this.1,this.2,fun e=>h0 ⟨this.2,e⟩⟩)
theorem JmI(h:oneB ⟨K,D,U⟩=false):(K≠0/\D≠0/\U≠[])\/(K≠0/\D≠0/\U=[])\/(K≠0/\D=0/\U≠[])\/(K=0/\D≠0/\U≠[])\/(K=0/\D=0/\U=[])\/(K<0/\D=0/\U=[])\/(K=0/\D<0/\U=[]):=by
 unfold oneB at h
 by_cases h1:K=0<;>by_cases h2:D=0<;>by_cases h3:U=[]<;>simp[h1,h2,h3]at h ⊢<;>omega
theorem Jc9(v:Value)(ps:List Pt)(N:Int)(w:World)(hr:opAt w v ps)(hwf:∀p∈ps,wfP p)(hsm:∀p∈ps,p.put.length<100000000)(hN: -9223372036854775808<=N/\N<9223372036854775808)(hl:ps.length<10000000) :
    Calls Tryz.prog 86 #[v,.int .i64 N] w fun e w'=>e=.returned (.int .i64 (chkE ps N))/\Below w.heap.size w w':=by
 obtain⟨p,c,rfl,r1,r2,r3⟩:=hr;obtain⟨n,hn⟩:∃n,n=ps.length:=⟨_,rfl⟩;rw[←hn]at r1 hl ⊢;have HN:=hdz hn;clear hn
 have R3:Hid (ps≠[]->∃b o,p=some ⟨b,o,none⟩/\b<w.heap.size/\∀i q,ps[i]?=some q ->
  w.cell? ⟨b,o+i*3,none⟩=some (.int .i64 q.keep)/\w.cell? ⟨b,o+i*3+1,none⟩=some (.int .i64 q.drop)/\w.cell? ⟨b,o+i*3+2,none⟩=some (.string ⟨q.put.toArray⟩)):=r3
 have HWF:=hdz hwf;have HSM:=hdz hsm;obtain⟨hN0,hN1⟩:=hN;clear r3 hwf hsm
 go_enter Tryz.func86,Tryz.ntmps86
 go_wp2
 go_loopw [14] (fun i wr=>∃(k:Nat),k<=n/\i=.int .i64 k/\chk1 ps=chk1 (ps.drop k)/\Below w.heap.size w wr) (fun i _=>n - (intOf i).toNat)
 case atStart=>exact⟨0,Nat.zero_le _,rfl,rfl,brf _ _⟩
 case round =>
  obtain⟨k,hk,rfl,hch,hwr⟩:=hrel
  by_cases hlt:k<n
  . have hkr:k<ps.length:=by rw[←HN.out];exact hlt
    have hne:ps≠[]:=by intro e;rw[e]at hkr;exact absurd hkr (Nat.not_lt_zero _)
    obtain⟨b,o,rfl,hbw,hcell⟩:=R3.out hne;obtain⟨c0,c1,c2⟩:=hcell k ps[k] (lgg hkr);have g0:=(hwr.cell (p:=⟨b,o+k*3,none⟩) hbw).trans c0;have g1:=(hwr.cell (p:=⟨b,o+k*3+1,none⟩) hbw).trans c1;have g2:=(hwr.cell (p:=⟨b,o+k*3+2,none⟩) hbw).trans c2;rw[List.drop_eq_getElem_cons hkr,chk1]at hch;have hwq:=HWF.out ps[k] (List.getElem_mem _);have hsm:=HSM.out ps[k] (List.getElem_mem _);generalize ps[k]=q at *;obtain⟨K,D,U⟩:=q;have hsize:=hwr.size;have HWR:=hdz hwr;have HBA:Hid (∀o w2,Below (wr.alloc o).heap.size (wr.alloc o) w2->Below w.heap.size w w2):=fun o w2 h=>(hwr.alloc hsize o).trans (h.mono (hwr.alloc hsize o).size);have HBO:Hid (∀o,Below w.heap.size w (wr.alloc o)):=fun o=>hwr.alloc hsize o;have cR':=fun wx=>JjN ⟨U.toArray⟩ (by simpa[ByteArray.size] using hsm) wx;simp only at hch cR' g0 g1 g2
    by_cases h1:oneB ⟨K,D,U⟩=true
    . rw [if_pos h1]at hch
      by_cases h2:(scan U).2=true
      . rw [if_pos h2]at hch
        simp only[h2,if_true]at cR';have HCH:=hdz hch;have hsh:=Jjc h1;clear hcell c0 c1 c2 hch hwq hwr HWF HSM h1 h2 hsm
        rcases hsh with ⟨rfl,rfl,s⟩|⟨rfl,rfl,s⟩|⟨rfl,rfl,s⟩
        . have sb:(K==0)=false:=beq_eq_false_iff_ne.2 (by omega)
          have sn:¬K<0:=by omega
          have cR:∀wx,Calls Tryz.prog 81 #[.string ⟨#[]⟩] wx fun e w'=>∃p n c d,e=.returned (.tuple #[.slice p n c,.agg #[.int .i64 0,.int .i64 d]])/\Below wx.heap.size wx w':=cR';clear cR'
          go_wp2_with (go_at_call 81;refine(cR _).mono ?_;rintro e w2 ⟨pp,nn,cc,dd,rfl,hb2⟩;have HB2:Hid (Below w.heap.size w w2):=HBA.out _ _ hb2;clear hb2)
          go_roundw
          case rel=>exact⟨k+1,by omega,by go_num,HCH.out,HB2.out.alloc HB2.out.size _⟩
          case measure=>simp[intOf];omega
        . have sb:(D==0)=false:=beq_eq_false_iff_ne.2 (by omega)
          have sn:¬D<0:=by omega
          have cR:∀wx,Calls Tryz.prog 81 #[.string ⟨#[]⟩] wx fun e w'=>∃p n c d,e=.returned (.tuple #[.slice p n c,.agg #[.int .i64 0,.int .i64 d]])/\Below wx.heap.size wx w':=cR';clear cR'
          go_wp2_with (go_at_call 81;refine(cR _).mono ?_;rintro e w2 ⟨pp,nn,cc,dd,rfl,hb2⟩;have HB2:Hid (Below w.heap.size w w2):=HBA.out _ _ hb2;clear hb2)
          go_roundw
          case rel=>exact⟨k+1,by omega,by go_num,HCH.out,HB2.out.alloc HB2.out.size _⟩
          case measure=>simp[intOf];omega
        . have cR:=cR'
          have sU:U.isEmpty=false:=by simpa using s
          clear cR'
          go_wp2_with (go_at_call 81;refine(cR _).mono ?_;rintro e w2 ⟨pp,nn,cc,dd,rfl,hb2⟩;have HB2:Hid (Below w.heap.size w w2):=HBA.out _ _ hb2;clear hb2)
          go_roundw
          case rel=>exact⟨k+1,by omega,by go_num,HCH.out,HB2.out.alloc HB2.out.size _⟩
          case measure=>simp[intOf];omega
      . have h2:(scan U).2=false:=Bool.eq_false_iff.2 h2
        have hU:U≠[]:=by intro e;rw[e]at h2;cases h2
        rw[h2]at hch;simp only[h2,Bool.false_eq_true,if_false]at cR';have HCH:Hid (chk1 ps=3):=by show chk1 ps=3;simpa using hch
        have hsh:=Jjc h1;clear hcell c0 c1 c2 hch hwq hwr HWF HSM h1 h2 hsm
        rcases hsh with ⟨rfl,rfl,s⟩|⟨rfl,rfl,s⟩|⟨rfl,rfl,s⟩
        . exact absurd rfl hU
        . exact absurd rfl hU
        . have cR:=cR'
          have sU:U.isEmpty=false:=by simpa using s
          clear cR'
          go_wp2_with (go_at_call 81;refine(cR _).mono ?_;rintro e w2 ⟨pp,nn,cc,dd,rfl,hb2⟩;have HB2:Hid (Below w.heap.size w w2):=HBA.out _ _ hb2;clear hb2)
          go_ret;refine⟨?_,HB2.out.alloc HB2.out.size _⟩;unfold chkE;rw[HCH.out];rfl
    . have h1:oneB ⟨K,D,U⟩=false:=Bool.eq_false_iff.2 h1
      rw[h1]at hch;have HCH:Hid (chk1 ps=1):=by show chk1 ps=1;simpa using hch
      have hsh:=JmI h1;clear hcell c0 c1 c2 hch hwq hwr HWF HSM h1 hsm cR'
      rcases hsh with ⟨s1,s2,s3⟩|⟨s1,s2,rfl⟩|⟨s1,rfl,s3⟩|⟨rfl,s2,s3⟩|⟨rfl,rfl,rfl⟩|⟨s1,rfl,rfl⟩|⟨rfl,s2,rfl⟩
      . have kb:(K==0)=false:=beq_eq_false_iff_ne.2 (by omega)
        have db:(D==0)=false:=beq_eq_false_iff_ne.2 (by omega);have sU:U.isEmpty=false:=by simpa using s3
        go_wp2;go_ret;refine⟨?_,HBO.out _⟩;unfold chkE;rw[HCH.out];rfl
      . have kb:(K==0)=false:=beq_eq_false_iff_ne.2 (by omega)
        have db:(D==0)=false:=beq_eq_false_iff_ne.2 (by omega);go_wp2;go_ret;refine⟨?_,HBO.out _⟩;unfold chkE;rw[HCH.out];rfl
      . have kb:(K==0)=false:=beq_eq_false_iff_ne.2 (by omega)
        have sU:U.isEmpty=false:=by simpa using s3
        go_wp2;go_ret;refine⟨?_,HBO.out _⟩;unfold chkE;rw[HCH.out];rfl
      . have db:(D==0)=false:=beq_eq_false_iff_ne.2 (by omega)
        have sU:U.isEmpty=false:=by simpa using s3
        go_wp2;go_ret;refine⟨?_,HBO.out _⟩;unfold chkE;rw[HCH.out];rfl
      . have t0:=HBO.out
        clear t0;go_wp2;go_ret;refine⟨?_,HBO.out _⟩;unfold chkE;rw[HCH.out];rfl
      . have kb:(K==0)=false:=beq_eq_false_iff_ne.2 (by omega)
        go_wp2;go_ret;refine⟨?_,HBO.out _⟩;unfold chkE;rw[HCH.out];rfl
      . have db:(D==0)=false:=beq_eq_false_iff_ne.2 (by omega)
        go_wp2;go_ret;refine⟨?_,HBO.out _⟩;unfold chkE;rw[HCH.out];rfl
  . have e : ps.drop k=[]:=List.drop_of_length_le (by rw[←HN.out];omega)
    rw[e]at hch;have H0:Hid (chk1 ps=0):=hch;have HWR:=hdz hwr;have HON:Hid (∀p∈ps,Jbc p/\(p.keep=0\/p.drop=0)):=fun p hp=>Jce (Jey hch p hp).1;clear e hch hwr;go_wp2
    go_loopw [1,57] (fun m i wr=>∃(k:Nat) (M:Int),k<=n/\i=.int .i64 k/\m=.int .i64 M/\-9223372036854775808<=M/\M<9223372036854775808/\chk2 ps N=chk2 (ps.drop k) M/\Below w.heap.size w wr) (fun _ i _=>n - (intOf i).toNat)
    case atStart=>exact⟨0,N,Nat.zero_le _,rfl,rfl,hN0,hN1,rfl,HWR.out⟩
    case round =>
     obtain⟨k,M,hk,rfl,rfl,hM0,hM1,hch,hwr⟩:=hrel
     by_cases hlt:k<n
     . have hkr:k<ps.length:=by rw[←HN.out];exact hlt
       have hne:ps≠[]:=by intro e;rw[e]at hkr;exact absurd hkr (Nat.not_lt_zero _)
       obtain⟨b,o,rfl,hbw,hcell⟩:=R3.out hne;obtain⟨c0,c1,c2⟩:=hcell k ps[k] (lgg hkr);have g0:=(hwr.cell (p:=⟨b,o+k*3,none⟩) hbw).trans c0;have g1:=(hwr.cell (p:=⟨b,o+k*3+1,none⟩) hbw).trans c1;have g2:=(hwr.cell (p:=⟨b,o+k*3+2,none⟩) hbw).trans c2;rw[List.drop_eq_getElem_cons hkr,chk2]at hch;have hwq:=HWF.out ps[k] (List.getElem_mem _);have hon:=HON.out ps[k] (List.getElem_mem _);generalize ps[k]=q at *;obtain⟨⟨s0,s1⟩,s2⟩:=hon;have hsum0:0<=q.keep+q.drop:=by omega
       have hsum1:q.keep+q.drop<9223372036854775808:=by have:=hwq.2.1;have:=hwq.2.2.2.1;omega
       have hw1:IntKind.i64.wrap (q.keep+q.drop)=q.keep+q.drop:=by rw[IntKind.wrap_i64];omega
       have HB0:Hid (Below w.heap.size w (wr.alloc (.cells #[.int .i64 q.keep,.int .i64 q.drop,.string ⟨q.put.toArray⟩] 50))):=hwr.alloc hwr.size _
       by_cases h1:M<q.keep+q.drop
       . rw [if_pos h1]at hch
         have HCH:=hdz hch
         by_cases hK:M<q.keep
         . clear hcell c0 c1 c2 hch hwq hwr HWF HSM s2 hw1
           go_wp2;go_ret;refine⟨?_,HB0.out⟩;unfold chkE;rw[if_pos H0.out,HCH.out];rfl
         . have hD:M<q.drop:=by omega
           clear hcell c0 c1 c2 hch hwq hwr HWF HSM s2 hw1;go_wp2;go_ret;refine⟨?_,HB0.out⟩;unfold chkE;rw[if_pos H0.out,HCH.out];rfl
       . rw[if_neg h1,←Int.sub_sub]at hch
         have HCH:=hdz hch;have hK:¬M<q.keep:=by omega
         have hD:¬M<q.drop:=by omega
         have hw2:IntKind.i64.wrap (M - q.keep)=M - q.keep:=by rw[IntKind.wrap_i64];omega
         have hw3:IntKind.i64.wrap (M - q.keep - q.drop)=M - q.keep - q.drop:=by rw[IntKind.wrap_i64];omega
         clear hcell c0 c1 c2 hch hwq hwr HWF HSM s2 hw1;go_wp2
         go_roundw
         case rel=>exact⟨k+1,M - q.keep - q.drop,by omega,by go_num,by first | rfl | go_num,by omega,by omega,HCH.out,HB0.out⟩
         case measure=>simp[intOf];omega
     . have e:ps.drop k=[]:=List.drop_of_length_le (by rw[←HN.out];omega)
       rw[e,chk2]at hch;have HX:=hdz hwr
       by_cases h0:M=0
       . rw[if_pos h0]at hch
         subst h0;have HCH:=hdz hch;clear e hch hwr;go_wp2;go_ret;refine⟨?_,HX.out⟩;unfold chkE;rw[if_pos H0.out,HCH.out];rfl
       . rw[if_neg h0]at hch
         have hmb:(M==0)=false:=beq_eq_false_iff_ne.2 h0;have HCH:=hdz hch;clear e hch hwr;go_wp2;go_ret;refine⟨?_,HX.out⟩;unfold chkE;rw[if_pos H0.out,HCH.out];rfl
end
section
open Go.RowKit
variable {w : World}{a : Nat}{s : NSt}
structure rgath (w:World) (a:Nat) (s:NSt):Prop where
 out:∃p c,w.cell? ⟨a,0,none⟩=some (.slice p s.out.length c)/\w.ownsRow (a+3) 50 3 (.slice p s.out.length c) s.out.length (JaD s.out)
 outF:w.frozen? ⟨a,0,none⟩=false
 put:w.cell? ⟨a+1,0,none⟩=some (.string ⟨s.put.toArray⟩)
 putF:w.frozen? ⟨a+1,0,none⟩=false
 drop:w.cell? ⟨a+2,0,none⟩=some (.int .i64 s.drop)
 dropF:w.frozen? ⟨a+2,0,none⟩=false
theorem JbE(h:rgath w a s):a+2<w.heap.size:=blt w _ h.drop
theorem Jcl{w':World}(h:rgath w a s)(hb:Below w.heap.size w w'):rgath w' a s:=by
 have hlt:=JbE h;obtain⟨⟨p,c,h1,h2⟩,h3,h4,h6,h7,h8⟩:=h
 exact ⟨⟨p,c,(hb.cell (p:=⟨a,0,none⟩) (by show a<_;omega)).trans h1,JaR h2 hb⟩,(hb.frozen (p:=⟨a,0,none⟩) (by show a<_;omega)).trans h3,
  (hb.cell (p:=⟨a+1,0,none⟩) (by show a+1<_;omega)).trans h4,(hb.frozen (p:=⟨a+1,0,none⟩) (by show a+1<_;omega)).trans h6,
  (hb.cell (p:=⟨a+2,0,none⟩) (by show a+2<_;omega)).trans h7,(hb.frozen (p:=⟨a+2,0,none⟩) (by show a+2<_;omega)).trans h8⟩
theorem Jct{w1:World}{p:Option Addr}{c:Nat}{o:Obj}{v':Value}{q:Pt}(h:rgath w a s)(hc:w.cell? ⟨a,0,none⟩=some (.slice p s.out.length c))
    (hown1:w1.ownsRow (a+3) 50 3 v' (s.out.length+1) (JaD s.out++Ja6 q)) (hg:(w.alloc o).grownBy w1 (Value.slice p s.out.length c).ownBlock) :
    rgath (w1.setCell ⟨a,0,none⟩ v') a ⟨s.out++[q],s.put,s.drop⟩/\Below a w (w1.setCell ⟨a,0,none⟩ v')/\Below (a+3) w w1/\w1.cell? ⟨a,0,none⟩=some (.slice p s.out.length c)/\w1.frozen? ⟨a,0,none⟩=false:=by
 have hlt:=JbE h;obtain⟨⟨p1,c1,h1,h2⟩,h3,h4,h6,h7,h8⟩:=h;rw[hc]at h1;simp only[Option.some.injEq,Value.slice.injEq,true_and]at h1;obtain⟨rfl,rfl⟩:=h1;have hrow:∀k,(Value.slice p s.out.length c).ownBlock=some k->a+3<=k:=fun k hk=>(h2.lt k hk).1;have hb1:Below (a+3) w w1:=((brf (a+3) w).alloc (by omega) o).grown hg (by rw[wsa];omega) hrow;have hc1:w1.cell? ⟨a,0,none⟩=some (.slice p s.out.length c):=by rw[hb1.cell (p:=⟨a,0,none⟩) (by show a<_;omega)];exact hc
 have hf1:w1.frozen? ⟨a,0,none⟩=false:=by rw[hb1.frozen (p:=⟨a,0,none⟩) (by show a<_;omega)];exact h3
 obtain⟨pv,cv,rfl⟩:=Jae hown1;refine⟨⟨⟨pv,cv,?_,?_⟩,?_,?_,?_,?_,?_⟩,(hb1.mono (show a<=a+3 by omega)).setCell (nlr _) _,hb1,hc1,hf1⟩
 . show _=some (Value.slice pv (s.out++[q]).length cv)
   rw[List.length_append];exact World.cell?_setCell_same _ _ _ hc1
 . show World.ownsRow _ _ _ _ (.slice pv (s.out++[q]).length cv) (s.out++[q]).length (JaD (s.out++[q]))
   rw[List.length_append,Jb3];exact JcI hown1 (by omega) _
 . rw[World.frozen?_setCell];exact hf1
 . rw[Jab (by omega)];exact(hb1.cell (p:=⟨a+1,0,none⟩) (by show a+1<_;omega)).trans h4
 . rw[World.frozen?_setCell];exact(hb1.frozen (p:=⟨a+1,0,none⟩) (by show a+1<_;omega)).trans h6
 . rw[Jab (by omega)];exact(hb1.cell (p:=⟨a+2,0,none⟩) (by show a+2<_;omega)).trans h7
 . rw[World.frozen?_setCell];exact(hb1.frozen (p:=⟨a+2,0,none⟩) (by show a+2<_;omega)).trans h8
theorem Jcc(h:rgath w a s)(q:List UInt8):rgath (w.setCell ⟨a+1,0,none⟩ (.string ⟨q.toArray⟩)) a ⟨s.out,q,s.drop⟩/\Below a w (w.setCell ⟨a+1,0,none⟩ (.string ⟨q.toArray⟩)):=by
 have hlt:=JbE h;obtain⟨⟨p,c,h1,h2⟩,h3,h4,h6,h7,h8⟩:=h;refine⟨⟨⟨p,c,?_,JcI h2 (by omega) _⟩,?_,World.cell?_setCell_same _ _ _ h4,?_,?_,?_⟩,(brf a w).setCell (by show a<=a+1;omega) _⟩
 . rw[Jab (by omega)];exact h1
 . rw[World.frozen?_setCell];exact h3
 . rw[World.frozen?_setCell];exact h6
 . rw[Jab (by omega)];exact h7
 . rw[World.frozen?_setCell];exact h8
theorem Jc8(h:rgath w a s)(d:Int):rgath (w.setCell ⟨a+2,0,none⟩ (.int .i64 d)) a ⟨s.out,s.put,d⟩/\Below a w (w.setCell ⟨a+2,0,none⟩ (.int .i64 d)):=by
 have hlt:=JbE h;obtain⟨⟨p,c,h1,h2⟩,h3,h4,h6,h7,h8⟩:=h;refine⟨⟨⟨p,c,?_,JcI h2 (by omega) _⟩,?_,?_,?_,World.cell?_setCell_same _ _ _ h7,?_⟩,(brf a w).setCell (by show a<=a+2;omega) _⟩
 . rw[Jab (by omega)];exact h1
 . rw[World.frozen?_setCell];exact h3
 . rw[Jab (by omega)];exact h4
 . rw[World.frozen?_setCell];exact h6
 . rw[World.frozen?_setCell];exact h8
theorem Jo9(a:Nat)(s:NSt)(w:World)(h:rgath w a s)(hlen:s.out.length<1000000000)(hp:s.put=[])(hd:s.drop=0) :
    Calls Tryz.prog 227 #[.pointer (some ⟨a+1,0,none⟩),.pointer (some ⟨a,0,none⟩),.pointer (some ⟨a+2,0,none⟩)] w fun e w'=>(∃v,e=.returned v)/\rgath w' a ⟨s.out,[],0⟩/\Below a w w':=by
 obtain⟨i0,hi,hz0,hz1,hz2⟩:=info_parts Jbf;have hlt:=JbE h;have H0:=hdz h;obtain⟨⟨p,c,h1,h2⟩,h3,h4,h6,h7,h8⟩:=h;have hpe:s.put.isEmpty=true:=by simpa using hp
 have hd0:¬(0:Int)<s.drop:=by omega
 clear h2
 go_enter Tryz.func227,Tryz.ntmps227
 go_wp2;go_end0;have F1:=Jcc H0.out [];have F2:=Jc8 F1.1 0;exact⟨⟨_,rfl⟩,F2.1,F1.2.trans F2.2⟩
theorem JoA(a:Nat)(s:NSt)(w:World)(h:rgath w a s)(hlen:s.out.length<1000000000)(hp:s.put=[])(hd:0<s.drop) :
    Calls Tryz.prog 227 #[.pointer (some ⟨a+1,0,none⟩),.pointer (some ⟨a,0,none⟩),.pointer (some ⟨a+2,0,none⟩)] w fun e w'=>(∃v,e=.returned v)/\rgath w' a ⟨s.out++[⟨0,s.drop,[]⟩],[],0⟩/\Below a w w':=by
 obtain⟨i0,hi,hz0,hz1,hz2⟩:=info_parts Jbf;have hlt:=JbE h;have H0:=hdz h;obtain⟨⟨p,c,h1,h2⟩,h3,h4,h6,h7,h8⟩:=h;have HO:=hdz h2;have HC:=hdz h1;have hpe:s.put.isEmpty=true:=by simpa using hp
 clear h2
 go_enter Tryz.func227,Tryz.ntmps227
 go_wp2_with (at_builtin;refine wpList_append_own _ rfl _ _ 23 rfl (a+3) 50 i0 (.agg #[.int .i64 0,.int .i64 0,.string ⟨#[]⟩]) 3 32 Tryz.underlying23 hi hz0 hz1 hz2 rfl (by decide) _ _ _ rfl (HO.out.alloc _) ⟨w.heap.size,0,none⟩ 1 1 (Ja6 ⟨0,s.drop,[]⟩) rfl rfl (JaW _ _ _) (Ja4 _) (by unfold maxLen;omega) (by omega) (by first | omega | (simp;omega)) ?_)
 intro v2 w2 hown2 hg2 _;have P2:=Jct (q:=⟨0,s.drop,[]⟩) H0.out HC.out hown2 hg2;have z4:=h4;have z6:=h6;have z7:=h7;have z8:=h8;clear h1 h3 h4 h6 h7 h8;obtain⟨p2,q2,hv2⟩:=Jae hown2;rw[hv2]at P2 ⊢;obtain⟨G2,B2,hb2,t1,t2⟩:=P2;have HG2:=hdz G2;have HB2:=hdz B2;have y4:=(hb2.cell (p:=⟨a+1,0,none⟩) (by show a+1<_;omega)).trans z4;have y6:=(hb2.frozen (p:=⟨a+1,0,none⟩) (by show a+1<_;omega)).trans z6;have y7:=(hb2.cell (p:=⟨a+2,0,none⟩) (by show a+2<_;omega)).trans z7;have y8:=(hb2.frozen (p:=⟨a+2,0,none⟩) (by show a+2<_;omega)).trans z8;have hs2:=hb2.size;clear z4 z6 z7 z8 G2 B2 hown2 hg2 hb2 hv2;go_wp2;go_end0;have F1:=Jcc HG2.out [];have F2:=Jc8 F1.1 0;exact⟨⟨_,rfl⟩,F2.1,(HB2.out).trans (F1.2.trans F2.2)⟩
theorem Jo7(a:Nat)(s:NSt)(w:World)(h:rgath w a s)(hlen:s.out.length<1000000000)(hp:s.put≠[])(hd:s.drop=0) :
    Calls Tryz.prog 227 #[.pointer (some ⟨a+1,0,none⟩),.pointer (some ⟨a,0,none⟩),.pointer (some ⟨a+2,0,none⟩)] w fun e w'=>(∃v,e=.returned v)/\rgath w' a ⟨s.out++[⟨0,0,s.put⟩],[],0⟩/\Below a w w':=by
 obtain⟨i0,hi,hz0,hz1,hz2⟩:=info_parts Jbf;have hlt:=JbE h;have H0:=hdz h;obtain⟨⟨p,c,h1,h2⟩,h3,h4,h6,h7,h8⟩:=h;have HO:=hdz h2;have HC:=hdz h1;have hpe:s.put.isEmpty=false:=by simpa using hp
 have hd0:¬(0:Int)<s.drop:=by omega
 clear h2
 go_enter Tryz.func227,Tryz.ntmps227
 go_wp2_with (at_builtin;refine wpList_append_own _ rfl _ _ 23 rfl (a+3) 50 i0 (.agg #[.int .i64 0,.int .i64 0,.string ⟨#[]⟩]) 3 32 Tryz.underlying23 hi hz0 hz1 hz2 rfl (by decide) _ _ _ rfl (HO.out.alloc _) ⟨w.heap.size,0,none⟩ 1 1 (Ja6 ⟨0,0,s.put⟩) rfl rfl (JaW _ _ _) (Ja4 _) (by unfold maxLen;omega) (by omega) (by first | omega | (simp;omega)) ?_)
 intro v1 w1 hown1 hg1 _;have P1:=Jct (q:=⟨0,0,s.put⟩) H0.out HC.out hown1 hg1;obtain⟨p1,q1,hv1⟩:=Jae hown1;rw[hv1]at P1 hown1 ⊢;obtain⟨G1,B1,hb1,r1,r2⟩:=P1;have HG1:=hdz G1;have HB1:=hdz B1;have k4:=(hb1.cell (p:=⟨a+1,0,none⟩) (by show a+1<_;omega)).trans h4;have k6:=(hb1.frozen (p:=⟨a+1,0,none⟩) (by show a+1<_;omega)).trans h6;have k7:=(hb1.cell (p:=⟨a+2,0,none⟩) (by show a+2<_;omega)).trans h7;have k8:=(hb1.frozen (p:=⟨a+2,0,none⟩) (by show a+2<_;omega)).trans h8;have hs1:=hb1.size;clear h1 h3 h4 h6 h7 h8 G1 B1 hown1 hg1 hb1 hv1;go_wp2;go_end0;have F1:=Jcc HG1.out [];have F2:=Jc8 F1.1 0;exact⟨⟨_,rfl⟩,F2.1,(HB1.out).trans (F1.2.trans F2.2)⟩
theorem Jo8(a:Nat)(s:NSt)(w:World)(h:rgath w a s)(hlen:s.out.length<1000000000)(hp:s.put≠[])(hd:0<s.drop) :
    Calls Tryz.prog 227 #[.pointer (some ⟨a+1,0,none⟩),.pointer (some ⟨a,0,none⟩),.pointer (some ⟨a+2,0,none⟩)] w fun e w'=>(∃v,e=.returned v)/\rgath w' a ⟨s.out++[⟨0,0,s.put⟩,⟨0,s.drop,[]⟩],[],0⟩/\Below a w w':=by
 obtain⟨i0,hi,hz0,hz1,hz2⟩:=info_parts Jbf;have hlt:=JbE h;have H0:=hdz h;obtain⟨⟨p,c,h1,h2⟩,h3,h4,h6,h7,h8⟩:=h;have HO:=hdz h2;have HC:=hdz h1;have hpe:s.put.isEmpty=false:=by simpa using hp
 clear h2
 go_enter Tryz.func227,Tryz.ntmps227
 go_wp2_with (at_builtin;refine wpList_append_own _ rfl _ _ 23 rfl (a+3) 50 i0 (.agg #[.int .i64 0,.int .i64 0,.string ⟨#[]⟩]) 3 32 Tryz.underlying23 hi hz0 hz1 hz2 rfl (by decide) _ _ _ rfl (HO.out.alloc _) ⟨w.heap.size,0,none⟩ 1 1 (Ja6 ⟨0,0,s.put⟩) rfl rfl (JaW _ _ _) (Ja4 _) (by unfold maxLen;omega) (by omega) (by first | omega | (simp;omega)) ?_)
 intro v1 w1 hown1 hg1 _;have P1:=Jct (q:=⟨0,0,s.put⟩) H0.out HC.out hown1 hg1;obtain⟨p1,q1,hv1⟩:=Jae hown1;rw[hv1]at P1 hown1 ⊢;obtain⟨G1,B1,hb1,r1,r2⟩:=P1;have HG1:=hdz G1;have HB1:=hdz B1;have HO1:Hid ((w1.setCell ⟨a,0,none⟩ (.slice p1 (s.out.length+1) q1)).ownsRow (a+3) 50 3 (.slice p1 (s.out.length+1) q1) (s.out.length+1) (JaD s.out++Ja6 ⟨0,0,s.put⟩)):=JcI hown1 (show a<a+3 by omega) (.slice p1 (s.out.length+1) q1);have HK1:Hid ((w1.setCell ⟨a,0,none⟩ (.slice p1 (s.out.length+1) q1)).cell? ⟨a,0,none⟩=some (.slice p1 (s.out.length+1) q1)):=World.cell?_setCell_same _ _ _ r1;have k4:=(hb1.cell (p:=⟨a+1,0,none⟩) (by show a+1<_;omega)).trans h4;have k6:=(hb1.frozen (p:=⟨a+1,0,none⟩) (by show a+1<_;omega)).trans h6;have k7:=(hb1.cell (p:=⟨a+2,0,none⟩) (by show a+2<_;omega)).trans h7;have k8:=(hb1.frozen (p:=⟨a+2,0,none⟩) (by show a+2<_;omega)).trans h8;have hs1:=hb1.size;clear h1 h3 h4 h6 h7 h8 G1 B1 hown1 hg1 hb1 hv1
 go_wp2_with (at_builtin;refine wpList_append_own _ rfl _ _ 23 rfl (a+3) 50 i0 (.agg #[.int .i64 0,.int .i64 0,.string ⟨#[]⟩]) 3 32 Tryz.underlying23 hi hz0 hz1 hz2 rfl (by decide) _ _ _ rfl (HO1.out.alloc _) ⟨w1.heap.size,0,none⟩ 1 1 (Ja6 ⟨0,s.drop,[]⟩) rfl rfl (Jgw _ _ _ _ _) (Ja4 _) (by unfold maxLen;omega) (by omega) (by first | omega | (simp;omega)) ?_)
 intro v2 w2 hown2 hg2 _;have hown2':w2.ownsRow (a+3) 50 3 v2 ((s.out++[(⟨0,0,s.put⟩:Pt)]).length+1) (JaD (s.out++[(⟨0,0,s.put⟩:Pt)])++Ja6 ⟨0,s.drop,[]⟩):=by
  rw[Jb3,List.length_append,List.append_assoc];exact hown2
 have hls:(s.out++[(⟨0,0,s.put⟩:Pt)]).length=s.out.length+1:=by rw[List.length_append];rfl
 have HK1':(w1.setCell ⟨a,0,none⟩ (.slice p1 (s.out.length+1) q1)).cell? ⟨a,0,none⟩=some (.slice p1 (s.out++[(⟨0,0,s.put⟩:Pt)]).length q1):=by rw[hls];exact HK1.out
 have P2:=Jct (q:=⟨0,s.drop,[]⟩) HG1.out HK1' hown2' (by rw[hls];exact hg2);have z4:(w1.setCell ⟨a,0,none⟩ (.slice p1 (s.out.length+1) q1)).cell? ⟨a+1,0,none⟩=some (.string ⟨s.put.toArray⟩):=(Jab (by omega) _).trans k4;have z6:(w1.setCell ⟨a,0,none⟩ (.slice p1 (s.out.length+1) q1)).frozen? ⟨a+1,0,none⟩=false:=by rw[World.frozen?_setCell];exact k6
 have z7:(w1.setCell ⟨a,0,none⟩ (.slice p1 (s.out.length+1) q1)).cell? ⟨a+2,0,none⟩=some (.int .i64 s.drop):=(Jab (by omega) _).trans k7;have z8:(w1.setCell ⟨a,0,none⟩ (.slice p1 (s.out.length+1) q1)).frozen? ⟨a+2,0,none⟩=false:=by rw[World.frozen?_setCell];exact k8
 clear HK1' hown2' k4 k6 k7 k8 r1 r2;obtain⟨p2,q2,hv2⟩:=Jae hown2;rw[hv2]at P2 ⊢;obtain⟨G2,B2,hb2,t1,t2⟩:=P2;have HG2:=hdz G2;have HB2:=hdz B2;have y4:=(hb2.cell (p:=⟨a+1,0,none⟩) (by show a+1<_;omega)).trans z4;have y6:=(hb2.frozen (p:=⟨a+1,0,none⟩) (by show a+1<_;omega)).trans z6;have y7:=(hb2.cell (p:=⟨a+2,0,none⟩) (by show a+2<_;omega)).trans z7;have y8:=(hb2.frozen (p:=⟨a+2,0,none⟩) (by show a+2<_;omega)).trans z8;have hs2:=hb2.size;clear z4 z6 z7 z8 G2 B2 hown2 hg2 hb2 hv2;go_wp2;go_end0;have F1:=Jcc HG2.out [];have F2:=Jc8 F1.1 0;have F3:=F2.1;rw[List.append_assoc]at F3;exact⟨⟨_,rfl⟩,F3,(HB1.out.trans HB2.out).trans (F1.2.trans F2.2)⟩
theorem Jc3(a:Nat)(s:NSt)(w:World)(h:rgath w a s)(hlen:s.out.length<1000000000)(h0:0<=s.drop) :
    Calls Tryz.prog 227 #[.pointer (some ⟨a+1,0,none⟩),.pointer (some ⟨a,0,none⟩),.pointer (some ⟨a+2,0,none⟩)] w fun e w'=>(∃v,e=.returned v)/\rgath w' a ⟨Jaq s,[],0⟩/\Below a w w':=by
 unfold Jaq
 by_cases hp:s.put=[]
 . by_cases hd:s.drop=0
   . have:=Jo9 a s w h hlen hp hd
     simpa[hp,hd] using this
   . have:=JoA a s w h hlen hp (by omega)
     simpa[hp,hd] using this
 . by_cases hd:s.drop=0
   . have:=Jo7 a s w h hlen hp hd
     simpa[hp,hd] using this
   . have:=Jo8 a s w h hlen hp (by omega)
     simpa[hp,hd] using this
end
end Go.Proofs.YtedgnlgjmnccgabGreatDoor
