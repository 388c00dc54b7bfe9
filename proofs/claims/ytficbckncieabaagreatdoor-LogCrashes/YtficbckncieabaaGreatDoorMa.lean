/- Lemmas of the claim, part a of 14. -/
import Derived.WalkKit
import Derived.WalkSpells
import Derived.WalkLawsBesides
import Derived.Maps.OwnSet
import Derived.Maps.RangeWalk
import Derived.Laws.AppendOwnNone
import Derived.Test.YtficbckncieabaaGreatDoorProg
import Derived.ProofKit
import Derived.Deep.Slices
import Derived.DataReads
import Derived.Laws.BitsAllLaws
import Derived.Orders
set_option maxHeartbeats 16000000
namespace Go.Proofs.YtficbckncieabaaGreatDoor
section
open Go.RowKit
theorem lh{a b:Bool}(h:a=b):Ending.returned (.bool a)= .returned (.bool b):=by rw[h]
theorem nU{k:IntKind}{a b:Int}(h:a=b):Ending.returned (.int k a)= .returned (.int k b):=by rw[h]
structure Turn(S:List Nat)(w w':World):Prop where
 os:w'.os=w.os
 tape:w'.tape=w.tape
 output:w'.output=w.output
 size:w.heap.size≤w'.heap.size
 block:∀k,k<w.heap.size→k∉S→w'.heap[k]? =w.heap[k]?
theorem Turn.refl(S:List Nat)(w:World):Turn S w w:=⟨rfl,rfl,rfl,Nat.le_refl _,fun _ _ _=>rfl⟩
theorem Turn.trans{S T:List Nat}{a b c:World}(h:Turn S a b)(k:Turn T b c)(hT:∀x∈T,x∈S∨a.heap.size≤x):Turn S a c:=
 ⟨k.os.trans h.os,k.tape.trans h.tape,k.output.trans h.output,Nat.le_trans h.size k.size,fun i hi hn=>
   (k.block i (Nat.lt_of_lt_of_le hi h.size) (fun hm=>(hT i hm).elim hn (by omega))).trans (h.block i hi hn)⟩
theorem Turn.same{S:List Nat}{a b c:World}(h:Turn S a b)(k:Turn S b c):Turn S a c:=h.trans k (fun _ hx=> .inl hx)
theorem Turn.mono{S T:List Nat}{a b:World}(h:Turn S a b)(hs:∀x∈S,x∈T∨a.heap.size≤x):Turn T a b:=
 (Turn.refl T a).trans h hs
theorem Turn.alloc{S:List Nat}{a w:World}(h:Turn S a w)(o:Obj):Turn S a (w.alloc o):=
 h.trans (T:=[]) ⟨rfl,rfl,rfl,by simp,fun k hk _=>Below.heap_alloc _ _ _ hk⟩ (by simp)
theorem Turn.setCell{S:List Nat}{a w:World}(h:Turn S a w){p:Addr}(hp:p.block∈S∨a.heap.size≤p.block)(u:Value):Turn S a (w.setCell p u):=
 h.trans (T:=[p.block]) ⟨rfl,rfl,rfl,by simp[World.setCell],fun k _ hk=>Below.heap_setCell _ _ _ _ (by simpa using hk)⟩ (by simpa using hp)
theorem Turn.drew{S:List Nat}{a w:World}(h:Turn S a w):Turn S a w.drew:=⟨h.os,h.tape,h.output,h.size,h.block⟩
theorem Turn.drewN{S:List Nat}{a w:World}(h:Turn S a w)(n:Nat):Turn S a (w.drewN n):=⟨h.os,h.tape,h.output,h.size,h.block⟩
theorem Turn.grown{S:List Nat}{a w w':World}{row:Option Nat}(h:Turn S a w)(hg:w.grownBy w' row)(hr:∀k,row=some k→k∈S∨a.heap.size≤k):Turn S a w':=
 h.trans (T:=row.toList) ⟨hg.os,hg.tape,hg.output,hg.size,fun k hk hn=>hg.block k hk (fun e=>hn (by simp[←e]))⟩ (by intro x hx;cases row<;>simp at hx;exact hr _ (by simp[hx]))
theorem Turn.of_below{w w':World}(h:Below w.heap.size w w')(S:List Nat):Turn S w w':=⟨h.os,h.tape,h.output,h.size,fun k hk _=>h.block k hk⟩
theorem Turn.below{S:List Nat}{w w':World}(h:Turn S w w'){B:Nat}(hB:∀x∈S,B≤x)(hw:B≤w.heap.size):Below B w w':=
 ⟨h.os,h.tape,h.output,h.size,fun k hk=>h.block k (by omega) (fun hm=>by have:=hB k hm;omega)⟩
theorem Turn.nil{w w':World}(h:Turn [] w w'):Below w.heap.size w w':=h.below (by simp) (Nat.le_refl _)
theorem Turn.heap{S:List Nat}{w w':World}(h:Turn S w w'){k:Nat}{o:Obj}(hk:w.heap[k]? =some o) (hn:k∉S):w'.heap[k]? =some o:=
 (h.block k (Array.getElem?_eq_some_iff.1 hk).1 hn).trans hk
theorem Turn.grownBy{S:List Nat}{w w':World}(h:Turn S w w'){k:Nat}(hk:∀x∈S,x=k):w.grownBy w' (some k):=
 ⟨h.os,h.tape,h.output,h.size,fun i hi hn=>h.block i hi (fun hm=>hn (by rw[hk i hm]))⟩
theorem lt_of_heap{w:World}{k:Nat}{o:Obj}(h:w.heap[k]? =some o):k<w.heap.size:=(Array.getElem?_eq_some_iff.1 h).1
theorem cell_of{w:World}{b:Nat}{cs:Array Value}{t:TypeId}{fr:Nat×Nat}(h:w.heap[b]? =some (.cells cs t fr)) (i:Nat):w.cell? ⟨b,i,none⟩=cs[i]? :=by
 simp[World.cell?,h]
theorem au{w:World}{b:Nat}{cs:Array Value}{t:TypeId}(h:w.heap[b]? =some (.cells cs t (0,0))) (i:Nat):w.frozen? ⟨b,i,none⟩=false:=by
 simp[World.frozen?,h]
theorem heap_set{w:World}{b:Nat}{cs:Array Value}{t:TypeId}{fr:Nat×Nat}(h:w.heap[b]? =some (.cells cs t fr)) (i:Nat) (u:Value):(w.setCell ⟨b,i,none⟩ u).heap[b]? =some (.cells (cs.setIfInBounds i u) t fr):=by
 simp[World.setCell,Array.getElem?_modify,h]
theorem ai(w:World)(o:Obj):(w.alloc o).heap[w.heap.size]? =some o:=heap_alloc_new w o
def ah(b:UInt8):Value:= .int .u8 b.toNat
def bZ(w:World)(e base:Nat)(sl:Value)(bs:List UInt8):Prop:=
 (sl= .slice none 0 0∧bs=[])∨
 ∃g cap cur,sl= .slice (some ⟨g,0,none⟩) bs.length cap∧base≤g∧w.heap[g]? =some (.cells cur e (0,0))∧bs.length≤cap∧cap≤cur.size∧cap≤maxLen∧cur.toList.take bs.length=bs.map ah
theorem bZ.kept{w w':World}{e base:Nat}{sl:Value}{bs:List UInt8}{S:List Nat}(h:bZ w e base sl bs)(ht:Turn S w w')(hn:∀k∈sl.ownBlock,k∉S):bZ w' e base sl bs:=by
 rcases h with h|⟨g,cap,cur,rfl,hb,hg,r⟩
 ·exact .inl h
 ·exact .inr ⟨g,cap,cur,rfl,hb,ht.heap hg (hn g (by simp[Value.ownBlock])),r⟩
theorem bZ.lt{w:World}{e base:Nat}{sl:Value}{bs:List UInt8}(h:bZ w e base sl bs):∀k∈sl.ownBlock,base≤k∧k<w.heap.size:=by
 intro k hk;rcases h with⟨rfl,_⟩|⟨g,cap,cur,rfl,hb,hg,r⟩
 ·simp[Value.ownBlock]at hk
 ·simp[Value.ownBlock]at hk;subst hk;exact⟨hb,lt_of_heap hg⟩
theorem bZ.form{w:World}{e base:Nat}{sl:Value}{bs:List UInt8}(h:bZ w e base sl bs):∃a c,sl= .slice a bs.length c∧bs.length≤c∧c≤maxLen:=by
 rcases h with⟨rfl,rfl⟩|⟨g,cap,cur,rfl,hb,hg,h1,h2,h3,r⟩
 ·exact⟨_,_,rfl,by simp,by simp[maxLen]⟩
 ·exact⟨_,_,rfl,h1,h3⟩
def SliceAt(w:World)(v:Value)(xs:List Value):Prop:=
 (v= .slice none 0 0∧xs=[])∨∃a cap,v= .slice (some a) xs.length cap∧∀j u,xs[j]? =some u→w.cell? (a.add j)=some u
theorem addr_add(g j:Nat):(⟨g,0,none⟩:Addr).add j=⟨g,j,none⟩:=by unfold Addr.add;split<;>simp_all
theorem bZ.cells{w:World}{e base:Nat}{sl:Value}{bs:List UInt8}(h:bZ w e base sl bs):SliceAt w sl (bs.map ah):=by
 rcases h with⟨rfl,rfl⟩|⟨g,cap,cur,rfl,hb,hg,h1,h2,h3,h4⟩
 ·exact .inl ⟨rfl,rfl⟩
 ·refine .inr ⟨⟨g,0,none⟩,cap,by simp,fun j u hu=>?_⟩
  rw[addr_add,cell_of hg,←h4,List.getElem?_take]at*;split at hu
  ·simpa using hu
  ·cases hu
theorem SliceAt.kept{w w':World}{v:Value}{xs:List Value}{S:List Nat}(h:SliceAt w v xs)(ht:Turn S w w')(hn:∀k∈v.ownBlock,k∉S):SliceAt w' v xs:=by
 rcases h with h|⟨a,cap,rfl,hc⟩
 ·exact .inl h
 ·refine .inr ⟨a,cap,rfl,fun j u hu=>?_⟩
  have hb:(a.add j).block=a.block:=by unfold Addr.add;split<;>rfl
  have hlt:=World.block_lt_of_cell? w _ (hc j u hu);rw[World.cell?_of_block (w:=w) (ht.block _ hlt (by rw[hb];exact hn _ (by simp[Value.ownBlock]))),hc j u hu]
theorem Qx(bs:List UInt8):∀u∈bs.map ah,u.oneCell'=true:=by
 intro u hu;obtain⟨b,_,rfl⟩:=List.mem_map.1 hu;rfl
variable {P:Program} (w:World)
theorem CB(t ty e base:Nat)(i:TypeInfo)(ht:P.underlying t=some (.slice e))(hi:P.info? e=some i)(hz:i.zero=some (.int .u8 0))(aay:i.size=1)(hby:i.bytes=1)
 (v x:Value)(bs cs:List UInt8)(Pe:bZ w e base v bs)(hx:SliceAt w x (cs.map ah))(aah:bs.length+cs.length≤1099511627776)(aas:base≤w.heap.size):
 ∃v' w',(Builtin.append_ #[t,t] ty #[v,x]).run P w= .ok v' w'∧bZ w' e base v' (bs++cs)∧Turn v.ownBlock.toList w w'∧(∀k∈v'.ownBlock,k∈v.ownBlock∨w.heap.size≤k):=by
 have abD:maxLen=9223372036854775807:=by simp[maxLen]
 have new:∀old:Nat,old<bs.length+cs.length→bZ (w.drew.alloc (.cells ((bs.map ah).toArray++(cs.map ah).toArray++Builtin.zeroCells (Value.cells (.int .u8 0)) (grownCap w (bs.length+cs.length) old e-(bs.length+cs.length))) e)) e base
  (.slice (some ⟨w.heap.size,0,none⟩) (bs.length+cs.length) (grownCap w (bs.length+cs.length) old e)) (bs++cs)∧
  Turn v.ownBlock.toList w (w.drew.alloc (.cells ((bs.map ah).toArray++(cs.map ah).toArray++Builtin.zeroCells (Value.cells (.int .u8 0)) (grownCap w (bs.length+cs.length) old e-(bs.length+cs.length))) e)):=by
  intro old ho;have hge:=grownCap_ge w (bs.length+cs.length) old e;have hcm:=grownCap_le_maxLen w (bs.length+cs.length) old e (by rw[abD];omega);refine⟨.inr ⟨w.heap.size,_,_,by simp,aas,ai w.drew _,by simpa using hge,?_,hcm,?_⟩,((Turn.refl _ _).drew).alloc _⟩
  ·simp only[Array.size_append,List.size_toArray,List.length_map,size_zeroCells,Value.cells]
   simp;omega
  ·simp only[Array.toList_append]
   rw[List.take_append_of_le_length (by simp)];rw[List.take_of_length_le (by simp)];simp
 rcases hx with⟨rfl,hcs⟩|⟨a,c,rfl,aa0⟩
 ·have anG:cs=[]:=by simpa using hcs
  subst anG;rcases Pe with⟨rfl,rfl⟩|⟨g,cap,cur,rfl,hb,hg,h1,h2,h3,h4⟩
  ·exact⟨.slice none 0 0,w,by simp[Builtin.append_,run_underlying ht,sizeOf,typeInfo,hi,Builtin.lenOf,Builtin.firstCells], .inl ⟨rfl,rfl⟩,Turn.refl _ _,by simp[Value.ownBlock]⟩
  ·refine⟨.slice (some ⟨g,0,none⟩) bs.length cap,w,?_,by simpa using .inr ⟨g,cap,cur,rfl,hb,hg,h1,h2,h3,h4⟩,Turn.refl _ _,by simp[Value.ownBlock]⟩
   simp[Builtin.append_,run_underlying ht,sizeOf,typeInfo,hi,Builtin.lenOf,Builtin.firstCells,h1,storeCells]
 ·simp only[List.length_map]at aa0⊢
  have hl:(cs.map ah).length=cs.length*i.size:=by simp[aay]
  rcases Pe with⟨rfl,rfl⟩|⟨g,cap,cur,rfl,hb,hg,h1,h2,h3,h4⟩
  ·by_cases h0:cs.length=0
   ·have:cs=[]:=List.eq_nil_of_length_eq_zero h0
    subst this;exact⟨.slice none 0 0,w,by simp[Builtin.append_,run_underlying ht,sizeOf,typeInfo,hi,Builtin.lenOf,Builtin.firstCells,loadCells,loadCellsFrom], .inl ⟨rfl,rfl⟩,Turn.refl _ _,by simp[Value.ownBlock]⟩
   ·have hr:=run_append_nil (P:=P) w t ty e i _ ht hi hz a cs.length c (cs.map ah) hl aa0 (by omega) (by simp at aah;omega) (by rw[hby];simp at aah;omega)
    have hn:=new 0 (by simp;omega);simp only[List.length_nil,Nat.zero_add,List.map_nil,List.nil_append]at hn;refine⟨_,_,hr,?_,?_,by simp[Value.ownBlock]⟩
    ·simpa using hn.1
    ·simpa using hn.2
  ·by_cases aaz:bs.length+cs.length≤cap
   ·have hr:=run_append_room (P:=P) w t ty e i ht hi g bs.length cap cur hg a cs.length c (cs.map ah) hl aa0 (Qx cs) aaz (by rw[aay];simp;omega)
    refine⟨_,_,hr, .inr ⟨g,cap,_,by simp,hb,setRow_heap w g cur _ e _ hg,by simpa using aaz,?_,h3,?_⟩,⟨rfl,rfl,rfl,by simp,fun k _ hk=>setRow_other w g k _ (fun e=>hk (by simp[Value.ownBlock,e]))⟩,by simp[Value.ownBlock]⟩
    ·simp[aay];omega
    ·simp only[aay,Nat.mul_one,h4,List.append_assoc]
     rw[←List.append_assoc,List.take_append_of_le_length (by simp),List.take_of_length_le (by simp)];simp
   ·have acd:∀j u,(bs.map ah)[j]? =some u→w.cell? ((⟨g,0,none⟩:Addr).add j)=some u:=by
     intro j u hu;rw[addr_add,cell_of hg];rw[←h4,List.getElem?_take]at hu;split at hu
     ·simpa using hu
     ·cases hu
    have hr:=run_append_grow (P:=P) w t ty e i _ ht hi hz ⟨g,0,none⟩ bs.length cap (bs.map ah) (by simp[aay]) acd a cs.length c (cs.map ah) hl aa0 (by omega) (by omega) (growslice_fits (by omega) (by rw[hby];omega));have hn:=new cap (by omega);exact⟨_,_,hr,hn.1,hn.2,by simp[Value.ownBlock]⟩
theorem jc{ops:Array Oper}{rest:List Oper}{o:Oper}{a:Act}{Q:Exit→Act→World→Prop}(hgd:o.guard=none)(s x:Operand)(t:TypeId)
 (ho:o.op= .call {callee:= .builtin .append,args:= #[s,x],argTypes:= #[t,t]})
 (e base:Nat)(i:TypeInfo)(ht:P.underlying t=some (.slice e))(hi:P.info? e=some i)(hz:i.zero=some (.int .u8 0))(aay:i.size=1)(hby:i.bytes=1)
 (v xv:Value)(bs cs:List UInt8)(hs:a.eval s=v)(hxe:a.eval x=xv)(Pe:bZ w e base v bs)(hx:SliceAt w xv (cs.map ah))(aah:bs.length+cs.length≤1099511627776)(aas:base≤w.heap.size)
 (h:∀v' w',bZ w' e base v' (bs++cs)→Turn v.ownBlock.toList w w'→(∀k∈v'.ownBlock,k∈v.ownBlock∨w.heap.size≤k)→wpList P ops Q rest (a.put o.dst v') w'):wpList P ops Q (o::rest) a w:=by
 refine wpList_plain hgd fun _ hK=>?_
 obtain⟨v',w',hr,h2,h3,h4⟩:=CB (P:=P) w t o.type e base i ht hi hz aay hby v xv bs cs Pe hx aah aas;unfold Oper.wp execOp;simp only[ho,resolve,invoke,builtin,Sem.run_bind,Sem.run_pure,Result.andThen_ok,List.map_toArray,List.map_cons,List.map_nil,hs,hxe,hr];exact hK _ _ (h v' w' h2 h3 h4)
end
section
open Go.RowKit
set_option linter.unusedSimpArgs false
set_option linter.unusedVariables false
section
variable {α:Type} {T:TypeId} {n:Nat} {enc:α→List Value}
def aO(T:TypeId)(n:Nat)(enc:α→List Value)(w:World)(base:Nat)(sv:Value)(xs:List α):Prop:=
 (sv= .slice none 0 0∧xs=[])∨
 ∃g cap cur,sv= .slice (some ⟨g,0,none⟩) xs.length cap∧base≤g∧w.heap[g]? =some (.cells cur T (0,0))∧xs.length≤cap∧cap*n≤cur.size∧cap≤maxLen∧cur.toList.take (xs.length*n)=xs.flatMap enc
theorem aO.kept{w w':World}{base:Nat}{sv:Value}{xs:List α}{S:List Nat}(h:aO T n enc w base sv xs)(ht:Turn S w w')(hn:∀k∈sv.ownBlock,k∉S):aO T n enc w' base sv xs:=by
 rcases h with h|⟨g,cap,cur,rfl,hb,hg,r⟩
 ·exact .inl h
 ·exact .inr ⟨g,cap,cur,rfl,hb,ht.heap hg (hn g (by simp[Value.ownBlock])),r⟩
theorem aO.still{w w':World}{base:Nat}{sv:Value}{xs:List α}(h:aO T n enc w base sv xs)(ht:Turn [] w w'):aO T n enc w' base sv xs:=h.kept ht (by simp)
theorem aO.lt{w:World}{base:Nat}{sv:Value}{xs:List α}(h:aO T n enc w base sv xs):∀k∈sv.ownBlock,base≤k∧k<w.heap.size:=by
 intro k hk;rcases h with⟨rfl,_⟩|⟨g,cap,cur,rfl,hb,hg,r⟩
 ·simp[Value.ownBlock]at hk
 ·simp[Value.ownBlock]at hk;subst hk;exact⟨hb,lt_of_heap hg⟩
theorem aO.form{w:World}{base:Nat}{sv:Value}{xs:List α}(h:aO T n enc w base sv xs):∃a c,sv= .slice a xs.length c∧xs.length≤c∧c≤maxLen:=by
 rcases h with⟨rfl,rfl⟩|⟨g,cap,cur,rfl,hb,hg,h1,h2,h3,h4⟩
 ·exact⟨_,_,rfl,Nat.le_refl _,Nat.zero_le _⟩
 ·exact⟨_,_,rfl,h1,h3⟩
theorem aO.jA{w:World}{base base':Nat}{sv:Value}{xs:List α}(h:aO T n enc w base sv xs)(hb:base'≤base):aO T n enc w base' sv xs:=by
 rcases h with h|⟨g,cap,cur,rfl,h1,r⟩
 ·exact .inl h
 ·exact .inr ⟨g,cap,cur,rfl,by omega,r⟩
theorem bM(hn:∀x,(enc x).length=n):∀xs:List α,(xs.flatMap enc).length=xs.length*n
 |[]=>by simp
 |x::xs=>by rw[List.flatMap_cons,List.length_append,bM hn xs,hn,List.length_cons,Nat.add_mul];omega
theorem vU(hn:∀x,(enc x).length=n):∀(xs:List α) (j i:Nat) (h:j<xs.length),i<n→(xs.flatMap enc)[j*n+i]? =(enc xs[j])[i]?
 |[],_,_,h,_=>by simp at h
 |x::xs,0,i,h,hi=>by
  rw[List.flatMap_cons,Nat.zero_mul,Nat.zero_add,List.getElem?_append_left (by rw[hn];exact hi)];rfl
 |x::xs,j+1,i,h,hi=>by
  rw[List.flatMap_cons,List.getElem?_append_right (by rw[hn,Nat.add_mul];omega),hn,show(j+1)*n+i-n=j*n+i by rw[Nat.add_mul];omega];exact vU hn xs j i (by simpa using h) hi
theorem EM(hn:∀x,(enc x).length=n):∀(xs:List α) (j i:Nat) (h:j<xs.length) (u:Value) (x':α),i<n→enc x'=(enc xs[j]).set i u→(xs.flatMap enc).set (j*n+i) u=(xs.set j x').flatMap enc
 |[],_,_,h,_,_,_,_=>by simp at h
 |x::xs,0,i,h,u,x',hi,he=>by
  rw[List.flatMap_cons,Nat.zero_mul,Nat.zero_add,List.set_append_left _ _ (by rw[hn];exact hi)];simp only[List.getElem_cons_zero]at he;simp[he]
 |x::xs,j+1,i,h,u,x',hi,he=>by
  rw[List.flatMap_cons,List.set_append_right _ _ (by rw[hn,Nat.add_mul];omega),hn,show(j+1)*n+i-n=j*n+i by rw[Nat.add_mul];omega,EM hn xs j i (by simpa using h) u x' hi (by simpa using he)];simp
theorem aO.at{w:World}{base:Nat}{sv:Value}{xs:List α}(hn:∀x,(enc x).length=n)(h:aO T n enc w base sv xs){j:Nat}(hj:j<xs.length):
 ∃g cap,sv= .slice (some ⟨g,0,none⟩) xs.length cap∧(∀i,i<n→w.cell? ⟨g,j*n+i,none⟩=(enc xs[j])[i]?)∧∀i,w.frozen? ⟨g,i,none⟩=false:=by
 rcases h with⟨rfl,rfl⟩|⟨g,cap,cur,rfl,hb,hg,h1,h2,h3,h4⟩
 ·simp at hj
 ·refine⟨g,cap,rfl,fun i hi=>?_,fun i=>au hg i⟩
  rw[cell_of hg,←vU hn xs j i hj hi,←h4,List.getElem?_take_of_lt]
  ·simp
  ·have:(j+1)*n≤xs.length*n:=Nat.mul_le_mul_right _ hj
   rw[Nat.add_mul]at this;omega
theorem aO.set{w:World}{base:Nat}{g c:Nat}{l:Nat}{xs:List α}(hn:∀x,(enc x).length=n)(h:aO T n enc w base (.slice (some ⟨g,0,none⟩) l c) xs){j i:Nat}(hj:j<xs.length)(hi:i<n){u:Value}{x':α}(he:enc x'=(enc xs[j]).set i u):
 aO T n enc (w.setCell ⟨g,j*n+i,none⟩ u) base (.slice (some ⟨g,0,none⟩) l c) (xs.set j x'):=by
 rcases h with⟨h, -⟩|⟨g',cap,cur,h,hb,hg,h1,h2,h3,h4⟩
 ·simp at h
 ·simp only[Value.slice.injEq,Option.some.injEq,Addr.mk.injEq]at h
  obtain⟨⟨rfl, -, -⟩,rfl,rfl⟩:=h;refine .inr ⟨g,c,_,by rw[List.length_set],hb,heap_set hg _ u,by rw[List.length_set];exact h1,by rw[Array.size_setIfInBounds];exact h2,h3,?_⟩;rw[List.length_set,Array.toList_setIfInBounds,List.take_set,h4];exact EM hn xs j i hj u x' hi he
theorem jB{P:Program}(t ty:TypeId)(ht:P.underlying t=some (.slice T))(i:TypeInfo)(z:Value)(hi:P.info? T=some i)(hz:i.zero=some z)(hzs:z.cells.size=n)(aay:i.size=n)(hby:i.bytes≤1000)(hn:∀x,(enc x).length=n)(adK:∀x,∀u∈enc x,u.oneCell'=true)
 (w:World)(base:Nat)(v:Value)(xs:List α)(x:α)(k:Nat)(Pe:aO T n enc w base v xs)(hk:w.heap[k]? =some (.cells (enc x).toArray T (0,0))) (aah:xs.length≤1000000) (aas:base≤w.heap.size):
 ∃v' w',(Builtin.append_ #[t,t] ty #[v, .slice (some ⟨k,0,none⟩) 1 1]).run P w= .ok v' w'∧aO T n enc w' base v' (xs++[x])∧Turn v.ownBlock.toList w w'∧(∀j∈v'.ownBlock,j∈v.ownBlock∨w.heap.size≤j):=by
 have abD:maxLen=9223372036854775807:=by simp[maxLen]
 have hl:(enc x).length=1*i.size:=by rw[aay,hn];omega
 have aa0:∀j u,(enc x)[j]? =some u→w.cell? ((⟨k,0,none⟩:Addr).add j)=some u:=fun j u hu=>by
  rw[addr_add,cell_of hk];simpa using hu
 rcases Pe with⟨rfl,rfl⟩|⟨g,cap,cur,rfl,hb,hg,h1,h2,h3,h4⟩
 ·have hr:=run_append_nil (P:=P) w t ty T i z ht hi hz ⟨k,0,none⟩ 1 1 (enc x) hl aa0 (by omega) (by omega) (by omega)
  have hge:=grownCap_ge w 1 0 T;have hcm:=grownCap_le_maxLen w 1 0 T (by rw[abD];omega);refine⟨_,_,hr, .inr ⟨w.heap.size,_,_,by simp,aas,ai w.drew _,by simpa using hge,?_,hcm,?_⟩,((Turn.refl _ _).drew).alloc _,by simp[Value.ownBlock]⟩
  ·simp only[Array.size_append,List.size_toArray,size_zeroCells,hzs,hn]
   have:grownCap w 1 0 T*n=1*n+(grownCap w 1 0 T-1)*n:=by rw[←Nat.add_mul];congr 1;omega
   omega
  ·simp only[Array.toList_append,List.nil_append,List.length_singleton]
   rw[List.take_append_of_le_length (by simp[hn]),List.take_of_length_le (by simp[hn])];simp
 ·have hfl:(xs.flatMap enc++enc x).length=(xs.length+1)*n:=by rw[List.length_append,bM hn,hn,Nat.add_mul];omega
  by_cases aaz:xs.length+1≤cap
  ·have aa8:(xs.length+1)*n≤cur.size:=Nat.le_trans (Nat.mul_le_mul_right _ aaz) h2
   have hr:=run_append_room (P:=P) w t ty T i ht hi g xs.length cap cur hg ⟨k,0,none⟩ 1 1 (enc x) hl aa0 (adK x) aaz (by rw[aay,hn];rw[Nat.add_mul]at aa8;omega);rw[aay]at hr;refine⟨_,_,hr, .inr ⟨g,cap,_,by simp,hb,setRow_heap w g cur _ T _ hg,by simpa using aaz,?_,h3,?_⟩,⟨rfl,rfl,rfl,by simp,fun k _ hk=>setRow_other w g k _ (fun e=>hk (by simp[Value.ownBlock,e]))⟩,by simp[Value.ownBlock]⟩
   ·simp[hn]
    rw[Nat.add_mul]at aa8;have hcs:xs.length*n≤cur.size:=by omega
    rw[Nat.min_eq_left hcs];omega
   ·simp only[h4,List.append_assoc]
    rw[←List.append_assoc,List.take_append_of_le_length (by rw[hfl];simp),List.take_of_length_le (by rw[hfl];simp)];simp
  ·have acd:∀j u,(xs.flatMap enc)[j]? =some u→w.cell? ((⟨g,0,none⟩:Addr).add j)=some u:=by
    intro j u hu;rw[addr_add,cell_of hg];have hj:j<xs.length*n:=by have:=(List.getElem?_eq_some_iff.1 hu).1;rwa [bM hn]at this
    rw[←h4,List.getElem?_take_of_lt hj]at hu;simpa using hu
   have hr:=run_append_grow (P:=P) w t ty T i z ht hi hz ⟨g,0,none⟩ xs.length cap (xs.flatMap enc) (by rw[bM hn,aay]) acd ⟨k,0,none⟩ 1 1 (enc x) hl aa0 (by omega) (by omega) (growslice_fits (by omega) (by have:(xs.length+1)*i.bytes≤1000001*1000:=Nat.mul_le_mul (by omega) hby;omega));have hge:=grownCap_ge w (xs.length+1) cap T;have hcm:=grownCap_le_maxLen w (xs.length+1) cap T (by rw[abD];omega);refine⟨_,_,hr, .inr ⟨w.heap.size,_,_,by simp,aas,ai w.drew _,by simpa using hge,?_,hcm,?_⟩,((Turn.refl _ _).drew).alloc _,by simp[Value.ownBlock]⟩
   ·simp only[Array.size_append,List.size_toArray,size_zeroCells,hzs,hn,bM hn]
    have:grownCap w (xs.length+1) cap T*n=(xs.length+1)*n+(grownCap w (xs.length+1) cap T-(xs.length+1))*n:=by rw[←Nat.add_mul];congr 1;omega
    rw[Nat.add_mul]at this;omega
   ·simp only[Array.toList_append]
    rw[List.take_append_of_le_length (by show(xs++[x]).length*n≤(xs.flatMap enc++enc x).length;rw[hfl];simp),List.take_of_length_le (by show(xs.flatMap enc++enc x).length≤(xs++[x]).length*n;rw[hfl];simp)];simp
end
def Qy:Value→Value
 | .slice a n c=> .slice a (n+1) c
 |v=>v
def CE:Value→Bool
 | .slice _ n c=>decide (n<c)
 |_=>false
theorem Ih{v:Value}{k:Nat}(h:k∈(Qy v).ownBlock):k∈v.ownBlock:=by
 unfold Qy at h;split at h
 ·rename_i a n c
  cases a<;>exact h
 ·exact h
section
variable {α:Type} {T:TypeId} {n:Nat} {enc:α→List Value}
def V5(T:TypeId)(n:Nat)(enc:α→List Value)(base L:Nat)(v:Value)(ys:List α)(x:Value)(w:World):Prop:=
 (CE v=true∧x=Qy v)∨(CE v=false∧aO T n enc w base x ys∧∀j∈x.ownBlock,L≤j)
def Yw(T:TypeId)(n:Nat)(enc:α→List Value)(base:Nat)(v:Value)(ys:List α)(w:World):Prop:=CE v=true→aO T n enc w base (Qy v) ys
theorem V5.kept{S:List Nat}{w w':World}{base L:Nat}{v x:Value}{ys:List α}(h:V5 T n enc base L v ys x w)(ht:Turn S w w')(hS:∀k∈S,k<L):V5 T n enc base L v ys x w':=by
 rcases h with h|⟨h0,h1,h2⟩
 ·exact .inl h
 ·exact .inr ⟨h0,h1.kept ht (fun k hk hm=>by have:=h2 k hk;have:=hS k hm;omega),h2⟩
theorem Yw.kept{S:List Nat}{w w':World}{base:Nat}{v:Value}{ys:List α}(h:Yw T n enc base v ys w)(ht:Turn S w w')(hS:∀k∈v.ownBlock,k∉S):Yw T n enc base v ys w':=
 fun hs=>(h hs).kept ht (fun k hk=>hS k (Ih hk))
theorem V5.row{w:World}{base L:Nat}{v x:Value}{ys:List α}(h:V5 T n enc base L v ys x w)(hr:Yw T n enc base v ys w):aO T n enc w base x ys∧∀j∈x.ownBlock,j∈v.ownBlock∨L≤j:=by
 rcases h with⟨h0,rfl⟩|⟨h0,h1,h2⟩
 ·exact⟨hr h0,fun j hj=> .inl (Ih hj)⟩
 ·exact⟨h1,fun j hj=> .inr (h2 j hj)⟩
theorem V5.mk{w:World}{base L:Nat}{v x:Value}{ys:List α}(h:aO T n enc w base x ys){k:Nat}(hk:L≤k)(h2:(CE v=true∧x=Qy v)∨(CE v=false∧∀j∈x.ownBlock,k≤j)):V5 T n enc base L v ys x w∧Yw T n enc base v ys w:=by
 rcases h2 with⟨h0,rfl⟩|⟨h0,h2⟩
 ·exact⟨.inl ⟨h0,rfl⟩,fun _=>h⟩
 ·exact⟨.inr ⟨h0,h,fun j hj=>Nat.le_trans hk (h2 j hj)⟩,fun hs=>by rw[h0]at hs;cases hs⟩
theorem aO.apart{β:Type}{T':TypeId}{m:Nat}{enc':β→List Value}{w:World}{base base':Nat}{v v':Value}{xs:List α}{ys:List β}(h:aO T n enc w base v xs)(h':aO T' m enc' w base' v' ys)(hne:T≠T'):∀k∈v.ownBlock,k∉v'.ownBlock:=by
 rcases h with⟨rfl, -⟩|⟨g,cap,cur,rfl, -,hg, -⟩
 ·simp[Value.ownBlock]
 ·rcases h' with⟨rfl, -⟩|⟨g',cap',cur',rfl, -,hg', -⟩
  ·simp[Value.ownBlock]
  ·intro k hk hk'
   simp[Value.ownBlock]at hk hk';subst hk;subst hk';rw[hg]at hg';simp at hg';exact hne hg'.2
end
section
variable {α:Type} {T:TypeId} {n:Nat} {enc:α→List Value}
def Uk(enc:α→List Value)(w:World)(sx:Value)(ys:List α):Prop:=
 (sx= .slice none 0 0∧ys=[])∨∃a c,sx= .slice (some a) ys.length c∧∀j u,(ys.flatMap enc)[j]? =some u→w.cell? (a.add j)=some u
theorem aO.src(hn:∀x,(enc x).length=n){w:World}{base:Nat}{v:Value}{xs:List α}(h:aO T n enc w base v xs):Uk enc w v xs:=by
 rcases h with h|⟨g,cap,cur,rfl, -,hg,h1,h2,h3,h4⟩
 ·exact .inl h
 ·refine .inr ⟨_,_,rfl,fun j u hu=>?_⟩
  rw[addr_add,cell_of hg];have hj:j<xs.length*n:=by have:=(List.getElem?_eq_some_iff.1 hu).1;rwa [bM hn]at this
  rw[←h4,List.getElem?_take_of_lt hj]at hu;simpa using hu
theorem Ez{P:Program}(t ty:TypeId)(ht:P.underlying t=some (.slice T))(i:TypeInfo)(z:Value)(hi:P.info? T=some i)(hz:i.zero=some z)(hzs:z.cells.size=n)(aay:i.size=n)(hby:i.bytes≤1000)(hn:∀x,(enc x).length=n)(adK:∀x,∀u∈enc x,u.oneCell'=true)
 (w:World)(base:Nat)(v sx:Value)(xs ys:List α)(Pe:aO T n enc w base v xs)(hx:Uk enc w sx ys)(aah:xs.length+ys.length≤1000000)(aas:base≤w.heap.size):
 ∃v' w',(Builtin.append_ #[t,t] ty #[v,sx]).run P w= .ok v' w'∧aO T n enc w' base v' (xs++ys)∧Turn v.ownBlock.toList w w'∧(∀j∈v'.ownBlock,j∈v.ownBlock∨w.heap.size≤j):=by
 have abD:maxLen=9223372036854775807:=by simp[maxLen]
 have Qz:∀u∈ys.flatMap enc,u.oneCell'=true:=fun u hu=>by
  obtain⟨x, -,hx⟩:=List.mem_flatMap.1 hu;exact adK x u hx
 have new:∀old:Nat,old<xs.length+ys.length→aO T n enc (w.drew.alloc (.cells ((xs.flatMap enc).toArray++(ys.flatMap enc).toArray++Builtin.zeroCells z.cells (grownCap w (xs.length+ys.length) old T-(xs.length+ys.length))) T)) base
  (.slice (some ⟨w.heap.size,0,none⟩) (xs.length+ys.length) (grownCap w (xs.length+ys.length) old T)) (xs++ys)∧
  Turn v.ownBlock.toList w (w.drew.alloc (.cells ((xs.flatMap enc).toArray++(ys.flatMap enc).toArray++Builtin.zeroCells z.cells (grownCap w (xs.length+ys.length) old T-(xs.length+ys.length))) T)):=by
  intro old ho;have hge:=grownCap_ge w (xs.length+ys.length) old T;have hcm:=grownCap_le_maxLen w (xs.length+ys.length) old T (by rw[abD];omega);have hfl:(xs.flatMap enc++ys.flatMap enc).length=(xs++ys).length*n:=by rw[List.length_append,bM hn,bM hn,List.length_append,Nat.add_mul]
  refine⟨.inr ⟨w.heap.size,_,_,by simp,aas,ai w.drew _,by simpa using hge,?_,hcm,?_⟩,((Turn.refl _ _).drew).alloc _⟩
  ·simp only[Array.size_append,List.size_toArray,size_zeroCells,hzs,bM hn]
   have:grownCap w (xs.length+ys.length) old T*n=(xs.length+ys.length)*n+(grownCap w (xs.length+ys.length) old T-(xs.length+ys.length))*n:=by rw[←Nat.add_mul];congr 1;omega
   rw[Nat.add_mul]at this;omega
  ·simp only[Array.toList_append]
   rw[List.take_append_of_le_length (by show(xs++ys).length*n≤(xs.flatMap enc++ys.flatMap enc).length;rw[hfl];exact Nat.le_refl _),List.take_of_length_le (by show(xs.flatMap enc++ys.flatMap enc).length≤(xs++ys).length*n;rw[hfl];exact Nat.le_refl _)];simp
 rcases hx with⟨rfl,rfl⟩|⟨a,c,rfl,aa0⟩
 ·rcases Pe with⟨rfl,rfl⟩|⟨g,cap,cur,rfl,hb,hg,h1,h2,h3,h4⟩
  ·exact⟨.slice none 0 0,w,by simp[Builtin.append_,run_underlying ht,sizeOf,typeInfo,hi,Builtin.lenOf,Builtin.firstCells], .inl ⟨rfl,rfl⟩,Turn.refl _ _,by simp[Value.ownBlock]⟩
  ·refine⟨.slice (some ⟨g,0,none⟩) xs.length cap,w,?_,by rw[List.append_nil];exact .inr ⟨g,cap,cur,rfl,hb,hg,h1,h2,h3,h4⟩,Turn.refl _ _,by simp[Value.ownBlock]⟩
   simp[Builtin.append_,run_underlying ht,sizeOf,typeInfo,hi,Builtin.lenOf,Builtin.firstCells,h1,storeCells]
 ·have hl:(ys.flatMap enc).length=ys.length*i.size:=by rw[bM hn,aay]
  rcases Pe with⟨rfl,rfl⟩|⟨g,cap,cur,rfl,hb,hg,h1,h2,h3,h4⟩
  ·by_cases h0:ys.length=0
   ·have:ys=[]:=List.eq_nil_of_length_eq_zero h0
    subst this;exact⟨.slice none 0 0,w,by simp[Builtin.append_,run_underlying ht,sizeOf,typeInfo,hi,Builtin.lenOf,Builtin.firstCells,loadCells,loadCellsFrom], .inl ⟨rfl,rfl⟩,Turn.refl _ _,by simp[Value.ownBlock]⟩
   ·have hr:=run_append_nil (P:=P) w t ty T i z ht hi hz a ys.length c (ys.flatMap enc) hl aa0 (by omega) (by simp at aah;omega) (by have:ys.length*i.bytes≤1000000*1000:=Nat.mul_le_mul (by simp at aah;omega) hby;omega)
    have hn':=new 0 (by simp;omega);simp only[List.length_nil,Nat.zero_add,List.flatMap_nil,List.nil_append]at hn';refine⟨_,_,hr,?_,?_,by simp[Value.ownBlock]⟩
    ·simpa using hn'.1
    ·simpa using hn'.2
  ·by_cases aaz:xs.length+ys.length≤cap
   ·have aa8:(xs.length+ys.length)*n≤cur.size:=Nat.le_trans (Nat.mul_le_mul_right _ aaz) h2
    have hr:=run_append_room (P:=P) w t ty T i ht hi g xs.length cap cur hg a ys.length c (ys.flatMap enc) hl aa0 Qz aaz (by rw[aay,bM hn];rw[Nat.add_mul]at aa8;omega);rw[aay]at hr;have hfl:(xs.flatMap enc++ys.flatMap enc).length=(xs++ys).length*n:=by rw[List.length_append,bM hn,bM hn,List.length_append,Nat.add_mul]
    refine⟨_,_,hr, .inr ⟨g,cap,_,by simp,hb,setRow_heap w g cur _ T _ hg,by simpa using aaz,?_,h3,?_⟩,⟨rfl,rfl,rfl,by simp,fun k _ hk=>setRow_other w g k _ (fun e=>hk (by simp[Value.ownBlock,e]))⟩,by simp[Value.ownBlock]⟩
    ·simp[bM hn]
     rw[Nat.add_mul]at aa8;have hcs:xs.length*n≤cur.size:=by omega
     rw[Nat.min_eq_left hcs];omega
    ·simp only[h4,List.append_assoc]
     rw[←List.append_assoc,List.take_append_of_le_length (by rw[hfl];exact Nat.le_refl _),List.take_of_length_le (by rw[hfl];exact Nat.le_refl _)];simp
   ·have acd:∀j u,(xs.flatMap enc)[j]? =some u→w.cell? ((⟨g,0,none⟩:Addr).add j)=some u:=by
     intro j u hu;rw[addr_add,cell_of hg];have hj:j<xs.length*n:=by have:=(List.getElem?_eq_some_iff.1 hu).1;rwa [bM hn]at this
     rw[←h4,List.getElem?_take_of_lt hj]at hu;simpa using hu
    have hr:=run_append_grow (P:=P) w t ty T i z ht hi hz ⟨g,0,none⟩ xs.length cap (xs.flatMap enc) (by rw[bM hn,aay]) acd a ys.length c (ys.flatMap enc) hl aa0 (by omega) (by omega) (growslice_fits (by omega) (by have:(xs.length+ys.length)*i.bytes≤1000000*1000:=Nat.mul_le_mul aah hby;omega));have hn':=new cap (by omega);exact⟨_,_,hr,hn'.1,hn'.2,by simp[Value.ownBlock]⟩
end
end
section
open Go.RowKit Go.Maps
set_option linter.unusedSimpArgs false
set_option linter.unusedVariables false
theorem hide{p:Prop}(h:p):Hid p:=h
theorem take_snoc(bs:List UInt8)(k:Nat)(h:k<bs.length):bs.take (k+1)=bs.take k++[bs[k]]:=List.take_succ_eq_append_getElem h
theorem SliceAt.form{w:World}{v:Value}{xs:List Value}(h:SliceAt w v xs):∃a c,v= .slice a xs.length c∧∀j u,xs[j]? =some u→∃p,a=some p∧w.cell? (p.add j)=some u:=by
 rcases h with⟨rfl,rfl⟩|⟨a,c,rfl,hc⟩
 ·exact⟨none,0,rfl,by simp⟩
 ·exact⟨some a,c,rfl,fun j u hu=>⟨a,rfl,hc j u hu⟩⟩
theorem V6(bs:List UInt8)(k:Nat)(h:k<bs.length):(bs.map ah)[k]? =some (.int .u8 bs[k].toNat):=by
 simp[List.getElem?_eq_getElem h,ah]
theorem Yx{w:World}{a:Option Addr}{c:Nat}{bs:List UInt8}(h:SliceAt w (.slice a bs.length c) (bs.map ah)):
 (convert 39 9 (.slice a bs.length c)).run Tryz.prog w= .ok (.string ⟨bs.toArray⟩) w:=by
 rcases h with⟨h1,h2⟩|⟨x,c',h1,h2⟩
 ·have h3:bs=[]:=by simpa using h2
  simp only[Value.slice.injEq]at h1;obtain⟨rfl,_,rfl⟩:=h1;rw[h3];exact run_convert_bytes_nil w 39 5 Tryz.underlying39 Tryz.underlying5 0 0 9 Tryz.underlying9
 ·simp only[Value.slice.injEq]at h1
  obtain⟨rfl,_,rfl⟩:=h1;exact run_convert_bytes_back w 39 9 5 x c bs Tryz.underlying39 Tryz.underlying5 Tryz.underlying9 (fun j hj=>h2 j _ (by rw[List.getElem?_map,List.getElem?_eq_getElem hj];rfl))
def BytesAt(w:World)(v:Value)(bs:List UInt8):Prop:=
 ∃a c,v= .slice a bs.length c∧bs.length≤c∧c≤maxLen∧(a=none→c=0)∧∀j (h:j<bs.length),∃p,a=some p∧w.cell? (p.add j)=some (ah bs[j])
theorem add_block(a:Addr)(j:Nat):(a.add j).block=a.block:=by unfold Addr.add;split<;>rfl
theorem add_add(a:Addr)(i j:Nat):(a.add i).add j=a.add (i+j):=by
 unfold Addr.add;repeat' split
 all_goals simp_all
 all_goals omega
theorem add_zero(a:Addr):a.add 0=a:=by unfold Addr.add;rw[if_pos rfl]
theorem BytesAt.slice{w:World}{v:Value}{bs:List UInt8}(h:BytesAt w v bs):SliceAt w v (bs.map ah):=by
 obtain⟨a,c,rfl,h1,h2,h3,h4⟩:=h;cases a with
 |none=>
  have hc:=h3 rfl;have hb:bs=[]:=List.eq_nil_of_length_eq_zero (by omega);subst hb;subst hc;exact .inl ⟨rfl,rfl⟩
 |some p=>
  refine .inr ⟨p,c,by simp,fun j u hu=>?_⟩;have hj:j<bs.length:=by have:=(List.getElem?_eq_some_iff.1 hu).1;simpa using this
  obtain⟨q,hq,hc⟩:=h4 j hj;cases hq
  rw[hc];simpa[List.getElem?_eq_getElem hj]using hu
theorem BytesAt.kept{w w':World}{v:Value}{bs:List UInt8}{S:List Nat}(h:BytesAt w v bs)(ht:Turn S w w')(hn:∀k∈v.ownBlock,k<w.heap.size→k∉S):BytesAt w' v bs:=by
 obtain⟨a,c,rfl,h1,h2,h3,h4⟩:=h;refine⟨a,c,rfl,h1,h2,h3,fun j hj=>?_⟩;obtain⟨p,rfl,hc⟩:=h4 j hj;have hlt:=World.block_lt_of_cell? w _ hc;refine⟨p,rfl,?_⟩;rw[World.cell?_of_block (w:=w) (ht.block _ hlt (by rw[add_block]at hlt⊢;exact hn _ (by simp[Value.ownBlock]) hlt)),hc]
theorem BytesAt.still{w w':World}{v:Value}{bs:List UInt8}(h:BytesAt w v bs)(ht:Turn [] w w'):BytesAt w' v bs:=h.kept ht (by simp)
theorem bZ.bytes{w:World}{e base:Nat}{v:Value}{bs:List UInt8}(h:bZ w e base v bs):BytesAt w v bs:=by
 rcases h with⟨rfl,rfl⟩|⟨g,cap,cur,rfl,hb,hg,h1,h2,h3,h4⟩
 ·exact⟨none,0,rfl,by simp,by simp[maxLen],by simp,by simp⟩
 ·refine⟨some ⟨g,0,none⟩,cap,rfl,h1,h3,by simp,fun j hj=>⟨_,rfl,?_⟩⟩
  rw[addr_add,cell_of hg];have:(cur.toList.take bs.length)[j]? =some (ah bs[j]):=by rw[h4,List.getElem?_map,List.getElem?_eq_getElem hj];rfl
  rw[List.getElem?_take_of_lt hj]at this;simpa using this
theorem BytesAt.form{w:World}{v:Value}{bs:List UInt8}(h:BytesAt w v bs):∃a c,v= .slice a bs.length c∧bs.length≤c∧c≤maxLen∧∀j (h:j<bs.length),∃p,a=some p∧w.cell? (p.add j)=some (.int .u8 bs[j].toNat):=by
 obtain⟨a,c,rfl,h1,h2,h3,h4⟩:=h;exact⟨a,c,rfl,h1,h2,h4⟩
def nV(a:Option Addr)(n c:Nat):Option Addr:=if c=n then a else a.map (·.add n)
theorem BytesAt.drop{w:World}{a:Option Addr}{c n:Nat}{bs:List UInt8}(h:BytesAt w (.slice a bs.length c) bs)(hn:n≤bs.length):BytesAt w (.slice (nV a n c) (bs.length-n) (c-n)) (bs.drop n):=by
 obtain⟨a',c',e,h1,h2,h3,h4⟩:=h;simp only[Value.slice.injEq]at e;obtain⟨rfl, -,rfl⟩:=e;refine⟨nV a n c,c-n,by simp,by simp;omega,by omega,?_,fun j hj=>?_⟩
 ·intro e
  unfold nV at e;split at e
  ·omega
  ·cases a with
   |none=>have:=h3 rfl;omega
   |some p=>simp at e
 ·simp at hj
  obtain⟨p,rfl,hc⟩:=h4 (n+j) (by omega);refine⟨p.add n,by simp only[nV,if_neg (by omega:¬c=n),Option.map_some],?_⟩;rw[add_add,hc];simp
theorem BytesAt.take{w:World}{a:Option Addr}{c n:Nat}{bs:List UInt8}(h:BytesAt w (.slice a bs.length c) bs)(hn:n≤bs.length):BytesAt w (.slice a n c) (bs.take n):=by
 obtain⟨a',c',e,h1,h2,h3,h4⟩:=h;simp only[Value.slice.injEq]at e;obtain⟨rfl, -,rfl⟩:=e;refine⟨a,c,by simp;omega,by simp;omega,h2,h3,fun j hj=>?_⟩;simp at hj;obtain⟨p,rfl,hc⟩:=h4 j (by omega);exact⟨p,rfl,by rw[hc];simp⟩
theorem QA(w:World):(sizeOf 5).run Tryz.prog w= .ok 1 w:=by kernel_rfl
theorem rZ(a:Option Addr)(l c n:Nat)(hn:n≤l)(w:World):(Instr.slice 39 (.slice a l c) (some (.int .i64 (n:Int))) none none).run Tryz.prog w= .ok (.slice (nV a n c) (l-n) (c-n)) w:=by
 have h:=QA w;simp[Instr.slice,run_underlying Tryz.underlying39,Instr.sliceBounds,run_sliceBound,h,Result.andThen,hn,nV]
theorem Gi(a:Option Addr)(l c n:Nat)(hn:n≤c)(w:World):(Instr.slice 39 (.slice a l c) none (some (.int .i64 (n:Int))) none).run Tryz.prog w= .ok (.slice a n c) w:=by
 have h:=QA w;cases a<;>simp[Instr.slice,run_underlying Tryz.underlying39,Instr.sliceBounds,run_sliceBound,h,Result.andThen,hn,add_zero]
theorem Ii(a:Option Addr)(l c n m:Nat)(hn:n≤m)(hm:m≤c)(w:World):(Instr.slice 39 (.slice a l c) (some (.int .i64 (n:Int))) (some (.int .i64 (m:Int))) none).run Tryz.prog w= .ok (.slice (nV a n c) (m-n) (c-n)) w:=by
 have h:=QA w;simp[Instr.slice,run_underlying Tryz.underlying39,Instr.sliceBounds,run_sliceBound,h,Result.andThen,hn,hm,nV]
theorem BytesAt.conv{w:World}{v:Value}{bs:List UInt8}(h:BytesAt w v bs):(convert 39 9 v).run Tryz.prog w= .ok (.string ⟨bs.toArray⟩) w:=by
 obtain⟨a,c,rfl, -⟩:=h.form;exact Yx h.slice
end
namespace Nu
def Ij:Nat→Nat→List UInt8
 |0,_=>[]
 |f+1,n=>if n<128 then [UInt8.ofNat n]else UInt8.ofNat (n%128+128)::Ij f (n/128)
def put(n:Nat):List UInt8:=Ij (n+1) n
theorem yl:∀f n,n<f→∀g,n<g→Ij f n=Ij g n
 |0,_,h,_,_=>by omega
 |_+1,_,_,0,h=>by omega
 |f+1,n,h,g+1,k=>by
  unfold Ij;split
  ·rfl
  ·rw[yl f (n/128) (by omega) g (by omega)]
theorem jR{n:Nat}(h:n<128):put n=[UInt8.ofNat n]:=by simp[put,Ij,h]
theorem oZ{n:Nat}(h:128≤n):put n=UInt8.ofNat (n%128+128)::put (n/128):=by
 show Ij (n+1) n=_;unfold Ij;rw[if_neg (by omega)];congr 1
 exact yl _ _ (by omega) _ (by omega)
theorem put_pos(n:Nat):0<(put n).length:=by
 by_cases h:n<128
 ·simp[jR h]
 ·simp[oZ (by omega:128≤n)]
theorem Na:∀(k n:Nat),n<128^(k+1)→(put n).length≤k+1
 |0,n,h=>by simp[jR (show n<128 by simpa using h)]
 |k+1,n,h=>by
  by_cases h1:n<128
  ·simp[jR h1]
  ·rw[oZ (by omega)]
   have:=Na k (n/128) (by rw[Nat.div_lt_iff_lt_mul (by omega)];rw[Nat.pow_succ]at h;exact h);simp;omega
theorem fE{n:Nat}(h:n≤1099511627776):(put n).length≤6:=Na 5 n (by omega)
def val:List UInt8→Nat
 |[]=>0
 |c::r=>c.toNat%128+128*val r
theorem CG:∀(l:List UInt8) (c:UInt8),val (l++[c])=val l+c.toNat%128*128^l.length
 |[],c=>by simp[val]
 |d::l,c=>by
  simp only[List.cons_append,val,CG l c,List.length_cons,Nat.pow_succ];rw[Nat.mul_add,Nat.add_assoc,Nat.mul_comm (128^l.length) 128,←Nat.mul_assoc (c.toNat%128),Nat.mul_comm (c.toNat%128) 128,Nat.mul_assoc]
theorem QB:∀(l:List UInt8),val l<128^l.length
 |[]=>by simp[val]
 |c::l=>by
  have:=QB l;simp only[val,List.length_cons,Nat.pow_succ];omega
theorem QC(l r:List UInt8):val l≤val (l++r):=by
 induction l with
 |nil=>simp[val]
 |cons c l ih=>simp only[List.cons_append,val];omega
theorem Nb:∀(f n:Nat),n<f→val (put n)=n
 |0,_,h=>by omega
 |f+1,n,h=>by
  by_cases h1:n<128
  ·rw[jR h1];simp[val,Nat.mod_eq_of_lt (show n<256 by omega),Nat.mod_eq_of_lt h1]
  ·rw[oZ (by omega)]
   simp only[val,Nb f (n/128) (by omega)];rw[show(UInt8.ofNat (n%128+128)).toNat=n%128+128 by simp;omega];omega
theorem CJ(n:Nat):val (put n)=n:=Nb (n+1) n (by omega)
def more(l:List UInt8):Bool:=l.all (fun c=>decide (128≤c.toNat))
theorem Ov(l:List UInt8)(c:UInt8):more (l++[c])=(more l&&decide (128≤c.toNat)):=by simp[more]
theorem Nc:∀(l:List UInt8) (c:UInt8),more l=true→c.toNat<128→(l=[]∨c.toNat≠0)→put (val (l++[c]))=l++[c]
 |[],c,_,h,_=>by
  simp only[List.nil_append,val];rw[jR (by omega)];congr 1
  apply UInt8.toNat.inj;simp;omega
 |d::l,c,hm,h,h0=>by
  simp only[more,List.all_cons,Bool.and_eq_true,decide_eq_true_eq]at hm;have h0:c.toNat≠0:=by simpa using h0
  have hd:=d.toNat_lt;have hv:0<val (l++[c]):=by
   rw[CG,Nat.mod_eq_of_lt h];have:0<c.toNat*128^l.length:=Nat.mul_pos (by omega) (Nat.pow_pos (by omega))
   omega
  simp only[List.cons_append,val];rw[oZ (by omega),show(d.toNat%128+128*val (l++[c]))/128=val (l++[c])by omega,Nc l c hm.2 h (.inr h0)];congr 1
  apply UInt8.toNat.inj;simp;omega
theorem Ik:∀(f n:Nat),n<f→∃l c,put n=l++[c]∧more l=true∧c.toNat<128∧(l=[]∨c.toNat≠0)
 |0,_,h=>by omega
 |f+1,n,h=>by
  by_cases h1:n<128
  ·exact⟨[],UInt8.ofNat n,by rw[jR h1];rfl,rfl,by simp;omega, .inl rfl⟩
  ·obtain⟨l,c,e,hm,hc,h0⟩:=Ik f (n/128) (by omega)
   refine⟨UInt8.ofNat (n%128+128)::l,c,by rw[oZ (by omega),e];rfl,?_,hc, .inr ?_⟩
   ·simp only[more,List.all_cons,Bool.and_eq_true,decide_eq_true_eq]
    exact⟨by simp;omega,hm⟩
   ·rcases h0 with rfl|h0
    ·have:=CJ (n/128)
     rw[e]at this;simp only[List.nil_append,val]at this;omega
    ·exact h0
def qf:Nat→List UInt8→List UInt8→Nat×Nat
 |0,_,_=>(0,0)
 |_,_,[]=>(0,0)
 |f+1,l,c::r=>if 128≤c.toNat then qf f (l++[c]) r
  else if 1099511627776<val (l++[c])∨(l≠[]∧c.toNat=0)then(0,0)else(val (l++[c]),l.length+1)
def get(b:List UInt8):Nat×Nat:=qf 6 [] b
theorem CO:∀(f:Nat) (l r:List UInt8),1099511627776<val l→qf f l r=(0,0)
 |0,_,_,_=>rfl
 |_+1,_,[],_=>rfl
 |f+1,l,c::r,h=>by
  have:=QC l [c];unfold qf;split
  ·exact CO f _ r (by omega)
  ·rw[if_pos (.inl (by omega))]
theorem Ox(f:Nat)(l:List UInt8):qf f l []=(0,0):=by cases f<;>rfl
theorem tX{f:Nat}{l r:List UInt8}{c:UInt8}(h:128≤c.toNat):qf (f+1) l (c::r)=qf f (l++[c]) r:=by
 rw[qf,if_pos h]
theorem tY{f:Nat}{l r:List UInt8}{c:UInt8}(h:c.toNat<128):qf (f+1) l (c::r)=if 1099511627776<val (l++[c])∨(l≠[]∧c.toNat=0)then(0,0)else(val (l++[c]),l.length+1):=by
 rw[qf,if_neg (by omega)]
theorem Il:∀(f:Nat) (p l:List UInt8) (c:UInt8) (r:List UInt8),more l=true→c.toNat<128→l.length<f→
 qf f p (l++c::r)=if 1099511627776<val (p++l++[c])∨(p++l≠[]∧c.toNat=0)then(0,0)else(val (p++l++[c]),p.length+l.length+1)
 |0,_,_,_,_,_,_,h=>by omega
 |f+1,p,[],c,r,_,hc,_=>by rw[List.nil_append,tY hc];simp
 |f+1,p,d::l,c,r,hm,hc,hl=>by
  simp only[more,List.all_cons,Bool.and_eq_true,decide_eq_true_eq]at hm;rw[List.cons_append,tX hm.1,Il f _ l c r hm.2 hc (by simp at hl;omega)];have e:p++[d]++l=p++(d::l):=by simp
  have e2:(p++[d]).length+l.length+1=p.length+(d::l).length+1:=by simp;omega
  rw[e,e2]
theorem get_put{n:Nat}(h:n≤1099511627776)(r:List UInt8):get (put n++r)=(n,(put n).length):=by
 obtain⟨l,c,e,hm,hc,h0⟩:=Ik (n+1) n (by omega);have hl:=fE h;have hv:=CJ n;rw[e]at hv hl;rw[e,List.append_assoc,List.singleton_append];unfold get;rw[Il 6 [] l c r hm hc (by simp at hl;omega),if_neg]
 ·simp only[List.nil_append,hv];simp
 ·simp only[List.nil_append,hv]
  rintro(h1|⟨h1,h2⟩)
  ·omega
  ·rcases h0 with h0|h0
   ·exact h1 h0
   ·exact h0 h2
theorem EN:∀(f:Nat) (p b:List UInt8) (n s:Nat),more p=true→qf f p b=(n,s)→s≠0→
 n≤1099511627776∧p.length≤s∧s≤p.length+b.length∧put n=p++b.take (s-p.length)
 |0,_,_,_,_,_,h,hs=>by simp[qf]at h;omega
 |_+1,_,[],_,_,_,h,hs=>by simp[qf]at h;omega
 |f+1,p,c::b,n,s,hm,h,hs=>by
  by_cases hc:128≤c.toNat
  ·rw[tX hc]at h
   obtain⟨h1,h2,h3,h4⟩:=EN f _ b n s (by rw[Ov,hm];simpa using hc) h hs;simp only[List.length_append,List.length_cons,List.length_nil]at h2 h3 h4;refine⟨h1,by omega,by simp;omega,?_⟩;rw[h4,List.append_assoc,show s-p.length=(s-(p.length+(0+1)))+1 by omega,List.take_succ_cons];rfl
  ·have hc':c.toNat<128:=by omega
   rw[tY hc']at h;split at h
   ·simp at h;omega
   ·rename_i hn
    simp only[Prod.mk.injEq]at h;obtain⟨rfl,rfl⟩:=h;refine⟨by omega,by omega,by simp,?_⟩;rw[Nc p c hm hc' (by by_cases e:p=[];exact .inl e;exact .inr (fun e2=>hn (.inr ⟨e,e2⟩)))];rw[show p.length+1-p.length=1 by omega];rfl
theorem get_some{b:List UInt8}{n s:Nat}(h:get b=(n,s))(hs:s≠0):n≤1099511627776∧s≤b.length∧put n=b.take s:=by
 obtain⟨h1,_,h3,h4⟩:=EN 6 [] b n s rfl h hs;exact⟨h1,by simpa using h3,by simpa using h4⟩
theorem CP{b:List UInt8}:(get b).2≤b.length∧(get b).1≤1099511627776∧((get b).2=0→(get b).1=0):=by
 have aux:∀(f:Nat) (p b:List UInt8),(qf f p b).2=0→(qf f p b).1=0:=by
  intro f;induction f with
  |zero=>intro p b _;rfl
  |succ f ih=>
   intro p b h;cases b with
   |nil=>rfl
   |cons c b=>
    by_cases hc:128≤c.toNat
    ·rw[tX hc]at h⊢;exact ih _ _ h
    ·rw[tY (by omega)]at h⊢
     split
     ·rfl
     ·rename_i hn;rw[if_neg hn]at h;simp at h
 by_cases hs:(get b).2=0
 ·have:=aux 6 [] b hs
  exact⟨by omega,by show(get b).1≤_;unfold get;omega,fun _=>this⟩
 ·obtain⟨h1,h2,_⟩:=get_some (b:=b) (n:=(get b).1) (s:=(get b).2) rfl hs
  exact⟨h2,h1,fun e=>absurd e hs⟩
end Nu
namespace Cr
def step(s:Nat):Nat:=s/2^^^3988292384*(s%2)
def steps:Nat→Nat→Nat
 |0,s=>s
 |n+1,s=>step (steps n s)
def byte(s:Nat)(c:UInt8):Nat:=steps 8 (s^^^c.toNat)
def crc(bs:List UInt8):Nat:=bs.foldl byte 4294967295
def sum(bs:List UInt8):Nat:=4294967295-crc bs
theorem Ul{s:Nat}(h:s<4294967296):step s<4294967296:=by
 unfold step;refine Nat.xor_lt_two_pow (n:=32) (by omega) ?_;have:s%2=0∨s%2=1:=by omega
 rcases this with e|e<;>rw[e]<;>decide
theorem qg{s:Nat}(h:s<4294967296):∀n,steps n s<4294967296
 |0=>h
 |n+1=>Ul (qg h n)
theorem Gj{s:Nat}(h:s<4294967296)(c:UInt8):s^^^c.toNat<4294967296:=
 Nat.xor_lt_two_pow (n:=32) (by omega) (by have:=c.toNat_lt;omega)
theorem vV{s:Nat}(h:s<4294967296)(c:UInt8):byte s c<4294967296:=qg (Gj h c) 8
theorem Nh(bs:List UInt8):∀s,s<4294967296→bs.foldl byte s<4294967296:=by
 induction bs with
 |nil=>intro s h;exact h
 |cons c bs ih=>intro s h;exact ih _ (vV h c)
theorem xu(bs:List UInt8):crc bs<4294967296:=Nh bs _ (by omega)
theorem QD(bs:List UInt8)(c:UInt8):crc (bs++[c])=byte (crc bs) c:=by simp[crc]
def up(v:Nat)(i:Bool):Nat:=(if i !=v.testBit 31 then 79764919 else 0)^^^(v*2%4294967296)
def ups(c:Nat):Nat→Nat→Nat
 |0,v=>v
 |n+1,v=>up (ups c n v) (c.testBit n)
def Yy(v:Nat)(c:UInt8):Nat:=ups c.toNat 8 v
def rcrc(bs:List UInt8):Nat:=bs.foldl Yy 4294967295
def Rev(v s:Nat):Prop:=∀i,i<32→v.testBit i=s.testBit (31-i)
theorem Um{s:Nat}(h:s<4294967296){i:Nat}(hi:32≤i):s.testBit i=false:=
 Nat.testBit_lt_two_pow (Nat.lt_of_lt_of_le h (by have:2^32≤2^i:=Nat.pow_le_pow_right (by omega) hi;simpa using this))
def part(n k:Nat):Nat:=n/2^(32-k)*2^(32-k)
end Cr
section
open Go.Proofs.YtficbckncieabaaGreatDoor
set_option linter.unusedSimpArgs false
set_option linter.unusedVariables false
namespace Bt
structure Rec where
 off:Int
 time:Int
 keyed:Bool
 key:List UInt8
 gone:Bool
 value:List UInt8
structure aB where
 base:Int
 fin:Int
 recs:List Rec
def dR(r:Rec)(lo hi:Int):Int:=
 if r.off<lo∨hi≤r.off∨(r.keyed=false∧r.key≠[])∨(r.gone=true∧r.value≠[])then 1
 else if 60<r.key.length∨500<r.value.length then 4
 else if r.time<0∨1099511627776<r.time then 2 else 0
def bG:List Rec→Int→Int→Int
 |[],_,_=>0
 |r::rs,lo,hi=>if dR r lo hi=0 then bG rs (r.off+1) hi else dR r lo hi
def chk(x:aB):Int:=
 if x.base<0∨1099511627776<x.fin then 2 else if x.fin≤x.base then 1 else if 50<x.recs.length∨50<x.fin-x.base then 4 else bG x.recs x.base x.fin
def mark(r:Rec):Nat:=(if r.keyed then 1 else 0)+(if r.gone then 2 else 0)
def qh(s:List UInt8):List UInt8:=Nu.put s.length++s
def qi(base:Int)(r:Rec):List UInt8:=
 Nu.put (r.off-base).toNat++Nu.put r.time.toNat++Nu.put (mark r)++(if r.keyed then qh r.key else [])++(if r.gone then []else qh r.value)
def iy(base:Int)(rs:List Rec):List UInt8:=rs.flatMap (qi base)
def body(x:aB):List UInt8:=
 Nu.put x.base.toNat++Nu.put (x.fin-x.base).toNat++Nu.put x.recs.length++iy x.base x.recs
def four(n:Nat):List UInt8:=[UInt8.ofNat (n/16777216%256),UInt8.ofNat (n/65536%256),UInt8.ofNat (n/256%256),UInt8.ofNat (n%256)]
def ah(x:aB):List UInt8:=four ((body x).length+8)++four (Cr.sum (body x))++body x
def aQ(x:aB):Int:=if chk x=0 then(if 6000<(body x).length+8 then 4 else 0)else chk x
theorem jS{r:Rec}{lo hi:Int}(h:dR r lo hi=0):lo≤r.off∧r.off<hi∧(r.keyed=false→r.key=[])∧(r.gone=true→r.value=[])∧r.key.length≤60∧r.value.length≤500∧0≤r.time∧r.time≤1099511627776:=by
 unfold dR at h;split at h
 ·omega
 ·rename_i h1
  split at h
  ·omega
  ·split at h
   ·omega
   ·rename_i h2 h3
    refine⟨by omega,by omega,fun e=>?_,fun e=>?_,by omega,by omega,by omega,by omega⟩
    ·refine Classical.byContradiction fun hn=>h1 (.inr (.inr (.inl ⟨e,hn⟩)))
    ·refine Classical.byContradiction fun hn=>h1 (.inr (.inr (.inr ⟨e,hn⟩)))
def num(l:List UInt8):Nat×List UInt8:=if (Nu.get l).2=0 then(0,[])else((Nu.get l).1,l.drop (Nu.get l).2)
def text(l:List UInt8):List UInt8×List UInt8:=if (num l).2.length<(num l).1 then([],[])else((num l).2.take (num l).1,(num l).2.drop (num l).1)
theorem kW{n:Nat}(h:n≤1099511627776)(r:List UInt8):num (Nu.put n++r)=(n,r):=by
 unfold num;rw[Nu.get_put h];have:=Nu.put_pos n;rw[if_neg (show ¬(Nu.put n).length=0 by omega)];simp
theorem vW{s:List UInt8}(h:s.length≤1099511627776)(r:List UInt8):text (qh s++r)=(s,r):=by
 unfold text qh;rw[List.append_assoc,kW h];simp;omega
def qR(base:Int)(l:List UInt8):Rec×List UInt8:=
 let a:=num l;let b:=num a.2;let c:=num b.2;let keyed:=c.1%2=1;let gone:=c.1/2%2=1;let k:=if keyed then text c.2 else([],c.2)
 let v:=if gone then([],k.2)else text k.2
 ({off:=base+a.1,time:=b.1,keyed:=keyed,key:=k.1,gone:=gone,value:=v.1},v.2)
def lq(base:Int):Nat→List UInt8→List Rec
 |0,_=>[]
 |n+1,l=>if l=[]then []else(qR base l).1::lq base n (qR base l).2
def qU(l:List UInt8):aB:=
 let a:=num l;let b:=num a.2;let c:=num b.2;{base:=a.1,fin:=(a.1:Int)+b.1,recs:=lq a.1 c.1 c.2}
theorem QE(base:Int)(r:Rec):0<(qi base r).length:=by
 unfold qi;have:=Nu.put_pos (r.off-base).toNat;simp;omega
theorem V7{base:Int}{r:Rec}{lo hi:Int}(h:dR r lo hi=0)(hb:base≤lo)(hB:0≤base)(hT:hi≤(1099511627776:Int))(l:List UInt8):qR base (qi base r++l)=(r,l):=by
 obtain⟨h1,h2,h3,h4,h5,h6,h7,h8⟩:=jS h;obtain⟨off,time,keyed,key,gone,value⟩:=r;simp only at h1 h2 h3 h4 h5 h6 h7 h8;have e1:(off-base).toNat≤1099511627776:=by omega
 have e2:time.toNat≤1099511627776:=by omega
 have e3:base+((off-base).toNat:Int)=off:=by omega
 have e4:(time.toNat:Int)=time:=by omega
 unfold qR qi;simp only[List.append_assoc,kW e1,kW e2];cases keyed<;>cases gone
 ·simp only[mark,kW (show 0+0≤1099511627776 by omega),Bool.false_eq_true,if_false,List.nil_append]
  have:=h3 rfl;subst this;simp[vW (show value.length≤1099511627776 by omega),e3,e4, -Int.ofNat_toNat]
 ·have:=h3 rfl
  have h':=h4 rfl;subst this;subst h';simp only[mark,kW (show 0+2≤1099511627776 by omega),Bool.false_eq_true,if_false,if_true,List.nil_append];simp[e3,e4, -Int.ofNat_toNat]
 ·simp only[mark,kW (show 1+0≤1099511627776 by omega),Bool.false_eq_true,if_false,if_true,List.append_assoc]
  simp[vW (show value.length≤1099511627776 by omega),vW (show key.length≤1099511627776 by omega),e3,e4, -Int.ofNat_toNat]
 ·have h':=h4 rfl
  subst h';simp only[mark,kW (show 1+2≤1099511627776 by omega),Bool.false_eq_true,if_false,if_true,List.append_assoc,List.nil_append];simp[vW (show key.length≤1099511627776 by omega),e3,e4, -Int.ofNat_toNat]
theorem Nj{base:Int}(hB:0≤base){hi:Int}(hT:hi≤1099511627776):∀(rs:List Rec) (lo:Int),base≤lo→bG rs lo hi=0→lq base rs.length (iy base rs)=rs
 |[],_,_,_=>rfl
 |r::rs,lo,hb,h=>by
  have h1:dR r lo hi=0:=by
   unfold bG at h;split at h
   ·assumption
   ·exact h
  have h2:bG rs (r.off+1) hi=0:=by
   unfold bG at h;rwa [if_pos h1]at h
  have hk:=jS h1;have e:iy base (r::rs)=qi base r++iy base rs:=by simp[iy]
  have hne:iy base (r::rs)≠[]:=by
   rw[e];intro h;have:=QE base r;have h':=congrArg List.length h;simp at h';simp[h'.1]at this
  rw[List.length_cons,lq,if_neg hne,e,V7 h1 hb hB hT,Nj hB hT rs (r.off+1) (by omega) h2]
theorem jX{x:aB}(h:chk x=0):0≤x.base∧x.fin≤1099511627776∧x.base<x.fin∧x.recs.length≤50∧x.fin-x.base≤50∧bG x.recs x.base x.fin=0:=by
 unfold chk at h;split at h
 ·omega
 ·split at h
  ·omega
  ·split at h
   ·omega
   ·exact⟨by omega,by omega,by omega,by omega,by omega,h⟩
theorem EO{x:aB}(h:chk x=0):qU (body x)=x:=by
 obtain⟨h1,h2,h3,h4,h5,h6⟩:=jX h;obtain⟨base,fin,recs⟩:=x;simp only at h1 h2 h3 h4 h5 h6;unfold qU body;simp only[List.append_assoc,kW (show base.toNat≤1099511627776 by omega),kW (show(fin-base).toNat≤1099511627776 by omega),kW (show recs.length≤1099511627776 by omega)];have e1:(base.toNat:Int)=base:=by omega
 have e2:base+((fin-base).toNat:Int)=fin:=by omega
 rw[e1,e2,Nj h1 h2 recs base (Int.le_refl _) h6]
def Gl(t:List UInt8×Bool):Nat×(List UInt8×Bool):=((Nu.get t.1).1,(t.1.drop (Nu.get t.1).2,t.2||(Nu.get t.1).2==0))
def Nk(most:Nat)(t:List UInt8×Bool):List UInt8×(List UInt8×Bool):=
 let a:=Gl t;if a.2.2=true∨most<a.1∨a.2.1.length<a.1 then([],(a.2.1,true))else(a.2.1.take a.1,(a.2.1.drop a.1,a.2.2))
theorem jJ{n:Nat}(h:n≤1099511627776)(r:List UInt8)(b:Bool):Gl (Nu.put n++r,b)=(n,(r,b)):=by
 unfold Gl;simp only[Nu.get_put h];have:=Nu.put_pos n;have h0:((Nu.put n).length==0)=false:=by simp;intro h';rw[h']at this;simp at this
 rw[h0];simp
theorem tZ{most:Nat}{s:List UInt8}(h:s.length≤1099511627776)(hm:s.length≤most)(r:List UInt8):Nk most (qh s++r,false)=(s,(r,false)):=by
 unfold Nk qh;simp only[List.append_assoc,jJ h];rw[if_neg (by simp;omega)];simp
def QF(base:Int)(t:List UInt8×Bool):Rec×(List UInt8×Bool):=
 let a:=Gl t;let b:=Gl a.2;let c:=Gl b.2;let keyed:=c.1%2=1;let gone:=c.1/2=1;let t3:=(c.2.1,c.2.2||decide (3<c.1));let k:=if keyed then Nk 10000 t3 else([],t3)
 let v:=if gone then([],k.2)else Nk 10000 k.2
 ({off:=base+a.1,time:=b.1,keyed:=keyed,key:=k.1,gone:=gone,value:=v.1},v.2)
def EP(base:Int):Nat→List UInt8×Bool→List Rec×Bool
 |0,t=>([],t.2)
 |n+1,t=>if t.2 then([],true)else((QF base t).1::(EP base n (QF base t).2).1,(EP base n (QF base t).2).2)
def Un(l:List UInt8):aB×Bool:=
 let a:=Gl (l,false);let b:=Gl a.2;let c:=Gl b.2;({base:=a.1,fin:=(a.1:Int)+b.1,recs:=(EP a.1 c.1 c.2).1},(EP a.1 c.1 c.2).2)
theorem V8{base:Int}{r:Rec}{lo hi:Int}(h:dR r lo hi=0)(hb:base≤lo)(hB:0≤base)(hT:hi≤(1099511627776:Int))(l:List UInt8):QF base (qi base r++l,false)=(r,(l,false)):=by
 obtain⟨h1,h2,h3,h4,h5,h6,h7,h8⟩:=jS h;obtain⟨off,time,keyed,key,gone,value⟩:=r;simp only at h1 h2 h3 h4 h5 h6 h7 h8;have e1:(off-base).toNat≤1099511627776:=by omega
 have e2:time.toNat≤1099511627776:=by omega
 have e3:base+((off-base).toNat:Int)=off:=by omega
 have e4:(time.toNat:Int)=time:=by omega
 unfold QF qi;simp only[List.append_assoc,jJ e1,jJ e2];cases keyed<;>cases gone
 ·simp only[mark,jJ (show 0+0≤1099511627776 by omega),Bool.false_eq_true,if_false,List.nil_append]
  have:=h3 rfl;subst this;simp[tZ (show value.length≤1099511627776 by omega) (show value.length≤10000 by omega),e3,e4, -Int.ofNat_toNat]
 ·have:=h3 rfl
  have h':=h4 rfl;subst this;subst h';simp only[mark,jJ (show 0+2≤1099511627776 by omega),Bool.false_eq_true,if_false,if_true,List.nil_append];simp[e3,e4, -Int.ofNat_toNat]
 ·simp only[mark,jJ (show 1+0≤1099511627776 by omega),Bool.false_eq_true,if_false,if_true,List.append_assoc]
  simp[tZ (show value.length≤1099511627776 by omega) (show value.length≤10000 by omega),tZ (show key.length≤1099511627776 by omega) (show key.length≤10000 by omega),e3,e4, -Int.ofNat_toNat]
 ·have h':=h4 rfl
  subst h';simp only[mark,jJ (show 1+2≤1099511627776 by omega),Bool.false_eq_true,if_false,if_true,List.append_assoc,List.nil_append];simp[tZ (show key.length≤1099511627776 by omega) (show key.length≤10000 by omega),e3,e4, -Int.ofNat_toNat]
theorem Nl{base:Int}(hB:0≤base){hi:Int}(hT:hi≤1099511627776):∀(rs:List Rec) (lo:Int),base≤lo→bG rs lo hi=0→EP base rs.length (iy base rs,false)=(rs,false)
 |[],_,_,_=>rfl
 |r::rs,lo,hb,h=>by
  have h1:dR r lo hi=0:=by
   unfold bG at h;split at h
   ·assumption
   ·exact h
  have h2:bG rs (r.off+1) hi=0:=by
   unfold bG at h;rwa [if_pos h1]at h
  have hk:=jS h1;have e:iy base (r::rs)=qi base r++iy base rs:=by simp[iy]
  rw[List.length_cons,EP,if_neg (by simp),e,V8 h1 hb hB hT,Nl hB hT rs (r.off+1) (by omega) h2]
theorem Oy{x:aB}(h:chk x=0):Un (body x)=(x,false):=by
 obtain⟨h1,h2,h3,h4,h5,h6⟩:=jX h;obtain⟨base,fin,recs⟩:=x;simp only at h1 h2 h3 h4 h5 h6;unfold Un body;simp only[List.append_assoc,jJ (show base.toNat≤1099511627776 by omega),jJ (show(fin-base).toNat≤1099511627776 by omega),jJ (show recs.length≤1099511627776 by omega)];have e1:(base.toNat:Int)=base:=by omega
 have e2:base+((fin-base).toNat:Int)=fin:=by omega
 rw[e1,e2,Nl h1 h2 recs base (Int.le_refl _) h6]
def fM(b:List UInt8):Nat:=(b.getD 0 0).toNat*16777216+(b.getD 1 0).toNat*65536+(b.getD 2 0).toNat*256+(b.getD 3 0).toNat
theorem su(n:Nat):(four n).length=4:=rfl
theorem uP{n:Nat}(h:n<4294967296)(r:List UInt8):fM (four n++r)=n:=by
 simp[fM,four];omega
theorem gX(x:aB):(ah x).length=(body x).length+8:=by simp[ah,su];omega
theorem uf(x:aB):(ah x).drop 8=body x:=by
 unfold ah;rw[List.drop_append_of_le_length (by simp[su])];simp[su,four]
def V9(b:List UInt8)(x:aB):Prop:=chk x=0∧ah x=b.take (fM b)
theorem ER{b:List UInt8}{x:aB}(h:V9 b x):body x=(b.take (fM b)).drop 8:=by rw[←h.2,uf]
theorem both(b:List UInt8):V9 b (qU ((b.take (fM b)).drop 8))↔((Un ((b.take (fM b)).drop 8)).2=false∧V9 b (Un ((b.take (fM b)).drop 8)).1):=by
 constructor
 ·intro h
  have h1:=ER h;have h2:=Oy h.1;rw[h1]at h2;rw[h2];exact⟨rfl,h⟩
 ·rintro⟨h0,h⟩
  have h1:=ER h;have h2:=EO h.1;rw[h1]at h2;rw[h2];exact h
end Bt
end
section
open Go.RowKit Go.Maps
set_option linter.unusedSimpArgs false
set_option linter.unusedVariables false
set_option maxRecDepth 100000
def eU(s:List UInt8):Value:= .string ⟨s.toArray⟩
def recC(r:Bt.Rec):List Value:=[.int .i64 r.off, .int .i64 r.time, .bool r.keyed,eU r.key, .bool r.gone,eU r.value]
abbrev pK(r:Bt.Rec):Value:= .agg #[.int .i64 r.off, .int .i64 r.time, .bool r.keyed,eU r.key, .bool r.gone,eU r.value]
structure iQ(r:Bt.Rec):Prop where
 off1: -9223372036854775808≤r.off
 off2:r.off≤9223372036854775807
 time1: -9223372036854775808≤r.time
 time2:r.time≤9223372036854775807
 key:r.key.length≤9223372036854775807
 value:r.value.length≤9223372036854775807
def bF(w:World)(v:Value)(rs:List Bt.Rec):Prop:=
 ∃a c,v= .slice a rs.length c∧rs.length≤c∧c≤maxLen∧(a=none→c=0)∧(∀j (h:j<rs.length),iQ rs[j]∧∃p,a=some p∧∀i u,(recC rs[j])[i]? =some u→w.cell? ((p.add (j*6)).add i)=some u)
theorem bF.kept{w w':World}{v:Value}{rs:List Bt.Rec}{S:List Nat}(h:bF w v rs)(ht:Turn S w w')(hn:∀k∈v.ownBlock,k<w.heap.size→k∉S):bF w' v rs:=by
 obtain⟨a,c,rfl,h1,h2,h3,h4⟩:=h;refine⟨a,c,rfl,h1,h2,h3,fun j hj=>?_⟩;obtain⟨h5,p,rfl,hc⟩:=h4 j hj;refine⟨h5,p,rfl,fun i u hu=>?_⟩;have hlt:=World.block_lt_of_cell? w _ (hc i u hu);rw[World.cell?_of_block (w:=w) (ht.block _ hlt (by rw[add_block,add_block]at hlt⊢;exact hn _ (by simp[Value.ownBlock]) hlt)),hc i u hu]
theorem bF.kept'{w w':World}{v:Value}{rs:List Bt.Rec}{S:List Nat}(h:bF w v rs)(ht:Turn S w w')(hn:rs≠[]→∀k∈v.ownBlock,k∉S):bF w' v rs:=by
 by_cases h0:rs=[]
 ·subst h0
  obtain⟨a,c,e,h1,h2,h3,h4⟩:=h;exact⟨a,c,e,h1,h2,h3,fun j hj=>absurd hj (Nat.not_lt_zero _)⟩
 ·exact h.kept ht (fun k hk _=>hn h0 k hk)
theorem bF.lt{w:World}{v:Value}{rs:List Bt.Rec}(h:bF w v rs)(h0:rs≠[]):∀k∈v.ownBlock,k<w.heap.size:=by
 obtain⟨a,c,rfl,h1,h2,h3,h4⟩:=h;have hl:0<rs.length:=List.length_pos_iff.2 h0;obtain⟨-,p,rfl,hc⟩:=h4 0 hl;intro k hk;simp[Value.ownBlock]at hk;subst hk;have:=World.block_lt_of_cell? w _ (hc 0 _ rfl);rwa [add_block,add_block]at this
theorem bF.still{w w':World}{v:Value}{rs:List Bt.Rec}(h:bF w v rs)(ht:Turn [] w w'):bF w' v rs:=h.kept ht (by simp)
theorem bF.form{w:World}{v:Value}{rs:List Bt.Rec}(h:bF w v rs):∃a c,v= .slice a rs.length c∧rs.length≤c∧c≤maxLen∧(a=none→c=0)∧∀j (hj:j<rs.length),∃p,a=some p:=by
 obtain⟨a,c,rfl,h1,h2,h3,h4⟩:=h;exact⟨a,c,rfl,h1,h2,h3,fun j hj=>⟨_,(h4 j hj).2.choose_spec.1⟩⟩
theorem bF.ok{w:World}{v:Value}{rs:List Bt.Rec}(h:bF w v rs){j:Nat}(hj:j<rs.length):iQ rs[j]:=by
 obtain⟨a,c,rfl,h1,h2,h3,h4⟩:=h;exact(h4 j hj).1
theorem We(w:World):(sizeOf 52).run Tryz.prog w= .ok 6 w:=by kernel_rfl
theorem Yz(w:World):(isAgg 52).run Tryz.prog w= .ok true w:=by kernel_rfl
theorem Io{w:World}{a:Addr}{r:Bt.Rec}(h:∀i u,(recC r)[i]? =some u→w.cell? (a.add i)=some u):(loadVar 52 a).run Tryz.prog w= .ok (pK r) w:=by
 have c0:=h 0 _ rfl;have c1:=h 1 _ rfl;have c2:=h 2 _ rfl;have c3:=h 3 _ rfl;have c4:=h 4 _ rfl;have c5:=h 5 _ rfl;simp[loadVar,Yz,We,Result.andThen,loadCells,loadCellsFrom,c0,c1,c2,c3,c4,c5]
theorem bF.load{w:World}{p:Addr}{c:Nat}{rs:List Bt.Rec}(h:bF w (.slice (some p) rs.length c) rs){j:Nat}(hj:j<rs.length):(loadVar 52 (p.add (j*6))).run Tryz.prog w= .ok (pK rs[j]) w:=by
 obtain⟨a,c',e,h1,h2,h3,h4⟩:=h;simp only[Value.slice.injEq]at e;obtain⟨rfl, -,rfl⟩:=e;obtain⟨-,q,hq,hc⟩:=h4 j hj;cases hq
 exact Io hc
theorem bF.six{w:World}{p:Addr}{c:Nat}{rs:List Bt.Rec}(h:bF w (.slice (some p) rs.length c) rs){j:Nat}(hj:j<rs.length):
 w.cell? (p.add (j*6))=some (.int .i64 rs[j].off)∧w.cell? ⟨(p.add (j*6)).block,(p.add (j*6)).off+1,none⟩=some (.int .i64 rs[j].time)∧w.cell? ⟨(p.add (j*6)).block,(p.add (j*6)).off+2,none⟩=some (.bool rs[j].keyed)∧
 w.cell? ⟨(p.add (j*6)).block,(p.add (j*6)).off+3,none⟩=some (.string ⟨rs[j].key.toArray⟩)∧w.cell? ⟨(p.add (j*6)).block,(p.add (j*6)).off+4,none⟩=some (.bool rs[j].gone)∧w.cell? ⟨(p.add (j*6)).block,(p.add (j*6)).off+5,none⟩=some (.string ⟨rs[j].value.toArray⟩):=by
 obtain⟨a,c',e,h1,h2,h3,h4⟩:=h;simp only[Value.slice.injEq]at e;obtain⟨rfl, -,rfl⟩:=e;obtain⟨-,q,hq,hc⟩:=h4 j hj;cases hq
 refine⟨?_,hc 1 _ rfl,hc 2 _ rfl,hc 3 _ rfl,hc 4 _ rfl,hc 5 _ rfl⟩;have:=hc 0 _ rfl;rwa [add_zero]at this
def yt(w:World)(v:Value)(x:Bt.aB):Prop:=
 ∃sv,v= .agg #[.int .i64 x.base, .int .i64 x.fin,sv]∧bF w sv x.recs∧ -9223372036854775808≤x.base∧x.base≤9223372036854775807∧ -9223372036854775808≤x.fin∧x.fin≤9223372036854775807
theorem wf_i64{n:Int}(h:(Lit.int .i64 n).wf=true): -9223372036854775808≤n∧n≤9223372036854775807:=by
 simp only[Lit.wf,IntKind.min,IntKind.max,IntKind.signed,IntKind.bits,Bool.and_eq_true,decide_eq_true_eq]at h;have h1:=h.1;have h2:=h.2;simp at h1 h2;exact⟨h1,by omega⟩
theorem QG:Tryz.prog.underlying 52=some (.struct (((Tryz.prog.underlying 52).bind fun d=>match d with| .struct fs=>some fs|_=>none).getD #[])):=by kernel_rfl
theorem Ip:((((Tryz.prog.underlying 52).bind fun d=>match d with| .struct fs=>some fs|_=>none).getD #[]).toList.map fun f=>(f.type,f.offset,Tryz.prog.cellsOf f.type))=[(3,0,1),(3,1,1),(4,2,1),(9,3,1),(4,4,1),(9,5,1)]:=by kernel_rfl
theorem Np:Tryz.prog.cellsOf 52=6:=by kernel_rfl
variable {H:Type} {enc:TypeId×Value→H} {base:Nat} {spare:Nat→Bool} {acV:Bool}
theorem Iq{fs:Array Field}{l:List (Nat×Nat×Nat)}(h:(fs.toList.map fun f=>(f.type,f.offset,Tryz.prog.cellsOf f.type))=l){i t o k:Nat}(hi:l[i]? =some (t,o,k)):∃f:Field,fs[i]? =some f∧f.type=t∧f.offset=o∧Tryz.prog.cellsOf f.type=k:=by
 rw[←h,List.getElem?_map]at hi;cases hf:fs.toList[i]? with
 |none=>rw[hf]at hi;cases hi
 |some f=>
  rw[hf]at hi;simp only[Option.map_some,Option.some.injEq,Prod.mk.injEq]at hi;exact⟨f,by simpa using hf,hi.1,hi.2.1,hi.2.2⟩
theorem Vp{α:Type}{cs:List α}(h:cs.length=6):∃c0 c1 c2 c3 c4 c5,cs=[c0,c1,c2,c3,c4,c5]:=by
 match cs,h with
 |[c0,c1,c2,c3,c4,c5],_=>exact⟨c0,c1,c2,c3,c4,c5,rfl⟩
theorem open_rec{w:World}{n:Nat}{cs:List Value}{x:DataW H×List MemPlace}(h:DataW.trod enc Tryz.prog w base spare acV n 52 cs=some x):∃r,cs=recC r∧iQ r:=by
 obtain⟨xs,m, -, -,aah,hl,hf⟩:=DataW.trod_struct QG h;rw[Np]at aah;have hfs:=Ip;generalize (((Tryz.prog.underlying 52).bind fun d=>match d with| .struct fs=>some fs|_=>none).getD #[])=fs at*
 have hxs:xs.length=6:=by
  rw[hl];have:=congrArg List.length hfs;simpa using this
 obtain⟨c0,c1,c2,c3,c4,c5,rfl⟩:=Vp aah;obtain⟨y0,y1,y2,y3,y4,y5,rfl⟩:=Vp hxs;have one:∀(i t o:Nat) (y:DataW H×List MemPlace),[(3,0,1),(3,1,1),(4,2,1),(9,3,1),(4,4,1),(9,5,1)][i]? =some (t,o,1)→[y0,y1,y2,y3,y4,y5][i]? =some y→
  DataW.trod enc Tryz.prog w base spare acV m t (([c0,c1,c2,c3,c4,c5].drop o).take 1)=some y:=by
  intro i t o y hi hy;obtain⟨f,h1,h2,h3,h4⟩:=Iq hfs hi;have:=hf i f h1;rw[h4,h2,h3,hy]at this;exact this
 obtain⟨n0,e0, -,w0⟩:=DataW.trod_int Tryz.underlying3 (one 0 _ _ y0 rfl rfl);obtain⟨n1,e1, -,w1⟩:=DataW.trod_int Tryz.underlying3 (one 1 _ _ y1 rfl rfl);obtain⟨b2,e2, -⟩:=DataW.trod_bool Tryz.underlying4 (one 2 _ _ y2 rfl rfl);obtain⟨s3,e3, -,w3⟩:=DataW.trod_string Tryz.underlying9 (one 3 _ _ y3 rfl rfl);obtain⟨b4,e4, -⟩:=DataW.trod_bool Tryz.underlying4 (one 4 _ _ y4 rfl rfl);obtain⟨s5,e5, -,w5⟩:=DataW.trod_string Tryz.underlying9 (one 5 _ _ y5 rfl rfl);simp only[List.drop_succ_cons,List.drop_zero,List.take_succ_cons,List.take_zero,List.cons.injEq,and_true]at e0 e1 e2 e3 e4 e5;subst e0;subst e1;subst e2;subst e3;subst e4;subst e5;have hm:maxLen=9223372036854775807:=by simp[maxLen]
 rw[hm]at w3 w5;refine⟨⟨n0,n1,b2,s3.data.toList,b4,s5.data.toList⟩,rfl,(wf_i64 w0).1,(wf_i64 w0).2,(wf_i64 w1).1,(wf_i64 w1).2,by simpa using w3,by simpa using w5⟩
theorem Oz{w:World}{n:Nat}{v:Value}{x:DataW H×List MemPlace}(h:DataW.trod enc Tryz.prog w base spare acV n 34 [v]=some x):∃rs,bF w v rs:=by
 rcases Deep.open_slice Tryz.underlying34 h with⟨hcs, -⟩|⟨a,len,cap,m,k,D,Pl,hcs, -,h1,h2,h3, -,h4⟩
 ·simp only[List.cons.injEq,and_true]at hcs
  subst hcs;exact⟨[],none,0,rfl,Nat.le_refl _,Nat.zero_le _,fun _=>rfl,fun j hj=>absurd hj (Nat.not_lt_zero _)⟩
 ·simp only[List.cons.injEq,and_true]at hcs
  subst hcs;have hlm:len≤m:=by rw[h3];split<;>omega
  rw[Np]at h4;have hr:∀i,i<len→∃r,iQ r∧∀j u,(recC r)[j]? =some u→w.cell? ((a.add (i*6)).add j)=some u:=by
   intro i hi;obtain⟨cs',g1,g2⟩:=h4 i (by omega);obtain⟨r,rfl,hok⟩:=open_rec g2;obtain⟨-, -,g3⟩:=World.cells?_some g1;refine⟨r,hok,fun j u hu=>?_⟩;have hj:j<6:=by have:=(List.getElem?_eq_some_iff.1 hu).1;simpa[recC]using this
   rw[g3 j hj];exact hu
  let rs:List Bt.Rec:=(List.range len).attach.map fun i=>(hr i.1 (List.mem_range.1 i.2)).choose
  have hl:rs.length=len:=by simp[rs]
  refine⟨rs,some a,cap,by rw[hl],by rw[hl];exact h1,h2,by simp,fun j hj=>?_⟩;have hj':j<len:=by omega
  have e:rs[j]=(hr j hj').choose:=by simp[rs]
  rw[e];exact⟨(hr j hj').choose_spec.1,a,rfl,(hr j hj').choose_spec.2⟩
end
section
open Go.RowKit Go.Maps
set_option maxRecDepth 100000
set_option linter.unusedSimpArgs false
set_option linter.unusedVariables false
theorem vX{a b c d:Int}(h:a=b)(k:c=d):Ending.returned (.tuple #[.int .i64 a, .int .i64 c])= .returned (.tuple #[.int .i64 b, .int .i64 d]):=by rw[h,k]
theorem CQ(a b:Nat)(ha:a<9223372036854775808)(hb:b<9223372036854775808)(hab:a|||b<9223372036854775808):bits .or .i64 (a:Int) (b:Int)=((a|||b:Nat):Int):=by
 show IntKind.i64.wrap ((BitVec.ofInt 64 (a:Int)|||BitVec.ofInt 64 (b:Int)).toNat:Int)=_;rw[BitVec.toNat_or,ofInt_u64 a (by omega),ofInt_u64 b (by omega),IntWalk.i64_left,IntWalk.wrap64_in _ (by omega)]
theorem QH(k:Nat):(2:Nat)^(7*k)=128^k:=by rw[Nat.pow_mul]
theorem or_val(bs:List UInt8)(k:Nat)(hk:k<bs.length)(h6:k<6):
 bits .or .i64 (Nu.val (bs.take k):Int) (wrap64 (wrap64 (bits .and .u8 (bs[k].toNat:Int) 127)*2^(7*k)))=((Nu.val (bs.take (k+1)):Nat):Int):=by
 have hb:=bs[k].toNat_lt;have h1:=u8_and_nat bs[k].toNat 127 (by omega) (by omega);rw[nat_mask7]at h1;have h1':bits .and .u8 (bs[k].toNat:Int) 127=((bs[k].toNat%128:Nat):Int):=h1;rw[h1',take_snoc bs k hk,Nu.CG];have hl:(bs.take k).length=k:=by simp;omega
 have hv:=Nu.QB (bs.take k);rw[hl]at hv⊢;have hp:128^k≤128^5:=Nat.pow_le_pow_right (by omega) (by omega);have hp':128^k≤34359738368:=hp;generalize hq:bs[k].toNat%128=q at*
 have hq1:q<128:=by omega
 have hm:q*128^k≤127*34359738368:=Nat.mul_le_mul (by omega) hp';rw[show((2:Int)^(7*k))=((128^k:Nat):Int)by rw[←QH];simp];generalize Nu.val (bs.take k)=x at*
 rw[IntWalk.wrap64_in (q:Int) (by omega),show((q:Int)*((128^k:Nat):Int))=((q*128^k:Nat):Int)by simp];have hj:q*128^k|||x=q*128^k+x:=nat_join (7*k) _ _ (by rw[QH];exact Nat.mul_mod_left _ _) (by rw[QH];exact hv)
 generalize 128^k=r at*
 generalize q*r=y at*
 rw[IntWalk.wrap64_in _ (by omega),CQ _ _ (by omega) (by omega) (by rw[Nat.or_comm,hj];omega),Nat.or_comm,hj];omega
theorem drop_cons(bs:List UInt8)(k:Nat)(h:k<bs.length):bs.drop k=bs[k]::bs.drop (k+1):=List.drop_eq_getElem_cons h
theorem get_any(w:World)(v:Value)(bs:List UInt8)(hx:BytesAt w v bs)(hl:bs.length≤9223372036854775807):
 Calls Tryz.prog 203 #[v] w fun e w'=>e= .returned (.tuple #[.int .i64 (Nu.get bs).1, .int .i64 (Nu.get bs).2])∧w=w':=by
 obtain⟨a,c,rfl,hlc,hcm,hc⟩:=hx.form;clear hx;obtain⟨m,hm⟩:∃m,m=min bs.length 6:=⟨_,rfl⟩;have ahw:∀ts t w,(Builtin.min_ ts t #[.int .i64 (bs.length:Int), .int .i64 6]).run Tryz.prog w= .ok (.int .i64 (m:Int)) w:=by
  intro ts t w;by_cases h6:6<bs.length
  ·have:(6:Int)<(bs.length:Int):=by omega
   simp[Builtin.min_,Builtin.min2,this];omega
  ·have:¬(6:Int)<(bs.length:Int):=by omega
   simp[Builtin.min_,Builtin.min2,this];omega
 have hsl:=fun w=> @Gi a bs.length c m (by omega) w
 have hm6:m≤6:=by omega
 have hml:m≤bs.length:=by omega
 have HM:Hid (m=6∨m=bs.length):=by show _∨_;omega
 clear hm;go_enter Tryz.func203,Tryz.ntmps203
 go_wp2
 go_loop [2,12] (fun n i=>∃k:Nat,k≤m∧i= .int .i64 k∧n= .int .i64 (Nu.val (bs.take k))∧Nu.val (bs.take k)≤1099511627776∧Nu.get bs=Nu.qf (6-k) (bs.take k) (bs.drop k)) (fun _ i=>m-(intOf i).toNat)
 case atStart=>exact⟨0,Nat.zero_le _,rfl,rfl,by simp[Nu.val],rfl⟩
 case round=>
  obtain⟨k,hk,rfl,rfl,hv,hg⟩:=hrel;have HG:Hid (Nu.get bs=Nu.qf (6-k) (bs.take k) (bs.drop k)):=hg;clear hg;by_cases hlt:k<m
  ·obtain⟨p,rfl,agl⟩:=hc k (by omega)
   have hb8:=bs[k].toNat_lt;clear hc;have hor:=or_val bs k (by omega) (by omega);have HS:Hid (Nu.get bs=Nu.qf (5-k+1) (bs.take k) (bs[k]::bs.drop (k+1))):=by
    show _=_;rw[HG.out,drop_cons bs k (by omega),show 6-k=5-k+1 by omega]
   have HT:Hid (bs.take k++[bs[k]]=bs.take (k+1)):=(take_snoc bs k (by omega)).symm;have HL:Hid ((bs.take k).length=k):=by show _=_;simp;omega
   have HN:Hid (bs.take k≠[]↔0<k):=by
    show _↔_;have:=HL.out;rw[List.ne_nil_iff_length_pos,this]
   by_cases hc8:128≤bs[k].toNat
   ·have HM2:Hid (Nu.get bs=Nu.qf (6-(k+1)) (bs.take (k+1)) (bs.drop (k+1))):=by
     show _=_;rw[HS.out,Nu.tX hc8,HT.out,show 5-k=6-(k+1)by omega]
    go_wp2
    ·go_ret2
     rename_i adL _
     have hz:=Nu.CO (6-(k+1)) (bs.take (k+1)) (bs.drop (k+1)) (by omega);exact⟨vX (by rw[HM2.out,hz];rfl) (by rw[HM2.out,hz];rfl),rfl⟩
    ·refine⟨⟨k+1,by omega,by go_num,rfl,by omega,HM2.out⟩,?_⟩
     simp only[intOf];omega
   ·have HM2:Hid (Nu.get bs=if 1099511627776<Nu.val (bs.take (k+1))∨(bs.take k≠[]∧bs[k].toNat=0)then(0,0)else(Nu.val (bs.take (k+1)),k+1)):=by
     show _=_;rw[HS.out,Nu.tY (by omega),HT.out,HL.out]
    go_wp2
    all_goals
     go_ret2
     first
      |(have hz:Nu.get bs=(0,0):=by rw[HM2.out,if_pos (.inl (by omega))]
        exact⟨vX (by rw[hz]<;>rfl) (by rw[hz]<;>rfl),rfl⟩)
      |(have hz:Nu.get bs=(0,0):=by rw[HM2.out,if_pos (.inr ⟨HN.out.2 (by omega),by omega⟩)]
        exact⟨vX (by rw[hz]<;>rfl) (by rw[hz]<;>rfl),rfl⟩)
      |(have hz:Nu.get bs=(Nu.val (bs.take (k+1)),k+1):=by
         rw[HM2.out,if_neg];rintro(h1|⟨h1,h2⟩)
         ·omega
         ·have:=HN.out.1 h1;omega
        exact⟨vX (by rw[hz]<;>rfl) (by rw[hz]<;>rfl),rfl⟩)
  ·go_wp2
   go_ret2
   have hz:Nu.get bs=(0,0):=by
    rw[HG.out];rcases HM.out with h|h
    ·rw[show 6-k=0 by omega];rfl
    ·rw[List.drop_of_length_le (by omega)];exact Nu.Ox _ _
   exact⟨vX (by rw[hz]<;>rfl) (by rw[hz]<;>rfl),rfl⟩
end
section
open Go.RowKit
set_option linter.unusedSimpArgs false
set_option linter.unusedVariables false
def vY(ops:List Oper):Nat→Nat→Nat
 |0,S=>S
 |i+1,S=>vY ops i (if S.testBit i then((ops[i]?).map (fun o=>o.after.toList)).getD [] |>.foldl (fun T e=>if Region.binds .any e then T|||2^e.on else T) S else S)
def Gm(ls:List Oper)(o:Oper):Bool:=
 let S:=vY (ls++[o]) ls.length (o.after.toList.foldl (fun T e=>if Region.binds .any e then T|||2^e.on else T) 0);(List.range ls.length).all fun i=>S.testBit i
def Kt(l:List Oper):Bool:=l.all fun o=>match o.op with| .defer _=>false|_=>true
def jY(l:List Oper):Bool:=l.all fun o=>match o.guard with|some (j,_)=>decide (j<l.length)|none=>true
def Listed(listed:Array Bool)(i:Nat):Prop:=listed[i]? =some true
theorem CU(b:Array Bool)(i:Nat):b.getD i false=true↔Listed b i:=by
 unfold Listed;rw[Array.getD_eq_getD_getElem?];cases b[i]? with
 |none=>simp
 |some x=>simp
theorem OA(b:Array Bool)(i:Nat):b.getD i true=false↔b[i]? =some false:=by
 rw[Array.getD_eq_getD_getElem?];cases b[i]? with
 |none=>simp
 |some x=>simp
theorem ug{listed:Array Bool}:∀(es:List Edge) (T:Nat),(∀j,T.testBit j=true→Listed listed j)→(∀e∈es,Region.binds .any e=true→Listed listed e.on)→
 ∀j,(es.foldl (fun T e=>if Region.binds .any e then T|||2^e.on else T) T).testBit j=true→Listed listed j
 |[],T,hT,_,j,hj=>hT j hj
 |e::es,T,hT,he,j,hj=>by
  rw[List.foldl_cons]at hj;refine ug es _ ?_ (fun x hx=>he x (by simp[hx])) j hj;intro k hk;split at hk
  ·rename_i hb
   rw[Nat.testBit_or,Bool.or_eq_true]at hk;rcases hk with hk|hk
   ·exact hT k hk
   ·rw[Nat.testBit_two_pow]at hk
    have:e.on=k:=by simpa using hk
    rw[←this];exact he e (by simp) hb
  ·exact hT k hk
def Down(ops:List Oper)(listed:Array Bool):Prop:=∀(i:Nat) (o:Oper),ops[i]? =some o→Listed listed i→∀e∈o.after.toList,Region.binds .any e=true→Listed listed e.on
theorem sD{ops:List Oper}{listed:Array Bool}(hd:Down ops listed):∀(i S:Nat),(∀j,S.testBit j=true→Listed listed j)→∀j,(vY ops i S).testBit j=true→Listed listed j
 |0,S,hS,j,hj=>hS j hj
 |i+1,S,hS,j,hj=>by
  rw[vY]at hj;refine sD hd i _ ?_ j hj;split
  ·rename_i hb
   cases ho:ops[i]? with
   |none=>simpa using hS
   |some o=>exact ug _ S hS (fun e he hbe=>hd i o ho (hS i hb) e (by simpa[ho]using he) hbe)
  ·exact hS
theorem Ku{ls:List Oper}{o:Oper}{listed:Array Bool}(hc:Gm ls o=true)(hd:Down (ls++[o]) listed)(ho:∀e∈o.after.toList,Region.binds .any e=true→Listed listed e.on):∀i,i<ls.length→Listed listed i:=by
 intro i hi;simp only[Gm,List.all_eq_true,List.mem_range]at hc;exact sD hd _ _ (fun j hj=>ug _ 0 (by simp) ho j hj) i (hc i hi)
theorem mem_ready{md:Region.Mode}{ops:Array Oper}{listed:Array Bool}{i:Nat}:i∈Region.ready md ops listed↔i<ops.size∧listed[i]? =some false∧∃o,ops[i]? =some o∧∀e∈o.after.toList,Region.binds md e=true→Listed listed e.on:=by
 unfold Region.ready;simp only[List.mem_filter,List.mem_range,Bool.and_eq_true,Bool.not_eq_true',OA];constructor
 ·rintro⟨h1,h2,h3⟩
  refine⟨h1,h2,ops[i],by simp[h1],fun e he hb=>?_⟩;simp only[h1,getElem?_pos,Option.map_some,Option.getD_some]at h3;rw[Array.all_eq_true_iff_forall_mem]at h3;have:=h3 e (by simpa using he);rw[hb]at this;simp only[Bool.not_true,Bool.false_or]at this;exact(CU _ _).1 this
 ·rintro⟨h1,h2,o,ho,h3⟩
  refine⟨h1,h2,?_⟩;rw[ho,Option.map_some,Option.getD_some,Array.all_eq_true_iff_forall_mem];intro e he;cases hb:Region.binds md e
  ·rfl
  ·rw[(CU _ _).2 (h3 e (by simpa using he) hb)];rfl
theorem QI{ls:List Oper}(h:Kt ls=true){i:Nat}{o:Oper}(ho:ls[i]? =some o):∀c,o.op≠ .defer c:=by
 intro c e;have:=(List.all_eq_true.1 h) o (List.mem_of_getElem? ho);rw[e]at this;cases this
theorem Ir{ls:List Oper}{o:Oper}{tmps:Array Value}{j:Nat}(hj:j<ls.length):yielded (ls++[o]).toArray tmps j=yielded ls.toArray tmps j:=by
 unfold yielded;simp[List.getElem?_append_left hj]
theorem Kv{ls:List Oper}{o x:Oper}{tmps:Array Value}(hg:jY ls=true){i:Nat}(hx:ls[i]? =some x):Region.wanted x (yielded (ls++[o]).toArray tmps)=Region.wanted x (yielded ls.toArray tmps):=by
 have:=(List.all_eq_true.1 hg) x (List.mem_of_getElem? hx);unfold Region.wanted;cases hgd:x.guard with
 |none=>rfl
 |some g=>
  obtain⟨j,want⟩:=g;rw[hgd]at this;simp only[decide_eq_true_eq]at this;simp only[Ir this]
theorem uQ{b:Array Bool}{i:Nat}(hi:i<b.size):(b.push false)[i]? =some false↔b[i]? =some false:=by
 rw[Array.getElem?_push_lt hi,Array.getElem?_eq_getElem hi]
theorem ji{b:Array Bool}{i:Nat}:Listed (b.push false) i↔Listed b i:=by
 unfold Listed;rw[Array.getElem?_push];split
 ·rename_i h;subst h;simp
 ·rfl
theorem OB{b:Array Bool}{i:Nat}(h:Listed b i):i<b.size:=(Array.getElem?_eq_some_iff.1 h).1
theorem fP{b:Array Bool}{i j:Nat}:Listed (b.setIfInBounds i true) j↔(Listed b j∨(i=j∧j<b.size)):=by
 unfold Listed;rw[Array.getElem?_setIfInBounds];by_cases h:i=j
 ·subst h
  by_cases h2:i<b.size
  ·simp[h2]
  ·simp[h2]
 ·simp[h]
theorem CV{ops:List Oper}{listed:Array Bool}{i:Nat}{o:Oper}(hd:Down ops listed)(ho:ops[i]? =some o) (hr:∀e∈o.after.toList,Region.binds .any e=true→Listed listed e.on):Down ops (listed.setIfInBounds i true):=by
 intro j x hx hj e he hb;by_cases hij:j=i
 ·subst hij
  rw[ho]at hx;cases hx;exact fP.2 (.inl (hr e he hb))
 ·refine fP.2 (.inl (hd j x hx ?_ e he hb))
  rcases fP.1 hj with h1|h1
  ·exact h1
  ·exact absurd h1.1.symm hij
theorem QJ{b:Array Bool}{i:Nat}(hi:i<b.size):(b.push false).setIfInBounds i true=(b.setIfInBounds i true).push false:=by
 apply Array.ext_getElem?;intro k;rw[Array.getElem?_setIfInBounds,Array.getElem?_push,Array.getElem?_push,Array.getElem?_setIfInBounds];by_cases h1:i=k
 ·subst h1
  simp[hi,show i<b.size+1 by omega,show ¬i=b.size by omega]
 ·simp[h1]
def pM(ls:List Oper):Bool:=(List.range ls.length).all fun i=>((ls[i]?).map fun x=>x.after.toList.all fun e=> !Region.binds .any e||decide (e.on<i)).getD true
end
end Go.Proofs.YtficbckncieabaaGreatDoor
