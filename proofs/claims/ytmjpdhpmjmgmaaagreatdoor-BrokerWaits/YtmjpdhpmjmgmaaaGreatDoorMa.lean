/- Lemmas of the claim, part a of 14. -/
import Derived.WalkKit
import Derived.WalkSpells
import Derived.WalkLawsBesides
import Derived.Maps.OwnSet
import Derived.Maps.RangeWalk
import Derived.Laws.AppendOwnNone
import Derived.Test.YtmjpdhpmjmgmaaaGreatDoorProg
import Derived.Sort.KeysCollected
import Derived.Sort.MapsRangeIn
import Derived.Deep.RegionWith
import Derived.Deep.DeepMust
import Derived.Shelf.SlIter.Nil
import Derived.Shelf.SortM.Plain
import Derived.Shelf.SortM.SortNone
import Derived.Ground.GgzProg
import Derived.Ground.SlgmProg
import Derived.RangeFuncNested
import Derived.RangeFuncBound
import Derived.RangeFuncCalls
import Derived.RangeFuncLeaves
import Derived.Shelf.Abstract
import Derived.Shelf.RegionOpen
import Derived.OwnWalkIn
import Derived.TacticsInMore
import Derived.LoopNIn
import Derived.LoopIn
import Derived.Orders
import Derived.Deep.QuietTactic
import Derived.BigQuiet
import Derived.OrdersIn
namespace Go.Proofs.YtmjpdhpmjmgmaaaGreatDoor
section
open Go.RowKit
theorem ku{a b:Bool}(h:a=b):Ending.returned (.bool a)= .returned (.bool b):=by rw[h]
theorem oD{k:IntKind}{a b:Int}(h:a=b):Ending.returned (.int k a)= .returned (.int k b):=by rw[h]
structure Turn(S:List Nat)(w w':World):Prop where
 os:w'.os=w.os
 tape:w'.tape=w.tape
 output:w'.output=w.output
 size:w.heap.size≤w'.heap.size
 block:∀k,k<w.heap.size→k∉S→w'.heap[k]? =w.heap[k]?
theorem Turn.refl(S:List Nat)(w:World):Turn S w w:=⟨rfl,rfl,rfl,Nat.le_refl _,fun _ _ _=>rfl⟩
theorem Turn.trans{S T:List Nat}{a b c:World}(h:Turn S a b)(k:Turn T b c)(hT:∀x∈T,x∈S∨a.heap.size≤x):Turn S a c:=
 ⟨k.os.trans h.os,k.tape.trans h.tape,k.output.trans h.output,Nat.le_trans h.size k.size,fun i hi hn=>
   (k.block i (Nat.lt_of_lt_of_le hi h.size) (fun hm=>(hT i hm).elim hn (by omega))).trans (h.block i hi hn)⟩
theorem Turn.same{S:List Nat}{a b c:World}(h:Turn S a b)(k:Turn S b c):Turn S a c:=h.trans k (fun _ hx=> .inl hx)
theorem Turn.mono{S T:List Nat}{a b:World}(h:Turn S a b)(hs:∀x∈S,x∈T∨a.heap.size≤x):Turn T a b:=
 (Turn.refl T a).trans h hs
theorem Turn.alloc{S:List Nat}{a w:World}(h:Turn S a w)(o:Obj):Turn S a (w.alloc o):=
 h.trans (T:=[]) ⟨rfl,rfl,rfl,by simp,fun k hk _=>Below.heap_alloc _ _ _ hk⟩ (by simp)
theorem Turn.setCell{S:List Nat}{a w:World}(h:Turn S a w){p:Addr}(hp:p.block∈S∨a.heap.size≤p.block)(u:Value):Turn S a (w.setCell p u):=
 h.trans (T:=[p.block]) ⟨rfl,rfl,rfl,by simp[World.setCell],fun k _ hk=>Below.heap_setCell _ _ _ _ (by simpa using hk)⟩ (by simpa using hp)
theorem Turn.drew{S:List Nat}{a w:World}(h:Turn S a w):Turn S a w.drew:=⟨h.os,h.tape,h.output,h.size,h.block⟩
theorem Turn.drewN{S:List Nat}{a w:World}(h:Turn S a w)(n:Nat):Turn S a (w.drewN n):=⟨h.os,h.tape,h.output,h.size,h.block⟩
theorem Turn.grown{S:List Nat}{a w w':World}{row:Option Nat}(h:Turn S a w)(hg:w.grownBy w' row)(hr:∀k,row=some k→k∈S∨a.heap.size≤k):Turn S a w':=
 h.trans (T:=row.toList) ⟨hg.os,hg.tape,hg.output,hg.size,fun k hk hn=>hg.block k hk (fun e=>hn (by simp[←e]))⟩ (by intro x hx;cases row<;>simp at hx;exact hr _ (by simp[hx]))
theorem Turn.of_below{w w':World}(h:Below w.heap.size w w')(S:List Nat):Turn S w w':=⟨h.os,h.tape,h.output,h.size,fun k hk _=>h.block k hk⟩
theorem Turn.below{S:List Nat}{w w':World}(h:Turn S w w'){B:Nat}(hB:∀x∈S,B≤x)(hw:B≤w.heap.size):Below B w w':=
 ⟨h.os,h.tape,h.output,h.size,fun k hk=>h.block k (by omega) (fun hm=>by have:=hB k hm;omega)⟩
theorem Turn.nil{w w':World}(h:Turn [] w w'):Below w.heap.size w w':=h.below (by simp) (Nat.le_refl _)
theorem Turn.heap{S:List Nat}{w w':World}(h:Turn S w w'){k:Nat}{o:Obj}(hk:w.heap[k]? =some o) (hn:k∉S):w'.heap[k]? =some o:=
 (h.block k (Array.getElem?_eq_some_iff.1 hk).1 hn).trans hk
theorem Turn.grownBy{S:List Nat}{w w':World}(h:Turn S w w'){k:Nat}(hk:∀x∈S,x=k):w.grownBy w' (some k):=
 ⟨h.os,h.tape,h.output,h.size,fun i hi hn=>h.block i hi (fun hm=>hn (by rw[hk i hm]))⟩
theorem lt_of_heap{w:World}{k:Nat}{o:Obj}(h:w.heap[k]? =some o):k<w.heap.size:=(Array.getElem?_eq_some_iff.1 h).1
theorem cell_of{w:World}{b:Nat}{cs:Array Value}{t:TypeId}{fr:Nat×Nat}(h:w.heap[b]? =some (.cells cs t fr)) (i:Nat):w.cell? ⟨b,i,none⟩=cs[i]? :=by
 simp[World.cell?,h]
theorem af{w:World}{b:Nat}{cs:Array Value}{t:TypeId}(h:w.heap[b]? =some (.cells cs t (0,0))) (i:Nat):w.frozen? ⟨b,i,none⟩=false:=by
 simp[World.frozen?,h]
theorem heap_set{w:World}{b:Nat}{cs:Array Value}{t:TypeId}{fr:Nat×Nat}(h:w.heap[b]? =some (.cells cs t fr)) (i:Nat) (u:Value):(w.setCell ⟨b,i,none⟩ u).heap[b]? =some (.cells (cs.setIfInBounds i u) t fr):=by
 simp[World.setCell,Array.getElem?_modify,h]
theorem ae(w:World)(o:Obj):(w.alloc o).heap[w.heap.size]? =some o:=heap_alloc_new w o
def aj(b:UInt8):Value:= .int .u8 b.toNat
def bC(w:World)(e base:Nat)(sl:Value)(bs:List UInt8):Prop:=
 (sl= .slice none 0 0∧bs=[])∨
 ∃g cap cur,sl= .slice (some ⟨g,0,none⟩) bs.length cap∧base≤g∧w.heap[g]? =some (.cells cur e (0,0))∧bs.length≤cap∧cap≤cur.size∧cap≤maxLen∧cur.toList.take bs.length=bs.map aj
theorem bC.kept{w w':World}{e base:Nat}{sl:Value}{bs:List UInt8}{S:List Nat}(h:bC w e base sl bs)(ht:Turn S w w')(hn:∀k∈sl.ownBlock,k∉S):bC w' e base sl bs:=by
 rcases h with h|⟨g,cap,cur,rfl,hb,hg,r⟩
 ·exact .inl h
 ·exact .inr ⟨g,cap,cur,rfl,hb,ht.heap hg (hn g (by simp[Value.ownBlock])),r⟩
theorem bC.lt{w:World}{e base:Nat}{sl:Value}{bs:List UInt8}(h:bC w e base sl bs):∀k∈sl.ownBlock,base≤k∧k<w.heap.size:=by
 intro k hk;rcases h with⟨rfl,_⟩|⟨g,cap,cur,rfl,hb,hg,r⟩
 ·simp[Value.ownBlock]at hk
 ·simp[Value.ownBlock]at hk;subst hk;exact⟨hb,lt_of_heap hg⟩
theorem bC.form{w:World}{e base:Nat}{sl:Value}{bs:List UInt8}(h:bC w e base sl bs):∃a c,sl= .slice a bs.length c∧bs.length≤c∧c≤maxLen:=by
 rcases h with⟨rfl,rfl⟩|⟨g,cap,cur,rfl,hb,hg,h1,h2,h3,r⟩
 ·exact⟨_,_,rfl,by simp,by simp[maxLen]⟩
 ·exact⟨_,_,rfl,h1,h3⟩
def SliceAt(w:World)(v:Value)(xs:List Value):Prop:=
 (v= .slice none 0 0∧xs=[])∨∃a cap,v= .slice (some a) xs.length cap∧∀j u,xs[j]? =some u→w.cell? (a.add j)=some u
theorem addr_add(g j:Nat):(⟨g,0,none⟩:Addr).add j=⟨g,j,none⟩:=by unfold Addr.add;split<;>simp_all
theorem bC.cells{w:World}{e base:Nat}{sl:Value}{bs:List UInt8}(h:bC w e base sl bs):SliceAt w sl (bs.map aj):=by
 rcases h with⟨rfl,rfl⟩|⟨g,cap,cur,rfl,hb,hg,h1,h2,h3,h4⟩
 ·exact .inl ⟨rfl,rfl⟩
 ·refine .inr ⟨⟨g,0,none⟩,cap,by simp,fun j u hu=>?_⟩
  rw[addr_add,cell_of hg,←h4,List.getElem?_take]at*;split at hu
  ·simpa using hu
  ·cases hu
theorem SliceAt.kept{w w':World}{v:Value}{xs:List Value}{S:List Nat}(h:SliceAt w v xs)(ht:Turn S w w')(hn:∀k∈v.ownBlock,k∉S):SliceAt w' v xs:=by
 rcases h with h|⟨a,cap,rfl,hc⟩
 ·exact .inl h
 ·refine .inr ⟨a,cap,rfl,fun j u hu=>?_⟩
  have hb:(a.add j).block=a.block:=by unfold Addr.add;split<;>rfl
  have hlt:=World.block_lt_of_cell? w _ (hc j u hu);rw[World.cell?_of_block (w:=w) (ht.block _ hlt (by rw[hb];exact hn _ (by simp[Value.ownBlock]))),hc j u hu]
theorem O4(bs:List UInt8):∀u∈bs.map aj,u.oneCell'=true:=by
 intro u hu;obtain⟨b,_,rfl⟩:=List.mem_map.1 hu;rfl
variable {P:Program} (w:World)
theorem Ba(t ty e base:Nat)(i:TypeInfo)(ht:P.underlying t=some (.slice e))(hi:P.info? e=some i)(hz:i.zero=some (.int .u8 0))(hsize:i.size=1)(hby:i.bytes=1)
 (v x:Value)(bs cs:List UInt8)(hrow:bC w e base v bs)(hx:SliceAt w x (cs.map aj))(hlen:bs.length+cs.length≤1099511627776)(hbase:base≤w.heap.size):
 ∃v' w',(Builtin.append_ #[t,t] ty #[v,x]).run P w= .ok v' w'∧bC w' e base v' (bs++cs)∧Turn v.ownBlock.toList w w'∧(∀k∈v'.ownBlock,k∈v.ownBlock∨w.heap.size≤k):=by
 have hmax:maxLen=9223372036854775807:=by simp[maxLen]
 have new:∀old:Nat,old<bs.length+cs.length→bC (w.drew.alloc (.cells ((bs.map aj).toArray++(cs.map aj).toArray++Builtin.zeroCells (Value.cells (.int .u8 0)) (grownCap w (bs.length+cs.length) old e-(bs.length+cs.length))) e)) e base
  (.slice (some ⟨w.heap.size,0,none⟩) (bs.length+cs.length) (grownCap w (bs.length+cs.length) old e)) (bs++cs)∧
  Turn v.ownBlock.toList w (w.drew.alloc (.cells ((bs.map aj).toArray++(cs.map aj).toArray++Builtin.zeroCells (Value.cells (.int .u8 0)) (grownCap w (bs.length+cs.length) old e-(bs.length+cs.length))) e)):=by
  intro old ho;have hge:=grownCap_ge w (bs.length+cs.length) old e;have hcm:=grownCap_le_maxLen w (bs.length+cs.length) old e (by rw[hmax];omega);refine⟨.inr ⟨w.heap.size,_,_,by simp,hbase,ae w.drew _,by simpa using hge,?_,hcm,?_⟩,((Turn.refl _ _).drew).alloc _⟩
  ·simp only[Array.size_append,List.size_toArray,List.length_map,size_zeroCells,Value.cells]
   simp;omega
  ·simp only[Array.toList_append]
   rw[List.take_append_of_le_length (by simp)];rw[List.take_of_length_le (by simp)];simp
 rcases hx with⟨rfl,hcs⟩|⟨a,c,rfl,hnews⟩
 ·have hcs':cs=[]:=by simpa using hcs
  subst hcs';rcases hrow with⟨rfl,rfl⟩|⟨g,cap,cur,rfl,hb,hg,h1,h2,h3,h4⟩
  ·exact⟨.slice none 0 0,w,by simp[Builtin.append_,run_underlying ht,sizeOf,typeInfo,hi,Builtin.lenOf,Builtin.firstCells], .inl ⟨rfl,rfl⟩,Turn.refl _ _,by simp[Value.ownBlock]⟩
  ·refine⟨.slice (some ⟨g,0,none⟩) bs.length cap,w,?_,by simpa using .inr ⟨g,cap,cur,rfl,hb,hg,h1,h2,h3,h4⟩,Turn.refl _ _,by simp[Value.ownBlock]⟩
   simp[Builtin.append_,run_underlying ht,sizeOf,typeInfo,hi,Builtin.lenOf,Builtin.firstCells,h1,storeCells]
 ·simp only[List.length_map]at hnews⊢
  have hl:(cs.map aj).length=cs.length*i.size:=by simp[hsize]
  rcases hrow with⟨rfl,rfl⟩|⟨g,cap,cur,rfl,hb,hg,h1,h2,h3,h4⟩
  ·by_cases h0:cs.length=0
   ·have:cs=[]:=List.eq_nil_of_length_eq_zero h0
    subst this;exact⟨.slice none 0 0,w,by simp[Builtin.append_,run_underlying ht,sizeOf,typeInfo,hi,Builtin.lenOf,Builtin.firstCells,loadCells,loadCellsFrom], .inl ⟨rfl,rfl⟩,Turn.refl _ _,by simp[Value.ownBlock]⟩
   ·have hr:=run_append_nil (P:=P) w t ty e i _ ht hi hz a cs.length c (cs.map aj) hl hnews (by omega) (by simp at hlen;omega) (by rw[hby];simp at hlen;omega)
    have hn:=new 0 (by simp;omega);simp only[List.length_nil,Nat.zero_add,List.map_nil,List.nil_append]at hn;refine⟨_,_,hr,?_,?_,by simp[Value.ownBlock]⟩
    ·simpa using hn.1
    ·simpa using hn.2
  ·by_cases hroom:bs.length+cs.length≤cap
   ·have hr:=run_append_room (P:=P) w t ty e i ht hi g bs.length cap cur hg a cs.length c (cs.map aj) hl hnews (O4 cs) hroom (by rw[hsize];simp;omega)
    refine⟨_,_,hr, .inr ⟨g,cap,_,by simp,hb,setRow_heap w g cur _ e _ hg,by simpa using hroom,?_,h3,?_⟩,⟨rfl,rfl,rfl,by simp,fun k _ hk=>setRow_other w g k _ (fun e=>hk (by simp[Value.ownBlock,e]))⟩,by simp[Value.ownBlock]⟩
    ·simp[hsize];omega
    ·simp only[hsize,Nat.mul_one,h4,List.append_assoc]
     rw[←List.append_assoc,List.take_append_of_le_length (by simp),List.take_of_length_le (by simp)];simp
   ·have holds:∀j u,(bs.map aj)[j]? =some u→w.cell? ((⟨g,0,none⟩:Addr).add j)=some u:=by
     intro j u hu;rw[addr_add,cell_of hg];rw[←h4,List.getElem?_take]at hu;split at hu
     ·simpa using hu
     ·cases hu
    have hr:=run_append_grow (P:=P) w t ty e i _ ht hi hz ⟨g,0,none⟩ bs.length cap (bs.map aj) (by simp[hsize]) holds a cs.length c (cs.map aj) hl hnews (by omega) (by omega) (growslice_fits (by omega) (by rw[hby];omega));have hn:=new cap (by omega);exact⟨_,_,hr,hn.1,hn.2,by simp[Value.ownBlock]⟩
theorem iq{ops:Array Oper}{rest:List Oper}{o:Oper}{a:Act}{Q:Exit→Act→World→Prop}(hgd:o.guard=none)(s x:Operand)(t:TypeId)
 (ho:o.op= .call {callee:= .builtin .append,args:= #[s,x],argTypes:= #[t,t]})
 (e base:Nat)(i:TypeInfo)(ht:P.underlying t=some (.slice e))(hi:P.info? e=some i)(hz:i.zero=some (.int .u8 0))(hsize:i.size=1)(hby:i.bytes=1)
 (v xv:Value)(bs cs:List UInt8)(hs:a.eval s=v)(hxe:a.eval x=xv)(hrow:bC w e base v bs)(hx:SliceAt w xv (cs.map aj))(hlen:bs.length+cs.length≤1099511627776)(hbase:base≤w.heap.size)
 (h:∀v' w',bC w' e base v' (bs++cs)→Turn v.ownBlock.toList w w'→(∀k∈v'.ownBlock,k∈v.ownBlock∨w.heap.size≤k)→wpList P ops Q rest (a.put o.dst v') w'):wpList P ops Q (o::rest) a w:=by
 refine wpList_plain hgd fun _ hK=>?_
 obtain⟨v',w',hr,h2,h3,h4⟩:=Ba (P:=P) w t o.type e base i ht hi hz hsize hby v xv bs cs hrow hx hlen hbase;unfold Oper.wp execOp;simp only[ho,resolve,invoke,builtin,Sem.run_bind,Sem.run_pure,Result.andThen_ok,List.map_toArray,List.map_cons,List.map_nil,hs,hxe,hr];exact hK _ _ (h v' w' h2 h3 h4)
end
section
open Go.RowKit Go.Maps
set_option maxRecDepth 100000
namespace Dk
structure FA where
 name:List UInt8
 bytes:List UInt8
 safe:Nat
structure DA where
 room:Nat
 files:List FA
 limited:Bool
 left:Int
structure au where
 abs:FA
 blk:Nat
 sl:Value
def au.foot(m:au):List Nat:=m.blk::m.sl.ownBlock.toList
def rP:Option au→Value
 |some m=> .pointer (some ⟨m.blk,0,none⟩)
 |none=> .pointer none
def pz(v:Value):Option (DataW Unit×List MemPlace):=
 match v with
 | .pointer (some ⟨b,0,none⟩)=>some (.lit (.int .i64 b),[])
 | .pointer none=>some (.nil,[])
 |_=>none
theorem O5{v:Value}{b:Nat}{ps:List MemPlace}(h:pz v=some (.lit (.int .i64 (b:Int)),ps)):v= .pointer (some ⟨b,0,none⟩):=by
 unfold pz at h;split at h
 ·simp at h;obtain⟨e,_⟩:=h;rw[Int.ofNat_inj.1 e]
 ·simp at h
 ·cases h
theorem O6{v:Value}{ps:List MemPlace}(h:pz v=some (.nil,ps)):v= .pointer none:=by
 unfold pz at h;split at h
 ·simp at h
 ·rfl
 ·cases h
def bM(ms:List au)(nm:List UInt8):Option au:=ms.find? (fun m=>m.abs.name==nm)
def SX(o:Option au)(z:DataW Unit):DataW Unit:=match o with
 |some m=> .lit (.int .i64 m.blk)
 |none=>z
theorem law:Keyed Tryz.prog 9:=string_keyed Tryz.underlying9
theorem UX(w:World):(zeroValue 133).run Tryz.prog w= .ok (.pointer none) w:=by kernel_rfl
def Reads(D:DataW Unit)(ms:List au):Prop:=size D=ms.length∧∀nm z,D.atKey (.string nm) z=SX (bM ms nm) z
def MapAt(w:World)(ah:Option Nat)(ms:List au):Prop:=
 match ah with
 |none=>ms=[]
 |some mb=>∃D:DataW Unit,w.ownsMap Tryz.prog 9 pz mb ms.length D∧Reads D ms
theorem iO{w w':World}{P:Program}{k:TypeId}{R:Value→Option (DataW Unit×List MemPlace)}{b n:Nat}{D:DataW Unit}{S:List Nat}(h:w.ownsMap P k R b n D)(ht:Turn S w w')(hn:b∉S):w'.ownsMap P k R b n D:=by
 obtain⟨es,clock,hb,r⟩:=h;exact⟨es,clock,ht.heap hb hn,r⟩
theorem fH{w:World}{P:Program}{k:TypeId}{R:Value→Option (DataW Unit×List MemPlace)}{b n:Nat}{D:DataW Unit}(h:w.ownsMap P k R b n D):w.ownsMap P k R b (size D) D:=by
 obtain⟨es,clock,hb,F,hs,rfl⟩:=h;exact⟨es,clock,hb,F,by simp[size,length_sorted],rfl⟩
theorem MapAt.kept{w w':World}{ah:Option Nat}{ms:List au}{S:List Nat}(h:MapAt w ah ms)(ht:Turn S w w')(hn:∀k∈ah,k∉S):MapAt w' ah ms:=by
 cases ah with
 |none=>exact h
 |some mb=>obtain⟨D,h1,h2⟩:=h;exact⟨D,iO h1 ht (hn mb rfl),h2⟩
theorem MapAt.lt{w:World}{ah:Option Nat}{ms:List au}(h:MapAt w ah ms):∀k∈ah,k<w.heap.size:=by
 intro k hk;cases ah with
 |none=>simp at hk
 |some mb=>obtain⟨D,h1,_⟩:=h;simp at hk;subst hk;exact h1.lt
theorem keyS{s:ByteArray}(hs:s.size≤maxLen):keyOf Tryz.prog 9 (.string s)=some (.string s.data.toList):=Go.WideMaps.keyOf_string_mk Tryz.underlying9 hs
theorem MapAt.look{w:World}{ah:Option Nat}{ms:List au}(h:MapAt w ah ms){s:ByteArray}(hs:s.size≤maxLen):
 (Instr.lookup 91 (.map ah) (.string s) false).run Tryz.prog w= .ok (rP (bM ms s.data.toList)) w:=by
 cases ah with
 |none=>
  have h':ms=[]:=h;subst h';exact Maps.look_nil false law Tryz.underlying91 (UX w) (keyS hs)
 |some mb=>
  obtain⟨D,h1,h2,h3⟩:=h;obtain⟨v,ps,hrun,hv⟩:=h1.lookup law Tryz.underlying91 (UX w) (zd:= .nil) (zp:=[]) rfl (keyS hs);rw[hrun];rw[h3]at hv;congr 1
  cases hf:bM ms s.data.toList with
  |none=>rw[hf]at hv;exact O6 hv
  |some m=>rw[hf]at hv;exact O5 hv
theorem MapAt.len{w:World}{ah:Option Nat}{ms:List au}(h:MapAt w ah ms)(ty:TypeId):
 (Builtin.len_ #[91] ty #[.map ah]).run Tryz.prog w= .ok (.int .i64 ms.length) w:=by
 cases ah with
 |none=>
  have h':ms=[]:=h;subst h';exact Maps.len_nil Tryz.underlying91 ty
 |some mb=>
  obtain⟨D,h1,h2,h3⟩:=h;rw[h1.len Tryz.underlying91 ty,h2]
theorem isKey(nm:List UInt8):WideAt.IsKeyLit (.string nm):=trivial
theorem oG{a b:List UInt8}(h:a≠b):(Lit.string a)≠Lit.string b:=by simpa using h
theorem fF{D:DataW Unit}{ms:List au}(h:Reads D ms)(nm:List UInt8):has D (.string nm)=(bM ms nm).isSome:=by
 cases hf:bM ms nm with
 |none=>exact has_false_of_atKey (fun z=>by rw[h.2,hf];rfl)
 |some m=>exact has_true_of_atKey (y:= .lit (.int .i64 m.blk)) (fun z=>by rw[h.2,hf];rfl)
def kz(ms:List au)(nm:List UInt8):List au:=ms.filter (fun m=> !(m.abs.name==nm))
theorem o8(ms:List au)(nm:List UInt8):bM (kz ms nm) nm=none:=by
 unfold bM kz;rw[List.find?_eq_none];intro m hm;have:=(List.mem_filter.1 hm).2;simpa using this
theorem nJ(ms:List au){nm k:List UInt8}(h:k≠nm):bM (kz ms nm) k=bM ms k:=by
 unfold bM kz;apply find_filter_keep;intro m hm;have:m.abs.name=k:=by simpa using hm
 rw[this];simpa using h
theorem drop_length(ms:List au)(nm:List UInt8)(hn:(ms.map (·.abs.name)).Nodup):(kz ms nm).length+(if (bM ms nm).isSome then 1 else 0)=ms.length:=by
 induction ms with
 |nil=>rfl
 |cons m r ih=>
  simp only[List.map_cons,List.nodup_cons]at hn;have ih:=ih hn.2;unfold kz bM at*;by_cases hm:m.abs.name=nm
  ·have hr:r.find? (fun m=>m.abs.name==nm)=none:=by
    rw[List.find?_eq_none];intro x hx;have:x.abs.name≠m.abs.name:=fun e=>hn.1 (by rw[←e];exact List.mem_map.2 ⟨x,hx,rfl⟩)
    simpa[←hm]using this
   rw[hr]at ih;simp[hm]at ih⊢;exact ih
  ·have hm':(m.abs.name==nm)=false:=by simpa using hm
   simp only[List.filter_cons,hm',List.find?_cons,Bool.not_false,if_true,List.length_cons];omega
theorem EN(ms:List au)(m:au)(k:List UInt8):bM (ms++[m]) k=(bM ms k).or (if m.abs.name==k then some m else none):=by
 unfold bM;rw[List.find?_append];congr 1
 simp[List.find?_cons];split<;>simp_all
theorem Reads.put{D:DataW Unit}{ms:List au}(h:Reads D ms)(hn:(ms.map (·.abs.name)).Nodup)(hT:Tidy D)(m:au):Reads (D.put (.string m.abs.name) (.lit (.int .i64 m.blk))) (kz ms m.abs.name++[m]):=by
 refine⟨?_,fun nm z=>?_⟩
 ·rw[size_put hT,fF h,h.1]
  have:=drop_length ms m.abs.name hn;rw[List.length_append,List.length_singleton];split at this<;>rename_i hc<;>simp[hc]<;>omega
 ·rw[EN]
  by_cases e:nm=m.abs.name
  ·subst e
   rw[atKey_put_same hT.isMap (isKey _),o8];simp[SX]
  ·rw[atKey_put_other (oG e),h.2,nJ _ e]
   have:(m.abs.name==nm)=false:=by simpa using fun e'=>e e'.symm
   simp[this]
theorem Reads.del{D:DataW Unit}{ms:List au}(h:Reads D ms)(hn:(ms.map (·.abs.name)).Nodup)(hT:Tidy D)(nm:List UInt8):Reads (D.del (.string nm)) (kz ms nm):=by
 refine⟨?_,fun k z=>?_⟩
 ·have h1:=size_del (k:= .string nm) hT
  rw[fF h,h.1]at h1;have:=drop_length ms nm hn;omega
 ·by_cases e:k=nm
  ·subst e;rw[atKey_del_same,o8];rfl
  ·rw[atKey_del_other (oG e),h.2,nJ _ e]
theorem Reads.congr{D:DataW Unit}{ms ms':List au}(h:Reads D ms)(e:ms.map (fun m=>(m.abs.name,m.blk))=ms'.map (fun m=>(m.abs.name,m.blk))):Reads D ms':=by
 have hl:ms.length=ms'.length:=by simpa using congrArg List.length e
 refine⟨h.1.trans hl,fun nm z=>?_⟩;rw[h.2];clear h hl;induction ms generalizing ms' with
 |nil=>cases ms' with
  |nil=>rfl
  |cons=>simp at e
 |cons m r ih=>cases ms' with
  |nil=>simp at e
  |cons m' r'=>
   simp only[List.map_cons,List.cons.injEq,Prod.mk.injEq]at e;unfold bM at*;simp only[List.find?_cons];rw[e.1.1];cases m'.abs.name==nm
   ·exact ih e.2
   ·simp[SX,e.1.2]
theorem MapAt.congr{w:World}{ah:Option Nat}{ms ms':List au}(h:MapAt w ah ms)(e:ms.map (fun m=>(m.abs.name,m.blk))=ms'.map (fun m=>(m.abs.name,m.blk))):MapAt w ah ms':=by
 have hl:ms.length=ms'.length:=by simpa using congrArg List.length e
 cases ah with
 |none=>
  have h':ms=[]:=h;subst h';exact List.eq_nil_of_length_eq_zero hl.symm
 |some mb=>obtain⟨D,h1,h2⟩:=h;exact⟨D,hl▸h1,h2.congr e⟩
end Dk
end
section
open Go.RowKit Go.Maps
namespace Dk
def bH(l:List FA):Nat:=(l.map (·.bytes.length)).sum
structure Good(A:DA):Prop where
 room:A.room≤1048576
 used:bH A.files≤A.room
 count:A.files.length≤200
 names:(A.files.map (·.name)).Nodup
 short:∀f∈A.files,f.name.length≤40
 safe:∀f∈A.files,f.safe≤f.bytes.length
 left:A.limited=true→0≤A.left∧A.left≤9223372036854775807
def iF(w:World)(base:Nat)(m:au):Prop:=
 w.heap[m.blk]? =some (.cells #[m.sl, .int .i64 m.abs.safe] 136 (0,0))∧bC w 5 base m.sl m.abs.bytes
structure Parts(w:World)(base d:Nat)(F:List Nat)(A:DA)(ah:Option Nat)(ms:List au):Prop where
 foot:F=d::(ah.toList++ms.flatMap au.foot)
 nodup:F.Nodup
 low:∀k∈F,base≤k
 self:w.heap[d]? =some (.cells #[.int .i64 A.room, .map ah, .bool A.limited, .int .i64 A.left] 93 (0,0))
 map:MapAt w ah ms
 each:∀m∈ms,iF w base m
 files:A.files=ms.map (·.abs)
 good:Good A
def ay(w:World)(base d:Nat)(F:List Nat)(A:DA):Prop:=∃ah ms,Parts w base d F A ah ms
theorem iF.kept{w w':World}{base:Nat}{m:au}{S:List Nat}(h:iF w base m)(ht:Turn S w w')(hn:∀k∈m.foot,k∉S):iF w' base m:=
 ⟨ht.heap h.1 (hn _ (by simp[au.foot])),h.2.kept ht (fun k hk=>hn k (by simp[au.foot];right;simpa using hk))⟩
theorem iF.lt{w:World}{base:Nat}{m:au}(h:iF w base m):∀k∈m.foot,k<w.heap.size:=by
 intro k hk;simp only[au.foot,List.mem_cons,Option.mem_toList]at hk;rcases hk with rfl|hk
 ·exact lt_of_heap h.1
 ·exact(h.2.lt k hk).2
section
variable {w w':World} {base d:Nat} {F:List Nat} {A A':DA} {ah:Option Nat} {ms:List au}
theorem Parts.jH(h:Parts w base d F A ah ms):d∈F:=by rw[h.foot];simp
theorem Parts.mem_map(h:Parts w base d F A ah ms){k:Nat}(hk:k∈ah):k∈F:=by
 rw[h.foot];simp only[List.mem_cons,List.mem_append,Option.mem_toList];exact .inr (.inl hk)
theorem Parts.Bc(h:Parts w base d F A ah ms){m:au}(hm:m∈ms){k:Nat}(hk:k∈m.foot):k∈F:=by
 rw[h.foot];simp only[List.mem_cons,List.mem_append,List.mem_flatMap];exact .inr (.inr ⟨m,hm,hk⟩)
theorem Parts.lt(h:Parts w base d F A ah ms):∀k∈F,k<w.heap.size:=by
 intro k hk;rw[h.foot]at hk;simp only[List.mem_cons,List.mem_append,List.mem_flatMap,Option.mem_toList]at hk;rcases hk with rfl|hk|⟨m,hm,hk⟩
 ·exact lt_of_heap h.self
 ·exact h.map.lt k hk
 ·exact(h.each m hm).lt k hk
theorem Parts.kept{S:List Nat}(h:Parts w base d F A ah ms)(ht:Turn S w w')(hn:∀k∈F,k∉S):Parts w' base d F A ah ms:=
 {h with
  self:=ht.heap h.self (hn _ h.jH)
  map:=h.map.kept ht (fun _ hk=>hn _ (h.mem_map hk))
  each:=fun m hm=>(h.each m hm).kept ht (fun _ hk=>hn _ (h.Bc hm hk))}
theorem ay.kept{S:List Nat}(h:ay w base d F A)(ht:Turn S w w')(hn:∀k∈F,k∉S):ay w' base d F A:=by
 obtain⟨ah,ms,h⟩:=h;exact⟨ah,ms,h.kept ht hn⟩
theorem ay.lt(h:ay w base d F A):∀k∈F,k<w.heap.size:=by obtain⟨ah,ms,h⟩:=h;exact h.lt
theorem ay.low(h:ay w base d F A):∀k∈F,base≤k:=by obtain⟨ah,ms,h⟩:=h;exact h.low
theorem ay.good(h:ay w base d F A):Good A:=by obtain⟨ah,ms,h⟩:=h;exact h.good
theorem Parts.SY(h:Parts w base d F A ah ms)(ht:Turn [d] w w')(hs:w'.heap[d]? =some (.cells #[.int .i64 A'.room, .map ah, .bool A'.limited, .int .i64 A'.left] 93 (0,0)))
 (hf:A'.files=A.files) (hg:Good A'):Parts w' base d F A' ah ms:=by
 have hnd:=h.nodup;rw[h.foot,List.nodup_cons]at hnd;have hne:∀k,(k∈ah∨∃m∈ms,k∈m.foot)→k∉[d]:=by
  intro k hk e;simp only[List.mem_singleton]at e;subst e;exact hnd.1 (by simpa[List.mem_flatMap]using hk)
 exact {foot:=h.foot,nodup:=h.nodup,low:=h.low,self:=hs,files:=hf.trans h.files,good:=hg
        map:=h.map.kept ht (fun k hk=>hne k (.inl hk))
        each:=fun m hm=>(h.each m hm).kept ht (fun k hk=>hne k (.inr ⟨m,hm,hk⟩))}
end
def DA.fails(A:DA):Bool:=A.limited&&(A.left==0)
def DA.tick(A:DA):DA:=if A.limited then {A with left:=A.left-1}else A
theorem dw(A:DA):A.tick.files=A.files:=by unfold DA.tick;split<;>rfl
theorem jP(A:DA):A.tick.room=A.room:=by unfold DA.tick;split<;>rfl
theorem EO(A:DA):A.tick.limited=A.limited:=by unfold DA.tick;split<;>rfl
theorem Good.tick{A:DA}(h:Good A)(hf:A.fails=false):Good A.tick where
 room:=by rw[jP];exact h.room
 used:=by rw[jP,dw];exact h.used
 count:=by rw[dw];exact h.count
 names:=by rw[dw];exact h.names
 short:=by rw[dw];exact h.short
 safe:=by rw[dw];exact h.safe
 left:=fun hl=>by
  rw[EO]at hl;have:=h.left hl;simp[DA.fails,hl]at hf;simp only[DA.tick,hl,if_true];omega
def dI(n:Int):Value:= .iface 38 (.int .i64 n)
section
variable {w:World} {base d:Nat} {F:List Nat} {A:DA} {ah:Option Nat} {ms:List au}
theorem Parts.c0(h:Parts w base d F A ah ms):w.cell? ⟨d,0,none⟩=some (.int .i64 A.room):=by rw[cell_of h.self];rfl
theorem Parts.c1(h:Parts w base d F A ah ms):w.cell? ⟨d,1,none⟩=some (.map ah):=by rw[cell_of h.self];rfl
theorem Parts.c2(h:Parts w base d F A ah ms):w.cell? ⟨d,2,none⟩=some (.bool A.limited):=by rw[cell_of h.self];rfl
theorem Parts.c3(h:Parts w base d F A ah ms):w.cell? ⟨d,3,none⟩=some (.int .i64 A.left):=by rw[cell_of h.self];rfl
theorem Parts.fr(h:Parts w base d F A ah ms)(i:Nat):w.frozen? ⟨d,i,none⟩=false:=af h.self i
set_option maxHeartbeats 400000 in
theorem wH(h:Parts w base d F A ah ms)(hf:A.fails=true):
 Calls Tryz.prog 125 #[.pointer (some ⟨d,0,none⟩)] w fun e w'=>e= .returned (dI 14)∧w=w':=by
 have c2:=h.c2;have c3:=h.c3;simp only[DA.fails,Bool.and_eq_true]at hf;obtain⟨hl,hz⟩:=hf;rw[hl]at c2;clear hl;go_enter Tryz.func125,Tryz.ntmps125
 go_wp2
 go_ret
 exact⟨rfl,rfl⟩
set_option maxHeartbeats 400000 in
theorem nK(h:Parts w base d F A ah ms)(hf:A.fails=false):
 Calls Tryz.prog 125 #[.pointer (some ⟨d,0,none⟩)] w fun e w'=>e= .returned .nilIface∧Parts w' base d F A.tick ah ms∧Turn [d] w w':=by
 have c2:=h.c2;have c3:=h.c3;have f3:=h.fr 3;have hl3:=h.good.left;have hgt:=h.good.tick hf;have H:Hid (Parts w base d F A ah ms):=h;cases hl:A.limited
 ·rw[hl]at c2
  clear h hf hl3;have HL:Hid (A.limited=false):=hl;clear hl;go_enter Tryz.func125,Tryz.ntmps125
  go_wp2
  go_ret
  have e:A.tick=A:=by simp[DA.tick,HL.out]
  exact⟨rfl,by rw[e];exact H.out,Turn.refl _ _⟩
 ·rw[hl]at c2
  have hb:=hl3 hl;have hz:(A.left==0)=false:=by simpa[DA.fails,hl]using hf
  clear h hf hl3;have HL:Hid (A.limited=true):=hl;clear hl;go_enter Tryz.func125,Tryz.ntmps125
  go_wp2
  go_ret
  have e:A.tick={A with left:=A.left-1}:=by simp[DA.tick,HL.out]
  have t:Turn [d] w (w.setCell ⟨d,3,none⟩ (.int .i64 (A.left-1))):=(Turn.refl _ _).setCell (by simp) _;refine⟨rfl,H.out.SY t ?_ (dw A) hgt,t⟩;rw[heap_set H.out.self,e];simp
set_option maxHeartbeats 400000 in
theorem mZ(h:Parts w base d F A ah ms)(hf:A.fails=true)(s:ByteArray):
 Calls Tryz.prog 85 #[.pointer (some ⟨d,0,none⟩), .string s] w fun e w'=>e= .returned (.tuple #[.pointer none,dI 14])∧w=w':=by
 have H:Hid (Parts w base d F A ah ms):=h;clear h;go_enter Tryz.func85,Tryz.ntmps85
 go_wp2_with (go_at_call 125;refine(wH H.out hf).mono ?_;rintro e w' ⟨rfl,rfl⟩;unfold dI)
 go_ret2
 exact⟨rfl,rfl⟩
def tN:Option au→Value
 |some m=> .tuple #[.pointer (some ⟨m.blk,0,none⟩), .nilIface]
 |none=> .tuple #[.pointer none,dI 7]
set_option maxHeartbeats 400000 in
theorem iG(h:Parts w base d F A ah ms)(hf:A.fails=false)(s:ByteArray)(hs:s.size≤maxLen)(o:Option au)(ho:bM ms s.data.toList=o):
 Calls Tryz.prog 85 #[.pointer (some ⟨d,0,none⟩), .string s] w fun e w'=>
  e= .returned (tN o)∧Parts w' base d F A.tick ah ms∧Turn [d] w w':=by
 have H:Hid (Parts w base d F A ah ms):=h;have HO:Hid (bM ms s.data.toList=o):=ho;clear h ho;cases o
 all_goals
  go_enter Tryz.func85,Tryz.ntmps85
  go_wp2_with fail
  refine(nK H.out hf).mono ?_;rintro e w1 ⟨rfl,hp,ht⟩;have c1:=hp.c1;have hlook:=hp.map.look hs;rw[HO.out]at hlook;simp only[rP]at hlook;have HP:Hid (Parts w1 base d F A.tick ah ms):=hp;clear hp;go_wp2
  go_ret2
  exact⟨rfl,HP.out,ht⟩
end
end Dk
end
section
set_option linter.unusedSimpArgs false
open Go.RowKit Go.Maps
namespace Dk
def fO(left:Lit→Bool):List au→Nat
 |[]=>0
 |m::r=>(if left (.string m.abs.name)then 0 else m.abs.bytes.length)+fO left r
theorem DR(left:Lit→Bool):∀ms:List au,fO left ms≤bH (ms.map (·.abs))
 |[]=>Nat.le_refl _
 |m::r=>by
  have ih:=DR left r;simp only[fO,bH,List.map_cons,List.sum_cons]at*;split<;>omega
theorem Bd{left:Lit→Bool}(h:∀kl,left kl=false):∀ms:List au,fO left ms=bH (ms.map (·.abs))
 |[]=>rfl
 |m::r=>by
  have ih:=Bd h r;simp only[fO,bH,List.map_cons,List.sum_cons]at*;simp[h,ih]
theorem Be{left:Lit→Bool}:∀ms:List au,(∀m∈ms,left (.string m.abs.name)=true)→fO left ms=0
 |[],_=>rfl
 |m::r,h=>by
  simp only[fO,h m (by simp),if_true];rw[Be r (fun x hx=>h x (by simp[hx]))]
theorem EP{D:DataW Unit}{ms:List au}(h:Reads D ms):fO (has D) ms=0:=by
 apply Be;intro m hm;rw[fF h];unfold bM;rw[List.find?_isSome];exact⟨m,hm,by simp⟩
theorem pU(a b:List UInt8):(Lit.string a).sameKey (.string b)=(a==b):=by
 by_cases h:a=b
 ·subst h;simp[WideAt.sameKey_self (isKey a)]
 ·rw[sameKey_ne (oG h)];simpa using h
theorem wJ(left:Lit→Bool)(nm:List UInt8):∀ms:List au,nm∉ms.map (·.abs.name)→fO (fun z=>left z&& !z.sameKey (.string nm)) ms=fO left ms
 |[],_=>rfl
 |m::r,h=>by
  simp only[List.map_cons,List.mem_cons,not_or]at h;have hb:(m.abs.name==nm)=false:=by simpa using fun e=>h.1 e.symm
  simp only[fO,pU,hb,Bool.not_false,Bool.and_true];rw[wJ left nm r h.2]
theorem wK(left:Lit→Bool)(nm:List UInt8)(m:au)(hl:left (.string nm)=true):∀ms:List au,(ms.map (·.abs.name)).Nodup→bM ms nm=some m→
 fO (fun z=>left z&& !z.sameKey (.string nm)) ms=fO left ms+m.abs.bytes.length
 |[],_,hf=>by simp[bM]at hf
 |a::r,hn,hf=>by
  simp only[List.map_cons,List.nodup_cons]at hn;unfold bM at hf;rw[List.find?_cons]at hf;by_cases ha:a.abs.name=nm
  ·have hb:(a.abs.name==nm)=true:=by simpa using ha
   rw[hb]at hf;simp at hf;subst hf;have hs:(Lit.string a.abs.name).sameKey (.string nm)=true:=by rw[pU];exact hb
   have hla:left (.string a.abs.name)=true:=by rw[ha];exact hl
   simp only[fO,hs,hla,wJ left nm r (by rw[←ha];exact hn.1)];simp;omega
  ·have hb:(a.abs.name==nm)=false:=by simpa using ha
   rw[hb]at hf;have hs:(Lit.string a.abs.name).sameKey (.string nm)=false:=by rw[pU];exact hb
   simp only[fO,hs,wK left nm m hl r hn.2 hf];simp;omega
def XE(c:Option Nat):Value:=match c with
 |some b=> .pointer (some ⟨b,0,none⟩)
 |none=> .pointer none
theorem ZU(v:Value)(y:DataW Unit×List MemPlace)(h:pz v=some y):∃c,v=XE c:=by
 unfold pz at h;split at h
 ·exact⟨some _,rfl⟩
 ·exact⟨none,rfl⟩
 ·cases h
theorem who{D:DataW Unit}{ms:List au}(hr:Reads D ms){x:ByteArray}{c:Option Nat}{kl:Lit}{y:DataW Unit×List MemPlace}(hk:keyOf Tryz.prog 9 (.string x)=some kl)(hy:pz (XE c)=some y)
 (hat:∀zd,D.atKey kl zd=y.1):∃nm m,kl= .string nm∧bM ms nm=some m∧c=some m.blk:=by
 have e:kl= .string x.data.toList:=by
  simp only[keyOf,mapKey,Tryz.underlying9]at hk;split at hk<;>simp_all
 subst e;refine⟨x.data.toList,?_⟩;cases hf:bM ms x.data.toList with
 |none=>
  have h1:=hat .nil;have h2:=hat (.lit (.bool true));rw[hr.2,hf]at h1 h2;rw[←h1]at h2;cases h2
 |some m=>
  have h1:=hat .nil;rw[hr.2,hf]at h1;refine⟨m,rfl,rfl,?_⟩;cases c with
  |none=>simp[XE,pz]at hy;subst hy;cases h1
  |some b=>simp[XE,pz]at hy;subst hy;simp[SX]at h1;rw[Int.ofNat_inj.1 h1]
section
variable {w:World} {base d:Nat} {F:List Nat} {A:DA} {ah:Option Nat} {ms:List au}
theorem qG{nm:List UInt8}{m:au}(h:bM ms nm=some m):m∈ms∧m.abs.name=nm:=by
 unfold bM at h;exact⟨List.mem_of_find?_eq_some h,by simpa using List.find?_some h⟩
theorem Parts.names(h:Parts w base d F A ah ms):(ms.map (·.abs.name)).Nodup:=by
 have:=h.good.names;rw[h.files,List.map_map]at this;exact this
set_option maxHeartbeats 400000 in
theorem Gy(h:Parts w base d F A ah ms):
 Calls Tryz.prog 266 #[.pointer (some ⟨d,0,none⟩)] w fun e w'=>e= .returned (.int .i64 (bH A.files))∧Turn [] w w':=by
 have H:Hid (Parts w base d F A ah ms):=h;have c1:=h.c1;have Jt:=h.names;have hu:=h.good.used;have hroom:=h.good.room;have hfil:=h.files;have hmap:=h.map;clear h;cases ah with
 |none=>
  have hms:ms=[]:=hmap;subst hms;have hz:A.files=[]:=by rw[hfil];rfl
  have HZ:Hid (bH A.files=0):=by rw[hz];rfl
  clear hz hfil hmap;have hrn:=fun w=>run_range_nilMap (P:=Tryz.prog) w _ _ _ Tryz.underlying91
  have hnx:=fun(w:World) ty a b s=>run_next_nilMap (P:=Tryz.prog) w ty a b s
  go_enter Tryz.func266,Tryz.ntmps266
  go_wp2
  refine wp_loop_rounds 1 ?_;rw[rounds_succ];go_wp2
  go_ret
  exact⟨by rw[HZ.out];rfl,(Turn.refl _ _).alloc _⟩
 |some mb=>
  obtain⟨D,hown,hrd⟩:=hmap;have HR:Hid (Reads D ms):=hrd;have HN:Hid ((ms.map (·.abs.name)).Nodup):=Jt;have HF:Hid (A.files=ms.map (·.abs)):=hfil;have hle:=fun left=>DR left ms
  rw[hfil]at hu;have hle2:∀left,fO left ms≤1048576:=fun left=>by have:=hle left;omega
  have h0:=EP hrd;clear hle hu hroom Jt hrd hfil;go_enter Tryz.func266,Tryz.ntmps266
  go_wp2_with (first
   |(at_range;refine wpList_range_own _ rfl _ 91 rfl 9 133 law Tryz.underlying91 pz mb ms.length D rfl hown ?_;intro w0 hrg0 hg0 hs0)
   |go_in)
  go_frame
  go_loopw [3] (fun s wr=>∃left cnt,s= .int .i64 (fO left ms)∧wr.ranges Tryz.prog 9 pz mb w.heap.size ms.length D left cnt∧Turn [] w wr) (fun _ wr=>wr.rangeLeft mb w.heap.size)
  case atStart=>exact⟨has D,size D,by rw[h0];rfl,hrg0,(Turn.refl _ _).grown hg0 (by simp)⟩
  case round=>
   obtain⟨left,cnt,rfl,hrg,ht⟩:=hrel;have hb:=hle2 left;clear hrg0 hg0 hs0 h0;go_wp2_with (at_next;refine wpList_next_ranges _ rfl _ rfl 9 law pz Value.string XE (fun _ _ hk=>Maps.keyOf_string_inv Tryz.underlying9 hk) ZU mb w.heap.size ms.length D left cnt rfl hrg ?_ ?_)
   ·intro hc0 hl0
    have hend:=Bd hl0 ms;have HE:Hid (fO left ms=bH (ms.map (·.abs))):=hend;clear hend;go_wp2
    go_ret
    exact⟨oD (by rw[HF.out,HE.out]),ht⟩
   ·intro x c kl yd yp w1 cnt1 hk hlk hy hat hrg1 hlt hg1 hs1 hen
    obtain⟨nm,m,rfl,hfm,rfl⟩:=who HR.out hk hy hat;have ht1:Turn [] w w1:=ht.grown hg1 (by simp);have hm:=qG hfm;have hfa:=(H.out.each m hm.1).kept ht1 (by simp);obtain⟨sa,sc,hsl,hsl1,hsl2⟩:=hfa.2.form;have cf:w1.cell? ⟨m.blk,0,none⟩=some (.slice sa m.abs.bytes.length sc):=by rw[cell_of hfa.1,hsl];rfl
    have hst:=wK left nm m hlk ms HN.out hfm;have hb1:=hle2 (fun z=>left z&& !z.sameKey (.string nm));rw[hst]at hb1;have HST:Hid (fO (fun z=>left z&& !z.sameKey (.string nm)) ms=fO left ms+m.abs.bytes.length):=hst;simp only[XE]at hen⊢;clear hst hfm hm hfa hsl hk hy hat hlk;go_wp2
    go_roundw
    case rel=>
     repeat apply Exists.intro
     exact⟨⟨_,cnt1,by rw[HST.out];go_num,hrg1,ht1⟩,rfl⟩
    case measure=>rw[hrg1.left_eq,hrg.left_eq];omega
end
end Dk
end
section
open Go.RowKit
namespace Dk
def nb(c:Int):Bool:=decide (97≤c∧c≤122∨48≤c∧c≤57∨c=45∨c=46∨c=47)
set_option maxHeartbeats 400000 in
theorem tV(c:Int)(w:World):
 Calls Tryz.prog 265 #[.int .u8 c] w fun e w'=>e= .returned (.bool (nb c))∧w'=w:=by
 go_enter Tryz.func265,Tryz.ntmps265
 go_wp2
 all_goals
  go_ret
  exact⟨ku (by unfold nb;first|(symm;apply decide_eq_true;omega)|(symm;apply decide_eq_false;omega)|(rw[Bool.eq_iff_iff];simp;omega)),rfl⟩
def allB(p:UInt8→Bool)(s:ByteArray):Bool:=s.data.toList.all p
theorem O7(p:UInt8→Bool)(s:ByteArray)(k:Nat)(h:k<s.size):(s.data.toList.take (k+1)).all p=((s.data.toList.take k).all p&&p s[k]):=by
 rw[List.take_succ_eq_append_getElem (by simpa using h),List.all_append];simp;rfl
theorem all_false(p:UInt8→Bool)(s:ByteArray)(k:Nat)(h:k<s.size)(hp:p s[k]=false):allB p s=false:=by
 unfold allB;rw[List.all_eq_false];exact⟨s[k],by show s.data.toList[k]'(by simpa using h)∈_;exact List.getElem_mem _,by simp[hp]⟩
theorem O8(p:UInt8→Bool)(s:ByteArray)(k:Nat)(h:s.size≤k):(s.data.toList.take k).all p=allB p s:=by
 unfold allB;rw[List.take_of_length_le (by simpa using h)]
def Jm(c:UInt8):Bool:=nb c.toNat
def nameB(s:ByteArray):Bool:=allB Jm s&&(decide (1≤s.size)&&decide (s.size≤40))
set_option maxHeartbeats 400000 in
theorem jQ(s:ByteArray)(w:World)(hs:s.size≤maxLen):
 Calls Tryz.prog 223 #[.string s] w fun e w'=>e= .returned (.bool (nameB s))∧w'=w:=by
 unfold maxLen at hs;go_enter Tryz.func223,Tryz.ntmps223
 go_wp2
 go_loop [6] (fun i=>∃k:Nat,k≤s.size∧i= .int .i64 k∧(s.data.toList.take k).all Jm=true) (fun i=>s.size-(intOf i).toNat)
 case atStart=>exact⟨0,Nat.zero_le _,rfl,rfl⟩
 case round=>
  obtain⟨k,hk,rfl,ha⟩:=hrel;have HA:Hid ((s.data.toList.take k).all Jm=true):=ha;clear ha;by_cases hlt:k<s.size
  ·have hsn:=O7 Jm s k hlt
   have HS:Hid ((s.data.toList.take (k+1)).all Jm=((s.data.toList.take k).all Jm&&Jm s[k])):=hsn;clear hsn;cases hi:nb s[k].toNat
   ·have hz:=all_false Jm s k hlt hi
    have HZ:Hid (allB Jm s=false):=hz;clear hz;go_wp2_with (go_at_call 265;refine(tV _ _).mono ?_;rintro e w' ⟨rfl,rfl⟩)
    go_ret
    exact⟨ku (by unfold nameB;rw[HZ.out];rfl),rfl⟩
   ·have H1:Hid (Jm s[k]=true):=hi
    go_wp2_with (go_at_call 265;refine(tV _ _).mono ?_;rintro e w' ⟨rfl,rfl⟩)
    go_round
    case rel=>exact⟨k+1,by omega,by go_num,by rw[HS.out,HA.out,H1.out];rfl⟩
    case measure=>simp[intOf];omega
  ·have H:=O8 Jm s k (by omega)
   have HH:Hid (allB Jm s=true):=H.symm.trans HA.out;clear H;by_cases h1:1≤s.size<;>by_cases h2:s.size≤40
   all_goals go_wp2
   all_goals
    go_ret
    exact⟨ku (by have hq:=HH.out;rw[Bool.eq_iff_iff];simp[nameB,hq];omega),rfl⟩
end Dk
end
section
open Go.RowKit Go.Maps
set_option linter.unusedSimpArgs false
namespace Dk
def aW(n:Int):Value:=if n=0 then .nilIface else dI n
theorem ZC(r:Int)(h:r<0∨1048576<r)(w:World):
 Calls Tryz.prog 13 #[.int .i64 r] w fun e w'=>e= .returned (.tuple #[.pointer none,dI 2])∧w=w':=by
 by_cases h1:r<0
 ·go_enter Tryz.func13,Tryz.ntmps13
  go_wp2
  go_ret2
  exact⟨rfl,rfl⟩
 ·have h2:1048576<r:=by omega
  go_enter Tryz.func13,Tryz.ntmps13
  go_wp2
  go_ret2
  exact⟨rfl,rfl⟩
def DA.empty(r:Nat):DA:=⟨r,[],false,0⟩
theorem Vy(r:Nat)(h:r≤1048576)(w:World)(base:Nat)(hb:base≤w.heap.size):
 Calls Tryz.prog 13 #[.int .i64 r] w fun e w'=>e= .returned (.tuple #[.pointer (some ⟨w.heap.size,0,none⟩), .nilIface])∧ay w' base w.heap.size [w.heap.size] (DA.empty r)∧Turn [] w w':=by
 go_enter Tryz.func13,Tryz.ntmps13
 go_wp2
 go_ret2
 refine⟨rfl,⟨none,[],?_⟩,(Turn.refl _ _).alloc _⟩
 exact {foot:=rfl,nodup:=by simp,low:=by simpa using hb,self:=ae w _,map:=rfl,each:=by simp,files:=rfl
        good:={room:=h,used:=by simp[bH,DA.empty],count:=by simp[DA.empty],names:=by simp[DA.empty],short:=by simp[DA.empty],safe:=by simp[DA.empty],left:=by simp[DA.empty]}}
def fE(w w':World)(base d:Nat)(F:List Nat)(A':DA):Prop:=∃F',ay w' base d F' A'∧Turn F w w'∧∀k∈F',k∈F∨w.heap.size≤k
section
variable {w w':World} {base d:Nat} {F:List Nat} {A A':DA} {ah:Option Nat} {ms:List au}
theorem fE.same(h:Parts w' base d F A' ah ms)(ht:Turn F w w'):fE w w' base d F A':=⟨F,⟨_,_,h⟩,ht,fun _ hk=> .inl hk⟩
theorem fE.tick(h:Parts w' base d F A' ah ms)(hd:d∈F)(ht:Turn [d] w w'):fE w w' base d F A':=fE.same h (ht.mono (by simpa using .inl hd))
theorem fE.none(h:Parts w base d F A ah ms):fE w w base d F A:=fE.same h (Turn.refl _ _)
def DA.has(A:DA)(nm:List UInt8):Bool:=(A.files.find? (fun f=>f.name==nm)).isSome
def DA.make(A:DA)(s:ByteArray):Int×DA:=
 if A.fails then(14,A)
 else if !nameB s then(5,A.tick)
 else if A.has s.data.toList then(9,A.tick)
 else if 200≤A.files.length then(4,A.tick)
 else(0,{A.tick with files:=A.files++[⟨s.data.toList,[],0⟩]})
theorem Bf(h:Parts w base d F A ah ms)(nm:List UInt8):A.has nm=(bM ms nm).isSome:=by
 unfold DA.has bM;rw[h.files,List.find?_map];simp[Function.comp_def]
theorem Parts.AB(h:Parts w base d F A ah ms){mb:Nat}{D:DataW Unit}{s:ByteArray}{F':List Nat}{A':DA}{k:Nat}(hk:k∉F)(hkb:base≤k)
 (ht:Turn (d::ah.toList) w w')(hs:w'.heap[d]? =some (.cells #[.int .i64 A'.room, .map (some mb), .bool A'.limited, .int .i64 A'.left] 93 (0,0)))
 (hmb:ah=some mb∨(ah=none∧mb∉F∧base≤mb∧mb≠k)) (hown:w'.ownsMap Tryz.prog 9 pz mb (ms.length+1) D) (hrd:Reads D (ms++[⟨⟨s.data.toList,[],0⟩,k, .slice none 0 0⟩]))
 (hnew:w'.heap[k]? =some (.cells #[.slice none 0 0, .int .i64 0] 136 (0,0))) (hf:A'.files=A.files++[⟨s.data.toList,[],0⟩]) (hg:Good A')
 (hF:F'=d::(mb::(ms.flatMap au.foot++[k]))):
 Parts w' base d F' A' (some mb) (ms++[⟨⟨s.data.toList,[],0⟩,k, .slice none 0 0⟩]):=by
 have hnd:=h.nodup;have hlo:=h.low;have Bg:=h.foot;rw[Bg]at hnd hlo hk hmb;simp only[List.mem_cons,List.mem_append,not_or]at hk;have hsep:∀x∈ms.flatMap au.foot,x∉d::ah.toList:=by
  intro x hx e;rw[List.nodup_cons,List.nodup_append]at hnd;rcases List.mem_cons.1 e with rfl|e
  ·exact hnd.1 (List.mem_append.2 (.inr hx))
  ·exact hnd.2.2.2 x e x hx rfl
 refine {foot:=?_,nodup:=?_,low:=?_,self:=hs,map:=⟨D,by simpa using hown,hrd⟩,each:=?_,files:=?_,good:=hg}
 ·rw[hF];simp[au.foot,Value.ownBlock,List.flatMap_append]
 ·rw[hF]
  rw[List.nodup_cons,List.nodup_append]at hnd;have hmb':d≠mb∧mb∉ms.flatMap au.foot∧mb≠k:=by
   rcases hmb with rfl|⟨rfl,h1,_,h3⟩
   ·simp at hnd hk
    refine⟨hnd.1.1,fun e=>?_,fun e=>hk.2.1 e.symm⟩;exact hsep mb e (by simp)
   ·simp at h1
    exact⟨fun e=>h1.1 e.symm,by simpa using h1.2,h3⟩
  simp only[List.nodup_cons,List.mem_cons,List.mem_append,List.nodup_append,List.not_mem_nil,or_false,not_or,not_false_eq_true,true_and,List.nodup_nil,and_true];refine⟨⟨hmb'.1,fun e=>hnd.1 (List.mem_append.2 (.inr e)),fun e=>hk.1 e.symm⟩,⟨hmb'.2.1,hmb'.2.2⟩,hnd.2.2.1,?_⟩;intro x hx y hy e;subst hy;subst e;exact hk.2.2 hx
 ·rw[hF]
  intro x hx;simp only[List.mem_cons,List.mem_append,List.mem_singleton,List.not_mem_nil,or_false]at hx;rcases hx with rfl|rfl|hx|rfl
  ·exact hlo _ (by simp)
  ·rcases hmb with rfl|⟨rfl,_,h2,_⟩
   ·exact hlo _ (by simp)
   ·exact h2
  ·exact hlo _ (List.mem_cons.2 (.inr (List.mem_append.2 (.inr hx))))
  ·exact hkb
 ·intro m hm
  rcases List.mem_append.1 hm with hm|hm
  ·exact(h.each m hm).kept ht (fun x hx=>hsep x (List.mem_flatMap.2 ⟨m,hm,hx⟩))
  ·simp only[List.mem_singleton]at hm
   subst hm;exact⟨hnew, .inl ⟨rfl,rfl⟩⟩
 ·rw[hf,h.files];simp
theorem Good.AB(h:Good A){s:ByteArray}(hn:nameB s=true)(hh:A.has s.data.toList=false)(hc:A.files.length<200):Good {A with files:=A.files++[⟨s.data.toList,[],0⟩]} where
 room:=h.room
 used:=by have:=h.used;simpa[bH]using this
 count:=by simp;omega
 names:=by
  simp only[List.map_append,List.map_cons,List.map_nil];rw[List.nodup_append];refine⟨h.names,by simp,?_⟩;intro a ha b hb e;simp only[List.mem_singleton]at hb;subst hb;subst e;obtain⟨f,hf,he⟩:=List.mem_map.1 ha;unfold DA.has at hh;rw[Option.isSome_eq_false_iff,Option.isNone_iff_eq_none,List.find?_eq_none]at hh;exact hh f hf (by simpa using he)
 short:=by
  intro f hf;rcases List.mem_append.1 hf with hf|hf
  ·exact h.short f hf
  ·simp only[List.mem_singleton]at hf
   subst hf;simp only[nameB,Bool.and_eq_true,decide_eq_true_eq]at hn;simpa using hn.2.2
 safe:=by
  intro f hf;rcases List.mem_append.1 hf with hf|hf
  ·exact h.safe f hf
  ·simp only[List.mem_singleton]at hf;subst hf;simp
 left:=h.left
theorem uT(w:World)(x:Option Nat):(binOp .eql 91 (.map x) (.map none)).run Tryz.prog w= .ok (.bool x.isNone) w:=by
 exact Go.run_eql_map_nil w _ _ _ x Tryz.underlying91
set_option maxRecDepth 100000 in
set_option maxHeartbeats 1000000 in
theorem pV(h:Parts w base d F A ah ms)(s:ByteArray)(hs:s.size≤maxLen):
 Calls Tryz.prog 182 #[.pointer (some ⟨d,0,none⟩), .string s] w fun e w'=>e= .returned (aW (A.make s).1)∧fE w w' base d F (A.make s).2:=by
 have H:Hid (Parts w base d F A ah ms):=h;have hdF:=h.jH;have hhas:=Bf h s.data.toList;have hlen:A.files.length=ms.length:=by rw[h.files];simp
 clear h;cases hf:A.fails
 case true=>
  have HV:Hid (A.make s=(14,A)):=by show A.make s=(14,A);simp[DA.make,hf]
  have HF:Hid (A.fails=true):=hf;clear hf hhas hlen;go_enter Tryz.func182,Tryz.ntmps182
  go_wp2_with (go_at_call 125;refine(wH H.out HF.out).mono ?_;rintro e w' ⟨rfl,rfl⟩;unfold dI)
  go_ret
  exact⟨by rw[HV.out];rfl,by rw[HV.out];exact fE.none H.out⟩
 case false=>
  have HF:Hid (A.fails=false):=hf;cases hn:nameB s
  case false=>
   have HV:Hid (A.make s=(5,A.tick)):=by show A.make s=_;simp[DA.make,hf,hn]
   clear hf hhas hlen;go_enter Tryz.func182,Tryz.ntmps182
   go_wp2_with (first|(go_at_call 125;refine(nK H.out HF.out).mono ?_;rintro e w1 ⟨rfl,hp,ht⟩)|(go_at_call 223;refine(jQ _ _ hs).mono ?_;rintro e w' ⟨rfl,rfl⟩))
   go_ret
   exact⟨by rw[HV.out];rfl,by rw[HV.out];exact fE.tick hp hdF ht⟩
  case true=>
   have hlk:=fun(w1:World) (hp:Parts w1 base d F A.tick ah ms)=>hp.map.look hs
   have hln:=fun(w1:World) (hp:Parts w1 base d F A.tick ah ms) ty=>hp.map.len ty
   cases hm:bM ms s.data.toList with
   |some m=>
    have HV:Hid (A.make s=(9,A.tick)):=by show A.make s=_;simp[DA.make,hf,hn,hhas,hm]
    have HM:Hid (bM ms s.data.toList=some m):=hm;clear hf hhas hlen hm;go_enter Tryz.func182,Tryz.ntmps182
    go_wp2_with fail
    refine(nK H.out HF.out).mono ?_;rintro e w1 ⟨rfl,hp,ht⟩;have c1:=hp.c1;have hlook:=hlk w1 hp;rw[HM.out]at hlook;simp only[rP]at hlook;have HP:Hid (Parts w1 base d F A.tick ah ms):=hp;clear hp hlk hln;go_wp2_with (first|(go_at_call 223;refine(jQ _ _ hs).mono ?_;rintro e w' ⟨rfl,rfl⟩))
    go_ret
    exact⟨by rw[HV.out];rfl,by rw[HV.out];exact fE.tick HP.out hdF ht⟩
   |none=>
    have HM:Hid (bM ms s.data.toList=none):=hm;have hq:=uT;by_cases hc:200≤A.files.length
    ·have HV:Hid (A.make s=(4,A.tick)):=by show A.make s=_;simp[DA.make,hf,hn,hhas,hm,hc]
     rw[hlen]at hc;clear hf hhas hlen hm;go_enter Tryz.func182,Tryz.ntmps182
     go_wp2_with fail
     refine(nK H.out HF.out).mono ?_;rintro e w1 ⟨rfl,hp,ht⟩;have c1:=hp.c1;have hlook:=hlk w1 hp;have hl:=hln w1 hp;rw[HM.out]at hlook;simp only[rP]at hlook;have HP:Hid (Parts w1 base d F A.tick ah ms):=hp;clear hp hlk hln;go_wp2_with (first|(go_at_call 223;refine(jQ _ _ hs).mono ?_;rintro e w' ⟨rfl,rfl⟩))
     go_ret
     exact⟨by rw[HV.out];rfl,by rw[HV.out];exact fE.tick HP.out hdF ht⟩
    ·have HV:Hid (A.make s=(0,{A.tick with files:=A.files++[⟨s.data.toList,[],0⟩]})):=by show A.make s=_;simp[DA.make,hf,hn,hhas,hm,hc]
     have hg:=H.out.good.tick hf;have hgA:Good {A.tick with files:=A.tick.files++[⟨s.data.toList,[],0⟩]}:=hg.AB hn (by rw[DA.has,dw];rw[DA.has,hm]at hhas;exact hhas) (by rw[dw];omega);have HG:Hid (Good {A.tick with files:=A.tick.files++[⟨s.data.toList,[],0⟩]}):=hgA;rw[hlen]at hc;have hcl:¬(200:Int)≤(ms.length:Int):=by omega
     have Jt:=H.out.names;have HN:Hid ((ms.map (·.abs.name)).Nodup):=Jt;have hdrop:kz ms s.data.toList=ms:=by
      unfold kz;rw[List.filter_eq_self];intro x hx;have:=(List.find?_eq_none.1 hm) x hx;simpa using this
     have HD:Hid (kz ms s.data.toList=ms):=hdrop;clear hf hhas hlen hm hg hgA hc Jt hdrop;cases ah with
     |none=>
      go_enter Tryz.func182,Tryz.ntmps182
      go_wp2_with fail
      refine(nK H.out HF.out).mono ?_;rintro e w1 ⟨rfl,hp,ht⟩;have c1:=hp.c1;have f1:=hp.fr 1;have hlook:=hlk w1 hp;have hl:=hln w1 hp;rw[HM.out]at hlook;simp only[rP]at hlook;have HP:Hid (Parts w1 base d F A.tick .none ms):=hp;have ZV:=hp.lt d hdF;have hmm:= @run_makeMap Tryz.prog;clear hp hlk hln;go_wp2_with (first|(go_at_call 223;refine(jQ _ _ hs).mono ?_;rintro e w' ⟨rfl,rfl⟩))
      have hms:ms=[]:=HP.out.map;subst hms;have ho0:=World.ownsMap_made (w'.setCell ⟨d,1,none⟩ (.map (some w'.heap.size))) Tryz.prog 9 pz;have hsz:(w'.setCell ⟨d,1,none⟩ (.map (some w'.heap.size))).heap.size=w'.heap.size:=by simp[World.setCell]
      rw[hsz]at ho0;obtain⟨w2,hrun,ho2,hgr⟩:=(ho0.alloc (.cells #[.slice .none 0 0, .int .i64 0] 136)).store law Tryz.underlying91 (by simp[maxLen]) (keyS hs) (val:= .pointer (some ⟨w'.heap.size+1,0, .none⟩)) (d:= .lit (.int .i64 ((w'.heap.size+1:Nat):Int))) (ps:=[]) rfl;rw[hrun];simp only[Result.andThen];rw[Oper.upon_skip];go_wp2
      go_ret
      have ht0:Turn [d] w' (w'.setCell ⟨d,1, .none⟩ (.map (some w'.heap.size))):=(Turn.refl _ _).setCell (by simp) _;have ht1:=(ht0.alloc (.map #[] 0)).alloc (.cells #[.slice .none 0 0, .int .i64 0] 136);have ht2:=ht1.grown hgr.grown (by intro k hk;cases hk;simp);have hold:∀k∈F,k<w'.heap.size:=HP.out.lt;have hbase:=HP.out.low d hdF;have hself:w2.heap[d]? =some (.cells #[.int .i64 A.tick.room, .map (some w'.heap.size), .bool A.tick.limited, .int .i64 A.tick.left] 93 (0,0)):=by
       have h1:(w'.setCell ⟨d,1, .none⟩ (.map (some w'.heap.size))).heap[d]? =some (.cells #[.int .i64 A.tick.room, .map (some w'.heap.size), .bool A.tick.limited, .int .i64 A.tick.left] 93 (0,0)):=by
        rw[heap_set HP.out.self];simp
       have h2:=(((Turn.refl [] _).alloc (.map #[] 0)).alloc (.cells #[.slice .none 0 0, .int .i64 0] 136)).heap h1 (by simp);exact((Turn.refl [w'.heap.size] _).grown hgr.grown (by intro k hk;cases hk;simp)).heap h2 (by simp;omega)
      have hnew:w2.heap[w'.heap.size+1]? =some (.cells #[.slice .none 0 0, .int .i64 0] 136 (0,0)):=by
       have h1:=ae ((w'.setCell ⟨d,1, .none⟩ (.map (some w'.heap.size))).alloc (.map #[] 0)) (.cells #[.slice .none 0 0, .int .i64 0] 136);have hs2:((w'.setCell ⟨d,1, .none⟩ (.map (some w'.heap.size))).alloc (.map #[] 0)).heap.size=w'.heap.size+1:=by simp[World.setCell]
       rw[hs2]at h1;exact((Turn.refl [w'.heap.size] _).grown hgr.grown (by intro k hk;cases hk;simp)).heap h1 (by simp)
      have hrd:Reads ((DataW.map []:DataW Unit).put (.string s.data.toList) (.lit (.int .i64 ((w'.heap.size+1:Nat):Int)))) ([]++[⟨⟨s.data.toList,[],0⟩,w'.heap.size+1, .slice .none 0 0⟩]):=
       Reads.put (ms:=[]) ⟨rfl,fun nm z=>rfl⟩ (by simp) tidy_empty ⟨⟨s.data.toList,[],0⟩,w'.heap.size+1, .slice .none 0 0⟩
      have hP:=HP.out.AB (mb:=w'.heap.size) (k:=w'.heap.size+1) (w':=w2) (A':={A.tick with files:=A.tick.files++[⟨s.data.toList,[],0⟩]}) (fun e=>by have:=hold _ e;omega) (by have:=hold d hdF;omega) (by simpa using ht2) hself (.inr ⟨rfl,fun e=>by have:=hold _ e;omega,by have:=hold d hdF;omega,by omega⟩)
       (by simpa using ho2) hrd hnew rfl HG.out rfl
      rw[dw]at hP;refine⟨by rw[HV.out];rfl,?_⟩;rw[HV.out];refine⟨_,⟨_,_,hP⟩,(ht.mono (by simpa using .inl hdF)).trans ht2 (by simpa using .inl hdF),?_⟩;intro k hk;have hle:=ht.size;simp at hk;rcases hk with rfl|rfl|rfl
      ·exact .inl hdF
      ·exact .inr hle
      ·exact .inr (by omega)
     |some mb=>
      go_enter Tryz.func182,Tryz.ntmps182
      go_wp2_with fail
      refine(nK H.out HF.out).mono ?_;rintro e w1 ⟨rfl,hp,ht⟩;have c1:=hp.c1;have hlook:=hlk w1 hp;have hl:=hln w1 hp;rw[HM.out]at hlook;simp only[rP]at hlook;have HP:Hid (Parts w1 base d F A.tick (.some mb) ms):=hp;have ZV:=hp.lt d hdF;clear hp hlk hln;go_wp2_with (first|(go_at_call 223;refine(jQ _ _ hs).mono ?_;rintro e w' ⟨rfl,rfl⟩))
      obtain⟨D,hown,hrd⟩:=HP.out.map;have hsm:=HP.out.good.count;rw[HP.out.files,List.length_map]at hsm;obtain⟨w2,hrun,ho2,hgr⟩:=(hown.alloc (.cells #[.slice .none 0 0, .int .i64 0] 136)).store law Tryz.underlying91 (by simp only[maxLen];omega) (keyS hs) (val:= .pointer (some ⟨w'.heap.size,0, .none⟩)) (d:= .lit (.int .i64 (w'.heap.size:Int))) (ps:=[]) rfl;rw[hrun];simp only[Result.andThen];rw[Oper.upon_skip];go_wp2
      go_ret
      have NC:mb∈F:=HP.out.mem_map rfl;have ht2:Turn [mb] w' w2:=((Turn.refl [mb] w').alloc (.cells #[.slice .none 0 0, .int .i64 0] 136)).grown hgr.grown (by intro k hk;cases hk;simp);have hold:∀k∈F,k<w'.heap.size:=HP.out.lt;have hnd:=HP.out.nodup;rw[HP.out.foot]at hnd;simp at hnd;have hself:=ht2.heap HP.out.self (by simpa using hnd.1.1);have hnew:w2.heap[w'.heap.size]? =some (.cells #[.slice .none 0 0, .int .i64 0] 136 (0,0)):=
       ((Turn.refl [mb] _).grown hgr.grown (by intro k hk;cases hk;simp)).heap (ae w' _) (by simp;have:=hold mb NC;omega)
      have hrd2:=hrd.put HN.out (hown.tidy law) ⟨⟨s.data.toList,[],0⟩,w'.heap.size, .slice .none 0 0⟩;simp only[HD.out]at hrd2;have hP:=HP.out.AB (mb:=mb) (k:=w'.heap.size) (w':=w2) (A':={A.tick with files:=A.tick.files++[⟨s.data.toList,[],0⟩]}) (fun e=>by have:=hold _ e;omega) (by have:=HP.out.low d hdF;have:=hold d hdF;omega) (ht2.mono (by simp)) hself (.inl rfl)
       ho2 hrd2 hnew rfl HG.out rfl
      rw[dw]at hP;refine⟨by rw[HV.out];rfl,?_⟩;rw[HV.out];refine⟨_,⟨_,_,hP⟩,(ht.mono (by simpa using .inl hdF)).trans ht2 (by simpa using .inl NC),?_⟩;intro k hk;have hle:=ht.size;have hft:=HP.out.foot;simp only[List.mem_cons,List.mem_append,List.not_mem_nil,or_false]at hk;rcases hk with rfl|rfl|hk|rfl
      ·exact .inl hdF
      ·exact .inl NC
      ·exact .inl (by rw[hft];exact List.mem_cons.2 (.inr (List.mem_append.2 (.inr hk))))
      ·exact .inr hle
end
theorem Ju{X Y o o':List Nat}(h:(X++(o++Y)).Nodup)(ho:o'.Nodup)(hs:∀k∈o',k∈o∨(k∉X∧k∉Y)):(X++(o'++Y)).Nodup:=by
 simp only[List.nodup_append,List.mem_append]at*;obtain⟨hX,⟨_,hY,hoY⟩,hXr⟩:=h;refine⟨hX,⟨ho,hY,?_⟩,?_⟩
 ·intro a ha b hb e
  rcases hs a ha with h1|h1
  ·exact hoY a h1 b hb e
  ·exact h1.2 (e▸hb)
 ·intro a ha b hb e
  rcases hb with hb|hb
  ·rcases hs b hb with h1|h1
   ·exact hXr a ha b (.inl h1) e
   ·exact h1.1 (e▸ha)
  ·exact hXr a ha b (.inr hb) e
def dR(l:List FA)(nm:List UInt8)(g:FA→FA):List FA:=l.map (fun f=>if f.name==nm then g f else f)
theorem O9(l:List FA)(nm:List UInt8)(g:FA→FA):(dR l nm g).length=l.length:=by simp[dR]
theorem S9(pre post:List FA)(f:FA)(g:FA→FA)(hn:((pre++f::post).map (·.name)).Nodup):dR (pre++f::post) f.name g=pre++g f::post:=by
 have h1:∀x∈pre,(x.name==f.name)=false:=by
  intro x hx;simp only[List.map_append,List.map_cons,List.nodup_append]at hn;have:=hn.2.2 x.name (List.mem_map.2 ⟨x,hx,rfl⟩) f.name (by simp);simpa using this
 have h2:∀x∈post,(x.name==f.name)=false:=by
  intro x hx;simp only[List.map_append,List.map_cons,List.nodup_append,List.nodup_cons]at hn;have:x.name≠f.name:=fun e=>hn.2.1.1 (by rw[←e];exact List.mem_map.2 ⟨x,hx,rfl⟩)
  simpa using this
 unfold dR;rw[List.map_append,List.map_cons];congr 1
 ·conv=>rhs;rw[←List.map_id pre]
  apply List.map_congr_left;intro x hx;simp[h1 x hx]
 ·congr 1
  ·simp
  ·conv=>rhs;rw[←List.map_id post]
   apply List.map_congr_left;intro x hx;simp[h2 x hx]
section
variable {w w':World} {base d:Nat} {F:List Nat} {A A':DA} {ah:Option Nat} {ms:List au}
theorem tX{nm:List UInt8}{m:au}(h:bM ms nm=some m):∃pre post,ms=pre++m::post∧m.abs.name=nm:=by
 obtain⟨h1,h2⟩:=qG h;obtain⟨pre,post,e⟩:=List.append_of_mem h1;exact⟨pre,post,e,h2⟩
theorem Parts.LC{pre post:List au}{m m':au}(h:Parts w base d F A ah (pre++m::post))(hn:m'.abs.name=m.abs.name)(hb:m'.blk=m.blk)(ht:Turn m.foot w w')(hfa:iF w' base m')
 (hown:∀k∈m'.sl.ownBlock,k∈m.sl.ownBlock∨w.heap.size≤k)(hroom:A'.room=A.room)(hlim:A'.limited=A.limited)(hleft:A'.left=A.left)(hf:A'.files=pre.map (·.abs)++m'.abs::post.map (·.abs))(hg:Good A'):
 ∃F',Parts w' base d F' A' ah (pre++m'::post)∧(∀k∈F',k∈F∨k∈m'.sl.ownBlock)∧∀k∈F',k∈F∨w.heap.size≤k:=by
 have hnd:=h.nodup;have hlt:=h.lt;have hlo:=h.low;have hft:=h.foot;have hF:F=(d::(ah.toList++pre.flatMap au.foot))++(m.foot++post.flatMap au.foot):=by rw[hft];simp[List.flatMap_append]
 rw[hF]at hnd;have hblk:m.blk∈F:=by rw[hF];simp[au.foot]
 have hfresh:∀k∈m'.foot,k∈m.foot∨(k∉(d::(ah.toList++pre.flatMap au.foot))∧k∉post.flatMap au.foot):=by
  intro k hk;simp only[au.foot,List.mem_cons,Option.mem_toList]at hk;rcases hk with rfl|hk
  ·exact .inl (by simp[au.foot,hb])
  ·rcases hown k hk with h1|h1
   ·exact .inl (by simp only[au.foot,List.mem_cons,Option.mem_toList];exact .inr h1)
   ·refine .inr ⟨fun e=>?_,fun e=>?_⟩
    ·have:=hlt k (by rw[hF];exact List.mem_append.2 (.inl e));omega
    ·have:=hlt k (by rw[hF];exact List.mem_append.2 (.inr (List.mem_append.2 (.inr e))));omega
 have hnd':m'.foot.Nodup:=by
  simp only[au.foot,List.nodup_cons,Option.mem_toList];refine⟨fun e=>?_,by cases m'.sl.ownBlock<;>simp⟩;rcases hown _ e with h1|h1
  ·rw[hb]at h1
   have:m.foot.Nodup:=by
    have:=hnd;rw[List.nodup_append,List.nodup_append]at this;exact this.2.1.1
   simp only[au.foot,List.nodup_cons,Option.mem_toList]at this;exact this.1 h1
  ·rw[hb]at h1;have:=hlt _ hblk;omega
 have hsw:=Ju hnd hnd' hfresh;have hsep:∀x,(x∈(d::(ah.toList++pre.flatMap au.foot))∨x∈post.flatMap au.foot)→x∉m.foot:=by
  intro x hx e;rw[List.nodup_append,List.nodup_append]at hnd;rcases hx with hx|hx
  ·exact hnd.2.2 x hx x (List.mem_append.2 (.inl e)) rfl
  ·exact hnd.2.1.2.2 x e x hx rfl
 have hin0:∀k∈(d::(ah.toList++pre.flatMap au.foot))++(m'.foot++post.flatMap au.foot),k∈F∨k∈m'.sl.ownBlock:=by
  intro k hk;rw[hF];simp only[List.mem_append]at hk⊢;rcases hk with hk|hk|hk
  ·exact .inl (.inl hk)
  ·simp only[au.foot,List.mem_cons,Option.mem_toList]at hk
   rcases hk with rfl|hk
   ·exact .inl (.inr (.inl (by simp[au.foot,hb])))
   ·exact .inr hk
  ·exact .inl (.inr (.inr hk))
 have hin:∀k∈(d::(ah.toList++pre.flatMap au.foot))++(m'.foot++post.flatMap au.foot),k∈F∨w.heap.size≤k:=by
  intro k hk;rw[hF];simp only[List.mem_append]at hk⊢;rcases hk with hk|hk|hk
  ·exact .inl (.inl hk)
  ·simp only[au.foot,List.mem_cons,Option.mem_toList]at hk
   rcases hk with rfl|hk
   ·exact .inl (.inr (.inl (by simp[au.foot,hb])))
   ·rcases hown k hk with h1|h1
    ·exact .inl (.inr (.inl (by simp only[au.foot,List.mem_cons,Option.mem_toList];exact .inr h1)))
    ·exact .inr h1
  ·exact .inl (.inr (.inr hk))
 refine⟨_,{foot:=?_,nodup:=hsw,low:=?_,self:=?_,map:=?_,each:=?_,files:=?_,good:=hg},hin0,hin⟩
 ·simp[List.flatMap_append]
 ·intro k hk
  rcases hin k hk with h1|h1
  ·exact hlo k h1
  ·have:=hlo _ hblk;have:=hlt _ hblk;omega
 ·rw[hroom,hlim,hleft]
  exact ht.heap h.self (hsep d (.inl (by simp)))
 ·refine(h.map.kept ht (fun k hk=>hsep k (.inl ?_))).congr ?_
  ·simp only[List.mem_cons,List.mem_append,Option.mem_toList];exact .inr (.inl hk)
  ·simp[hn,hb]
 ·intro x hx
  rcases List.mem_append.1 hx with hx|hx
  ·exact(h.each x (by simp[hx])).kept ht (fun k hk=>hsep k (.inl (by simp only[List.mem_cons,List.mem_append,List.mem_flatMap];exact .inr (.inr ⟨x,hx,hk⟩))))
  ·rcases List.mem_cons.1 hx with rfl|hx
   ·exact hfa
   ·exact(h.each x (by simp[hx])).kept ht (fun k hk=>hsep k (.inr (List.mem_flatMap.2 ⟨x,hx,hk⟩)))
 ·rw[hf];simp
def DA.upd(A:DA)(nm:List UInt8)(g:FA→FA):DA:={A with files:=dR A.files nm g}
theorem Jv{pre post:List au}{m:au}(h:Parts w base d F A ah (pre++m::post))(g:FA→FA):(A.upd m.abs.name g).files=pre.map (·.abs)++g m.abs::post.map (·.abs):=by
 have hn:=h.good.names;unfold DA.upd;have hf:=h.files;simp only[List.map_append,List.map_cons]at hf;rw[hf]at hn⊢;exact S9 _ _ _ g hn
theorem Good.upd(h:Good A){nm:List UInt8}{g:FA→FA}(hn:∀f∈A.files,(g f).name=f.name)(hs:∀f∈A.files,f.safe≤f.bytes.length→(g f).safe≤(g f).bytes.length)(hu:bH (dR A.files nm g)≤A.room):Good (A.upd nm g) where
 room:=h.room
 used:=hu
 count:=by simp[DA.upd,O9];exact h.count
 names:=by
  have:(dR A.files nm g).map (·.name)=A.files.map (·.name):=by
   unfold dR;rw[List.map_map];apply List.map_congr_left;intro f hf;simp only[Function.comp_def];split
   ·exact hn f hf
   ·rfl
  show((dR A.files nm g).map (·.name)).Nodup;rw[this];exact h.names
 short:=by
  intro f hf;obtain⟨f',hf',rfl⟩:=List.mem_map.1 hf;split
  ·rw[hn f' hf'];exact h.short f' hf'
  ·exact h.short f' hf'
 safe:=by
  intro f hf;obtain⟨f',hf',rfl⟩:=List.mem_map.1 hf;split
  ·exact hs f' hf' (h.safe f' hf')
  ·exact h.safe f' hf'
 left:=h.left
def DA.sync(A:DA)(nm:List UInt8):Int×DA:=
 if A.fails then(14,A)
 else if !A.has nm then(7,A.tick)
 else(0,A.tick.upd nm (fun f=>{f with safe:=f.bytes.length}))
theorem ND{l:List FA}{nm:List UInt8}{g:FA→FA}(h:∀f∈l,(g f).bytes.length=f.bytes.length):bH (dR l nm g)=bH l:=by
 unfold bH dR;rw[List.map_map];congr 1
 apply List.map_congr_left;intro f hf;simp only[Function.comp_def];split
 ·exact h f hf
 ·rfl
set_option maxRecDepth 100000 in
set_option maxHeartbeats 1000000 in
theorem lY(h:Parts w base d F A ah ms)(s:ByteArray)(hs:s.size≤maxLen):
 Calls Tryz.prog 176 #[.pointer (some ⟨d,0,none⟩), .string s] w fun e w'=>e= .returned (aW (A.sync s.data.toList).1)∧fE w w' base d F (A.sync s.data.toList).2:=by
 have H:Hid (Parts w base d F A ah ms):=h;have hdF:=h.jH;have hhas:=Bf h s.data.toList;clear h;cases hf:A.fails
 case true=>
  have HV:Hid (A.sync s.data.toList=(14,A)):=by show _=_;simp[DA.sync,hf]
  have HF:Hid (A.fails=true):=hf;clear hf hhas;go_enter Tryz.func176,Tryz.ntmps176
  go_wp2_with (go_at_call 85;refine(mZ H.out HF.out _).mono ?_;rintro e w' ⟨rfl,rfl⟩;unfold dI)
  go_ret
  exact⟨by rw[HV.out];rfl,by rw[HV.out];exact fE.none H.out⟩
 case false=>
  have HF:Hid (A.fails=false):=hf;cases hm:bM ms s.data.toList with
  |none=>
   have HV:Hid (A.sync s.data.toList=(7,A.tick)):=by show _=_;simp[DA.sync,hf,hhas,hm]
   have HM:Hid (bM ms s.data.toList=none):=hm;clear hf hhas hm;go_enter Tryz.func176,Tryz.ntmps176
   go_wp2_with (go_at_call 85;refine(iG H.out HF.out _ hs _ HM.out).mono ?_;rintro e w1 ⟨rfl,hp,ht⟩;simp only[tN];unfold dI)
   go_ret
   exact⟨by rw[HV.out];rfl,by rw[HV.out];exact fE.tick hp hdF ht⟩
  |some m=>
   have HV:Hid (A.sync s.data.toList=(0,A.tick.upd s.data.toList (fun f=>{f with safe:=f.bytes.length}))):=by show _=_;simp[DA.sync,hf,hhas,hm]
   have HM:Hid (bM ms s.data.toList=some m):=hm;clear hf hhas hm;go_enter Tryz.func176,Tryz.ntmps176
   go_wp2_with fail
   refine(iG H.out HF.out _ hs _ HM.out).mono ?_;rintro e w1 ⟨rfl,hp,ht⟩;simp only[tN];have HP:Hid (Parts w1 base d F A.tick ah ms):=hp;obtain⟨pre,post,rfl,hnm⟩:=tX HM.out;have hfa:=hp.each m (by simp);obtain⟨sa,sc,hsl,hsl1,hsl2⟩:=hfa.2.form;have cf:w1.cell? ⟨m.blk,0,none⟩=some (.slice sa m.abs.bytes.length sc):=by rw[cell_of hfa.1,hsl];rfl
   have cg:w1.cell? ⟨m.blk,1,none⟩=some (.int .i64 m.abs.safe):=by rw[cell_of hfa.1];rfl
   have ff:w1.frozen? ⟨m.blk,1,none⟩=false:=af hfa.1 1;have XF:Hid (iF w1 base m):=hfa;have HS:Hid (m.sl= .slice sa m.abs.bytes.length sc):=hsl;have Vz:Hid (m.abs.name=s.data.toList):=hnm;clear hp hfa hsl hnm;go_wp2
   go_ret
   have ht2:Turn m.foot w1 (w1.setCell ⟨m.blk,1,none⟩ (.int .i64 m.abs.bytes.length)):=(Turn.refl _ _).setCell (by simp[au.foot]) _;have hnew:iF (w1.setCell ⟨m.blk,1,none⟩ (.int .i64 m.abs.bytes.length)) base ⟨{m.abs with safe:=m.abs.bytes.length},m.blk,m.sl⟩:=by
    refine⟨by rw[heap_set XF.out.1];simp,?_⟩;have hnd:=HP.out.nodup;rw[HP.out.foot]at hnd;simp only[List.flatMap_append,List.flatMap_cons,List.nodup_cons,List.nodup_append,au.foot,List.mem_append,List.mem_cons]at hnd;exact XF.out.2.kept (S:=[m.blk]) ((Turn.refl _ _).setCell (by simp) _) (by
     intro k hk e;simp only[List.mem_singleton]at e;subst e;exact hnd.2.2.1.2.1.1.1 (by simpa using hk))
   have hgood:Good (A.tick.upd m.abs.name (fun f=>{f with safe:=f.bytes.length})):=HP.out.good.upd (fun _ _=>rfl) (fun _ _ _=>Nat.le_refl _) (by rw[ND (g:=fun f=>{f with safe:=f.bytes.length}) (fun _ _=>rfl)];exact HP.out.good.used);obtain⟨F',hP,_,hF'⟩:=HP.out.LC (m':=⟨{m.abs with safe:=m.abs.bytes.length},m.blk,m.sl⟩) rfl rfl ht2 hnew (fun k hk=> .inl hk) (A':=A.tick.upd m.abs.name (fun f=>{f with safe:=f.bytes.length})) rfl rfl rfl (Jv HP.out _) hgood;refine⟨by rw[HV.out];rfl,?_⟩;rw[HV.out,←Vz.out];refine⟨F',⟨_,_,hP⟩,(ht.mono (by simpa using .inl hdF)).trans ht2 (fun k hk=> .inl (HP.out.Bc (m:=m) (by simp) hk)),fun k hk=>?_⟩;rcases hF' k hk with h1|h1
   ·exact .inl h1
   ·have:=ht.size;exact .inr (by omega)
end
section
variable {w w':World} {base d:Nat} {F:List Nat} {A A':DA} {ah:Option Nat} {ms:List au}
def DA.add(A:DA)(nm:List UInt8)(bs:List UInt8):Int×DA:=
 if A.fails then(14,A)
 else if !A.has nm then(7,A.tick)
 else if A.room<bH A.files+bs.length then(12,A.tick)
 else(0,A.tick.upd nm (fun f=>{f with bytes:=f.bytes++bs}))
theorem jB(l r:List FA)(f:FA):bH (l++f::r)=bH l+f.bytes.length+bH r:=by
 simp[bH,List.sum_append];omega
theorem Tryz.LD:(Tryz.prog.info? 5).map (fun i=>(i.zero,i.size,i.bytes))=some (some (.int .u8 0),1,1):=by kernel_rfl
set_option maxRecDepth 100000 in
set_option maxHeartbeats 1000000 in
theorem add_any(h:Parts w base d F A ah ms)(s:ByteArray)(hs:s.size≤maxLen)(v:Value)(bs:List UInt8)(hxk:∀Z,Turn F w Z→SliceAt Z v (bs.map aj))(hbs:bs.length≤1099511627776):
 Calls Tryz.prog 224 #[.pointer (some ⟨d,0,none⟩), .string s,v] w fun e w'=>e= .returned (aW (A.add s.data.toList bs).1)∧fE w w' base d F (A.add s.data.toList bs).2:=by
 have hx:=hxk w (Turn.refl _ _);have H:Hid (Parts w base d F A ah ms):=h;have hdF:=h.jH;have hhas:=Bf h s.data.toList;have hroom:=h.good.room;have UY:=h.good.used;clear h;cases hf:A.fails
 case true=>
  have HV:Hid (A.add s.data.toList bs=(14,A)):=by show _=_;simp[DA.add,hf]
  have HF:Hid (A.fails=true):=hf;clear hf hhas hroom UY hx;go_enter Tryz.func224,Tryz.ntmps224
  go_wp2_with (go_at_call 85;refine(mZ H.out HF.out _).mono ?_;rintro e w' ⟨rfl,rfl⟩;unfold dI)
  go_ret
  exact⟨by rw[HV.out];rfl,by rw[HV.out];exact fE.none H.out⟩
 case false=>
  have HF:Hid (A.fails=false):=hf;cases hm:bM ms s.data.toList with
  |none=>
   have HV:Hid (A.add s.data.toList bs=(7,A.tick)):=by show _=_;simp[DA.add,hf,hhas,hm]
   have HM:Hid (bM ms s.data.toList=none):=hm;clear hf hhas hm hroom UY hx;go_enter Tryz.func224,Tryz.ntmps224
   go_wp2_with (go_at_call 85;refine(iG H.out HF.out _ hs _ HM.out).mono ?_;rintro e w1 ⟨rfl,hp,ht⟩;simp only[tN];unfold dI)
   go_ret
   exact⟨by rw[HV.out];rfl,by rw[HV.out];exact fE.tick hp hdF ht⟩
  |some m=>
   have HM:Hid (bM ms s.data.toList=some m):=hm;have hsl0:∃xa xc,v= .slice xa bs.length xc:=by
    rcases hx with⟨rfl,hb⟩|⟨a,c,rfl,_⟩
    ·have:bs=[]:=by simpa using hb
     subst this;exact⟨_,_,rfl⟩
    ·exact⟨some a,c,by simp⟩
   obtain⟨xa,xc,rfl⟩:=hsl0;have HX:Hid (SliceAt w (.slice xa bs.length xc) (bs.map aj)):=hx;have hwr:IntKind.i64.wrap ((bH A.files:Int)+(bs.length:Int))=(bH A.files:Int)+(bs.length:Int):=by
    rw[IntWalk.i64_left,IntWalk.wrap64_in _ (by omega)]
   by_cases hfull:A.room<bH A.files+bs.length
   ·have HV:Hid (A.add s.data.toList bs=(12,A.tick)):=by show _=_;simp[DA.add,hf,hhas,hm,hfull]
    clear hf hhas hm hx;have hfi:(A.room:Int)<(bH A.files:Int)+bs.length:=by omega
    go_enter Tryz.func224,Tryz.ntmps224
    go_wp2_with fail
    refine(iG H.out HF.out _ hs _ HM.out).mono ?_;rintro e w1 ⟨rfl,hp,ht⟩;simp only[tN];have c0:=hp.c0;rw[jP]at c0;have hu1:∀W,Turn [] w1 W→Calls Tryz.prog 266 #[.pointer (some ⟨d,0,none⟩)] W fun e w'=>e= .returned (.int .i64 (bH A.files))∧Turn [] W w':=by
     intro W hW;have hq:=Gy (hp.kept hW (by simp));rw[dw]at hq;exact hq
    have HP:Hid (Parts w1 base d F A.tick ah ms):=hp;have HU:Hid (∀W,Turn [] w1 W→Calls Tryz.prog 266 #[.pointer (some ⟨d,0,none⟩)] W fun e w'=>e= .returned (.int .i64 (bH A.files))∧Turn [] W w'):=hu1;clear hp hu1;go_wp2_with fail
    go_region_with (go_at_call 266;refine(HU.out _ (by repeat (first|exact Turn.refl _ _|refine Turn.drew ?_))).mono ?_;rintro e w2 ⟨rfl,ht2⟩;have ht3:Turn [] w1 w2:=Turn.same (by repeat (first|exact Turn.refl _ _|refine Turn.drew ?_)) ht2;have c02:w2.cell? ⟨d,0,none⟩=some (.int .i64 A.room):=by {have hq:=(HP.out.kept ht3 (by simp)).c0;rw[jP]at hq;exact hq})
    all_goals
     go_wp2
     go_ret
     exact⟨by rw[HV.out];rfl,by rw[HV.out];exact fE.tick (HP.out.kept ht3 (by simp)) hdF (ht.trans ht3 (by simp))⟩
   ·have HV:Hid (A.add s.data.toList bs=(0,A.tick.upd s.data.toList (fun f=>{f with bytes:=f.bytes++bs}))):=by show _=_;simp[DA.add,hf,hhas,hm,hfull]
    obtain⟨i0,hi,hz,hz1,hz2⟩:=info_parts Tryz.LD;clear hf hhas hm hx;have hfi:((bH A.files:Int)+bs.length≤A.room):=by omega
    go_enter Tryz.func224,Tryz.ntmps224
    go_wp2_with fail
    refine(iG H.out HF.out _ hs _ HM.out).mono ?_;rintro e w1 ⟨rfl,hp,ht⟩;simp only[tN];have c0:=hp.c0;rw[jP]at c0;have hu1:∀W,Turn [] w1 W→Calls Tryz.prog 266 #[.pointer (some ⟨d,0,none⟩)] W fun e w'=>e= .returned (.int .i64 (bH A.files))∧Turn [] W w':=by
     intro W hW;have hq:=Gy (hp.kept hW (by simp));rw[dw]at hq;exact hq
    have HP:Hid (Parts w1 base d F A.tick ah ms):=hp;have HU:Hid (∀W,Turn [] w1 W→Calls Tryz.prog 266 #[.pointer (some ⟨d,0,none⟩)] W fun e w'=>e= .returned (.int .i64 (bH A.files))∧Turn [] W w'):=hu1;clear hp hu1;obtain⟨pre,post,rfl,hnm⟩:=tX HM.out;have Vz:Hid (m.abs.name=s.data.toList):=hnm;clear hnm;go_wp2_with fail
    go_region_with (go_at_call 266;refine(HU.out _ (by repeat (first|exact Turn.refl _ _|refine Turn.drew ?_))).mono ?_;rintro e w2 ⟨rfl,ht2⟩;have ht3:Turn [] w1 w2:=Turn.same (by repeat (first|exact Turn.refl _ _|refine Turn.drew ?_)) ht2;have c02:w2.cell? ⟨d,0,none⟩=some (.int .i64 A.room):=by {have hq:=(HP.out.kept ht3 (by simp)).c0;rw[jP]at hq;exact hq})
    all_goals
     have HP2:Hid (Parts w2 base d F A.tick ah (pre++m::post)):=HP.out.kept ht3 (by simp);have hfa:=HP2.out.each m (by simp);obtain⟨sa,sc,hsl,hsl1,hsl2⟩:=hfa.2.form;have cf:w2.cell? ⟨m.blk,0,none⟩=some (.slice sa m.abs.bytes.length sc):=by rw[cell_of hfa.1,hsl];rfl
     have XF:Hid (iF w2 base m):=hfa;have HS:Hid (m.sl= .slice sa m.abs.bytes.length sc):=hsl;have hX2:SliceAt w2 (.slice xa bs.length xc) (bs.map aj):=hxk w2 ((ht.mono (by simpa using .inl hdF)).trans ht3 (by simp));have hml:m.abs.bytes.length≤bH A.files:=by
      have hq:=HP.out.files;rw[dw]at hq;rw[hq,List.map_append,List.map_cons,jB];omega
     have hbl:base≤w2.heap.size:=by have:=HP2.out.low d hdF;have:=HP2.out.lt d hdF;omega
     have HX2:Hid (SliceAt w2 (.slice xa bs.length xc) (bs.map aj)):=hX2;have hnb:m.blk∉m.sl.ownBlock.toList:=by
      have hnd:=HP.out.nodup;rw[HP.out.foot]at hnd;simp only[List.flatMap_append,List.flatMap_cons,List.nodup_cons,List.nodup_append,au.foot]at hnd;exact hnd.2.2.1.2.1.1.1
     have rH:Hid (m.blk∉m.sl.ownBlock.toList):=hnb;clear hfa hsl hX2 hnb;go_wp2_with (at_builtin;go_must (refine iq _ rfl _ _ 97 rfl 5 base i0 Tryz.underlying97 hi hz hz1 hz2 (.slice sa m.abs.bytes.length sc) (.slice xa bs.length xc) m.abs.bytes bs rfl rfl (by rw[←HS.out];exact XF.out.2) HX2.out (by omega) hbl ?_;intro v3 w3 hrow3 ht4 hown3;rw[←HS.out]at ht4 hown3;have hb3:=ht4.heap XF.out.1 rH.out;have cf3:=cell_of hb3 0;have ff3:=af hb3 0;simp only[List.getElem?_toArray,List.getElem?_cons_zero]at cf3;have HB3:Hid (w3.heap[m.blk]? =_):=hb3;clear hb3;obtain⟨a3,c3,hv3,h31,h32⟩:=hrow3.form;rw[List.length_append]at hv3;subst hv3;have HR3:Hid (bC w3 5 base _ (m.abs.bytes++bs)):=hrow3;clear hrow3))
     go_ret
     have ht5:Turn m.foot w2 (w3.setCell ⟨m.blk,0,none⟩ (.slice a3 (m.abs.bytes.length+bs.length) c3)):=(ht4.mono (by intro k hk;exact .inl (by simp only[au.foot,List.mem_cons];exact .inr hk))).setCell (by simp[au.foot]) _;have hle4:=ht4.size;have hne3:m.blk∉(Value.slice a3 (m.abs.bytes.length+bs.length) c3).ownBlock:=by
      intro e;rcases hown3 _ e with h1|h1
      ·exact rH.out (by simpa using h1)
      ·have:=lt_of_heap XF.out.1;omega
     have hnew:iF (w3.setCell ⟨m.blk,0,none⟩ (.slice a3 (m.abs.bytes.length+bs.length) c3)) base ⟨{m.abs with bytes:=m.abs.bytes++bs},m.blk, .slice a3 (m.abs.bytes.length+bs.length) c3⟩:=
      ⟨by rw[heap_set HB3.out];simp,HR3.out.kept (S:=[m.blk]) ((Turn.refl _ _).setCell (by simp) _) (by intro k hk e;simp only[List.mem_singleton]at e;subst e;exact hne3 hk)⟩
     have hgood:Good (A.tick.upd m.abs.name (fun f=>{f with bytes:=f.bytes++bs})):=HP.out.good.upd (fun _ _=>rfl) (fun f _ hh=>by show f.safe≤(f.bytes++bs).length;rw[List.length_append];omega) (by
      have hu:=Jv HP.out (fun f=>{f with bytes:=f.bytes++bs});have hq:=HP.out.files;have hu2:bH A.files+bs.length≤A.room:=by omega
      have e:dR A.tick.files m.abs.name (fun f=>{f with bytes:=f.bytes++bs})=(A.tick.upd m.abs.name (fun f=>{f with bytes:=f.bytes++bs})).files:=rfl;rw[e,hu,jB,jP];rw[dw]at hq;rw[hq,List.map_append,List.map_cons,jB]at hu2;simp only[List.length_append];omega)
     obtain⟨F',hP,_,hF'⟩:=HP2.out.LC (m':=⟨{m.abs with bytes:=m.abs.bytes++bs},m.blk, .slice a3 (m.abs.bytes.length+bs.length) c3⟩) rfl rfl ht5 hnew hown3 (A':=A.tick.upd m.abs.name (fun f=>{f with bytes:=f.bytes++bs})) rfl rfl rfl (Jv HP.out _) hgood;refine⟨by rw[HV.out];rfl,?_⟩;rw[HV.out,←Vz.out];refine⟨F',⟨_,_,hP⟩,((ht.mono (by simpa using .inl hdF)).trans ht3 (by simp)).trans ht5 (fun k hk=> .inl (HP.out.Bc (m:=m) (by simp) hk)),fun k hk=>?_⟩;rcases hF' k hk with h1|h1
     ·exact .inl h1
     ·have:=ht.size;have:=ht3.size;exact .inr (by omega)
end
end Dk
end
section
open Go.RowKit Go.Maps
set_option linter.unusedSimpArgs false
set_option linter.unusedVariables false
namespace Dk
section
variable {w w':World} {base d:Nat} {F:List Nat} {A A':DA} {ah:Option Nat} {ms:List au}
theorem Pg(ts:Array TypeId)(t:TypeId)(x y:Int)(w:World):(Builtin.min_ ts t #[.int .i64 x, .int .i64 y]).run Tryz.prog w= .ok (.int .i64 (if y<x then y else x)) w:=by
 simp[Builtin.min_,Builtin.min2]
def tY(sl:Value)(n:Nat):Value:=match sl with
 | .slice a _ _=> .slice a n n
 |v=>v
theorem bC.cut{w:World}{e base:Nat}{sl:Value}{bs:List UInt8}{n:Nat}(h:bC w e base sl bs)(hn:n≤bs.length):bC w e base (tY sl n) (bs.take n):=by
 rcases h with⟨rfl,rfl⟩|⟨g,cap,cur,rfl,hb,hg,h1,h2,h3,h4⟩
 ·have:n=0:=by simpa using hn
  subst this;exact .inl ⟨rfl,rfl⟩
 ·refine .inr ⟨g,n,cur,by simp[tY];omega,hb,hg,by simp;omega,by omega,by omega,?_⟩
  rw[show(bs.take n).length=n by simp;omega];rw[List.map_take,←h4,List.take_take];congr 1;omega
theorem NF(sl:Value)(n:Nat):∀k∈(tY sl n).ownBlock,k∈sl.ownBlock:=by
 intro k hk;unfold tY at hk;split at hk
 ·rename_i a _ _
  cases a<;>simp[Value.ownBlock]at hk⊢
  exact hk
 ·exact hk
set_option maxRecDepth 100000 in
set_option maxHeartbeats 1000000 in
theorem keep_any{m:au}(h:iF w base m)(hnb:m.blk∉m.sl.ownBlock)(n:Nat)(hn:n≤m.abs.bytes.length)(hbig:m.abs.bytes.length≤1048576)(hsafe:m.abs.safe≤m.abs.bytes.length):
 Calls Tryz.prog 260 #[.pointer (some ⟨m.blk,0,none⟩), .int .i64 n] w fun e w'=>e= .returned (.tuple #[])∧iF w' base ⟨{m.abs with bytes:=m.abs.bytes.take n,safe:=min m.abs.safe n},m.blk,tY m.sl n⟩∧Turn [m.blk] w w':=by
 obtain⟨sa,sc,hsl,hsl1,hsl2⟩:=h.2.form;have cf:w.cell? ⟨m.blk,0,none⟩=some (.slice sa m.abs.bytes.length sc):=by rw[cell_of h.1,hsl];rfl
 have cg:w.cell? ⟨m.blk,1,none⟩=some (.int .i64 m.abs.safe):=by rw[cell_of h.1];rfl
 have f0:w.frozen? ⟨m.blk,0,none⟩=false:=af h.1 0;have f1:w.frozen? ⟨m.blk,1,none⟩=false:=af h.1 1;have H:Hid (iF w base m):=h;have HS:Hid (m.sl= .slice sa m.abs.bytes.length sc):=hsl;have rH:Hid (m.blk∉m.sl.ownBlock):=hnb;have hs3:∀w,(Instr.slice 97 (.slice sa m.abs.bytes.length sc) none (some (.int .i64 (n:Int))) (some (.int .i64 (n:Int)))).run Tryz.prog w= .ok (.slice sa n n) w:=by
  intro w;have hsz:(sizeOf 5).run Tryz.prog w= .ok 1 w:=by kernel_rfl
  simp[Instr.slice,run_underlying Tryz.underlying97,Instr.sliceBounds,run_sliceBound,hsz,Result.andThen,(by omega:n≤sc),Addr.add]
 have hmin:=Pg;clear h hsl hnb;have HC:Hid (tY m.sl n= .slice sa n n):=by show _=_;rw[HS.out];rfl
 have HR:Hid (bC w 5 base (.slice sa n n) (m.abs.bytes.take n)):=by have:=bC.cut H.out.2 hn;rw[HC.out]at this;exact this
 have hfin:∀q:Nat,q=min m.abs.safe n→iF ((w.setCell ⟨m.blk,0,none⟩ (.slice sa n n)).setCell ⟨m.blk,1,none⟩ (.int .i64 (q:Int))) base ⟨{m.abs with bytes:=m.abs.bytes.take n,safe:=min m.abs.safe n},m.blk,tY m.sl n⟩:=by
  intro q hq;refine⟨?_,?_⟩
  ·rw[heap_set (heap_set H.out.1 0 _) 1,HC.out,hq];simp
  ·show bC _ _ _ (tY m.sl n) (m.abs.bytes.take n)
   rw[HC.out];refine HR.out.kept (S:=[m.blk]) (((Turn.refl _ _).setCell (by simp) _).setCell (by simp) _) ?_;intro k hk e;simp only[List.mem_singleton]at e;subst e;exact rH.out (NF m.sl n _ (by rw[HC.out];exact hk))
 have HFin:Hid (∀q:Nat,q=min m.abs.safe n→iF ((w.setCell ⟨m.blk,0,none⟩ (.slice sa n n)).setCell ⟨m.blk,1,none⟩ (.int .i64 (q:Int))) base ⟨{m.abs with bytes:=m.abs.bytes.take n,safe:=min m.abs.safe n},m.blk,tY m.sl n⟩):=hfin;clear hfin;by_cases hsn:(n:Int)<(m.abs.safe:Int)
 all_goals
  go_enter Tryz.func260,Tryz.ntmps260
  go_wp2
  go_end0
  exact⟨rfl,HFin.out _ (by omega),((Turn.refl _ _).setCell (by simp) _).setCell (by simp) _⟩
end
def UZ(fs:List UInt8)(k:Nat):Nat:=if fs.length=0 then 0 else(fs.getD (k%fs.length) 0).toNat
end Dk
end
end Go.Proofs.YtmjpdhpmjmgmaaaGreatDoor
section
open Go.Shelf
namespace Go.Proofs
def Tryz.pW:Go.Shelf.Ren:=⟨fun|7=>123|10=>170|n=>n,fun|23=>91|26=>9|3=>133|28=>126|0=>0|27=>125|33=>140|4=>4|n=>n,fun|n=>n⟩
theorem Tryz.keys123:Go.Proofs.SlLaysZ.n7 Tryz.prog Tryz.pW:={
 mixed:=by kernel_rfl
 f7:=⟨Tryz.f123.name,by decide,Tryz.func123.trans (congrArg some (by kernel_rfl))⟩
 f10:=⟨Tryz.f170.name,by decide,Tryz.func170.trans (congrArg some (by kernel_rfl))⟩
 t0:=Tryz.underlying0
 a0:=Tryz.isAgg0
 z0:=Tryz.sizeOf0
 v0:=Tryz.zeroValue0
 t4:=Tryz.underlying4
 a4:=Tryz.isAgg4
 z4:=Tryz.sizeOf4
 v4:=Tryz.zeroValue4
 t23:=Tryz.underlying91
 a23:=Tryz.isAgg91
 z23:=Tryz.sizeOf91
 v23:=Tryz.zeroValue91
 t26:=Tryz.underlying9
 a26:=Tryz.isAgg9
 z26:=Tryz.sizeOf9
 v26:=Tryz.zeroValue9
 t27:=Tryz.underlying125
 a27:=Tryz.isAgg125
 z27:=Tryz.sizeOf125
 v27:=Tryz.zeroValue125
 t28:=Tryz.underlying126
 a28:=Tryz.isAgg126
 z28:=Tryz.sizeOf126
 v28:=Tryz.zeroValue126
 t33:=Tryz.underlying140
 a33:=Tryz.isAgg140
 z33:=Tryz.sizeOf140
 v33:=Tryz.zeroValue140}
def Tryz.rQ:Go.Shelf.Ren:=⟨fun|6=>122|8=>82|9=>169|11=>120|13=>155|12=>214|23=>203|24=>204|14=>248|15=>249|16=>250|17=>251|18=>252|19=>253|20=>254|21=>255|22=>256|25=>275|26=>236|27=>237|28=>276|29=>277|30=>278|31=>288|n=>n,fun|26=>9|28=>126|24=>138|0=>0|3=>3|37=>80|48=>277|50=>279|4=>4|40=>270|39=>269|45=>150|5=>5|9=>9|51=>305|55=>309|57=>334|58=>335|33=>140|n=>n,fun|n=>n⟩
theorem Tryz.sorted122:Go.Proofs.SlLaysZ.n6 Tryz.prog Tryz.rQ:={
 mixed:=by kernel_rfl
 f6:=⟨Tryz.f122.name,by decide,Tryz.func122.trans (congrArg some (by kernel_rfl))⟩
 f8:=⟨Tryz.f82.name,by decide,Tryz.func82.trans (congrArg some (by kernel_rfl))⟩
 f11:=⟨Tryz.f120.name,by decide,Tryz.func120.trans (congrArg some (by kernel_rfl))⟩
 t0:=Tryz.underlying0
 a0:=Tryz.isAgg0
 z0:=Tryz.sizeOf0
 v0:=Tryz.zeroValue0
 t24:=Tryz.underlying138
 a24:=Tryz.isAgg138
 z24:=Tryz.sizeOf138
 v24:=Tryz.zeroValue138
 t26:=Tryz.underlying9
 a26:=Tryz.isAgg9
 z26:=Tryz.sizeOf9
 v26:=Tryz.zeroValue9
 t28:=Tryz.underlying126
 a28:=Tryz.isAgg126
 z28:=Tryz.sizeOf126
 v28:=Tryz.zeroValue126
 i26:=by kernel_rfl}
def Tryz.Gz:Go.Shelf.Ren:=⟨fun|6=>169|8=>155|9=>214|19=>203|20=>204|21=>248|22=>249|23=>250|24=>251|25=>252|26=>253|27=>254|28=>255|29=>256|36=>275|31=>236|32=>237|37=>276|38=>277|39=>278|41=>288|n=>n,fun|27=>138|29=>9|3=>3|32=>80|26=>138|0=>0|44=>277|46=>279|4=>4|36=>270|35=>269|41=>150|5=>5|9=>9|53=>305|57=>309|63=>334|64=>335|n=>n,fun|n=>n⟩
theorem Tryz.sort169:Go.Proofs.SlLaysM.n6 Tryz.prog Tryz.Gz:={
 mixed:=by kernel_rfl
 f6:=⟨Tryz.f169.name,by decide,Tryz.func169.trans (congrArg some (by kernel_rfl))⟩
 f8:=Tryz.func155.trans (congrArg some (by kernel_rfl))
 f9:=⟨Tryz.f214.name,by decide,Tryz.func214.trans (congrArg some (by kernel_rfl))⟩
 f19:=Tryz.func203.trans (congrArg some (by kernel_rfl))
 f20:=Tryz.func204.trans (congrArg some (by kernel_rfl))
 f21:=⟨Tryz.f248.name,by decide,Tryz.func248.trans (congrArg some (by kernel_rfl))⟩
 f22:=⟨Tryz.f249.name,by decide,Tryz.func249.trans (congrArg some (by kernel_rfl))⟩
 f23:=⟨Tryz.f250.name,by decide,Tryz.func250.trans (congrArg some (by kernel_rfl))⟩
 f24:=⟨Tryz.f251.name,by decide,Tryz.func251.trans (congrArg some (by kernel_rfl))⟩
 f25:=⟨Tryz.f252.name,by decide,Tryz.func252.trans (congrArg some (by kernel_rfl))⟩
 f26:=⟨Tryz.f253.name,by decide,Tryz.func253.trans (congrArg some (by kernel_rfl))⟩
 f27:=⟨Tryz.f254.name,by decide,Tryz.func254.trans (congrArg some (by kernel_rfl))⟩
 f28:=⟨Tryz.f255.name,by decide,Tryz.func255.trans (congrArg some (by kernel_rfl))⟩
 f29:=⟨Tryz.f256.name,by decide,Tryz.func256.trans (congrArg some (by kernel_rfl))⟩
 f31:=Tryz.func236.trans (congrArg some (by kernel_rfl))
 f32:=Tryz.func237.trans (congrArg some (by kernel_rfl))
 f36:=⟨Tryz.f275.name,by decide,Tryz.func275.trans (congrArg some (by kernel_rfl))⟩
 f37:=⟨Tryz.f276.name,by decide,Tryz.func276.trans (congrArg some (by kernel_rfl))⟩
 f38:=⟨Tryz.f277.name,by decide,Tryz.func277.trans (congrArg some (by kernel_rfl))⟩
 f39:=⟨Tryz.f278.name,by decide,Tryz.func278.trans (congrArg some (by kernel_rfl))⟩
 f41:=⟨Tryz.f288.name,by decide,Tryz.func288.trans (congrArg some (by kernel_rfl))⟩
 t0:=Tryz.underlying0
 a0:=Tryz.isAgg0
 z0:=Tryz.sizeOf0
 v0:=Tryz.zeroValue0
 t3:=Tryz.underlying3
 a3:=Tryz.isAgg3
 z3:=Tryz.sizeOf3
 v3:=Tryz.zeroValue3
 t4:=Tryz.underlying4
 a4:=Tryz.isAgg4
 z4:=Tryz.sizeOf4
 v4:=Tryz.zeroValue4
 t5:=Tryz.underlying5
 a5:=Tryz.isAgg5
 z5:=Tryz.sizeOf5
 v5:=Tryz.zeroValue5
 t9:=Tryz.underlying9
 a9:=Tryz.isAgg9
 z9:=Tryz.sizeOf9
 v9:=Tryz.zeroValue9
 t26:=Tryz.underlying138
 a26:=Tryz.isAgg138
 z26:=Tryz.sizeOf138
 v26:=Tryz.zeroValue138
 t27:=Tryz.underlying138
 a27:=Tryz.isAgg138
 z27:=Tryz.sizeOf138
 v27:=Tryz.zeroValue138
 t29:=Tryz.underlying9
 a29:=Tryz.isAgg9
 z29:=Tryz.sizeOf9
 v29:=Tryz.zeroValue9
 t32:=Tryz.underlying80
 a32:=Tryz.isAgg80
 z32:=Tryz.sizeOf80
 v32:=Tryz.zeroValue80
 t35:=Tryz.underlying269
 a35:=Tryz.isAgg269
 z35:=Tryz.sizeOf269
 v35:=Tryz.zeroValue269
 t36:=Tryz.underlying270
 a36:=Tryz.isAgg270
 z36:=Tryz.sizeOf270
 v36:=Tryz.zeroValue270
 t41:=Tryz.underlying150
 a41:=Tryz.isAgg150
 z41:=Tryz.sizeOf150
 v41:=Tryz.zeroValue150
 t44:=Tryz.underlying277
 a44:=Tryz.isAgg277
 z44:=Tryz.sizeOf277
 v44:=Tryz.zeroValue277
 t46:=Tryz.underlying279
 a46:=Tryz.isAgg279
 z46:=Tryz.sizeOf279
 v46:=Tryz.zeroValue279
 t53:=Tryz.underlying305
 a53:=Tryz.isAgg305
 z53:=Tryz.sizeOf305
 v53:=Tryz.zeroValue305
 t57:=Tryz.underlying309
 a57:=Tryz.isAgg309
 z57:=Tryz.sizeOf309
 v57:=Tryz.zeroValue309
 t63:=Tryz.underlying334
 a63:=Tryz.isAgg334
 z63:=Tryz.sizeOf334
 v63:=Tryz.zeroValue334
 t64:=Tryz.underlying335
 a64:=Tryz.isAgg335
 z64:=Tryz.sizeOf335
 v64:=Tryz.zeroValue335}
end Go.Proofs
end
section
open Go.RowKit Go.Maps Go.Sort Go.Shelf
namespace Go.Proofs
theorem Tryz.GG(m:Nat):AnyZ.SortsIn Tryz.prog Tryz.rQ Fence.wide m:=
 ⟨fun blk off cap ss W hH hblk hsz=>callsIn_wide.2 (AnyM.slices_Sort_string Tryz.sort169 blk off cap ss W hH hblk hsz),
  fun p cap W=>callsIn_wide.2 (AnyM.slices_Sort_string_none Tryz.sort169 p cap W)⟩
theorem Tryz.Dt(mb:Option Nat)(W:World):CallsIn Fence.wide 5 Tryz.prog 123 #[.map mb] W fun e w'=>e= .returned (.func (.func 170) #[] #[.pointer (some ⟨W.heap.size,0,none⟩)])∧w'=W.alloc (.cells #[.map mb] 91):=
 AnyZ.keys_in Tryz.keys123 Fence.wide 5 trivial rfl mb W
set_option maxHeartbeats 1000000 in
theorem Tryz.lZ{H:Type}(b nn:Nat)(D0:DataW H)(R:Value→Option (DataW H×List MemPlace))(w:World)(hown:w.ownsMap Tryz.prog 9 R b nn D0)(hmax:Maps.size D0≤maxLen)(hbytes:Maps.size D0*16≤140737488355328):
 CallsIn Fence.wide 5 Tryz.prog 122 #[.func (.func 170) #[] #[.pointer (some ⟨w.heap.size,0,none⟩)]] (w.alloc (.cells #[.map (some b)] 91)) fun e w'=>∃(v:Value) (ss:List (List UInt8)),e= .returned v∧ss.Perm (strKeys D0)∧
  w'.ownsRow (w.alloc (.cells #[.map (some b)] 91)).heap.size 9 1 v ss.length ((ss.mergeSort (fun x y=>decide (x≤y))).map encStr)∧(v= .slice none 0 0↔ss=[])∧Below (w.alloc (.cells #[.map (some b)] 91)).heap.size (w.alloc (.cells #[.map (some b)] 91)) w':=by
 have hbl:=hown.lt;have hseq:SeqGives Fence.wide 2 Tryz.prog 170 #[.pointer (some ⟨w.heap.size,0,none⟩)] encStr (fun ss=>ss.Perm (strKeys D0)) (Maps.size D0) (w.alloc (.cells #[.map (some b)] 91)):=
  AnyZ.keys_gives (ρ:=Tryz.pW) {Tryz.keys123 with} Fence.wide _ trivial rfl (by omega) w.heap.size b nn D0 _ (by simp) (by simp) (by
   obtain⟨es,clock,hb,Ft,hs,hD⟩:=hown;exact⟨es,clock,(Below.heap_alloc _ _ b hbl).trans hb,Ft,hs,hD⟩)
 exact AnyZ.sorted_in Tryz.sorted122 Fence.wide 5 trivial trivial trivial trivial rfl (by omega) (Tryz.GG _) (enters_of Tryz.func169 (by kernel_rfl) rfl) 170 #[.pointer (some ⟨w.heap.size,0,none⟩)] trivial (enters_of Tryz.func170 (by kernel_rfl) rfl) _ _ hmax hbytes _ hseq
set_option maxHeartbeats 1000000 in
theorem Tryz.jS(w:World):
 CallsIn Fence.wide 5 Tryz.prog 122 #[.func (.func 170) #[] #[.pointer (some ⟨w.heap.size,0,none⟩)]] (w.alloc (.cells #[.map none] 91)) fun e w'=>∃(v:Value) (ss:List (List UInt8)),e= .returned v∧ss=[]∧
  w'.ownsRow (w.alloc (.cells #[.map none] 91)).heap.size 9 1 v ss.length ((ss.mergeSort (fun x y=>decide (x≤y))).map encStr)∧(v= .slice none 0 0↔ss=[])∧Below (w.alloc (.cells #[.map none] 91)).heap.size (w.alloc (.cells #[.map none] 91)) w':=by
 have hseq:SeqGives Fence.wide 2 Tryz.prog 170 #[.pointer (some ⟨w.heap.size,0,none⟩)] encStr (fun ss:List (List UInt8)=>ss=[]) 0 (w.alloc (.cells #[.map none] 91)):=
  AnyZ.keys_gives_nil (ρ:=Tryz.pW) {Tryz.keys123 with} Fence.wide _ trivial rfl w.heap.size _ (by simp) (by simp)
 exact AnyZ.sorted_in Tryz.sorted122 Fence.wide 5 trivial trivial trivial trivial rfl (by omega) (Tryz.GG _) (enters_of Tryz.func169 (by kernel_rfl) rfl) 170 #[.pointer (some ⟨w.heap.size,0,none⟩)] trivial (enters_of Tryz.func170 (by kernel_rfl) rfl) _ 0 (Nat.zero_le _) (by omega) _ hseq
end Go.Proofs
end
namespace Go.Proofs.YtmjpdhpmjmgmaaaGreatDoor
section
open Go.RowKit Go.Maps Go.Shelf Go.Sort
set_option linter.unusedSimpArgs false
set_option linter.unusedVariables false
attribute [local go_sem] Oper.semAt_some
namespace Dk
def preB(p s:ByteArray):Bool:=p.data.toList.isPrefixOf s.data.toList
theorem Jw{p s:ByteArray}(h:s.size<p.size):preB p s=false:=by
 unfold preB;rw[Bool.eq_false_iff];intro e;have:=(List.isPrefixOf_iff_prefix.1 e).length_le;rw[←Lib.size_eq,←Lib.size_eq]at this;omega
theorem ER{p s:ByteArray}(_h:p.size≤s.size):((s.extract 0 p.size).toList==p.toList)=preB p s:=by
 unfold preB;rw[Bool.eq_iff_iff,List.isPrefixOf_iff_prefix,beq_iff_eq,List.prefix_iff_eq_take,Lib.toList_data,Lib.toList_data,Lib.extract_data,←Lib.size_eq];simp;exact eq_comm
set_option maxHeartbeats 400000 in
theorem Du(s p:ByteArray)(hs:s.size≤maxLen)(hp:p.size≤maxLen)(w:World):
 Calls Tryz.prog 84 #[.string s, .string p] w fun e w'=>e= .returned (.bool (preB p s))∧w=w':=by
 unfold maxLen at hs hp;by_cases h:p.size≤s.size
 ·have HE:Hid (((s.extract 0 p.size).toList==p.toList)=preB p s):=ER h
  go_enter Tryz.func84,Tryz.ntmps84
  go_wp2
  go_ret
  exact⟨ku HE.out,rfl⟩
 ·have HE:Hid (preB p s=false):=Jw (by omega)
  go_enter Tryz.func84,Tryz.ntmps84
  go_wp2
  go_ret
  exact⟨ku HE.out.symm,rfl⟩
def aK(A:DA):List (List UInt8):=(A.files.map (·.name)).mergeSort leB
def pF(bg:List UInt8)(nm:List UInt8):Bool:=bg.isPrefixOf nm
def gu(A:DA)(bg:List UInt8):List (List UInt8):=(aK A).filter (pF bg)
abbrev pX(A:DA):Type:={x:List UInt8//x∈aK A}
def dH(A:DA)(bg:List UInt8):List (pX A):=(aK A).attach.filter (fun x=>pF bg x.1)
theorem GH(A:DA)(bg:List UInt8):(dH A bg).map (·.1)=gu A bg:=by
 unfold dH gu;conv=>rhs;rw[←List.attach_map_subtype_val (aK A)]
 rw[List.filter_map];rfl
theorem names_in(d:Nat)(s:ByteArray)(w:World):
 CallsIn Fence.wide 5 Tryz.prog 83 #[.pointer (some ⟨d,0,none⟩), .string s] w fun e w'=>
  e= .returned (.func (.func 121) #[] #[.pointer (some ⟨w.heap.size,0,none⟩), .pointer (some ⟨w.heap.size+1,0,none⟩)])∧
  w'=(w.alloc (.cells #[.pointer (some ⟨d,0,none⟩)] 67)).alloc (.cells #[.string s] 9):=by
 refine callsIn_wide.2 ?_;have hmf:∀(fn:Fn) (first cap:Array Value) (w:World),(Instr.makeFunc fn first cap).run Tryz.prog w= .ok (.func fn first cap) w:=fun _ _ _ _=>rfl
 go_enter Tryz.func83,Tryz.ntmps83
 go_wp2
 go_ret
 exact⟨rfl,rfl⟩
structure KpT(T:List Nat)(W W':World):Prop where
 size:W.heap.size≤W'.heap.size
 cells:∀k cs t fr,W.heap[k]? =some (.cells cs t fr)→k∉T→W'.heap[k]? =some (.cells cs t fr)
theorem KpT.refl(T:List Nat)(W:World):KpT T W W:=⟨Nat.le_refl _,fun _ _ _ _ h _=>h⟩
section
variable {w w':World} {base d:Nat} {F:List Nat} {A A':DA} {ah:Option Nat} {ms:List au}
theorem Jy{D:DataW Unit}{mb n:Nat}(hown:w.ownsMap Tryz.prog 9 pz mb n D)(hr:Reads D ms)(hn:(ms.map (·.abs.name)).Nodup):(ms.map (·.abs.name)).Perm (strKeys D):=by
 have hc:Collected D (fun _=>false) (ms.map (·.abs.name)):=by
  refine⟨hn,fun x=>?_⟩;rw[fF hr];unfold bM;rw[List.find?_isSome];simp only[List.mem_map,beq_iff_eq,and_true]
 exact hc.perm hown law Tryz.underlying9 (fun _=>rfl)
def Tc(w:World)(B:Nat)(va:Option Addr)(L:List (List UInt8)):Prop:=
 L=[]∨∃g cur,va=some ⟨g,0,none⟩∧B≤g∧w.heap[g]? =some (.cells cur 9 (0,0))∧∀(j:Nat) (x:List UInt8),L[j]? =some x→cur[j]? =some (encStr x)
theorem LG{B:Nat}{v:Value}{L:List (List UInt8)}(h:w.ownsRow B 9 1 v L.length (L.map encStr)):∃va vc,v= .slice va L.length vc∧Tc w B va L:=by
 rcases h.2 with⟨rfl,h0⟩|⟨g,cap,cur,rfl,hb,hg,_,_,_,ht⟩
 ·exact⟨none,0,by rw[h0], .inl (List.eq_nil_of_length_eq_zero h0)⟩
 ·refine⟨_,_,rfl, .inr ⟨g,cur,rfl,hb,hg,fun j x hx=>?_⟩⟩
  have hj:=(List.getElem?_eq_some_iff.1 hx).1;have:(L.map encStr)[j]? =some (encStr x):=by rw[List.getElem?_map,hx];rfl
  rw[←ht,List.getElem?_take_of_lt (by omega)]at this;simpa using this
theorem Jz(h:Parts w base d F A ah ms):
 CallsIn Fence.wide 5 Tryz.prog 122 #[.func (.func 170) #[] #[.pointer (some ⟨w.heap.size,0,none⟩)]] (w.alloc (.cells #[.map ah] 91)) fun e w'=>∃va vc,e= .returned (.slice va (aK A).length vc)∧
  Tc w' (w.heap.size+1) va (aK A)∧Below (w.heap.size+1) (w.alloc (.cells #[.map ah] 91)) w':=by
 have hfil:=h.files;have Jt:=h.names;have hcnt:=h.good.count;have hm:=h.map;have hnl:A.files.map (·.name)=ms.map (·.abs.name):=by rw[hfil,List.map_map];rfl
 cases ah with
 |none=>
  have hms:ms=[]:=hm;have hs0:aK A=[]:=by unfold aK;rw[hnl,hms];simp
  refine(Tryz.jS w).mono ?_;rintro e w' ⟨v,ss,rfl,rfl,hrow,hnil,hb⟩;simp only[World.size_alloc]at hrow hb;rw[show([]:List (List UInt8)).length=(aK A).length by rw[hs0],show(([]:List (List UInt8)).mergeSort fun x y=>decide (x≤y))=aK A by rw[hs0];simp]at hrow;obtain⟨va,vc,rfl,hr⟩:=LG hrow;exact⟨va,vc,rfl,hr,hb⟩
 |some mb=>
  obtain⟨D,hown,hrd⟩:=hm;have hmsl:ms.length≤200:=by rw[hfil,List.length_map]at hcnt;exact hcnt
  refine(Tryz.lZ mb ms.length D pz w hown (by rw[hrd.1];simp only[maxLen];omega) (by rw[hrd.1];omega)).mono ?_;rintro e w' ⟨v,ss,rfl,hp,hrow,hnil,hb⟩;simp only[World.size_alloc]at hrow hb;have hp2:ss.Perm (A.files.map (·.name)):=by rw[hnl];exact hp.trans (Jy hown hrd Jt).symm
  have hs0:ss.mergeSort leB=aK A:=mergeSort_of_perm hp2;have hl:ss.length=(aK A).length:=by rw[←hs0];simp
  have hrow2:w'.ownsRow (w.heap.size+1) 9 1 v (aK A).length ((aK A).map encStr):=by rw[←hl,←hs0];exact hrow
  obtain⟨va,vc,rfl,hr⟩:=LG hrow2;exact⟨va,vc,rfl,hr,hb⟩
theorem Dv(h:Good A):∀x∈aK A,x.length≤40:=by
 intro x hx;unfold aK at hx;rw[List.mem_mergeSort]at hx;obtain⟨f,hf,rfl⟩:=List.mem_map.1 hx;exact h.short f hf
theorem pY(A:DA):(aK A).length=A.files.length:=by simp[aK]
theorem uU{α:Type}(p:α→Bool)(L:List α)(k:Nat)(h:k<L.length):(L.take (k+1)).filter p=(L.take k).filter p++(if p L[k]then [L[k]]else []):=by
 rw[List.take_succ_eq_append_getElem h,List.filter_append];congr 1
 simp[List.filter_cons]
theorem GI(x:List UInt8):(⟨x.toArray⟩:ByteArray).size=x.length:=by simp[ByteArray.size]
theorem Td(h:Parts w base d F A ah ms):
 Calls Tryz.prog 50 #[.pointer (some ⟨d,0,none⟩)] w fun e w'=>e= .returned (.map ah)∧w=w':=by
 have c1:=h.c1;clear h;go_enter Tryz.func50,Tryz.ntmps50
 go_wp2
 go_ret
 exact⟨rfl,rfl⟩
set_option maxRecDepth 100000 in
set_option maxHeartbeats 2000000 in
theorem GK(h:Parts w base d F A ah ms)(s:ByteArray)(hs:s.size≤maxLen)(B1 B2:Nat)(hB1:w.heap[B1]? =some (.cells #[.pointer (some ⟨d,0,none⟩)] 67 (0,0))) (hB2:w.heap[B2]? =some (.cells #[.string s] 9 (0,0)))
 (Kp:World→World→Prop) (hKr:∀W,Kp W W) (hKt:∀{A B C:World},Kp A B→Kp B C→Kp A C)
 (hKc:∀(W0 W W':World) (k:Nat) (cs:Array Value) (t:TypeId) (fr:Nat×Nat),Below w.heap.size w W0→Below W0.heap.size W0 W→(k=B2∨W0.heap.size<k)→Kp W W'→W.heap[k]? =some (.cells cs t fr)→W'.heap[k]? =some (.cells cs t fr)):
 SeqStopsK Fence.wide 6 Tryz.prog 121 #[.pointer (some ⟨B1,0,none⟩), .pointer (some ⟨B2,0,none⟩)] (fun x:pX A=> #[encStr x.1]) Kp
  (fun xs=>xs=dH A s.data.toList) (fun pre=>pre<+:dH A s.data.toList) (dH A s.data.toList).length w:=fun l J Jx W hW hJ hJx hY h0=>by
 have hP:Parts W base d F A ah ms:=h.kept (Turn.of_below hW []) (by simp);have hP1:Parts (W.alloc (.cells #[.map ah] 91)) base d F A ah ms:=hP.kept ((Turn.refl [] _).alloc _) (by simp);have c1:=hP.c1;have hb1:W.cell? ⟨B1,0,none⟩=some (.pointer (some ⟨d,0,none⟩)):=by rw[hW.cell (p:=⟨B1,0,none⟩) (lt_of_heap hB1),cell_of hB1];rfl
 have hrow0:=Jz hP;have HR:Hid (CallsIn Fence.wide 5 Tryz.prog 122 #[.func (.func 170) #[] #[.pointer (some ⟨W.heap.size,0,none⟩)]] (W.alloc (.cells #[.map ah] 91)) fun e w'=>∃va vc,e= .returned (.slice va (aK A).length vc)∧
  Tc w' (W.heap.size+1) va (aK A)∧Below (W.heap.size+1) (W.alloc (.cells #[.map ah] 91)) w'):=hrow0
 have hsz:=hW.size;have f1:Fence.wide.fn 50:=trivial;have f2:Fence.wide.fn 123:=trivial;have f3:Fence.wide.fn 122:=trivial;have f4:Fence.wide.fn 84:=trivial;have HG:Hid (Good A):=hP.good;have HA:Hid (Calls Tryz.prog 50 #[.pointer (some ⟨d,0,none⟩)] W fun e w'=>e= .returned (.map ah)∧W=w'):=Td hP;clear hP hP1 hrow0 h;refine callsIn_of_wp Tryz.func121 rfl trivial ?_ rfl;simp only[Tryz.ntmps121,List.size_toArray,List.length_cons,List.length_nil,Nat.reduceAdd,Nat.reduceSub,Array.replicate_succ,Array.replicate_zero,List.push_toArray,List.append_toArray,List.nil_append,List.cons_append];gi_wp2_with (first
  |(gi_at_call 123;refine(Tryz.Dt _ _).mono ?_;rintro e w' ⟨rfl,rfl⟩)
  |(gi_at_call 122;refine HR.out.mono ?_;rintro e W2 ⟨va,vc,rfl,hrow,hb⟩)
  |(gi_at_call 50;refine(callsIn_wide.2 HA.out).mono ?_;rintro e w' ⟨rfl,rfl⟩))
 have ZW:B2<w.heap.size:=lt_of_heap hB2;have hbel:Below W.heap.size W W2:=((Below.refl _ W).alloc (Nat.le_refl _) _).trans (hb.mono (by omega));have hg2:W2.heap[B2]? =some (.cells #[.string s] 9 (0,0)):=(hbel.block B2 (by omega)).trans ((hW.block B2 ZW).trans hB2)
 have hJ2:J [] W2:=hJ _ _ _ none h0 ⟨hbel.os,hbel.tape,hbel.output,hbel.size,fun k hk _=>hbel.block k hk⟩ (by simp);have hlen:(aK A).length≤200:=by rw[pY];exact HG.out.count
 have ZX:Hid (Tc W2 (W.heap.size+1) va (aK A)):=hrow;have HY:Hid (∀(pre:List (pX A)) (x:pX A) (W1:World),J pre W1→pre.length<(dH A s.data.toList).length→YieldAt Fence.wide (6-1) Tryz.prog l #[encStr x.1] W1 fun e W'=>
  (e= .returned (.bool true)∧J (pre++[x]) W'∧Kp W1 W')∨(e= .returned (.bool false)∧Jx (pre++[x]) W')):=hY
 have XN:Hid (Below W.heap.size W W2):=hbel;have HW:Hid (Below w.heap.size w W):=hW;clear hrow hb hY h0 HR hbel HA c1 hb1;gi_loopw [11] (fun i wr=>∃k:Nat,k≤(aK A).length∧i= .int .i64 k∧J (((aK A).attach.take k).filter (fun x=>pF s.data.toList x.1)) wr∧Kp W2 wr)
  (fun i _=>(aK A).length-(intOf i).toNat)
 case atStart=>exact⟨0,Nat.zero_le _,rfl,by simpa using hJ2,hKr _⟩
 case round=>
  obtain⟨k,hk,rfl,hJs,hkp⟩:=hrel;by_cases hlt:k<(aK A).length
  ·have hlt2:k<(aK A).attach.length:=by simpa using hlt
   obtain⟨x,hxe⟩:∃x,(aK A).attach[k]=x:=⟨_,rfl⟩;have hx:(aK A)[k]? =some x.1:=by rw[List.getElem?_eq_getElem hlt,←hxe,List.getElem_attach]
   rcases ZX.out with h0|⟨g,cur,rfl,hgb,hgc,XO⟩
   ·rw[h0]at hlt;simp at hlt
   have hgc2:=hKc W W2 wr g cur _ _ HW.out XN.out (.inr (by omega)) hkp hgc;have hcx:wr.cell? ⟨g,k,none⟩=some (encStr x.1):=by rw[cell_of hgc2];exact XO k x.1 hx
   have XP:=hKc W W2 wr B2 _ _ _ HW.out XN.out (.inl rfl) hkp hg2;have hcb:wr.cell? ⟨B2,0,none⟩=some (.string s):=by rw[cell_of XP];rfl
   have hxs:x.1.length≤40:=Dv HG.out x.1 x.2;have hft:=uU (fun x:pX A=>pF s.data.toList x.1) (aK A).attach k hlt2;rw[hxe]at hft;have hpre:=fun W=>Du ⟨x.1.toArray⟩ s (by rw[GI];simp only[maxLen];omega) hs W
   have HP:Hid (∀W,Calls Tryz.prog 84 #[.string ⟨x.1.toArray⟩, .string s] W fun e w'=>e= .returned (.bool (preB s ⟨x.1.toArray⟩))∧W=w'):=hpre;have HF:Hid (((aK A).attach.take (k+1)).filter (fun x=>pF s.data.toList x.1)=((aK A).attach.take k).filter (fun x=>pF s.data.toList x.1)++(if pF s.data.toList x.1 then [x]else [])):=hft;have ZE:Hid (J (((aK A).attach.take k).filter (fun x=>pF s.data.toList x.1)) wr):=hJs;unfold encStr at hcx;clear hgc XO hgc2 XP hpre hft hx hxe hJs hlt2;cases hpx:preB s ⟨x.1.toArray⟩
   ·have XQ:Hid (pF s.data.toList x.1=false):=by show _=_;simpa[preB,pF]using hpx
    gi_wp2_with (gi_at_call 84;refine(callsIn_wide.2 (HP.out _)).mono ?_;rintro e w' ⟨rfl,rfl⟩)
    refine⟨fun _ h=>(by cases h),?_⟩;gi_wp2
    go_roundw
    case rel=>exact⟨k+1,by omega,by go_num,by rw[HF.out,XQ.out];simpa using ZE.out,hkp⟩
    case measure=>simp[intOf];omega
   ·have XQ:Hid (pF s.data.toList x.1=true):=by show _=_;simpa[preB,pF]using hpx
    have VA:(((aK A).attach.take k).filter (fun x=>pF s.data.toList x.1)).length<(dH A s.data.toList).length:=by
     have e:=List.take_append_drop (k+1) (aK A).attach;unfold dH;conv=>rhs;rw[←e]
     rw[List.filter_append,HF.out,XQ.out];simp
    obtain⟨fn,tmps,assign,body,hy,hR⟩:=HY.out _ x wr ZE.out VA;unfold encStr at hy;have hpf:((aK A).attach.take (k+1)).filter (fun x=>pF s.data.toList x.1)<+:dH A s.data.toList:=by
     unfold dH;exact(List.take_prefix _ _).filter _
    have HPF:Hid (((aK A).attach.take (k+1)).filter (fun x=>pF s.data.toList x.1)<+:dH A s.data.toList):=hpf;clear VA hpf;gi_wp2_with (gi_at_call 84;refine(callsIn_wide.2 (HP.out _)).mono ?_;rintro e w' ⟨rfl,rfl⟩)
    refine hR.mono ?_;rintro e W3 (⟨rfl,hJ3,hk3⟩|⟨rfl,hJx3⟩)
    ·have HJ3:Hid (J (((aK A).attach.take k).filter (fun x=>pF s.data.toList x.1)++[x]) W3):=hJ3
     clear hJ3;gi_wp2
     go_roundw
     case rel=>exact⟨k+1,by omega,by go_num,by rw[HF.out,XQ.out];exact HJ3.out,hKt hkp hk3⟩
     case measure=>simp[intOf];omega
    ·have HJ3:Hid (Jx (((aK A).attach.take k).filter (fun x=>pF s.data.toList x.1)++[x]) W3):=hJx3
     clear hJx3;gi_wp2
     refine bodyPost_ret (results_none rfl _ _ _) rfl ?_;refine⟨⟨_,rfl⟩, .inr ⟨_,?_,HJ3.out⟩⟩;have:=HPF.out;rw[HF.out,XQ.out]at this;exact this
  ·obtain rfl:k=(aK A).length:=by omega
   have ZE:Hid (J (((aK A).attach.take (aK A).length).filter (fun x=>pF s.data.toList x.1)) wr):=hJs;clear hJs;gi_wp2
   go_end0
   refine⟨⟨_,rfl⟩, .inl ⟨_,rfl,?_⟩⟩;have:=ZE.out;rw[List.take_of_length_le (by simp)]at this;exact this
end
end Dk
end
section
open Go.RowKit Go.Maps
set_option maxRecDepth 100000
set_option linter.unusedSimpArgs false
set_option linter.unusedVariables false
namespace Dk
section
variable {w w':World} {base d:Nat} {F:List Nat} {A A':DA} {ah:Option Nat} {ms ms':List au} {mb:Nat}
def DA.file(A:DA)(nm:List UInt8):Option FA:=A.files.find? (fun f=>f.name==nm)
theorem qH(h:Parts w base d F A ah ms)(nm:List UInt8):A.file nm=(bM ms nm).map (·.abs):=by
 unfold DA.file bM;rw[h.files,List.find?_map];rfl
theorem qc(A:DA)(nm:List UInt8):A.has nm=(A.file nm).isSome:=rfl
def DA.sizeOf(A:DA)(nm:List UInt8):Int:=match A.file nm with
 |some f=>f.bytes.length
 |none=> -1
set_option maxHeartbeats 400000 in
theorem size_any(h:Parts w base d F A ah ms)(s:ByteArray)(hs:s.size≤maxLen):
 Calls Tryz.prog 29 #[.pointer (some ⟨d,0,none⟩), .string s] w fun e w'=>e= .returned (.int .i64 (A.sizeOf s.data.toList))∧w=w':=by
 have c1:=h.c1;have hlook:=h.map.look hs;have Gp:=qH h s.data.toList;cases hm:bM ms s.data.toList with
 |none=>
  have HV:Hid (A.sizeOf s.data.toList= -1):=by show _=_;simp[DA.sizeOf,Gp,hm]
  rw[hm]at hlook;simp only[rP]at hlook;clear h Gp hm;go_enter Tryz.func29,Tryz.ntmps29
  go_wp2
  go_ret
  exact⟨by rw[HV.out];rfl,rfl⟩
 |some m=>
  have HV:Hid (A.sizeOf s.data.toList=m.abs.bytes.length):=by show _=_;simp[DA.sizeOf,Gp,hm]
  have hfa:=h.each m (qG hm).1;obtain⟨sa,sc,hsl,hsl1,hsl2⟩:=hfa.2.form;have cf:w.cell? ⟨m.blk,0,none⟩=some (.slice sa m.abs.bytes.length sc):=by rw[cell_of hfa.1,hsl];rfl
  rw[hm]at hlook;simp only[rP]at hlook;clear h Gp hm hfa hsl;go_enter Tryz.func29,Tryz.ntmps29
  go_wp2
  go_ret
  exact⟨by rw[HV.out];rfl,rfl⟩
def VB(n:Nat)(f:FA):FA:={f with bytes:=f.bytes.take n,safe:=min f.safe n}
def DA.cut(A:DA)(nm:List UInt8)(n:Int):Int×DA:=
 if A.fails then(14,A)
 else match A.file nm with
  |none=>(7,A.tick)
  |some f=>if n<0∨(f.bytes.length:Int)<n then(2,A.tick)else(0,A.tick.upd nm (VB n.toNat))
end
end Dk
end
section
open Go.RowKit
set_option linter.unusedSimpArgs false
set_option linter.unusedVariables false
def tZ(ops:List Oper):Nat→Nat→Nat
 |0,S=>S
 |i+1,S=>tZ ops i (if S.testBit i then((ops[i]?).map (fun o=>o.after.toList)).getD [] |>.foldl (fun T e=>if Region.binds .any e then T|||2^e.on else T) S else S)
def JA(ls:List Oper)(o:Oper):Bool:=
 let S:=tZ (ls++[o]) ls.length (o.after.toList.foldl (fun T e=>if Region.binds .any e then T|||2^e.on else T) 0);(List.range ls.length).all fun i=>S.testBit i
def VC(l:List Oper):Bool:=l.all fun o=>match o.op with| .defer _=>false|_=>true
def qI(l:List Oper):Bool:=l.all fun o=>match o.guard with|some (j,_)=>decide (j<l.length)|none=>true
def Listed(listed:Array Bool)(i:Nat):Prop:=listed[i]? =some true
theorem Bh(b:Array Bool)(i:Nat):b.getD i false=true↔Listed b i:=by
 unfold Listed;rw[Array.getD_eq_getD_getElem?];cases b[i]? with
 |none=>simp
 |some x=>simp
theorem NG(b:Array Bool)(i:Nat):b.getD i true=false↔b[i]? =some false:=by
 rw[Array.getD_eq_getD_getElem?];cases b[i]? with
 |none=>simp
 |some x=>simp
theorem qJ{listed:Array Bool}:∀(es:List Edge) (T:Nat),(∀j,T.testBit j=true→Listed listed j)→(∀e∈es,Region.binds .any e=true→Listed listed e.on)→
 ∀j,(es.foldl (fun T e=>if Region.binds .any e then T|||2^e.on else T) T).testBit j=true→Listed listed j
 |[],T,hT,_,j,hj=>hT j hj
 |e::es,T,hT,he,j,hj=>by
  rw[List.foldl_cons]at hj;refine qJ es _ ?_ (fun x hx=>he x (by simp[hx])) j hj;intro k hk;split at hk
  ·rename_i hb
   rw[Nat.testBit_or,Bool.or_eq_true]at hk;rcases hk with hk|hk
   ·exact hT k hk
   ·rw[Nat.testBit_two_pow]at hk
    have:e.on=k:=by simpa using hk
    rw[←this];exact he e (by simp) hb
  ·exact hT k hk
def Down(ops:List Oper)(listed:Array Bool):Prop:=∀(i:Nat) (o:Oper),ops[i]? =some o→Listed listed i→∀e∈o.after.toList,Region.binds .any e=true→Listed listed e.on
theorem qf{ops:List Oper}{listed:Array Bool}(hd:Down ops listed):∀(i S:Nat),(∀j,S.testBit j=true→Listed listed j)→∀j,(tZ ops i S).testBit j=true→Listed listed j
 |0,S,hS,j,hj=>hS j hj
 |i+1,S,hS,j,hj=>by
  rw[tZ]at hj;refine qf hd i _ ?_ j hj;split
  ·rename_i hb
   cases ho:ops[i]? with
   |none=>simpa using hS
   |some o=>exact qJ _ S hS (fun e he hbe=>hd i o ho (hS i hb) e (by simpa[ho]using he) hbe)
  ·exact hS
theorem VD{ls:List Oper}{o:Oper}{listed:Array Bool}(hc:JA ls o=true)(hd:Down (ls++[o]) listed)(ho:∀e∈o.after.toList,Region.binds .any e=true→Listed listed e.on):∀i,i<ls.length→Listed listed i:=by
 intro i hi;simp only[JA,List.all_eq_true,List.mem_range]at hc;exact qf hd _ _ (fun j hj=>qJ _ 0 (by simp) ho j hj) i (hc i hi)
theorem mem_ready{md:Region.Mode}{ops:Array Oper}{listed:Array Bool}{i:Nat}:i∈Region.ready md ops listed↔i<ops.size∧listed[i]? =some false∧∃o,ops[i]? =some o∧∀e∈o.after.toList,Region.binds md e=true→Listed listed e.on:=by
 unfold Region.ready;simp only[List.mem_filter,List.mem_range,Bool.and_eq_true,Bool.not_eq_true',NG];constructor
 ·rintro⟨h1,h2,h3⟩
  refine⟨h1,h2,ops[i],by simp[h1],fun e he hb=>?_⟩;simp only[h1,getElem?_pos,Option.map_some,Option.getD_some]at h3;rw[Array.all_eq_true_iff_forall_mem]at h3;have:=h3 e (by simpa using he);rw[hb]at this;simp only[Bool.not_true,Bool.false_or]at this;exact(Bh _ _).1 this
 ·rintro⟨h1,h2,o,ho,h3⟩
  refine⟨h1,h2,?_⟩;rw[ho,Option.map_some,Option.getD_some,Array.all_eq_true_iff_forall_mem];intro e he;cases hb:Region.binds md e
  ·rfl
  ·rw[(Bh _ _).2 (h3 e (by simpa using he) hb)];rfl
theorem gy{b:Array Bool}{i j:Nat}:Listed (b.setIfInBounds i true) j↔(Listed b j∨(i=j∧j<b.size)):=by
 unfold Listed;rw[Array.getElem?_setIfInBounds];by_cases h:i=j
 ·subst h
  by_cases h2:i<b.size
  ·simp[h2]
  ·simp[h2]
 ·simp[h]
theorem GL{ops:List Oper}{listed:Array Bool}{i:Nat}{o:Oper}(hd:Down ops listed)(ho:ops[i]? =some o) (hr:∀e∈o.after.toList,Region.binds .any e=true→Listed listed e.on):Down ops (listed.setIfInBounds i true):=by
 intro j x hx hj e he hb;by_cases hij:j=i
 ·subst hij
  rw[ho]at hx;cases hx;exact gy.2 (.inl (hr e he hb))
 ·refine gy.2 (.inl (hd j x hx ?_ e he hb))
  rcases gy.1 hj with h1|h1
  ·exact h1
  ·exact absurd h1.1.symm hij
def sK(ls:List Oper):Bool:=(List.range ls.length).all fun i=>((ls[i]?).map fun x=>x.after.toList.all fun e=> !Region.binds .any e||decide (e.on<i)).getD true
section
variable {n l:Nat} {P:Program} {C:World→Prop}
theorem wpIn_of_quiet{o:Oper}{a:Act}{K:Act→Prop}{K':Act→World→Prop}{Q':Exit→Act→World→Prop}{w:World}(hp:∀c,o.op≠ .defer c)(hw:C w)(h:∀a w',C w'→K a→K' a w')(hh:o.quiet P a C K):
 o.wpIn (Fence.wide.inRound l) n P a w K' Q':=by
 obtain⟨v,h1,h2⟩:=hh;have h3:=h1 w hw;unfold Oper.quietAt at h3;unfold Oper.wpIn;refine⟨fun f _=>trivial,?_⟩;rw[Oper.semAt_eq _ _ _ hp];generalize (execOp a.eval o).run P w=r at*
 cases r with
 |ok x w'=>
  cases x<;>simp only[Oper.quietUpon]at h3<;>simp only[Oper.uponIn]
  case value u=>obtain⟨e1,e2⟩:=h3;rw[e1,e2];exact h _ _ hw h2
  case skip=>obtain⟨e1,e2⟩:=h3;rw[e1,←e2];exact h _ _ hw h2
  case enter f args=>
   obtain⟨e1,hc⟩:=h3;rw[e1];exact⟨fun hd=>by simp[Fence.wide]at hd,CallsIn.inRound l (callsIn_wide.2 (hc.mono fun e w'' ⟨he,hw''⟩=>by subst he;exact h _ _ hw'' h2))⟩
 |halt x w'=>simp only[Oper.quietUpon]at h3
def lastB(ls:List Oper)(o:Oper):Bool:=JA ls o&&VC ls&&qI ls&&sK ls&&o.after.toList.all fun e=>decide (e.on<ls.length)
end
end
section
open Go.RowKit Go.Maps Go.Shelf Go.Sort
set_option linter.unusedSimpArgs false
set_option linter.unusedVariables false
attribute [local go_sem] Oper.semAt_some
namespace Dk
def VE(fs:List UInt8)(k:Nat)(f:FA):FA:={f with bytes:=f.bytes.take (min (f.safe+UZ fs k) f.bytes.length),safe:=min (f.safe+UZ fs k) f.bytes.length}
def LH(A:DA)(fs:List UInt8)(pre:List (List UInt8)):DA:=pre.zipIdx.foldl (fun B p=>B.upd p.1 (VE fs p.2)) A
def DA.crash(A:DA)(fs:List UInt8):DA:={LH A fs (aK A)with limited:=false}
section
variable {w w':World} {base d:Nat} {F:List Nat} {A A':DA} {ah:Option Nat} {ms:List au}
def ZY(w:World)(base d:Nat)(F:List Nat)(A:DA)(ah:Option Nat)(v:Value)(fs:List UInt8)(pre:List (pX A))(W:World):Prop:=
 (∃F' ms',Parts W base d F' (LH A fs (pre.map (·.1))) ah ms'∧∀k∈F',k∈F)∧Turn F w W∧
 W.heap[w.heap.size]? =some (.cells #[.pointer (some ⟨d,0,none⟩)] 67 (0,0))∧W.heap[w.heap.size+1]? =some (.cells #[v] 97 (0,0))∧W.heap[w.heap.size+1+1]? =some (.cells #[.int .i64 pre.length] 3 (0,0))
end
end Dk
end
end Go.Proofs.YtmjpdhpmjmgmaaaGreatDoor
