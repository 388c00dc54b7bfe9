/- Lemmas of the claim, part c of 14. -/
import Derived.Test.YtficbckncieabaaGreatDoorMb
import Derived.Test.YtficbckncieabaaGreatDoorMa
import Derived.Deep.AppendSrc
import Derived.Test.YtficbckncieabaaGreatDoorProg
import Derived.WalkKit
import Derived.WalkLawsBesides
import Derived.Laws.BitsAllLaws
import Derived.Sort.KeysCollected
import Derived.Sort.MapsRangeIn
set_option maxHeartbeats 16000000
namespace Go.Proofs.YtficbckncieabaaGreatDoor
section
open Go.RowKit Go.Maps
set_option maxRecDepth 100000
set_option linter.unusedSimpArgs false
set_option linter.unusedVariables false
section
variable {P:Program} (w:World)
theorem EY(s:List UInt8):byteCells ⟨s.toArray⟩=s.map ah:=rfl
theorem uC(t tx ty e:TypeId)(i:TypeInfo)(ht:P.underlying t=some (.slice e))(hx:P.underlying tx=some .string)(hi:P.info? e=some i)(hz1:i.size=1)
 (g sLen sCap:Nat)(cur:Array Value)(hg:w.heap[g]? =some (.cells cur e (0,0))) (s:ByteArray) (aaz:sLen+s.size≤sCap) (aa8:sLen+s.size≤cur.size):
 (Builtin.append_ #[t,tx] ty #[.slice (some ⟨g,0,none⟩) sLen sCap, .string s]).run P w=
   .ok (.slice (some ⟨g,0,none⟩) (sLen+s.size) sCap) (w.setRow g (cur.toList.take sLen++byteCells s++cur.toList.drop (sLen+s.size)).toArray):=by
 have hf:=firstCells_string (P:=P) s w;have hst:=run_storeCells_at P g sLen e (byteCells s) 0 cur w hg (by rw[byteCells_length];exact aa8) (fun u hu=>by
  obtain⟨_,_,rfl⟩:=List.mem_map.1 hu;rfl)
 simp only[Nat.add_zero,byteCells_length]at hst;simp[Builtin.append_,run_underlying ht,run_underlying hx,sizeOf,typeInfo,hi,hz1,Builtin.lenOf,aaz,hf,Addr.add_lit,hst]
theorem uT(t tx ty e base:Nat)(i:TypeInfo)(ht:P.underlying t=some (.slice e))(hx:P.underlying tx=some .string)(hi:P.info? e=some i)(hz:i.zero=some (.int .u8 0))(aay:i.size=1)(hby:i.bytes=1)
 (v:Value)(bs cs:List UInt8)(Pe:bZ w e base v bs)(aah:bs.length+cs.length≤1099511627776)(aas:base≤w.heap.size):
 ∃v' w',(Builtin.append_ #[t,tx] ty #[v, .string ⟨cs.toArray⟩]).run P w= .ok v' w'∧bZ w' e base v' (bs++cs)∧Turn v.ownBlock.toList w w'∧(∀k∈v'.ownBlock,k∈v.ownBlock∨w.heap.size≤k):=by
 have abD:maxLen=9223372036854775807:=by simp[maxLen]
 have hsz:(ByteArray.mk cs.toArray).size=cs.length:=by simp[ByteArray.size]
 have ags:Src P i.size tx (.string ⟨cs.toArray⟩) cs.length (cs.map ah) w:=by
  have:=Src.ofString (P:=P) w hx ⟨cs.toArray⟩;rw[hsz,EY]at this;rw[aay];exact this
 have new:∀old:Nat,old<bs.length+cs.length→bZ (w.drew.alloc (.cells ((bs.map ah++cs.map ah).toArray++Builtin.zeroCells (Value.cells (.int .u8 0)) (grownCap w (bs.length+cs.length) old e-(bs.length+cs.length))) e)) e base
  (.slice (some ⟨w.heap.size,0,none⟩) (bs.length+cs.length) (grownCap w (bs.length+cs.length) old e)) (bs++cs)∧
  Turn v.ownBlock.toList w (w.drew.alloc (.cells ((bs.map ah++cs.map ah).toArray++Builtin.zeroCells (Value.cells (.int .u8 0)) (grownCap w (bs.length+cs.length) old e-(bs.length+cs.length))) e)):=by
  intro old ho;have hge:=grownCap_ge w (bs.length+cs.length) old e;have hcm:=grownCap_le_maxLen w (bs.length+cs.length) old e (by rw[abD];omega);refine⟨.inr ⟨w.heap.size,_,_,by simp,aas,ai w.drew _,by simpa using hge,?_,hcm,?_⟩,((Turn.refl _ _).drew).alloc _⟩
  ·simp only[Array.size_append,List.size_toArray,List.length_map,List.length_append,size_zeroCells,Value.cells]
   simp;omega
  ·simp only[Array.toList_append]
   rw[List.take_append_of_le_length (by simp)];rw[List.take_of_length_le (by simp)];simp
 rcases Pe with⟨rfl,rfl⟩|⟨g,cap,cur,rfl,hb,hg,h1,h2,h3,h4⟩
 ·by_cases h0:cs.length=0
  ·have:cs=[]:=List.eq_nil_of_length_eq_zero h0
   subst this;have e0:(ByteArray.mk #[])=ByteArray.empty:=rfl;exact⟨.slice none 0 0,w,by simp[Builtin.append_,run_underlying ht,run_underlying hx,sizeOf,typeInfo,hi,Builtin.lenOf,Builtin.firstCells,storeCells,e0], .inl ⟨rfl,rfl⟩,Turn.refl _ _,by simp[Value.ownBlock]⟩
  ·have hr:=run_append_grow_src (P:=P) w t tx ty e i _ ht hi hz none 0 0 [] (run_firstCells_none w.drew i.size 0 0 0) _ cs.length (cs.map ah) ags (by omega) (by simp at aah;omega) (growslice_fits (by omega) (by rw[hby];simp at aah;omega))
   have hn:=new 0 (by simp;omega);simp only[List.length_nil,Nat.zero_add,List.map_nil,List.nil_append]at hn hr;exact⟨_,_,hr,by simpa using hn.1,by simpa using hn.2,by simp[Value.ownBlock]⟩
 ·by_cases aaz:bs.length+cs.length≤cap
  ·have hr:=uC (P:=P) w t tx ty e i ht hx hi aay g bs.length cap cur hg ⟨cs.toArray⟩ (by rw[hsz];exact aaz) (by rw[hsz];omega)
   rw[hsz,EY]at hr;refine⟨_,_,hr, .inr ⟨g,cap,_,by simp,hb,setRow_heap w g cur _ e _ hg,by simpa using aaz,?_,h3,?_⟩,⟨rfl,rfl,rfl,by simp,fun k _ hk=>setRow_other w g k _ (fun e=>hk (by simp[Value.ownBlock,e]))⟩,by simp[Value.ownBlock]⟩
   ·simp;omega
   ·simp only[h4,List.append_assoc]
    rw[←List.append_assoc,List.take_append_of_le_length (by simp),List.take_of_length_le (by simp)];simp
  ·have acd:∀j u,(bs.map ah)[j]? =some u→w.drew.cell? ((⟨g,0,none⟩:Addr).add j)=some u:=by
    intro j u hu;rw[addr_add];show w.cell? ⟨g,j,none⟩=some u;rw[cell_of hg];rw[←h4,List.getElem?_take]at hu;split at hu
    ·simpa using hu
    ·cases hu
   have hr:=run_append_grow_src (P:=P) w t tx ty e i _ ht hi hz (some ⟨g,0,none⟩) bs.length cap (bs.map ah) (run_firstCells_some w.drew i.size bs.length ⟨g,0,none⟩ bs.length cap (bs.map ah) (by simp[aay]) acd) _ cs.length (cs.map ah) ags (by omega) (by omega) (growslice_fits (by omega) (by rw[hby];omega));have hn:=new cap (by omega);exact⟨_,_,hr,hn.1,hn.2,by simp[Value.ownBlock]⟩
end
theorem wB{P:Program}{ops:Array Oper}{rest:List Oper}{o:Oper}{a:Act}{Q:Exit→Act→World→Prop}{w:World}(hgd:o.guard=none)(s x:Operand)(t tx:TypeId)
 (ho:o.op= .call {callee:= .builtin .append,args:= #[s,x],argTypes:= #[t,tx]})
 (e base:Nat)(i:TypeInfo)(ht:P.underlying t=some (.slice e))(hx:P.underlying tx=some .string)(hi:P.info? e=some i)(hz:i.zero=some (.int .u8 0))(aay:i.size=1)(hby:i.bytes=1)
 (v:Value)(bs cs:List UInt8)(hs:a.eval s=v)(hxe:a.eval x= .string ⟨cs.toArray⟩)(Pe:bZ w e base v bs)(aah:bs.length+cs.length≤1099511627776)(aas:base≤w.heap.size)
 (h:∀v' w',bZ w' e base v' (bs++cs)→Turn v.ownBlock.toList w w'→(∀k∈v'.ownBlock,k∈v.ownBlock∨w.heap.size≤k)→wpList P ops Q rest (a.put o.dst v') w'):wpList P ops Q (o::rest) a w:=by
 refine wpList_plain hgd fun _ hK=>?_
 obtain⟨v',w',hr,h2,h3,h4⟩:=uT (P:=P) w t tx o.type e base i ht hx hi hz aay hby v bs cs Pe aah aas;unfold Oper.wp execOp;simp only[ho,resolve,invoke,builtin,Sem.run_bind,Sem.run_pure,Result.andThen_ok,List.map_toArray,List.map_cons,List.map_nil,hs,hxe,hr];exact hK _ _ (h v' w' h2 h3 h4)
def Grew(w w':World)(base:Nat)(v v':Value)(bs:List UInt8):Prop:=
 bZ w' 5 base v' bs∧Turn v.ownBlock.toList w w'∧(∀k∈v'.ownBlock,k∈v.ownBlock∨w.heap.size≤k)
theorem Grew.trans{w w1 w2:World}{base:Nat}{v v1 v2:Value}{b1 b2:List UInt8}(h:Grew w w1 base v v1 b1)(k:Grew w1 w2 base v1 v2 b2):Grew w w2 base v v2 b2:=by
 obtain⟨h1,h2,h3⟩:=h;obtain⟨k1,k2,k3⟩:=k;refine⟨k1,h2.trans k2 (fun x hx=>?_),fun x hx=>?_⟩
 ·rcases h3 x (by simpa using hx)with h|h
  ·exact .inl (by simpa using h)
  ·exact .inr h
 ·rcases k3 x hx with h|h
  ·exact h3 x h
  ·have:=h2.size;exact .inr (by omega)
theorem Grew.pre{w w1 w2:World}{base:Nat}{v v2:Value}{b:List UInt8}(h:Turn [] w w1)(k:Grew w1 w2 base v v2 b):Grew w w2 base v v2 b:=by
 obtain⟨k1,k2,k3⟩:=k;refine⟨k1,h.mono (by simp) |>.trans k2 (fun x hx=> .inl hx),fun x hx=>?_⟩;rcases k3 x hx with h'|h'
 ·exact .inl h'
 ·have:=h.size;exact .inr (by omega)
theorem sK(w:World)(base:Nat)(v:Value)(bs:List UInt8)(Pe:bZ w 5 base v bs)(aas:base≤w.heap.size)(s:List UInt8)(hs:s.length≤600)(hl:bs.length≤1000000):
 Calls Tryz.prog 159 #[v, .string ⟨s.toArray⟩] w fun e w'=>∃v',e= .returned v'∧Grew w w' base v v' (bs++Bt.qh s):=by
 obtain⟨i0,hi,hz,hz1,hz2⟩:=yA;have HR:Hid (bZ w 5 base v bs):=Pe;clear Pe;have hp:=Nu.fE (show s.length≤1099511627776 by omega);go_enter Tryz.func159,Tryz.ntmps159
 go_wp2_with fail
 refine(put_any _ base v bs HR.out aas s.length (by omega) (by omega)).mono ?_;rintro e w1 ⟨v1,rfl,hr1,ht1,ho1⟩;have hs1:=ht1.size;have HR1:=hide hr1;have HT1:=hide ht1;have HO1:=hide ho1;clear hr1 ht1 ho1;go_wp2_with (at_builtin;go_must (refine wB rfl _ _ 39 9 rfl 5 base i0 Tryz.underlying39 Tryz.underlying9 hi hz hz1 hz2 v1 (bs++Nu.put s.length) s rfl rfl HR1.out (by simp;omega) (by omega) ?_;intro v2 w2 hr2 ht2 ho2;have HG:Hid (Grew w w2 base v v2 (bs++Nu.put s.length++s)):=Grew.trans ⟨HR1.out,HT1.out,HO1.out⟩ ⟨hr2,ht2,ho2⟩;clear hr2 ht2 ho2))
 go_ret
 refine⟨v2,rfl,?_⟩;have:=HG.out;rwa [List.append_assoc]at this
theorem OH(w:World)(r:Bt.Rec):
 Calls Tryz.prog 158 #[pK r] w fun e w'=>e= .returned (.int .i64 (Bt.mark r:Nat))∧Turn [] w w':=by
 obtain⟨off,time,keyed,key,gone,value⟩:=r;simp only[pK,eU];have b1:bits .or .i64 1 2=3:=by kernel_rfl
 have b2:bits .or .i64 0 2=2:=by kernel_rfl
 have b3:bits .or .i64 0 1=1:=by kernel_rfl
 cases keyed<;>cases gone
 all_goals
  go_enter Tryz.func158,Tryz.ntmps158
  go_wp2
  go_ret
  exact⟨rfl,(Turn.refl _ _).alloc _⟩
theorem Grew.box{W w:World}{base:Nat}{v v':Value}{b:List UInt8}(h:Grew W w base v v' b){k:Nat}{cs:Array Value}{t:TypeId}(hk:W.heap[k]? =some (.cells cs t (0,0))) (hn:∀x∈v.ownBlock,x≠k):w.heap[k]? =some (.cells cs t (0,0)):=
 h.2.1.heap hk (fun hm=>hn k (by simpa using hm) rfl)
theorem Grew.still{W w w2:World}{base:Nat}{v v':Value}{b:List UInt8}(h:Grew W w base v v' b)(k:Turn [] w w2):Grew W w2 base v v' b:=
 ⟨h.1.kept k (by simp),h.2.1.trans k (by simp),h.2.2⟩
theorem Grew.refl{W:World}{base:Nat}{v:Value}{b:List UInt8}(h:bZ W 5 base v b):Grew W W base v v b:=⟨h,Turn.refl _ _,fun k hk=> .inl hk⟩
theorem OI{w:World}{k:Nat}{r:Bt.Rec}(h:w.heap[k]? =some (.cells #[.int .i64 r.off, .int .i64 r.time, .bool r.keyed, .string ⟨r.key.toArray⟩, .bool r.gone, .string ⟨r.value.toArray⟩] 52 (0,0))):
 w.cell? ⟨k,0,none⟩=some (.int .i64 r.off)∧w.cell? ⟨k,1,none⟩=some (.int .i64 r.time)∧w.cell? ⟨k,2,none⟩=some (.bool r.keyed)∧w.cell? ⟨k,3,none⟩=some (.string ⟨r.key.toArray⟩)∧w.cell? ⟨k,4,none⟩=some (.bool r.gone)∧w.cell? ⟨k,5,none⟩=some (.string ⟨r.value.toArray⟩):=
 ⟨by simpa using cell_of h 0,by simpa using cell_of h 1,by simpa using cell_of h 2,by simpa using cell_of h 3,by simpa using cell_of h 4,by simpa using cell_of h 5⟩
theorem xy{s:List UInt8}(h:s.length≤600):(Bt.qh s).length≤s.length+6:=by
 unfold Bt.qh;have:=Nu.fE (show s.length≤1099511627776 by omega);simp;omega
theorem Gs(r:Bt.Rec):Bt.mark r≤3:=by unfold Bt.mark;split<;>split<;>omega
structure Gt(r:Bt.Rec)(b:Int):Prop where
 lo:b≤r.off
 hi:r.off-b≤1099511627776
 b0:0≤b
 bT:b≤1099511627776
 t0:0≤r.time
 tT:r.time≤1099511627776
 key:r.key.length≤60
 value:r.value.length≤500
theorem QQ{r:Bt.Rec}{b:Int}(h:Gt r b):(Bt.qi b r).length≤600:=by
 obtain⟨h1,h2,h3,h4,h5,h6,h7,h8⟩:=h;have a1:=Nu.fE (show(r.off-b).toNat≤1099511627776 by omega);have a2:=Nu.fE (show r.time.toNat≤1099511627776 by omega);have a3:=Nu.fE (show Bt.mark r≤1099511627776 by have:=Gs r;omega);have a4:=xy (show r.key.length≤600 by omega);have a5:=xy (show r.value.length≤600 by omega);unfold Bt.qi;simp only[List.length_append];split<;>split<;>simp<;>omega
theorem EC(w:World)(base:Nat)(v:Value)(bs:List UInt8)(Pe:bZ w 5 base v bs)(aas:base≤w.heap.size)(r:Bt.Rec)(b:Int)(aa8:Gt r b)(hl:bs.length≤900000):
 Calls Tryz.prog 122 #[v,pK r, .int .i64 b] w fun e w'=>∃v',e= .returned v'∧Grew w w' base v v' (bs++Bt.qi b r):=by
 have HF:=hide aa8;obtain⟨h1,h2,h3,h4,h5,h6,h7,h8⟩:=aa8;have hlt:∀x∈v.ownBlock,x≠w.heap.size:=fun x hx=>by have:=(Pe.lt x hx).2;omega
 have sN:=hide hlt;clear hlt;obtain⟨n0,abH⟩:∃n0:Nat,r.off-b=n0:=⟨(r.off-b).toNat,by omega⟩;obtain⟨n1,QR⟩:∃n1:Nat,r.time=n1:=⟨r.time.toNat,by omega⟩;have HB:Hid (Bt.qi b r=Nu.put n0++Nu.put n1++Nu.put (Bt.mark r)++(if r.keyed then Bt.qh r.key else [])++(if r.gone then []else Bt.qh r.value)):=by
  show _=_;unfold Bt.qi;rw[abH,QR];simp
 have HG0:Hid (Grew (w.alloc (.cells #[.int .i64 r.off, .int .i64 r.time, .bool r.keyed, .string ⟨r.key.toArray⟩, .bool r.gone, .string ⟨r.value.toArray⟩] 52)) (w.alloc (.cells #[.int .i64 r.off, .int .i64 r.time, .bool r.keyed, .string ⟨r.key.toArray⟩, .bool r.gone, .string ⟨r.value.toArray⟩] 52)) base v v bs):=
  Grew.refl (Pe.kept ((Turn.refl [] w).alloc _) (by simp))
 have box:∀wi vi bi,Grew (w.alloc (.cells #[.int .i64 r.off, .int .i64 r.time, .bool r.keyed, .string ⟨r.key.toArray⟩, .bool r.gone, .string ⟨r.value.toArray⟩] 52)) wi base v vi bi→w.heap.size<wi.heap.size∧
  (wi.cell? ⟨w.heap.size,0,none⟩=some (.int .i64 r.off)∧wi.cell? ⟨w.heap.size,1,none⟩=some (.int .i64 r.time)∧wi.cell? ⟨w.heap.size,2,none⟩=some (.bool r.keyed)∧wi.cell? ⟨w.heap.size,3,none⟩=some (.string ⟨r.key.toArray⟩)∧wi.cell? ⟨w.heap.size,4,none⟩=some (.bool r.gone)∧wi.cell? ⟨w.heap.size,5,none⟩=some (.string ⟨r.value.toArray⟩)):=
  fun wi vi bi hg=>⟨by have:=hg.2.1.size;simp at this;omega,OI (hg.box (ai w _) sN.out)⟩
 have BOX:=hide box;clear box Pe;have l0:=Nu.fE (show n0≤1099511627776 by omega);have l1:=Nu.fE (show n1≤1099511627776 by omega);have l2:=Nu.fE (show Bt.mark r≤1099511627776 by have:=Gs r;omega);have l3:=xy (show r.key.length≤600 by omega);have l4:=Gs r;have o1: -9223372036854775808≤r.off:=by omega
 have o2:r.off≤9223372036854775807:=by omega
 simp only[pK,eU];have hn1:n1≤1099511627776:=by omega
 have HTM:=hide QR;clear QR;go_enter Tryz.func122,Tryz.ntmps122
 go_wp2_with fail
 refine(put_any _ base v bs HG0.out.1 (by simp;omega) n0 (by omega) (by omega)).mono ?_;rintro e w1 ⟨v1,rfl,hr1,ht1,ho1⟩;have HG1:=hide (HG0.out.trans ⟨hr1,ht1,ho1⟩);clear hr1 ht1 ho1;obtain⟨z1,c0,c1,c2,c3,c4,c5⟩:=BOX.out _ _ _ HG1.out;go_wp2_with fail
 rw[HTM.out];refine(put_any _ base v1 _ HG1.out.1 (by omega) n1 (by omega) (by simp;omega)).mono ?_;rintro e w2 ⟨v2,rfl,hr2,ht2,ho2⟩;have HG2:=hide (HG1.out.trans ⟨hr2,ht2,ho2⟩);clear hr2 ht2 ho2 c0 c1 c2 c3 c4 c5 z1;obtain⟨z1,c0,c1,c2,c3,c4,c5⟩:=BOX.out _ _ _ HG2.out;go_wp2_with fail
 refine(OH _ r).mono ?_;rintro e w3 ⟨rfl,ht3⟩;have HG3:=hide (HG2.out.still ht3);clear ht3 c0 c1 c2 c3 c4 c5 z1;obtain⟨z1,c0,c1,c2,c3,c4,c5⟩:=BOX.out _ _ _ HG3.out;go_wp2_with fail
 refine(put_any _ base v2 _ HG3.out.1 (by omega) (Bt.mark r) (by omega) (by simp;omega)).mono ?_;rintro e w4 ⟨v4,rfl,hr4,ht4,ho4⟩;have HG4:=hide (HG3.out.trans ⟨hr4,ht4,ho4⟩);clear hr4 ht4 ho4 c0 c1 c2 c3 c4 c5 z1;obtain⟨z1,c0,c1,c2,c3,c4,c5⟩:=BOX.out _ _ _ HG4.out;have fin:∀wi vi bi,Grew (w.alloc (.cells #[.int .i64 r.off, .int .i64 r.time, .bool r.keyed, .string ⟨r.key.toArray⟩, .bool r.gone, .string ⟨r.value.toArray⟩] 52)) wi base v vi bi→bi=bs++Bt.qi b r→Grew w wi base v vi (bs++Bt.qi b r):=
  fun wi vi bi h e=>e▸Grew.pre ((Turn.refl [] w).alloc _) h
 have FIN:=hide fin;clear fin;obtain⟨kd,hkd⟩:∃kd,r.keyed=kd:=⟨_,rfl⟩;obtain⟨gn,hgn⟩:∃gn,r.gone=gn:=⟨_,rfl⟩;rw[hkd]at c2;rw[hgn]at c4;have HB2:Hid (Bt.qi b r=Nu.put n0++Nu.put n1++Nu.put (Bt.mark r)++(if kd then Bt.qh r.key else [])++(if gn then []else Bt.qh r.value)):=by
  show _=_;rw[HB.out,hkd,hgn]
 have HKD:=hide hkd;have HGN:=hide hgn;clear hkd hgn HB;cases kd with
 |true=>
  go_wp2_with fail
  refine(sK _ base v4 _ HG4.out.1 (by omega) r.key (by omega) (by simp;omega)).mono ?_;rintro e w5 ⟨v5,rfl,hg5⟩;have HG5:=hide (HG4.out.trans hg5);clear hg5 c0 c1 c2 c3 c4 c5 z1;obtain⟨z1,c0,c1,c2,c3,c4,c5⟩:=BOX.out _ _ _ HG5.out;rw[HGN.out]at c4;cases gn with
  |true=>
   go_wp2
   go_ret
   exact⟨_,rfl,FIN.out _ _ _ HG5.out (by rw[HB2.out];simp)⟩
  |false=>
   go_wp2_with fail
   refine(sK _ base v5 _ HG5.out.1 (by omega) r.value (by omega) (by simp;omega)).mono ?_;rintro e w6 ⟨v6,rfl,hg6⟩;have HG6:=hide (HG5.out.trans hg6);clear hg6 c0 c1 c2 c3 c4 c5 z1;go_wp2
   go_ret
   exact⟨_,rfl,FIN.out _ _ _ HG6.out (by rw[HB2.out];simp)⟩
 |false=>
  cases gn with
  |true=>
   go_wp2
   go_ret
   exact⟨_,rfl,FIN.out _ _ _ HG4.out (by rw[HB2.out];simp)⟩
  |false=>
   go_wp2_with fail
   refine(sK _ base v4 _ HG4.out.1 (by omega) r.value (by omega) (by simp;omega)).mono ?_;rintro e w6 ⟨v6,rfl,hg6⟩;have HG6:=hide (HG4.out.trans hg6);clear hg6 c0 c1 c2 c3 c4 c5 z1;go_wp2
   go_ret
   exact⟨_,rfl,FIN.out _ _ _ HG6.out (by rw[HB2.out];simp)⟩
theorem IE{hi base:Int}:∀(rs:List Bt.Rec) (lo:Int),base≤lo→Bt.bG rs lo hi=0→∀r∈rs,base≤r.off∧r.off<hi∧r.key.length≤60∧r.value.length≤500∧0≤r.time∧r.time≤1099511627776
 |[],_,_,_,r,hr=>by simp at hr
 |x::rs,lo,hb,h,r,hr=>by
  have h1:Bt.dR x lo hi=0:=by
   unfold Bt.bG at h;split at h
   ·assumption
   ·exact h
  have h2:Bt.bG rs (x.off+1) hi=0:=by
   unfold Bt.bG at h;rwa [if_pos h1]at h
  have hk:=Bt.jS h1;rcases List.mem_cons.1 hr with rfl|hr
  ·exact⟨by omega,hk.2.1,hk.2.2.2.2.1,hk.2.2.2.2.2.1,hk.2.2.2.2.2.2.1,hk.2.2.2.2.2.2.2⟩
  ·exact IE rs (x.off+1) (by omega) h2 r hr
theorem Ny{x:Bt.aB}(h:Bt.chk x=0):∀r∈x.recs,Gt r x.base:=by
 intro r hr;obtain⟨h1,h2,h3,h4,h5,h6⟩:=Bt.jX h;obtain⟨a,b,c,d,e,f⟩:=IE x.recs x.base (Int.le_refl _) h6 r hr;exact⟨a,by omega,h1,by omega,e,f,c,d⟩
theorem KD{b:Int}{rs:List Bt.Rec}{k:Nat}(hk:k<rs.length):Bt.iy b (rs.take (k+1))=Bt.iy b (rs.take k)++Bt.qi b rs[k]:=by
 unfold Bt.iy;rw[List.take_succ_eq_append_getElem hk];simp only[List.flatMap_append,List.flatMap_cons,List.flatMap_nil,List.append_nil]
theorem oq{b:Int}:∀(rs:List Bt.Rec),(∀r∈rs,Gt r b)→(Bt.iy b rs).length≤600*rs.length
 |[],_=>by simp[Bt.iy]
 |r::rs,h=>by
  have h1:=QQ (h r (by simp));have h2:=oq rs (fun x hx=>h x (by simp[hx]));simp only[Bt.iy,List.flatMap_cons,List.length_append,List.length_cons]at h2⊢;omega
theorem IG(w:World)(base:Nat)(v sv:Value)(bs:List UInt8)(Pe:bZ w 5 base v bs)(aas:base≤w.heap.size)(x:Bt.aB)(hx:bF w sv x.recs)(hd:x.recs≠[]→∀k∈sv.ownBlock,k∉v.ownBlock)(hc:Bt.chk x=0)(hl:bs.length≤100):
 Calls Tryz.prog 88 #[v, .agg #[.int .i64 x.base, .int .i64 x.fin,sv]] w fun e w'=>∃v',e= .returned v'∧Grew w w' base v v' (bs++Bt.body x):=by
 have aa8:=Ny hc;obtain⟨h1,h2,h3,h4,h5,h6⟩:=Bt.jX hc;obtain⟨xb,xf,recs⟩:=x;simp only at h1 h2 h3 h4 h5 h6 hx aa8 hd⊢;obtain⟨a,c,rfl,hlc,hcm,hn0,hp⟩:=hx.form;have hmx:maxLen=9223372036854775807:=by simp[maxLen]
 rw[hmx]at hcm;have OJ:=hide aa8;have HX:=hide hx;have HD:=hide hd;have hlt:∀x∈v.ownBlock,x≠w.heap.size:=fun x hx=>by have:=(Pe.lt x hx).2;omega
 have sN:=hide hlt;obtain⟨n0,hnb⟩:∃n0:Nat,xb=n0:=⟨xb.toNat,by omega⟩;subst hnb;obtain⟨n1,abH⟩:∃n1:Nat,xf-(n0:Int)=n1:=⟨(xf-n0).toNat,by omega⟩;have HB:Hid (Bt.body ⟨(n0:Int),xf,recs⟩=Nu.put n0++Nu.put n1++Nu.put recs.length++Bt.iy n0 recs):=by
  show _=_;unfold Bt.body;simp only[abH];simp
 have HG0:Hid (Grew (w.alloc (.cells #[.int .i64 (n0:Int), .int .i64 xf, .slice a recs.length c] 71)) (w.alloc (.cells #[.int .i64 (n0:Int), .int .i64 xf, .slice a recs.length c] 71)) base v v bs):=
  Grew.refl (Pe.kept ((Turn.refl [] w).alloc _) (by simp))
 have box:∀wi vi bi,Grew (w.alloc (.cells #[.int .i64 (n0:Int), .int .i64 xf, .slice a recs.length c] 71)) wi base v vi bi→w.heap.size<wi.heap.size∧
  wi.cell? ⟨w.heap.size,0,none⟩=some (.int .i64 (n0:Int))∧wi.cell? ⟨w.heap.size,1,none⟩=some (.int .i64 xf)∧wi.cell? ⟨w.heap.size,2,none⟩=some (.slice a recs.length c):=by
  intro wi vi bi hg;have hb:=hg.box (ai w _) sN.out;exact⟨by have:=hg.2.1.size;simp at this;omega,by simpa using cell_of hb 0,by simpa using cell_of hb 1,by simpa using cell_of hb 2⟩
 have BOX:=hide box;have QS:∀wi vi bi,Grew (w.alloc (.cells #[.int .i64 (n0:Int), .int .i64 xf, .slice a recs.length c] 71)) wi base v vi bi→bF wi (.slice a recs.length c) recs:=by
  intro wi vi bi hg;exact(HX.out.still ((Turn.refl [] w).alloc _)).kept' hg.2.1 (fun h0 k hk hm=>HD.out h0 k hk (by simpa using hm))
 have RECS:=hide QS;clear box Pe hx hd hlt aa8 QS hn0;have l0:=Nu.fE (show n0≤1099511627776 by omega);have l1:=Nu.fE (show n1≤1099511627776 by omega);have l2:=Nu.fE (show recs.length≤1099511627776 by omega);go_enter Tryz.func88,Tryz.ntmps88
 go_wp2_with fail
 refine(put_any _ base v bs HG0.out.1 (by simp;omega) n0 (by omega) (by omega)).mono ?_;rintro e w1 ⟨v1,rfl,hr1,ht1,ho1⟩;have HG1:=hide (HG0.out.trans ⟨hr1,ht1,ho1⟩);clear hr1 ht1 ho1;obtain⟨z1,c0,c1,c2⟩:=BOX.out _ _ _ HG1.out;go_wp2_with fail
 refine(put_any _ base v1 _ HG1.out.1 (by omega) n1 (by omega) (by simp;omega)).mono ?_;rintro e w2 ⟨v2,rfl,hr2,ht2,ho2⟩;have HG2:=hide (HG1.out.trans ⟨hr2,ht2,ho2⟩);clear hr2 ht2 ho2 c0 c1 c2 z1;obtain⟨z1,c0,c1,c2⟩:=BOX.out _ _ _ HG2.out;go_wp2_with fail
 refine(put_any _ base v2 _ HG2.out.1 (by omega) recs.length (by omega) (by simp;omega)).mono ?_;rintro e w3 ⟨v3,rfl,hr3,ht3,ho3⟩;have HG3:=hide (HG2.out.trans ⟨hr3,ht3,ho3⟩);clear hr3 ht3 ho3 c0 c1 c2 z1;obtain⟨z1,c0,c1,c2⟩:=BOX.out _ _ _ HG3.out;go_wp2
 go_loopw [0,26] (fun s i wr=>∃k:Nat,k≤recs.length∧i= .int .i64 k∧Grew (w.alloc (.cells #[.int .i64 (n0:Int), .int .i64 xf, .slice a recs.length c] 71)) wr base v s (bs++Nu.put n0++Nu.put n1++Nu.put recs.length++Bt.iy n0 (recs.take k))) (fun _ i _=>recs.length-(intOf i).toNat)
 case atStart=>exact⟨0,Nat.zero_le _,rfl,by simpa[Bt.iy]using HG3.out⟩
 case round=>
  obtain⟨k,hk,rfl,hg⟩:=hrel;have HG:=hide hg;clear hg c0 c1 c2 z1;obtain⟨z1,c0,c1,c2⟩:=BOX.out _ _ _ HG.out;by_cases hlt:k<recs.length
  ·obtain⟨p,rfl⟩:=hp k hlt
   obtain⟨g0,g1,g2,g3,g4,g5⟩:=(RECS.out _ _ _ HG.out).six hlt;have hf:=OJ.out recs[k] (List.getElem_mem _);have HF:=hide hf;have HS:=hide (KD (b:=(n0:Int)) hlt);have hln:=oq (b:=(n0:Int)) (recs.take k) (fun r hr=>OJ.out r (List.mem_of_mem_take hr));have aty:(recs.take k).length≤k:=List.length_take_le _ _;clear hp hf;obtain⟨r,hr⟩:∃r,r=recs[k]:=⟨_,rfl⟩;rw[←hr]at g0 g1 g2 g3 g4 g5 HS HF;clear hr;go_wp2_with fail
   refine(EC _ base _ _ (HG.out.1.kept ((Turn.refl [] _).alloc _) (by simp)) (by simp;omega) r n0 HF.out (by simp only[List.length_append];omega)).mono ?_;rintro e w4 ⟨v4,rfl,hg4⟩;have HG4:=hide (HG.out.trans (Grew.pre ((Turn.refl [] _).alloc _) hg4));clear hg4 c0 c1 c2 z1 g0 g1 g2 g3 g4 g5;obtain⟨z1,c0,c1,c2⟩:=BOX.out _ _ _ HG4.out;go_wp2
   refine⟨⟨k+1,by omega,by go_num,?_⟩,?_⟩
   ·rw[HS.out,←List.append_assoc];exact HG4.out
   ·simp only[intOf];omega
  ·have abo:recs.take k=recs:=List.take_of_length_le (by omega)
   have HL:=hide abo;clear abo;go_wp2
   go_ret
   refine⟨_,rfl,Grew.pre ((Turn.refl [] w).alloc (.cells #[.int .i64 (n0:Int), .int .i64 xf, .slice a recs.length c] 71)) ?_⟩;have:=HG.out;rw[HL.out]at this;rw[HB.out];simpa[List.append_assoc]using this
end
namespace As
def oN(n:Int):Value:=if n=0 then .nilIface else .iface 45 (.int .i64 n)
end As
section
open Go.RowKit Go.Maps
set_option maxRecDepth 100000
set_option linter.unusedSimpArgs false
set_option linter.unusedVariables false
theorem Dh(w:World)(r:Bt.Rec)(ok:iQ r)(lo hi:Int):
 Calls Tryz.prog 120 #[pK r, .int .i64 lo, .int .i64 hi] w fun e w'=>e= .returned (As.oN (Bt.dR r lo hi))∧Turn [] w w':=by
 obtain⟨off,time,keyed,key,gone,value⟩:=r;obtain⟨o1,o2,t1,t2,k1,v1⟩:=ok;simp only at o1 o2 t1 t2 k1 v1;simp only[pK,eU];by_cases h1:off<lo
 ·have hz:Bt.dR ⟨off,time,keyed,key,gone,value⟩ lo hi=1:=by unfold Bt.dR;rw[if_pos (.inl h1)]
  rw[hz];clear hz;go_enter Tryz.func120,Tryz.ntmps120
  go_wp2
  go_ret
  exact⟨rfl,(Turn.refl _ _).alloc _⟩
 by_cases h2:hi≤off
 ·have hz:Bt.dR ⟨off,time,keyed,key,gone,value⟩ lo hi=1:=by unfold Bt.dR;rw[if_pos (.inr (.inl h2))]
  rw[hz];clear hz;go_enter Tryz.func120,Tryz.ntmps120
  go_wp2
  go_ret
  exact⟨rfl,(Turn.refl _ _).alloc _⟩
 by_cases h3:keyed=false∧key≠[]
 ·have hz:Bt.dR ⟨off,time,keyed,key,gone,value⟩ lo hi=1:=by unfold Bt.dR;rw[if_pos (.inr (.inr (.inl h3)))]
  rw[hz];clear hz;obtain⟨rfl,h3⟩:=h3;have h3':key.isEmpty=false:=by simpa using h3
  go_enter Tryz.func120,Tryz.ntmps120
  go_wp2
  go_ret
  exact⟨rfl,(Turn.refl _ _).alloc _⟩
 have hk:keyed=true∨(keyed=false∧key=[]):=by
  cases keyed
  ·exact .inr ⟨rfl,Classical.byContradiction fun h=>h3 ⟨rfl,h⟩⟩
  ·exact .inl rfl
 by_cases h4:gone=true∧value≠[]
 ·have hz:Bt.dR ⟨off,time,keyed,key,gone,value⟩ lo hi=1:=by unfold Bt.dR;rw[if_pos (.inr (.inr (.inr h4)))]
  rw[hz];clear hz h3;obtain⟨rfl,h4⟩:=h4;have h4':value.isEmpty=false:=by simpa using h4
  rcases hk with rfl|⟨rfl,rfl⟩
  all_goals
   go_enter Tryz.func120,Tryz.ntmps120
   go_wp2
   go_ret
   exact⟨rfl,(Turn.refl _ _).alloc _⟩
 have hg:gone=false∨(gone=true∧value=[]):=by
  cases gone
  ·exact .inl rfl
  ·exact .inr ⟨rfl,Classical.byContradiction fun h=>h4 ⟨rfl,h⟩⟩
 have hz:Bt.dR ⟨off,time,keyed,key,gone,value⟩ lo hi=if 60<key.length∨500<value.length then 4 else if time<0∨1099511627776<time then 2 else 0:=by
  unfold Bt.dR;rw[if_neg];simp only[h1,h2,h3,h4,or_self,not_false_eq_true]
 rw[hz];clear hz h3 h4;by_cases h5:60<key.length
 ·rw[if_pos (.inl h5)]
  rcases hk with rfl|⟨rfl,rfl⟩
  rotate_left
  ·simp at h5
  rcases hg with rfl|⟨rfl,rfl⟩
  all_goals
   go_enter Tryz.func120,Tryz.ntmps120
   go_wp2
   go_ret
   exact⟨rfl,(Turn.refl _ _).alloc _⟩
 by_cases h6:500<value.length
 ·rw[if_pos (.inr h6)]
  rcases hg with rfl|⟨rfl,rfl⟩
  rotate_left
  ·simp at h6
  rcases hk with rfl|⟨rfl,rfl⟩
  all_goals
   go_enter Tryz.func120,Tryz.ntmps120
   go_wp2
   go_ret
   exact⟨rfl,(Turn.refl _ _).alloc _⟩
 rw[if_neg (by omega)];by_cases h7:time<0
 ·rw[if_pos (.inl h7)]
  rcases hk with rfl|⟨rfl,rfl⟩<;>rcases hg with rfl|⟨rfl,rfl⟩
  all_goals
   go_enter Tryz.func120,Tryz.ntmps120
   go_wp2
   go_ret
   exact⟨rfl,(Turn.refl _ _).alloc _⟩
 by_cases h8:1099511627776<time
 ·rw[if_pos (.inr h8)]
  rcases hk with rfl|⟨rfl,rfl⟩<;>rcases hg with rfl|⟨rfl,rfl⟩
  all_goals
   go_enter Tryz.func120,Tryz.ntmps120
   go_wp2
   go_ret
   exact⟨rfl,(Turn.refl _ _).alloc _⟩
 rw[if_neg (by omega)];rcases hk with rfl|⟨rfl,rfl⟩<;>rcases hg with rfl|⟨rfl,rfl⟩
 all_goals
  go_enter Tryz.func120,Tryz.ntmps120
  go_wp2
  go_ret
  exact⟨rfl,(Turn.refl _ _).alloc _⟩
theorem Gu{rs:List Bt.Rec}{k:Nat}(hk:k<rs.length)(lo hi:Int):Bt.bG (rs.drop k) lo hi=if Bt.dR rs[k] lo hi=0 then Bt.bG (rs.drop (k+1)) (rs[k].off+1) hi else Bt.dR rs[k] lo hi:=by
 rw[List.drop_eq_getElem_cons hk];rfl
theorem Ur(w:World)(v:Value)(x:Bt.aB)(hx:yt w v x):
 Calls Tryz.prog 87 #[v] w fun e w'=>e= .returned (As.oN (Bt.chk x))∧Turn [] w w':=by
 obtain⟨sv,rfl,hr,b1,b2,f1,f2⟩:=hx;obtain⟨base,fin,recs⟩:=x;simp only at hr b1 b2 f1 f2;obtain⟨a,c,rfl,hlc,hcm,hn0,hp⟩:=hr.form;have hmx:maxLen=9223372036854775807:=by simp[maxLen]
 rw[hmx]at hcm;by_cases h1:base<0
 ·have hz:Bt.chk ⟨base,fin,recs⟩=2:=by unfold Bt.chk;rw[if_pos (.inl h1)]
  rw[hz];clear hz hr;go_enter Tryz.func87,Tryz.ntmps87
  go_wp2
  go_ret
  exact⟨rfl,(Turn.refl _ _).alloc _⟩
 by_cases h2:1099511627776<fin
 ·have hz:Bt.chk ⟨base,fin,recs⟩=2:=by unfold Bt.chk;rw[if_pos (.inr h2)]
  rw[hz];clear hz hr;go_enter Tryz.func87,Tryz.ntmps87
  go_wp2
  go_ret
  exact⟨rfl,(Turn.refl _ _).alloc _⟩
 by_cases h3:fin≤base
 ·have hz:Bt.chk ⟨base,fin,recs⟩=1:=by unfold Bt.chk;rw[if_neg (by simp only;omega),if_pos h3]
  rw[hz];clear hz hr;go_enter Tryz.func87,Tryz.ntmps87
  go_wp2
  go_ret
  exact⟨rfl,(Turn.refl _ _).alloc _⟩
 by_cases h4:50<recs.length
 ·have hz:Bt.chk ⟨base,fin,recs⟩=4:=by unfold Bt.chk;rw[if_neg (by simp only;omega),if_neg h3,if_pos (.inl h4)]
  rw[hz];clear hz hr;go_enter Tryz.func87,Tryz.ntmps87
  go_wp2
  go_ret
  exact⟨rfl,(Turn.refl _ _).alloc _⟩
 by_cases h5:50<fin-base
 ·have hz:Bt.chk ⟨base,fin,recs⟩=4:=by unfold Bt.chk;rw[if_neg (by simp only;omega),if_neg h3,if_pos (.inr h5)]
  rw[hz];clear hz hr;go_enter Tryz.func87,Tryz.ntmps87
  go_wp2
  go_ret
  exact⟨rfl,(Turn.refl _ _).alloc _⟩
 have hz:Bt.chk ⟨base,fin,recs⟩=Bt.bG recs base fin:=by unfold Bt.chk;rw[if_neg (by simp only;omega),if_neg h3,if_neg (by simp only;omega)]
 have HZ:=hide hz;have HR:Hid (bF w (.slice a recs.length c) recs):=hr;clear hz hr;go_enter Tryz.func87,Tryz.ntmps87
 go_wp2
 go_loopw [3,40] (fun l i wr=>∃(k:Nat) (lo:Int),k≤recs.length∧i= .int .i64 k∧l= .int .i64 lo∧Bt.bG recs base fin=Bt.bG (recs.drop k) lo fin∧lo≤fin∧Turn [] (w.alloc (.cells #[.int .i64 base, .int .i64 fin, .slice a recs.length c] 71)) wr) (fun _ i _=>recs.length-(intOf i).toNat)
 case atStart=>exact⟨0,base,Nat.zero_le _,rfl,rfl,rfl,by omega,Turn.refl _ _⟩
 case round=>
  obtain⟨k,lo,hk,rfl,rfl,he,hlo,ht⟩:=hrel;have HE:=hide he;have HT:=hide ht;clear he ht;have ht1:w.heap.size<wr.heap.size:=by have:=HT.out.size;simp at this;omega
  have hb0:wr.heap[w.heap.size]? =some (.cells #[.int .i64 base, .int .i64 fin, .slice a recs.length c] 71 (0,0)):=HT.out.heap (ai w _) (by simp)
  have c0:=cell_of hb0 0;have c1:=cell_of hb0 1;have c2:=cell_of hb0 2;simp at c0 c1 c2;by_cases hlt:k<recs.length
  ·obtain⟨p,rfl⟩:=hp k hlt
   have ok:=HR.out.ok hlt;obtain⟨g0,g1,g2,g3,g4,g5⟩:=((HR.out.still ((Turn.refl [] w).alloc _)).still HT.out).six hlt;have HS:=hide (Gu hlt lo fin);have HO:=hide ok;clear hp hn0 ok;obtain⟨r,hr⟩:∃r,r=recs[k]:=⟨_,rfl⟩;rw[←hr]at g0 g1 g2 g3 g4 g5 HS HO;have o1:=HO.out.off1;have o2:=HO.out.off2;have HR1:Hid (r=recs[k]):=hr;clear hr;obtain⟨ec,hec⟩:∃ec,ec=Bt.dR r lo fin:=⟨_,rfl⟩;have Yb:=hide hec;clear hec;have aft:∀w2,Turn [] (wr.alloc (.cells #[.int .i64 r.off, .int .i64 r.time, .bool r.keyed, .string ⟨r.key.toArray⟩, .bool r.gone, .string ⟨r.value.toArray⟩] 52)) w2→
    Turn [] (w.alloc (.cells #[.int .i64 base, .int .i64 fin, .slice (some p) recs.length c] 71)) w2∧w2.cell? ⟨wr.heap.size,0,none⟩=some (.int .i64 r.off):=by
    intro w2 h;have hb1:=h.heap (ai wr _) (by simp);have:=cell_of hb1 0;exact⟨HT.out.same (((Turn.refl [] wr).alloc _).same h),by simpa using this⟩
   have AFT:=hide aft;clear aft;by_cases h0:ec=0
   ·have hof:lo≤r.off∧r.off<fin:=by
     have:=Bt.jS (Yb.out.symm.trans h0);exact⟨this.1,this.2.1⟩
    have HS2:Hid (Bt.bG (recs.drop k) lo fin=Bt.bG (recs.drop (k+1)) (r.off+1) fin):=by
     show _=_;rw[HS.out,if_pos (Yb.out.symm.trans h0)]
    subst h0;go_wp2_with fail
    refine(Dh _ r HO.out lo fin).mono ?_;rintro e w2 ⟨rfl,ht2⟩;rw[←Yb.out];obtain⟨ht3,hc3⟩:=AFT.out w2 ht2;have HT3:=hide ht3;clear ht3 ht2 c0 c1 c2 g0 g1 g2 g3 g4 g5;simp only[As.oN,if_true];go_wp2
    refine⟨⟨k+1,r.off+1,by omega,by go_num,?_,?_,by omega,HT3.out⟩,?_⟩
    ·rfl
    ·rw[HE.out,HS2.out]
    ·simp only[intOf];omega
   ·have HS2:Hid (Bt.bG (recs.drop k) lo fin=ec):=by
     show _=_;rw[HS.out,if_neg (fun h=>h0 (Yb.out.trans h)),Yb.out]
    go_wp2_with fail
    refine(Dh _ r HO.out lo fin).mono ?_;rintro e w2 ⟨rfl,ht2⟩;rw[←Yb.out];obtain⟨ht3,hc3⟩:=AFT.out w2 ht2;have HT3:=hide ht3;clear ht3 ht2 c0 c1 c2 g0 g1 g2 g3 g4 g5;simp only[As.oN,h0,if_false];go_wp2
    go_ret
    refine⟨?_,((Turn.refl [] w).alloc _).same HT3.out⟩;rw[HZ.out,HE.out,HS2.out];simp only[As.oN,h0,if_false];rfl
  ·have HL:Hid (recs.drop k=[]):=by show _=_;rw[List.drop_eq_nil_iff];omega
   go_wp2
   go_ret
   refine⟨?_,((Turn.refl [] w).alloc _).same HT.out⟩;rw[HZ.out,HE.out,HL.out];rfl
theorem Us(s:Nat)(h:s<4294967296):bits .xor .u32 IntKind.u32.max (s:Int)=((4294967295-s:Nat):Int):=by
 rw[show IntKind.u32.max=((4294967295:Nat):Int)by decide,u32_xor_nat _ _ (by omega) h];congr 1
 apply Nat.eq_of_testBit_eq;intro i;have h1:=Nat.testBit_two_pow_sub_one 32 i;have h2:=Nat.testBit_two_pow_sub_succ (n:=32) (x:=s) (by simpa using h) i;rw[show 2^32-(s+1)=4294967295-s by omega]at h2;rw[show(2^32-1:Nat)=4294967295 by decide]at h1;rw[Nat.testBit_xor,h1,h2];by_cases hi:i<32
 ·simp[hi]
 ·simp[hi,Cr.Um h (by omega:32≤i)]
theorem QT(s:Nat)(h:s<4294967296):bits .xor .u32 ((s:Int)/2) (3988292384*bits .and .u32 (s:Int) 1%4294967296)=((Cr.step s:Nat):Int):=by
 have h1:=u32_and_nat s 1 h (by omega);rw[nat_mask1]at h1;simp only[Int.natCast_one]at h1;rw[h1,show(s:Int)/2=((s/2:Nat):Int)by omega,show(3988292384*((s%2:Nat):Int)%4294967296)=((3988292384*(s%2):Nat):Int)by omega,u32_xor_nat _ _ (by omega) (by omega)];rfl
theorem sum_any(w:World)(v:Value)(bs:List UInt8)(hx:SliceAt w v (bs.map ah))(hl:bs.length≤9223372036854775806):
 Calls Tryz.prog 90 #[v] w fun e w'=>e= .returned (.int .i64 (Cr.sum bs))∧w=w':=by
 obtain⟨a,c,rfl,hc⟩:=hx.form;clear hx;simp only[List.length_map];go_enter Tryz.func90,Tryz.ntmps90
 go_wp2
 go_loop [3,8] (fun s i=>∃k:Nat,k≤bs.length∧i= .int .i64 k∧s= .int .u32 (Cr.crc (bs.take k))) (fun _ i=>bs.length-(intOf i).toNat)
 case atStart=>exact⟨0,Nat.zero_le _,rfl,rfl⟩
 case round=>
  obtain⟨k,hk,rfl,rfl⟩:=hrel;by_cases hlt:k<bs.length
  ·obtain⟨p,rfl,agl⟩:=hc k _ (V6 bs k hlt)
   have hb8:=bs[k].toNat_lt;have hs:=Cr.xu (bs.take k);have HS:Hid (Cr.crc (bs.take (k+1))=Cr.byte (Cr.crc (bs.take k)) bs[k]):=by show _=_;rw[take_snoc bs k hlt,Cr.QD]
   clear hc;go_wp2
   have hxx:=Cr.Gj hs bs[k];go_loop [3,16] (fun s i=>∃j:Nat,j≤8∧i= .int .i64 j∧s= .int .u32 (Cr.steps j (Cr.crc (bs.take k)^^^bs[k].toNat))) (fun _ i=>8-(intOf i).toNat)
   case atStart=>exact⟨0,Nat.zero_le _,rfl,by rw[u32_xor_nat _ _ hs (by omega)];rfl⟩
   case round=>
    obtain⟨j,hj,rfl,rfl⟩:=hrel;have hsj:=Cr.qg hxx j;by_cases hlj:j<8
    ·go_wp2
     go_round
     case rel=>exact⟨j+1,by omega,by go_num,by rw[QT _ hsj];rfl⟩
     case measure=>simp[intOf];omega
    ·obtain rfl:j=8:=by omega
     go_wp2
     go_round
     case rel=>exact⟨k+1,by omega,by go_num,by rw[HS.out];rfl⟩
     case measure=>simp[intOf];omega
  ·go_wp2
   have abo:bs.take k=bs:=List.take_of_length_le (by omega);rw[abo]at*;go_ret
   exact⟨nU (by rw[Us _ (Cr.xu bs),IntWalk.wrap64_in _ (by have:=Cr.xu bs;omega)];rfl),rfl⟩
def II(cur:Array Value)(o n:Nat):Array Value:=
 (((cur.setIfInBounds o (.int .u8 (n/16777216%256:Nat))).setIfInBounds (o+1) (.int .u8 (n/65536%256:Nat))).setIfInBounds (o+2) (.int .u8 (n/256%256:Nat))).setIfInBounds (o+3) (.int .u8 (n%256:Nat))
theorem yG(w:World)(g o:Nat)(cur:Array Value)(hg:w.heap[g]? =some (.cells cur 5 (0,0))) (ho:o+4≤cur.size) (l c n:Nat) (hl:4≤l) (hlm:l≤1000000) (hn:n<4294967296):
 Calls Tryz.prog 89 #[.slice (some ⟨g,o,none⟩) l c, .int .i64 n] w fun e w'=>e= .returned (.tuple #[])∧Turn [g] w w'∧w'.heap[g]? =some (.cells (II cur o n) 5 (0,0)):=by
 have c0:w.cell? ⟨g,o,none⟩=some (cur[o]'(by omega)):=by rw[cell_of hg];simp
 have c1:w.cell? ⟨g,o+1,none⟩=some (cur[o+1]'(by omega)):=by rw[cell_of hg];simp
 have c2:w.cell? ⟨g,o+2,none⟩=some (cur[o+2]'(by omega)):=by rw[cell_of hg];simp
 have c3:w.cell? ⟨g,o+3,none⟩=some (cur[o+3]'(by omega)):=by rw[cell_of hg];simp
 have fz:∀i,w.frozen? ⟨g,i,none⟩=false:=fun i=>au hg i
 have f0:=fz o;have f1:=fz (o+1);have f2:=fz (o+2);have f3:=fz (o+3);clear fz;have HG:=hide hg;clear hg;go_enter Tryz.func89,Tryz.ntmps89
 go_wp2
 go_end0
 have e0:(n:Int)/16777216=((n/16777216%256:Nat):Int):=by omega
 have e1:(n:Int)/65536%256=((n/65536%256:Nat):Int):=by omega
 have e2:(n:Int)/256%256=((n/256%256:Nat):Int):=by omega
 have e3:(n:Int)%256=((n%256:Nat):Int):=by omega
 refine⟨rfl,((((Turn.refl _ _).setCell (.inl (by simp)) _).setCell (.inl (by simp)) _).setCell (.inl (by simp)) _).setCell (.inl (by simp)) _,?_⟩;rw[e0,e1,e2,e3];exact heap_set (heap_set (heap_set (heap_set HG.out o _) (o+1) _) (o+2) _) (o+3) _
theorem IJ{n:Nat}:(Bt.four n).map ah=[.int .u8 (n/16777216%256:Nat), .int .u8 (n/65536%256:Nat), .int .u8 (n/256%256:Nat), .int .u8 (n%256:Nat)]:=by
 simp only[Bt.four,List.map_cons,List.map_nil,ah];have a0:(UInt8.ofNat (n/16777216%256)).toNat=n/16777216%256:=by simp
 have a1:(UInt8.ofNat (n/65536%256)).toNat=n/65536%256:=by simp
 have a2:(UInt8.ofNat (n/256%256)).toNat=n/256%256:=by simp
 have a3:(UInt8.ofNat (n%256)).toNat=n%256:=by simp
 rw[a0,a1,a2,a3]
theorem xA(cur:Array Value)(o n:Nat):(II cur o n).size=cur.size:=by simp[II]
theorem Wl{cur:Array Value}{n L:Nat}{a b c d:UInt8}{post:List UInt8}(hL:L=post.length+4)(h:cur.toList.take L=(a::b::c::d::post).map ah):(II cur 0 n).toList.take L=(Bt.four n++post).map ah:=by
 rw[List.map_append,IJ];have e:=List.take_append_drop L cur.toList;rw[h]at e;unfold II;simp only[Array.toList_setIfInBounds];rw[←e];simp only[List.map_cons,List.cons_append,List.set_cons_zero,List.set_cons_succ,Nat.zero_add];subst hL;simp
theorem Wn{cur:Array Value}{n L:Nat}{p q r s a b c d:UInt8}{post:List UInt8}(hL:L=post.length+8)(h:cur.toList.take L=(p::q::r::s::a::b::c::d::post).map ah):(II cur 4 n).toList.take L=(p::q::r::s::(Bt.four n++post)).map ah:=by
 rw[List.map_cons,List.map_cons,List.map_cons,List.map_cons,List.map_append,IJ];have e:=List.take_append_drop L cur.toList;rw[h]at e;unfold II;simp only[Array.toList_setIfInBounds];rw[←e];simp only[List.map_cons,List.cons_append,List.set_cons_zero,List.set_cons_succ,Nat.zero_add];subst hL;simp
theorem mk8(w:World):(Instr.makeSlice 39 (.int .i64 8) (.int .i64 8)).run Tryz.prog w= .ok (.slice (some ⟨w.heap.size,0,none⟩) 8 8) (w.alloc (.cells #[.int .u8 0, .int .u8 0, .int .u8 0, .int .u8 0, .int .u8 0, .int .u8 0, .int .u8 0, .int .u8 0] 5)):=by kernel_rfl
theorem QU{x:Bt.aB}(h:Bt.chk x=0):(Bt.body x).length≤30018:=by
 have hf:=Ny h;obtain⟨h1,h2,h3,h4,h5,h6⟩:=Bt.jX h;have a0:=Nu.fE (show x.base.toNat≤1099511627776 by omega);have a1:=Nu.fE (show(x.fin-x.base).toNat≤1099511627776 by omega);have a2:=Nu.fE (show x.recs.length≤1099511627776 by omega);have a3:=oq x.recs hf;unfold Bt.body;simp only[List.length_append];omega
theorem wC(x:Bt.aB):3≤(Bt.body x).length:=by
 have a0:=Nu.put_pos x.base.toNat;have a1:=Nu.put_pos (x.fin-x.base).toNat;have a2:=Nu.put_pos x.recs.length;unfold Bt.body;simp only[List.length_append];omega
theorem row_drop{w:World}{g:Nat}{cur:Array Value}{t:TypeId}{bs:List UInt8}(hg:w.heap[g]? =some (.cells cur t (0,0))) (ht:cur.toList.take bs.length=bs.map ah) (o c:Nat):SliceAt w (.slice (some ⟨g,o,none⟩) (bs.length-o) c) ((bs.drop o).map ah):=by
 refine .inr ⟨⟨g,o,none⟩,c,by simp,fun j u hu=>?_⟩;have e:(⟨g,o,none⟩:Addr).add j=⟨g,o+j,none⟩:=by
  rw[←addr_add g o,add_add,addr_add]
 rw[e,cell_of hg];have hj:o+j<bs.length:=by
  have:=(List.getElem?_eq_some_iff.1 hu).1;simp at this;omega
 have h1:(bs.map ah)[o+j]? =some u:=by
  rw[←hu];simp
 rw[←ht,List.getElem?_take_of_lt hj]at h1;simpa using h1
def encR(x:Bt.aB):List UInt8:=if Bt.aQ x=0 then Bt.ah x else []
theorem Gv(w:World)(v:Value)(x:Bt.aB)(hx:yt w v x):
 Calls Tryz.prog 56 #[v] w fun e w'=>∃v',e= .returned (.tuple #[v',As.oN (Bt.aQ x)])∧Turn [] w w'∧bZ w' 5 w.heap.size v' (encR x):=by
 have HX:=hide hx;obtain⟨sv,rfl,hr,b1,b2,f1,f2⟩:=hx;have HR:=hide hr;obtain⟨a,c,rfl,hlc,hcm,hn0,hp⟩:=hr.form;have hmx:maxLen=9223372036854775807:=by simp[maxLen]
 rw[hmx]at hcm;have bat:∀Z,Turn [] w Z→yt Z (.agg #[.int .i64 x.base, .int .i64 x.fin, .slice a x.recs.length c]) x:=by
  intro Z hZ;obtain⟨sv,e,hr,r⟩:=HX.out;exact⟨sv,e,hr.still hZ,r⟩
 have BAT:=hide bat;have cells:∀Z,Turn [] (w.alloc (.cells #[.int .i64 x.base, .int .i64 x.fin, .slice a x.recs.length c] 71)) Z→w.heap.size<Z.heap.size∧
  Z.cell? ⟨w.heap.size,0,none⟩=some (.int .i64 x.base)∧Z.cell? ⟨w.heap.size,1,none⟩=some (.int .i64 x.fin)∧Z.cell? ⟨w.heap.size,2,none⟩=some (.slice a x.recs.length c):=by
  intro Z hZ;have hb:=hZ.heap (ai w _) (by simp);exact⟨by have:=hZ.size;simp at this;omega,by simpa using cell_of hb 0,by simpa using cell_of hb 1,by simpa using cell_of hb 2⟩
 have CELLS:=hide cells;clear hr hp hn0 bat cells;have hmk:=mk8;obtain⟨ce,hce⟩:∃ce,ce=Bt.chk x:=⟨_,rfl⟩;have OL:=hide hce;clear hce;go_enter Tryz.func56,Tryz.ntmps56
 go_wp2_with fail
 refine(Ur _ _ x (BAT.out _ ((Turn.refl [] w).alloc _))).mono ?_;rintro e wa ⟨rfl,ht1⟩;rw[←OL.out];have HT1:=hide ht1;clear ht1;obtain⟨z1,c0,c1,c2⟩:=CELLS.out _ HT1.out;by_cases h0:ce=0
 ·subst h0
  simp only[As.oN,if_true];go_wp2
  refine gU 2 [] (by kernel_rfl) rfl ?_;refine Lo.run 1 rfl rfl [] (fun y w'=>∃g,wa.heap.size≤g∧y= .slice (some ⟨g,0,none⟩) 8 8∧w'.heap[g]? =some (.cells #[.int .u8 0, .int .u8 0, .int .u8 0, .int .u8 0, .int .u8 0, .int .u8 0, .int .u8 0, .int .u8 0] 5 (0,0))) (by kernel_rfl) (fun x w w' h hR=>?_) (fun _ _ h=>h) (fun u w1 hR hF=>?_) ?_
  ·obtain⟨g,e1,e2,e3⟩:=h;exact⟨g,e1,e2,hR.heap e3 (by simp)⟩
  ·clear hF
   refine⟨rfl,fun a ha K hK=>?_⟩;clear ha;go_simp
   exact hK _ _ ⟨_,((Turn.refl [] _).drew.same hR).size,rfl,ai _ _⟩ ((Turn.refl _ _).alloc _)
  apply Lo.r0 2 rfl 1 (by intro u;conv=>lhs;whnf) rfl
  ·intro a w1 hR e1 K hK
   obtain⟨z1,c0,c1,c2⟩:=CELLS.out _ (HT1.out.drew.same hR);go_simp
   exact hK _ rfl
  refine Lo.done [0,1] (fun u w1 bI hSd hF=>?_);clear hSd;obtain⟨f0,f1, -⟩:=hF;have d0:=(show(fun y w'=>∃g,wa.heap.size≤g∧y= .slice (some ⟨g,0,none⟩) 8 8∧w'.heap[g]? =some (.cells #[.int .u8 0, .int .u8 0, .int .u8 0, .int .u8 0, .int .u8 0, .int .u8 0, .int .u8 0, .int .u8 0] 5 (0,0))) (u 0) w1 from f0)
  dsimp only at d0;have d1:u 1=_:=f1;clear f0 f1;simp only[List.take_succ_cons,List.take_zero,List.drop_succ_cons,List.drop_zero,ax,Act.put,List.setIfInBounds_toArray,List.set_cons_succ,List.set_cons_zero,Nat.zero_add,Nat.reduceAdd,d1];obtain⟨g,hge,hgv,hgb⟩:=d0;rw[hgv];clear hgv;have acC:bZ w1 5 w.heap.size (.slice (some ⟨g,0,none⟩) 8 8) [0,0,0,0,0,0,0,0]:=
   .inr ⟨g,8,_,rfl,by omega,hgb,Nat.le_refl _,Nat.le_refl _,by rw[hmx];omega,rfl⟩
  have HR0:=hide acC;have htw:Turn [] w w1:=((Turn.refl [] w).alloc _).same (HT1.out.drew.same bI);have dO:=hide htw;have hdj:x.recs≠[]→∀k∈(Value.slice a x.recs.length c).ownBlock,k∉(Value.slice (some ⟨g,0,none⟩) 8 8).ownBlock:=by
   intro h0 k hk hm;have h1:=HR.out.lt h0 k hk;simp[Value.ownBlock]at hm;omega
  have HDJ:=hide hdj;have hs1:=htw.size;clear acC htw hdj hgb bI c0 c1 c2;go_wp2_with fail
  refine(IG _ w.heap.size _ _ [0,0,0,0,0,0,0,0] HR0.out (by omega) x (HR.out.still dO.out) HDJ.out OL.out.symm (by simp)).mono ?_;rintro e w2 ⟨v2,rfl,hg2⟩;obtain⟨hr2,ht2,ho2⟩:=hg2;have htn:Turn [] w w2:=dO.out.trans ht2 (fun k hk=> .inr (by simp[Value.ownBlock]at hk;omega));rcases hr2 with⟨-,aeh⟩|⟨g2,cap,cur,hv2,hb2,hh2,hcl,hcs,hcx,htk⟩
  ·simp at aeh
  have hbl:=QU OL.out.symm;obtain⟨L,hL⟩:∃L,L=([0,0,0,0,0,0,0,0]++Bt.body x).length:=⟨_,rfl⟩;rw[←hL]at hv2 hcl htk;have hL8:L=(Bt.body x).length+8:=by rw[hL];simp
  rw[hmx]at hcx;have HH2:=hide hh2;have QV:=hide htk;have HTN:=hide htn;have HL:=hide hL;have hL6:8≤L∧L≤30026:=by omega
  have HL8:=hide hL8;subst hv2;clear hh2 htk htn hL hL8 ht2 ho2;have hew:Bt.aQ x=if 6000<L then 4 else 0:=by
   unfold Bt.aQ;rw[if_pos OL.out.symm,←HL8.out]
  have HEW:=hide hew;clear hew hbl;by_cases adL:6000<L
  ·have he:Bt.aQ x=4:=by rw[HEW.out,if_pos adL]
   have HE:=hide he;clear he;go_wp2
   go_ret2
   refine⟨_,by rw[HE.out];rfl,HTN.out,?_⟩;unfold encR;rw[HE.out];exact .inl ⟨rfl,rfl⟩
  ·have he:Bt.aQ x=0:=by rw[HEW.out,if_neg adL]
   have HE:=hide he;clear he;go_wp2_with fail
   refine(yG _ g2 0 cur HH2.out (by omega) L cap L (by omega) (by omega) (by omega)).mono ?_;rintro e w3 ⟨rfl,ht3,hh3⟩;have akn:Turn [] w w3:=HTN.out.trans ht3 (fun k hk=> .inr (by simp at hk;omega));have ako:=Wl (n:=L) (L:=L) (a:=0) (b:=0) (c:=0) (d:=0) (post:=[0,0,0,0]++Bt.body x) (by have:=HL8.out;simp;omega) QV.out;have HH3:=hide hh3;have anZ:=hide akn;have YH:=hide ako;clear ht3 hh3 akn ako;have hbp:=wC x;have hs4:∀w,(Instr.slice 39 (.slice (some ⟨g2,0,none⟩) L cap) (some (.int .i64 4)) none none).run Tryz.prog w= .ok (.slice (some ⟨g2,4,none⟩) (L-4) (cap-4)) w:=by
    intro w;have h:=rZ (some ⟨g2,0,none⟩) L cap 4 (by omega) w;have h1:¬cap=4:=by omega
    simpa[nV,h1,addr_add]using h
   have hs8:∀w,(Instr.slice 39 (.slice (some ⟨g2,0,none⟩) L cap) (some (.int .i64 8)) none none).run Tryz.prog w= .ok (.slice (some ⟨g2,8,none⟩) (L-8) (cap-8)) w:=by
    intro w;have h:=rZ (some ⟨g2,0,none⟩) L cap 8 (by omega) w;have h1:¬cap=8:=by have:=HL8.out;omega
    simpa[nV,h1,addr_add]using h
   have hsm:SliceAt w3.drew (.slice (some ⟨g2,8,none⟩) (L-8) (cap-8)) ((Bt.body x).map ah):=by
    have ahY:(Bt.four L++([0,0,0,0]++Bt.body x)).length=L:=by have:=HL8.out;simp[Bt.su];omega
    have h:=row_drop (bs:=Bt.four L++([0,0,0,0]++Bt.body x)) HH3.out (by rw[ahY];exact YH.out) 8 (cap-8);rw[ahY]at h;exact h.kept ((Turn.refl [] _).drew) (by simp)
   have HSM:=hide hsm;clear hsm;go_wp2
   refine oM 5 (fun a b=>a=b) (by kernel_rfl) (by kernel_rfl) (by kernel_rfl) (by kernel_rfl) (by kernel_rfl) (Nat.le_of_ble_eq_true rfl) rfl (fun _=>rfl) (fun _ _ _ h k=>h.trans k) ?_;apply Lo.lu 1 rfl rfl [] (by kernel_rfl) (fun _=>rfl);apply Exists.intro;apply And.intro
   ·intro u w1 hR hF
    clear hF;subst hR;refine⟨rfl,fun a ha K hK=>?_⟩;have e5:=ha 5;conv at e5=>rhs;whnf
    clear ha;go_simp
    exact hK _ rfl
   apply Lo.lu 2 rfl rfl [0] (by kernel_rfl) (fun _=>rfl);apply Exists.intro;apply And.intro
   ·intro u w1 hR hF
    obtain⟨h0, -⟩:=hF;subst hR;refine⟨rfl,fun a ha K hK=>?_⟩;have e22:=(ha 22).trans h0;clear ha h0;go_simp
    exact hK _ rfl
   apply Lo.lu 3 rfl rfl [] (by kernel_rfl) (fun _=>rfl);apply Exists.intro;apply And.intro
   ·intro u w1 hR hF
    clear hF;subst hR;refine⟨rfl,fun a ha K hK=>?_⟩;have e5:=ha 5;conv at e5=>rhs;whnf
    clear ha;go_simp
    exact hK _ rfl
   apply Lo.lu 4 rfl rfl [2] (by kernel_rfl) (fun _=>rfl);apply Exists.intro;apply And.intro
   ·intro u w1 hR hF
    obtain⟨h2, -⟩:=hF;subst hR;refine⟨rfl,fun a ha K hK=>?_⟩;have e24:=(ha 24).trans h2;clear ha h2;go_simp
    exact hK _ rfl
   refine Lo.run 5 rfl rfl [3] (fun y _=>y= .int .i64 (Cr.sum (Bt.body x):Nat)) (by kernel_rfl) (fun x w w' h hR=>?_) (fun _ _ h=>h) (fun u w1 hR hF=>?_) ?_
   ·exact h
   ·obtain⟨h3, -⟩:=hF
    subst hR;refine⟨rfl,fun a ha K hK=>?_⟩;have e25:=(ha 25).trans h3;clear ha h3;go_simp
    refine(sum_any _ _ (Bt.body x) HSM.out (by have:=HL8.out;omega)).mono ?_;rintro e w4 ⟨rfl,rfl⟩;exact hK _ _ rfl rfl
   refine Lo.done [1,4] (fun u w1 bI hSd hF=>?_);clear hSd;obtain⟨f1,f4, -⟩:=hF;subst bI;have d1:u 1=_:=f1;have d4:=(show(fun y _=>y= .int .i64 (Cr.sum (Bt.body x):Nat)) (u 4) w1 from f4);dsimp only at d4;clear f1 f4;simp only[List.take_succ_cons,List.take_zero,List.drop_succ_cons,List.drop_zero,ax,Act.put,List.setIfInBounds_toArray,List.set_cons_succ,List.set_cons_zero,Nat.zero_add,Nat.reduceAdd,d1];rw[d4];clear d1 d4 hs4 hs8;have atD:=Cr.xu (Bt.body x);go_wp2_with fail
   refine(yG w3.drew g2 4 (II cur 0 L) HH3.out (by rw[xA];omega) (L-4) (cap-4) (Cr.sum (Bt.body x)) (by omega) (by omega) (by unfold Cr.sum;omega)).mono ?_;rintro e w4 ⟨rfl,ht4,hh4⟩;have akp:Turn [] w w4:=anZ.out.drew.trans ht4 (fun k hk=> .inr (by simp at hk;omega));have agu:=Wn (n:=Cr.sum (Bt.body x)) (L:=L) (post:=Bt.body x) HL8.out (by simpa[Bt.four]using YH.out);have HH4:=hide hh4;have an1:=hide akp;have Wp:=hide agu;clear ht4 hh4 akp agu;go_wp2
   go_ret2
   refine⟨_,by rw[HE.out];rfl,an1.out,?_⟩;unfold encR;rw[HE.out,if_pos rfl];have hel:=Bt.gX x;have hlL:L=(Bt.ah x).length:=by rw[hel];exact HL8.out
   refine .inr ⟨g2,cap,_,by rw[←hlL];rfl,hb2,HH4.out,by rw[←hlL];exact hcl,by rw[xA,xA];exact hcs,by rw[hmx];omega,?_⟩;rw[←hlL,Wp.out];unfold Bt.ah;rw[←HL8.out];simp[Bt.four]
 ·simp only[As.oN,h0,if_false]
  go_wp2
  go_ret2
  have he:Bt.aQ x=ce:=by unfold Bt.aQ;rw[←OL.out,if_neg h0]
  refine⟨_,by rw[he];simp only[As.oN,h0,if_false];rfl,((Turn.refl [] w).alloc _).same HT1.out,?_⟩;unfold encR;rw[he,if_neg h0];exact .inl ⟨rfl,rfl⟩
def kG:Bt.aB:=⟨0,0,[]⟩
def IK(b:List UInt8):List UInt8:=(b.take (Bt.fM b)).drop 8
def isB(b:List UInt8)(x:Bt.aB):Prop:=Bt.aQ x=0∧Bt.ah x=b.take (Bt.fM b)
instance (b:List UInt8)(x:Bt.aB):Decidable (isB b x):=by unfold isB;exact inferInstance
def dec(b:List UInt8):Bt.aB×Nat×Int:=
 if b.length<8 then(kG,0,12)else if Bt.fM b<11∨6000<Bt.fM b then(kG,0,3)else if b.length<Bt.fM b then(kG,0,12)else if isB b (Bt.qU (IK b))then(Bt.qU (IK b),Bt.fM b,0)else(kG,0,3)
theorem OM(w:World)(v x:Value)(a b:List UInt8)(hv:BytesAt w v a)(hx:BytesAt w x b):
 Calls Tryz.prog 162 #[v,x] w fun e w'=>e= .returned (.bool (a==b))∧w=w':=by
 have h1:=hv.conv;have h2:=hx.conv;clear hv hx;go_enter Tryz.func162,Tryz.ntmps162
 go_wp2
 go_ret
 exact⟨rfl,rfl⟩
theorem Ut(l:List UInt8)(hl:l.length≤1000000):0≤(Bt.qU l).base∧(Bt.qU l).base≤1099511627776∧0≤(Bt.qU l).fin∧(Bt.qU l).fin≤2199023255552∧∀r∈(Bt.qU l).recs,iQ r:=by
 have g0:=gz l;have g1:=gz (Bt.num l).2;have g2:=gz (Bt.num (Bt.num l).2).2;unfold Bt.qU;simp only;exact⟨by omega,by omega,by omega,by omega,IC _ (by omega) (by omega) _ _ (by omega)⟩
theorem Nz(w:World)(v:Value)(b:List UInt8)(hx:BytesAt w v b)(hl:b.length≤9223372036854775807):
 Calls Tryz.prog 126 #[v] w fun e w'=>∃sv,e= .returned (.tuple #[.agg #[.int .i64 (dec b).1.base, .int .i64 (dec b).1.fin,sv], .int .i64 (dec b).2.1,As.oN (dec b).2.2])∧eX w' w.heap.size sv (dec b).1.recs∧(∀r∈(dec b).1.recs,iQ r)∧Turn [] w w':=by
 have HX:=hide hx;obtain⟨a,c,rfl,hlc,hcm,hc⟩:=hx.form;have hmx:maxLen=9223372036854775807:=by simp[maxLen]
 rw[hmx]at hcm;clear hx hc;have nil0:∀Z,bF Z (.slice none 0 0) []:=fun Z=>⟨none,0,rfl,Nat.le_refl _,Nat.zero_le _,fun _=>rfl,fun j hj=>absurd hj (Nat.not_lt_zero _)⟩
 have NIL:=hide nil0;clear nil0;by_cases h8:b.length<8
 ·have hd:dec b=(kG,0,12):=by unfold dec;rw[if_pos h8]
  rw[hd];clear hd;go_enter Tryz.func126,Tryz.ntmps126
  go_wp2
  have hld:=jl (ai w (.cells #[.int .i64 0, .int .i64 0, .slice none 0 0] 71));refine bodyPost_ret (v:= .tuple #[.agg #[.int .i64 0, .int .i64 0, .slice none 0 0], .int .i64 0, .iface 45 (.int .i64 12)]) (by simp[results,Tryz.results126,asAddr,hld,Result.andThen]) rfl ?_;exact⟨_,rfl, .inl ⟨rfl,rfl⟩,fun r hr=>absurd hr (by simp[kG]),(Turn.refl [] w).alloc _⟩
 obtain⟨n,hn⟩:∃n,Bt.fM b=n:=⟨_,rfl⟩;have HN:=hide hn;by_cases hs:n<11
 ·have hd:dec b=(kG,0,3):=by unfold dec;rw[if_neg h8,if_pos (.inl (by omega))]
  rw[hd];clear hd;go_enter Tryz.func126,Tryz.ntmps126
  go_wp2_with fail
  refine(wu _ _ b (HX.out.still ((Turn.refl [] w).alloc _)) (by omega)).mono ?_;rintro e w1 ⟨rfl,rfl⟩;rw[HN.out];go_wp2
  have hld:=jl (w:=(w.alloc (.cells #[.int .i64 0, .int .i64 0, .slice none 0 0] 71)).drew) (ai w (.cells #[.int .i64 0, .int .i64 0, .slice none 0 0] 71));refine bodyPost_ret (v:= .tuple #[.agg #[.int .i64 0, .int .i64 0, .slice none 0 0], .int .i64 0, .iface 45 (.int .i64 3)]) (by simp[results,Tryz.results126,asAddr,hld,Result.andThen]) rfl ?_;exact⟨_,rfl, .inl ⟨rfl,rfl⟩,fun r hr=>absurd hr (by simp[kG]),((Turn.refl [] w).alloc _).drew⟩
 by_cases hg:6000<n
 ·have hd:dec b=(kG,0,3):=by unfold dec;rw[if_neg h8,if_pos (.inr (by omega))]
  rw[hd];clear hd;go_enter Tryz.func126,Tryz.ntmps126
  go_wp2_with fail
  refine(wu _ _ b (HX.out.still ((Turn.refl [] w).alloc _)) (by omega)).mono ?_;rintro e w1 ⟨rfl,rfl⟩;rw[HN.out];go_wp2
  have hld:=jl (w:=(w.alloc (.cells #[.int .i64 0, .int .i64 0, .slice none 0 0] 71)).drew) (ai w (.cells #[.int .i64 0, .int .i64 0, .slice none 0 0] 71));refine bodyPost_ret (v:= .tuple #[.agg #[.int .i64 0, .int .i64 0, .slice none 0 0], .int .i64 0, .iface 45 (.int .i64 3)]) (by simp[results,Tryz.results126,asAddr,hld,Result.andThen]) rfl ?_;exact⟨_,rfl, .inl ⟨rfl,rfl⟩,fun r hr=>absurd hr (by simp[kG]),((Turn.refl [] w).alloc _).drew⟩
 by_cases hsh:b.length<n
 ·have hd:dec b=(kG,0,12):=by unfold dec;rw[if_neg h8,if_neg (by omega),if_pos (by omega)]
  rw[hd];clear hd;go_enter Tryz.func126,Tryz.ntmps126
  go_wp2_with fail
  refine(wu _ _ b (HX.out.still ((Turn.refl [] w).alloc _)) (by omega)).mono ?_;rintro e w1 ⟨rfl,rfl⟩;rw[HN.out];go_wp2
  have hld:=jl (w:=(w.alloc (.cells #[.int .i64 0, .int .i64 0, .slice none 0 0] 71)).drew) (ai w (.cells #[.int .i64 0, .int .i64 0, .slice none 0 0] 71));refine bodyPost_ret (v:= .tuple #[.agg #[.int .i64 0, .int .i64 0, .slice none 0 0], .int .i64 0, .iface 45 (.int .i64 12)]) (by simp[results,Tryz.results126,asAddr,hld,Result.andThen]) rfl ?_;exact⟨_,rfl, .inl ⟨rfl,rfl⟩,fun r hr=>absurd hr (by simp[kG]),((Turn.refl [] w).alloc _).drew⟩
 have ahD:IK b=(b.take n).drop 8:=by unfold IK;rw[hn]
 have hml:((b.take n).drop 8).length=n-8:=by simp;omega
 have hsl:∀w,(Instr.slice 39 (.slice a b.length c) (some (.int .i64 8)) (some (.int .i64 (n:Int))) none).run Tryz.prog w= .ok (.slice (nV a 8 c) (n-8) (c-8)) w:=fun w=>by simpa using @Ii a b.length c 8 n (by omega) (by omega) w
 have hst:∀w,(Instr.slice 39 (.slice a b.length c) none (some (.int .i64 (n:Int))) none).run Tryz.prog w= .ok (.slice a n c) w:=fun w=> @Gi a b.length c n (by omega) w
 have htk:BytesAt w (.slice a n c) (b.take n):=HX.out.take (by omega);have QV:=hide htk;have hbm:∀Z,Turn [] w Z→BytesAt Z (.slice (nV a 8 c) (n-8) (c-8)) ((b.take n).drop 8):=by
  intro Z hZ;have h1:(b.take n).length=n:=by simp;omega
  have h2:=BytesAt.drop (n:=8) (by rw[h1];exact htk) (by omega:8≤(b.take n).length);rw[h1]at h2;exact h2.still hZ
 have HBM:=hide hbm;have aau:∀k∈(Value.slice (nV a 8 c) (n-8) (c-8)).ownBlock,k<w.heap.size:=fun k hk=>
  HX.out.lt (fun e=>by rw[e]at h8;simp at h8) k (Dc (l':=b.length) k hk)
 have aei:=hide aau;obtain⟨x,hxx⟩:∃x,x=Bt.qU ((b.take n).drop 8):=⟨_,rfl⟩;obtain⟨k1,k2,k3,k4,k5⟩:=Ut ((b.take n).drop 8) (by omega);rw[←hxx]at k1 k2 k3 k4 k5;have HK5:=hide k5;have HXX:=hide hxx;have HD:Hid (dec b=if isB b x then(x,n,0)else(kG,0,3)):=by
  show _=_;unfold dec;rw[if_neg h8,if_neg (by omega),if_neg (by omega),ahD,←hxx,hn]
 have HML:=hide hml;clear ahD htk hbm aau hxx k5 hn hml;go_enter Tryz.func126,Tryz.ntmps126
 go_wp2_with fail
 refine(wu _ _ b (HX.out.still ((Turn.refl [] w).alloc _)) (by omega)).mono ?_;rintro e w1 ⟨rfl,rfl⟩;rw[HN.out];go_wp2_with fail
 have hrd:gJ ((w.alloc (.cells #[.int .i64 0, .int .i64 0, .slice none 0 0] 71)).alloc (.cells #[.slice (nV a 8 c) (n-8) (c-8)] 216)).drew (w.heap.size+1) w.heap.size ((b.take n).drop 8):=by
  refine⟨_,?_,HBM.out _ (((Turn.refl [] w).alloc _).alloc _).drew,fun _=>aei.out⟩;have:=ai (w.alloc (.cells #[.int .i64 0, .int .i64 0, .slice none 0 0] 71)) (.cells #[.slice (nV a 8 c) (n-8) (c-8)] 216);rwa [World.size_alloc]at this
 refine(OG _ (w.heap.size+1) w.heap.size _ hrd (by omega) (by rw[HML.out];omega)).mono ?_;rintro e w3 ⟨sv,rfl,aaE,ht3⟩;rw[←HXX.out]at aaE⊢;obtain⟨sa,sn,sc,hsv⟩:=aaE.qX;subst hsv;have akr:Turn [] w w3:=((((Turn.refl [] w).alloc _).alloc _).drew).trans ht3 (fun k hk=> .inr (by simp at hk;omega));have hy3:w3.heap[w.heap.size]? =some (.cells #[.int .i64 0, .int .i64 0, .slice none 0 0] 71 (0,0)):=ht3.heap (((Turn.refl [] (w.alloc (.cells #[.int .i64 0, .int .i64 0, .slice none 0 0] 71))).alloc (.cells #[.slice (nV a 8 c) (n-8) (c-8)] 216)).drew.heap (ai w _) (by simp)) (by simp)
 have atI:w.heap.size+1<w3.heap.size:=by have:=ht3.size;simp at this;omega
 have hrs:bF w3 (.slice sa sn sc) x.recs:=aaE.recs HK5.out;have hrl:∀k∈(Value.slice sa sn sc).ownBlock,w.heap.size+1≤k:=fun k hk=>by have:=(aaE.lt k hk).1;simp at this;omega
 have QW:eX w3 w.heap.size (.slice sa sn sc) x.recs:=by
  rcases aaE with h|⟨g,cap,cur,e,hb,r⟩
  ·exact .inl h
  ·exact .inr ⟨g,cap,cur,e,by simp at hb;omega,r⟩
 have sN:=hide hrl;have aan:∀Q,Turn [] (w3.alloc (.cells #[.int .i64 x.base, .int .i64 x.fin, .slice sa sn sc] 71)) Q→(w.heap.size+1<Q.heap.size∧w3.heap.size<Q.heap.size)∧
  (Q.cell? ⟨w3.heap.size,0,none⟩=some (.int .i64 x.base)∧Q.cell? ⟨w3.heap.size,1,none⟩=some (.int .i64 x.fin)∧Q.cell? ⟨w3.heap.size,2,none⟩=some (.slice sa sn sc))∧
  Q.heap[w.heap.size]? =some (.cells #[.int .i64 0, .int .i64 0, .slice none 0 0] 71 (0,0))∧yt Q (.agg #[.int .i64 x.base, .int .i64 x.fin, .slice sa sn sc]) x∧Turn [] w Q∧eX Q w.heap.size (.slice sa sn sc) x.recs:=by
  intro Q hQ;have hq:=hQ.heap (ai w3 _) (by simp);have hs:=hQ.size;simp at hs;have ht:Turn [] w3 Q:=((Turn.refl [] w3).alloc _).same hQ;exact⟨⟨by omega,by omega⟩,⟨by simpa using cell_of hq 0,by simpa using cell_of hq 1,by simpa using cell_of hq 2⟩,ht.heap hy3 (by simp),⟨_,rfl,hrs.still ht,by omega,by omega,by omega,by omega⟩,akr.same ht,QW.kept ht (by simp)⟩
 have nX:=hide aan;clear hrd aaE QW ht3 akr hy3 hrs aan hrl;go_wp2_with fail
 refine(Gv _ _ x (nX.out _ (Turn.refl _ _)).2.2.2.1).mono ?_;rintro e w4 ⟨v4,rfl,ht4,hr4⟩;have HT4:=hide ht4;have HR4:=hide hr4.bytes;clear ht4 hr4;obtain⟨⟨z1,z2⟩,⟨c0,c1,c2⟩,hy4, -, -⟩:=nX.out _ HT4.out;have y0:w4.cell? ⟨w.heap.size,0,none⟩=some (.int .i64 0):=by simpa using cell_of hy4 0
 have y1:w4.cell? ⟨w.heap.size,1,none⟩=some (.int .i64 0):=by simpa using cell_of hy4 1
 have y2:w4.cell? ⟨w.heap.size,2,none⟩=some (.slice none 0 0):=by simpa using cell_of hy4 2
 have q0:w4.frozen? ⟨w.heap.size,0,none⟩=false:=au hy4 0;have q1:w4.frozen? ⟨w.heap.size,1,none⟩=false:=au hy4 1;have q2:w4.frozen? ⟨w.heap.size,2,none⟩=false:=au hy4 2;have HY4:=hide hy4;clear hy4;have aar:∀(p q:Int) (s:Value),Turn [] w (((w4.setCell ⟨w.heap.size,0,none⟩ (.int .i64 p)).setCell ⟨w.heap.size,1,none⟩ (.int .i64 q)).setCell ⟨w.heap.size,2,none⟩ s)∧Turn [w.heap.size] w4 (((w4.setCell ⟨w.heap.size,0,none⟩ (.int .i64 p)).setCell ⟨w.heap.size,1,none⟩ (.int .i64 q)).setCell ⟨w.heap.size,2,none⟩ s)∧
  (((w4.setCell ⟨w.heap.size,0,none⟩ (.int .i64 p)).setCell ⟨w.heap.size,1,none⟩ (.int .i64 q)).setCell ⟨w.heap.size,2,none⟩ s).heap[w.heap.size]? =some (.cells #[.int .i64 p, .int .i64 q,s] 71 (0,0)):=by
  intro p q s;have ht:Turn [w.heap.size] w4 (((w4.setCell ⟨w.heap.size,0,none⟩ (.int .i64 p)).setCell ⟨w.heap.size,1,none⟩ (.int .i64 q)).setCell ⟨w.heap.size,2,none⟩ s):=(((Turn.refl _ _).setCell (.inl (by simp)) _).setCell (.inl (by simp)) _).setCell (.inl (by simp)) _;exact⟨(nX.out _ HT4.out).2.2.2.2.1.trans ht (fun k hk=> .inr (by simp at hk;omega)),ht,by simpa using heap_set (heap_set (heap_set HY4.out 0 (.int .i64 p)) 1 (.int .i64 q)) 2 s⟩
 have jK:=hide aar;clear aar;obtain⟨er,her⟩:∃er,Bt.aQ x=er:=⟨_,rfl⟩;rw[her];have QX:=hide her;clear her;by_cases h0:er=0
 ·subst h0
  have hrb:encR x=Bt.ah x:=by unfold encR;rw[if_pos QX.out]
  have h4:=HR4.out;rw[hrb]at h4;have H4:=hide h4;have agu:=QV.out.still (nX.out _ HT4.out).2.2.2.2.1;have Wp:=hide agu;clear hrb h4 agu;simp only[As.oN,if_true];go_wp2_with fail
  refine(OM _ _ _ (Bt.ah x) (b.take n) H4.out Wp.out).mono ?_;rintro e w5 ⟨rfl,rfl⟩;by_cases heq:Bt.ah x=b.take n
  ·have hbq:(Bt.ah x==b.take n)=true:=by simpa using heq
   have YI:Hid (dec b=(x,n,0)):=by show _=_;rw[HD.out,if_pos ⟨QX.out,by rw[HN.out];exact heq⟩]
   rw[hbq];clear heq hbq;go_wp2
   have hf:=jK.out x.base x.fin (.slice sa sn sc);have hld:=jl hf.2.2;refine bodyPost_ret (v:= .tuple #[.agg #[.int .i64 x.base, .int .i64 x.fin, .slice sa sn sc], .int .i64 n, .nilIface]) (by simp[results,Tryz.results126,asAddr,hld,Result.andThen]) rfl ?_;rw[YI.out];refine⟨.slice sa sn sc,rfl,(nX.out _ HT4.out).2.2.2.2.2.kept hf.2.1 (fun k hk hm=>?_),HK5.out,hf.1⟩;have:=sN.out k hk;simp at hm;omega
  ·have hbq:(Bt.ah x==b.take n)=false:=by simpa using heq
   have YI:Hid (dec b=(kG,0,3)):=by show _=_;rw[HD.out,if_neg (fun h=>heq (by have:=h.2;rwa [HN.out]at this))]
   rw[hbq];clear heq hbq;go_wp2
   have hf:=jK.out 0 0 (.slice none 0 0);have hld:=jl hf.2.2;refine bodyPost_ret (v:= .tuple #[.agg #[.int .i64 0, .int .i64 0, .slice none 0 0], .int .i64 0, .iface 45 (.int .i64 3)]) (by simp[results,Tryz.results126,asAddr,hld,Result.andThen]) rfl ?_;rw[YI.out];exact⟨_,rfl, .inl ⟨rfl,rfl⟩,fun r hr=>absurd hr (by simp[kG]),hf.1⟩
 ·simp only[As.oN,h0,if_false]
  have YI:Hid (dec b=(kG,0,3)):=by show _=_;rw[HD.out,if_neg (fun h=>h0 (QX.out.symm.trans h.1))]
  go_wp2
  have hf:=jK.out 0 0 (.slice none 0 0);have hld:=jl hf.2.2;refine bodyPost_ret (v:= .tuple #[.agg #[.int .i64 0, .int .i64 0, .slice none 0 0], .int .i64 0, .iface 45 (.int .i64 3)]) (by simp[results,Tryz.results126,asAddr,hld,Result.andThen]) rfl ?_;rw[YI.out];exact⟨_,rfl, .inl ⟨rfl,rfl⟩,fun r hr=>absurd hr (by simp[kG]),hf.1⟩
theorem OO(w:World)(v:Value)(b:List UInt8)(hx:BytesAt w v b)(hl:b.length≤9223372036854775807):
 Calls Tryz.prog 126 #[v] w fun e w'=>∃sv,e= .returned (.tuple #[.agg #[.int .i64 (dec b).1.base, .int .i64 (dec b).1.fin,sv], .int .i64 (dec b).2.1,As.oN (dec b).2.2])∧bF w' sv (dec b).1.recs∧Turn [] w w'∧((dec b).1.recs≠[]→∀k∈sv.ownBlock,w.heap.size≤k):=
 (Nz w v b hx hl).mono fun e w' ⟨sv,h1,h2,h3,h4⟩=>⟨sv,h1,h2.recs h3,h4,fun _ k hk=>(h2.lt k hk).1⟩
theorem Uu(w:World)(v:Value)(b:List UInt8)(hx:BytesAt w v b)(hl:b.length≤9223372036854775807):
 Calls Tryz.prog 126 #[v] w fun e w'=>∃sv,e= .returned (.tuple #[.agg #[.int .i64 (dec b).1.base, .int .i64 (dec b).1.fin,sv], .int .i64 (dec b).2.1,As.oN (dec b).2.2])∧bF w' sv (dec b).1.recs∧Turn [] w w':=
 (OO w v b hx hl).mono fun e w' ⟨sv,h1,h2,h3,_⟩=>⟨sv,h1,h2,h3⟩
theorem jC(x:Int)(n:Nat)(hn:0<n)(hn2:n≤1099511627776)(w:World):Calls Tryz.prog 4 #[.int .i64 x, .int .i64 n] w fun e w'=>(∃p:Nat,p<n∧e= .returned (.int .i64 p))∧w=w':=by
 have hw:IntKind.u64.wrap (n:Int)=(n:Int):=by simp[IntKind.wrap,IntKind.bits,IntKind.signed];omega
 have h0:0≤IntKind.u64.wrap x:=by simp[IntKind.wrap,IntKind.bits,IntKind.signed];omega
 have hz:¬((n:Int)=0):=by omega
 go_enter Tryz.func4,Tryz.ntmps4
 go_wp2
 go_ret
 obtain⟨m,hm⟩:=Int.eq_ofNat_of_zero_le h0;refine⟨⟨m%n,Nat.mod_lt _ hn,?_⟩,rfl⟩;rw[hm];refine congrArg (fun z=>Ending.returned (.int .i64 z)) ?_;have hlt:=Nat.mod_lt m hn;have:(m:Int)%n=((m%n:Nat):Int):=by omega
 rw[this];unfold wrap64;omega
def gp(b:Int)(rs:List Bt.Rec):List Bt.Rec:=rs.zipIdx.map fun p=>{p.1 with off:=b+p.2}
theorem Di(b:Int)(rs:List Bt.Rec){k:Nat}(hk:k<rs.length):gp b (rs.take (k+1))=gp b (rs.take k)++[{rs[k]with off:=b+k}]:=by
 have:rs.take (k+1)=rs.take k++[rs[k]]:=by simp
 unfold gp;rw[this,List.zipIdx_append,List.map_append];simp[Nat.min_eq_left (Nat.le_of_lt hk)]
theorem ou(b:Int)(rs:List Bt.Rec):(gp b rs).length=rs.length:=by simp[gp]
theorem QY(b:Int)(rs:List Bt.Rec)(h:∀r∈rs,iQ r)(hb:0≤b)(hb2:b≤1099511627776)(hl:rs.length≤1000000):∀r∈gp b rs,iQ r:=by
 intro r hr;unfold gp at hr;obtain⟨⟨q,i⟩,hq,rfl⟩:=List.mem_map.1 hr;obtain⟨h1,h2⟩:=List.mem_zipIdx' hq;obtain⟨o1,o2,t1,t2,k1,v1⟩:=h q (List.mem_iff_getElem.2 ⟨i,h1,h2.symm⟩);exact⟨by simp only;omega,by simp only;omega,t1,t2,k1,v1⟩
def cO(b:Int)(rs:List Bt.Rec):Bt.aB:=⟨b,b+rs.length,gp b rs⟩
structure ED(w0 w:World)(X:Nat)(b f:Int)(sv:Value)(rs:List Bt.Rec):Prop where
 hx:X=w0.heap.size+1
 x:w.heap[X]? =some (.cells #[.int .i64 b, .int .i64 f,sv] 71 (0,0))
 y:w.heap[w0.heap.size]? =some (.cells #[.int .i64 0, .int .i64 0, .slice none 0 0] 71 (0,0))
 row:eX w (X+1) sv rs
 turn:Turn [] w0 w
theorem ED.still{w0 w w':World}{X:Nat}{b f:Int}{sv:Value}{rs:List Bt.Rec}(h:ED w0 w X b f sv rs)(ht:Turn [] w w'):ED w0 w' X b f sv rs:=
 ⟨h.hx,ht.heap h.x (by simp),ht.heap h.y (by simp),h.row.kept ht (by simp),h.turn.same ht⟩
theorem ED.YB{w0 w w2:World}{X:Nat}{b f:Int}{sv s2:Value}{rs r2:List Bt.Rec}(h:ED w0 w X b f sv rs)(h1:eX w2 (X+1) s2 r2)(h2:Turn sv.ownBlock.toList w w2):ED w0 (w2.setCell ⟨X,2,none⟩ s2) X b f s2 r2:=by
 have hx:=h.hx;have ht:Turn [X] w2 (w2.setCell ⟨X,2,none⟩ s2):=(Turn.refl _ _).setCell (.inl (by simp)) _;have own:∀k∈sv.ownBlock.toList,X+1≤k:=fun k hk=>(h.row.lt k (by simpa using hk)).1
 have hx2:w2.heap[X]? =some (.cells #[.int .i64 b, .int .i64 f,sv] 71 (0,0)):=h2.heap h.x (fun hm=>by have:=own X hm;omega)
 have hy2:=h2.heap h.y (fun hm=>by have:=own _ hm;omega);refine⟨hx,by simpa using heap_set hx2 2 s2,ht.heap hy2 (by simp;omega),h1.kept ht (fun k hk=>by have:=(h1.lt k hk).1;simp;omega),?_⟩;exact(h.turn.trans h2 (fun k hk=> .inr (by have:=own k hk;omega))).trans ht (fun k hk=> .inr (by simp at hk;omega))
theorem ED.cells{w0 w:World}{X:Nat}{b f:Int}{sv:Value}{rs:List Bt.Rec}(h:ED w0 w X b f sv rs):
 (w.cell? ⟨X,0,none⟩=some (.int .i64 b)∧w.cell? ⟨X,1,none⟩=some (.int .i64 f)∧w.cell? ⟨X,2,none⟩=some sv)∧
 (w.frozen? ⟨X,0,none⟩=false∧w.frozen? ⟨X,1,none⟩=false∧w.frozen? ⟨X,2,none⟩=false)∧
 (w.cell? ⟨w0.heap.size,0,none⟩=some (.int .i64 0)∧w.cell? ⟨w0.heap.size,1,none⟩=some (.int .i64 0)∧w.cell? ⟨w0.heap.size,2,none⟩=some (.slice none 0 0))∧
 (w.frozen? ⟨w0.heap.size,0,none⟩=false∧w.frozen? ⟨w0.heap.size,1,none⟩=false∧w.frozen? ⟨w0.heap.size,2,none⟩=false)∧X<w.heap.size∧w0.heap.size<w.heap.size:=
 ⟨⟨by simpa using cell_of h.x 0,by simpa using cell_of h.x 1,by simpa using cell_of h.x 2⟩,⟨au h.x 0,au h.x 1,au h.x 2⟩,
  ⟨by simpa using cell_of h.y 0,by simpa using cell_of h.y 1,by simpa using cell_of h.y 2⟩,⟨au h.y 0,au h.y 1,au h.y 2⟩,lt_of_heap h.x,lt_of_heap h.y⟩
theorem ED.fin{w0 w:World}{X:Nat}{b f:Int}{sv:Value}{rs:List Bt.Rec}(h:ED w0 w X b f sv rs):
 (loadVar 71 ⟨w0.heap.size,0,none⟩).run Tryz.prog (((w.setCell ⟨w0.heap.size,0,none⟩ (.int .i64 b)).setCell ⟨w0.heap.size,1,none⟩ (.int .i64 f)).setCell ⟨w0.heap.size,2,none⟩ sv)= .ok (.agg #[.int .i64 b, .int .i64 f,sv]) (((w.setCell ⟨w0.heap.size,0,none⟩ (.int .i64 b)).setCell ⟨w0.heap.size,1,none⟩ (.int .i64 f)).setCell ⟨w0.heap.size,2,none⟩ sv)∧
 eX (((w.setCell ⟨w0.heap.size,0,none⟩ (.int .i64 b)).setCell ⟨w0.heap.size,1,none⟩ (.int .i64 f)).setCell ⟨w0.heap.size,2,none⟩ sv) (w0.heap.size+2) sv rs∧Turn [] w0 (((w.setCell ⟨w0.heap.size,0,none⟩ (.int .i64 b)).setCell ⟨w0.heap.size,1,none⟩ (.int .i64 f)).setCell ⟨w0.heap.size,2,none⟩ sv):=by
 have hx:=h.hx;have hy:=heap_set (heap_set (heap_set h.y 0 (.int .i64 b)) 1 (.int .i64 f)) 2 sv;have ht:Turn [w0.heap.size] w (((w.setCell ⟨w0.heap.size,0,none⟩ (.int .i64 b)).setCell ⟨w0.heap.size,1,none⟩ (.int .i64 f)).setCell ⟨w0.heap.size,2,none⟩ sv):=
  (((Turn.refl _ _).setCell (.inl (by simp)) _).setCell (.inl (by simp)) _).setCell (.inl (by simp)) _
 refine⟨jl (by simpa using hy),?_,h.turn.trans ht (fun k hk=> .inr (by simp at hk;omega))⟩;rcases h.row.kept ht (fun k hk=>by have:=(h.row.lt k hk).1;simp;omega)with h|⟨g,cap,cur,e,hb,r⟩
 ·exact .inl h
 ·exact .inr ⟨g,cap,cur,e,by omega,r⟩
end
section
open Go.RowKit Go.Maps
set_option maxRecDepth 100000
set_option linter.unusedSimpArgs false
set_option linter.unusedVariables false
attribute [local go_sem] Oper.semAt_some
theorem bF.src{w:World}{v:Value}{rs:List Bt.Rec}(h:bF w v rs):Uk recC w v rs:=by
 obtain⟨a,c,rfl,h1,h2,h3,h4⟩:=h;cases a with
 |none=>
  have hc:=h3 rfl;have h0:rs=[]:=List.eq_nil_of_length_eq_zero (by omega);subst h0;subst hc;exact .inl ⟨rfl,rfl⟩
 |some p=>
  refine .inr ⟨p,c,rfl,fun J u hu=>?_⟩;have hJ:J<rs.length*6:=by have:=(List.getElem?_eq_some_iff.1 hu).1;rwa [bM (n:=6) bH]at this
  have hj:J/6<rs.length:=by omega
  have e:J=J/6*6+J%6:=by omega
  rw[e,vU (n:=6) bH rs (J/6) (J%6) hj (by omega)]at hu;obtain⟨-,p',hp,hc⟩:=h4 (J/6) hj;obtain rfl:=Option.some.inj hp;have:=hc (J%6) u hu;rw[add_add]at this;rw[←e]at this;exact this
theorem IL(w:World)(base:Nat)(v sx:Value)(xs ys:List Bt.Rec)(Pe:aO 52 6 recC w base v xs)(hx:Uk recC w sx ys)(aah:xs.length+ys.length≤1000000)(aas:base≤w.heap.size):
 ∃v' w',(Builtin.append_ #[34,34] 34 #[v,sx]).run Tryz.prog w= .ok v' w'∧aO 52 6 recC w' base v' (xs++ys)∧Turn v.ownBlock.toList w w'∧(∀j∈v'.ownBlock,j∈v.ownBlock∨w.heap.size≤j):=by
 obtain⟨i,z,hi,hz,hzs,hs,hb⟩:=sH;exact Ez (P:=Tryz.prog) 34 34 Tryz.underlying34 i z hi hz hzs hs (by omega) bH (fun x u hu=>by simp[recC,eU]at hu;rcases hu with rfl|rfl|rfl|rfl|rfl|rfl<;>rfl) w base v sx xs ys Pe hx aah aas
theorem OQ(w:World)(v:Value)(rs:List Bt.Rec)(h:bF w v rs)(hl:rs.length≤1000000):
 Calls Tryz.prog 55 #[v] w fun e w'=>∃sv,e= .returned sv∧aO 52 6 recC w' w.heap.size sv rs∧Turn [] w w':=by
 have hq:∀(w:World) (a:Option Addr) (n c:Nat),(binOp .eql 34 (.slice a n c) (.slice none 0 0)).run Tryz.prog w= .ok (.bool a.isNone) w:=fun w a n c=>Go.Lib.run_eql_slice_nil w _ _ a n c 0 0 Tryz.underlying34
 have HS:=hide h;obtain⟨a,c,rfl,h1,h2,h3,h4⟩:=h;cases a with
 |none=>
  have hc:=h3 rfl;have h0:rs=[]:=List.eq_nil_of_length_eq_zero (by omega);subst h0;subst hc;clear h1 h2 h3 h4;go_enter Tryz.func55,Tryz.ntmps55
  go_wp2
  go_ret
  exact⟨_,rfl, .inl ⟨rfl,rfl⟩,Turn.refl _ _⟩
 |some p=>
  have ht:Turn [] w (w.alloc (.cells #[] 52)):=(Turn.refl [] w).alloc _;obtain⟨v7,w7,hr7,aai,ht7,aaq⟩:=IL (w.alloc (.cells #[] 52)) w.heap.size (.slice (some ⟨w.heap.size,0,none⟩) 0 0) (.slice (some p) rs.length c) [] rs (.inr ⟨w.heap.size,0, #[],rfl,Nat.le_refl _,ai w _,by simp,by simp,by simp,by simp⟩) (HS.out.still ht).src (by simp;omega) (by simp);rw[List.nil_append]at aai;have HR7:=hide hr7;have lF:=hide aai;have HT7:=hide (ht.trans ht7 (by simp[Value.ownBlock]));clear h1 h2 h3 h4 ht hr7 aai ht7 aaq;go_enter Tryz.func55,Tryz.ntmps55
  go_wp2_with (at_builtin;go_must (refine bU rfl rfl rfl rfl HR7.out ?_))
  go_ret
  exact⟨_,rfl,lF.out,HT7.out⟩
end
section
open Go.RowKit Go.Maps
set_option maxRecDepth 100000
namespace Dk
structure FA where
 name:List UInt8
 bytes:List UInt8
 safe:Nat
structure DA where
 room:Nat
 files:List FA
 limited:Bool
 left:Int
structure aF where
 abs:FA
 blk:Nat
 sl:Value
def aF.foot(m:aF):List Nat:=m.blk::m.sl.ownBlock.toList
def uI:Option aF→Value
 |some m=> .pointer (some ⟨m.blk,0,none⟩)
 |none=> .pointer none
def qY(v:Value):Option (DataW Unit×List MemPlace):=
 match v with
 | .pointer (some ⟨b,0,none⟩)=>some (.lit (.int .i64 b),[])
 | .pointer none=>some (.nil,[])
 |_=>none
theorem QZ{v:Value}{b:Nat}{ps:List MemPlace}(h:qY v=some (.lit (.int .i64 (b:Int)),ps)):v= .pointer (some ⟨b,0,none⟩):=by
 unfold qY at h;split at h
 ·simp at h;obtain⟨e,_⟩:=h;rw[Int.ofNat_inj.1 e]
 ·simp at h
 ·cases h
theorem Q3{v:Value}{ps:List MemPlace}(h:qY v=some (.nil,ps)):v= .pointer none:=by
 unfold qY at h;split at h
 ·simp at h
 ·rfl
 ·cases h
def bW(ms:List aF)(nm:List UInt8):Option aF:=ms.find? (fun m=>m.abs.name==nm)
def Uw(o:Option aF)(z:DataW Unit):DataW Unit:=match o with
 |some m=> .lit (.int .i64 m.blk)
 |none=>z
theorem law:Keyed Tryz.prog 9:=string_keyed Tryz.underlying9
theorem Vu(w:World):(zeroValue 96).run Tryz.prog w= .ok (.pointer none) w:=by kernel_rfl
def Reads(D:DataW Unit)(ms:List aF):Prop:=size D=ms.length∧∀nm z,D.atKey (.string nm) z=Uw (bW ms nm) z
def MapAt(w:World)(aI:Option Nat)(ms:List aF):Prop:=
 match aI with
 |none=>ms=[]
 |some mb=>∃D:DataW Unit,w.ownsMap Tryz.prog 9 qY mb ms.length D∧Reads D ms
theorem wE{w w':World}{P:Program}{k:TypeId}{R:Value→Option (DataW Unit×List MemPlace)}{b n:Nat}{D:DataW Unit}{S:List Nat}(h:w.ownsMap P k R b n D)(ht:Turn S w w')(hn:b∉S):w'.ownsMap P k R b n D:=by
 obtain⟨es,clock,hb,r⟩:=h;exact⟨es,clock,ht.heap hb hn,r⟩
theorem uJ{w:World}{P:Program}{k:TypeId}{R:Value→Option (DataW Unit×List MemPlace)}{b n:Nat}{D:DataW Unit}(h:w.ownsMap P k R b n D):w.ownsMap P k R b (size D) D:=by
 obtain⟨es,clock,hb,F,hs,rfl⟩:=h;exact⟨es,clock,hb,F,by simp[size,length_sorted],rfl⟩
theorem MapAt.kept{w w':World}{aI:Option Nat}{ms:List aF}{S:List Nat}(h:MapAt w aI ms)(ht:Turn S w w')(hn:∀k∈aI,k∉S):MapAt w' aI ms:=by
 cases aI with
 |none=>exact h
 |some mb=>obtain⟨D,h1,h2⟩:=h;exact⟨D,wE h1 ht (hn mb rfl),h2⟩
theorem MapAt.lt{w:World}{aI:Option Nat}{ms:List aF}(h:MapAt w aI ms):∀k∈aI,k<w.heap.size:=by
 intro k hk;cases aI with
 |none=>simp at hk
 |some mb=>obtain⟨D,h1,_⟩:=h;simp at hk;subst hk;exact h1.lt
theorem keyS{s:ByteArray}(hs:s.size≤maxLen):keyOf Tryz.prog 9 (.string s)=some (.string s.data.toList):=Go.WideMaps.keyOf_string_mk Tryz.underlying9 hs
theorem MapAt.look{w:World}{aI:Option Nat}{ms:List aF}(h:MapAt w aI ms){s:ByteArray}(hs:s.size≤maxLen):
 (Instr.lookup 46 (.map aI) (.string s) false).run Tryz.prog w= .ok (uI (bW ms s.data.toList)) w:=by
 cases aI with
 |none=>
  have h':ms=[]:=h;subst h';exact Maps.look_nil false law Tryz.underlying46 (Vu w) (keyS hs)
 |some mb=>
  obtain⟨D,h1,h2,h3⟩:=h;obtain⟨v,ps,acY,hv⟩:=h1.lookup law Tryz.underlying46 (Vu w) (zd:= .nil) (zp:=[]) rfl (keyS hs);rw[acY];rw[h3]at hv;congr 1
  cases hf:bW ms s.data.toList with
  |none=>rw[hf]at hv;exact Q3 hv
  |some m=>rw[hf]at hv;exact QZ hv
theorem MapAt.len{w:World}{aI:Option Nat}{ms:List aF}(h:MapAt w aI ms)(ty:TypeId):
 (Builtin.len_ #[46] ty #[.map aI]).run Tryz.prog w= .ok (.int .i64 ms.length) w:=by
 cases aI with
 |none=>
  have h':ms=[]:=h;subst h';exact Maps.len_nil Tryz.underlying46 ty
 |some mb=>
  obtain⟨D,h1,h2,h3⟩:=h;rw[h1.len Tryz.underlying46 ty,h2]
theorem isKey(nm:List UInt8):WideAt.IsKeyLit (.string nm):=trivial
theorem Gw{a b:List UInt8}(h:a≠b):(Lit.string a)≠Lit.string b:=by simpa using h
theorem nY{D:DataW Unit}{ms:List aF}(h:Reads D ms)(nm:List UInt8):has D (.string nm)=(bW ms nm).isSome:=by
 cases hf:bW ms nm with
 |none=>exact has_false_of_atKey (fun z=>by rw[h.2,hf];rfl)
 |some m=>exact has_true_of_atKey (y:= .lit (.int .i64 m.blk)) (fun z=>by rw[h.2,hf];rfl)
def jZ(ms:List aF)(nm:List UInt8):List aF:=ms.filter (fun m=> !(m.abs.name==nm))
theorem rV(ms:List aF)(nm:List UInt8):bW (jZ ms nm) nm=none:=by
 unfold bW jZ;rw[List.find?_eq_none];intro m hm;have:=(List.mem_filter.1 hm).2;simpa using this
theorem qj(ms:List aF){nm k:List UInt8}(h:k≠nm):bW (jZ ms nm) k=bW ms k:=by
 unfold bW jZ;apply find_filter_keep;intro m hm;have:m.abs.name=k:=by simpa using hm
 rw[this];simpa using h
theorem drop_length(ms:List aF)(nm:List UInt8)(hn:(ms.map (·.abs.name)).Nodup):(jZ ms nm).length+(if (bW ms nm).isSome then 1 else 0)=ms.length:=by
 induction ms with
 |nil=>rfl
 |cons m r ih=>
  simp only[List.map_cons,List.nodup_cons]at hn;have ih:=ih hn.2;unfold jZ bW at*;by_cases hm:m.abs.name=nm
  ·have hr:r.find? (fun m=>m.abs.name==nm)=none:=by
    rw[List.find?_eq_none];intro x hx;have:x.abs.name≠m.abs.name:=fun e=>hn.1 (by rw[←e];exact List.mem_map.2 ⟨x,hx,rfl⟩)
    simpa[←hm]using this
   rw[hr]at ih;simp[hm]at ih⊢;exact ih
  ·have hm':(m.abs.name==nm)=false:=by simpa using hm
   simp only[List.filter_cons,hm',List.find?_cons,Bool.not_false,if_true,List.length_cons];omega
theorem Gx(ms:List aF)(m:aF)(k:List UInt8):bW (ms++[m]) k=(bW ms k).or (if m.abs.name==k then some m else none):=by
 unfold bW;rw[List.find?_append];congr 1
 simp[List.find?_cons];split<;>simp_all
theorem Reads.put{D:DataW Unit}{ms:List aF}(h:Reads D ms)(hn:(ms.map (·.abs.name)).Nodup)(hT:Tidy D)(m:aF):Reads (D.put (.string m.abs.name) (.lit (.int .i64 m.blk))) (jZ ms m.abs.name++[m]):=by
 refine⟨?_,fun nm z=>?_⟩
 ·rw[size_put hT,nY h,h.1]
  have:=drop_length ms m.abs.name hn;rw[List.length_append,List.length_singleton];split at this<;>rename_i hc<;>simp[hc]<;>omega
 ·rw[Gx]
  by_cases e:nm=m.abs.name
  ·subst e
   rw[atKey_put_same hT.isMap (isKey _),rV];simp[Uw]
  ·rw[atKey_put_other (Gw e),h.2,qj _ e]
   have:(m.abs.name==nm)=false:=by simpa using fun e'=>e e'.symm
   simp[this]
theorem Reads.del{D:DataW Unit}{ms:List aF}(h:Reads D ms)(hn:(ms.map (·.abs.name)).Nodup)(hT:Tidy D)(nm:List UInt8):Reads (D.del (.string nm)) (jZ ms nm):=by
 refine⟨?_,fun k z=>?_⟩
 ·have h1:=size_del (k:= .string nm) hT
  rw[nY h,h.1]at h1;have:=drop_length ms nm hn;omega
 ·by_cases e:k=nm
  ·subst e;rw[atKey_del_same,rV];rfl
  ·rw[atKey_del_other (Gw e),h.2,qj _ e]
theorem Reads.congr{D:DataW Unit}{ms ms':List aF}(h:Reads D ms)(e:ms.map (fun m=>(m.abs.name,m.blk))=ms'.map (fun m=>(m.abs.name,m.blk))):Reads D ms':=by
 have hl:ms.length=ms'.length:=by simpa using congrArg List.length e
 refine⟨h.1.trans hl,fun nm z=>?_⟩;rw[h.2];clear h hl;induction ms generalizing ms' with
 |nil=>cases ms' with
  |nil=>rfl
  |cons=>simp at e
 |cons m r ih=>cases ms' with
  |nil=>simp at e
  |cons m' r'=>
   simp only[List.map_cons,List.cons.injEq,Prod.mk.injEq]at e;unfold bW at*;simp only[List.find?_cons];rw[e.1.1];cases m'.abs.name==nm
   ·exact ih e.2
   ·simp[Uw,e.1.2]
theorem MapAt.congr{w:World}{aI:Option Nat}{ms ms':List aF}(h:MapAt w aI ms)(e:ms.map (fun m=>(m.abs.name,m.blk))=ms'.map (fun m=>(m.abs.name,m.blk))):MapAt w aI ms':=by
 have hl:ms.length=ms'.length:=by simpa using congrArg List.length e
 cases aI with
 |none=>
  have h':ms=[]:=h;subst h';exact List.eq_nil_of_length_eq_zero hl.symm
 |some mb=>obtain⟨D,h1,h2⟩:=h;exact⟨D,hl▸h1,h2.congr e⟩
end Dk
end
section
open Go.RowKit Go.Maps
namespace Dk
def aH(l:List FA):Nat:=(l.map (·.bytes.length)).sum
structure Good(A:DA):Prop where
 room:A.room≤1048576
 used:aH A.files≤A.room
 count:A.files.length≤200
 names:(A.files.map (·.name)).Nodup
 short:∀f∈A.files,f.name.length≤40
 safe:∀f∈A.files,f.safe≤f.bytes.length
 left:A.limited=true→0≤A.left∧A.left≤9223372036854775807
def gK(w:World)(base:Nat)(m:aF):Prop:=
 w.heap[m.blk]? =some (.cells #[m.sl, .int .i64 m.abs.safe] 98 (0,0))∧bZ w 5 base m.sl m.abs.bytes
structure Parts(w:World)(base d:Nat)(F:List Nat)(A:DA)(aI:Option Nat)(ms:List aF):Prop where
 foot:F=d::(aI.toList++ms.flatMap aF.foot)
 nodup:F.Nodup
 low:∀k∈F,base≤k
 self:w.heap[d]? =some (.cells #[.int .i64 A.room, .map aI, .bool A.limited, .int .i64 A.left] 48 (0,0))
 map:MapAt w aI ms
 each:∀m∈ms,gK w base m
 files:A.files=ms.map (·.abs)
 good:Good A
def aj(w:World)(base d:Nat)(F:List Nat)(A:DA):Prop:=∃aI ms,Parts w base d F A aI ms
theorem gK.kept{w w':World}{base:Nat}{m:aF}{S:List Nat}(h:gK w base m)(ht:Turn S w w')(hn:∀k∈m.foot,k∉S):gK w' base m:=
 ⟨ht.heap h.1 (hn _ (by simp[aF.foot])),h.2.kept ht (fun k hk=>hn k (by simp[aF.foot];right;simpa using hk))⟩
theorem gK.lt{w:World}{base:Nat}{m:aF}(h:gK w base m):∀k∈m.foot,k<w.heap.size:=by
 intro k hk;simp only[aF.foot,List.mem_cons,Option.mem_toList]at hk;rcases hk with rfl|hk
 ·exact lt_of_heap h.1
 ·exact(h.2.lt k hk).2
section
variable {w w':World} {base d:Nat} {F:List Nat} {A A':DA} {aI:Option Nat} {ms:List aF}
theorem Parts.iT(h:Parts w base d F A aI ms):d∈F:=by rw[h.foot];simp
theorem Parts.mem_map(h:Parts w base d F A aI ms){k:Nat}(hk:k∈aI):k∈F:=by
 rw[h.foot];simp only[List.mem_cons,List.mem_append,Option.mem_toList];exact .inr (.inl hk)
theorem Parts.lH(h:Parts w base d F A aI ms){m:aF}(hm:m∈ms){k:Nat}(hk:k∈m.foot):k∈F:=by
 rw[h.foot];simp only[List.mem_cons,List.mem_append,List.mem_flatMap];exact .inr (.inr ⟨m,hm,hk⟩)
theorem Parts.lt(h:Parts w base d F A aI ms):∀k∈F,k<w.heap.size:=by
 intro k hk;rw[h.foot]at hk;simp only[List.mem_cons,List.mem_append,List.mem_flatMap,Option.mem_toList]at hk;rcases hk with rfl|hk|⟨m,hm,hk⟩
 ·exact lt_of_heap h.self
 ·exact h.map.lt k hk
 ·exact(h.each m hm).lt k hk
theorem Parts.kept{S:List Nat}(h:Parts w base d F A aI ms)(ht:Turn S w w')(hn:∀k∈F,k∉S):Parts w' base d F A aI ms:=
 {h with
  self:=ht.heap h.self (hn _ h.iT)
  map:=h.map.kept ht (fun _ hk=>hn _ (h.mem_map hk))
  each:=fun m hm=>(h.each m hm).kept ht (fun _ hk=>hn _ (h.lH hm hk))}
theorem aj.kept{S:List Nat}(h:aj w base d F A)(ht:Turn S w w')(hn:∀k∈F,k∉S):aj w' base d F A:=by
 obtain⟨aI,ms,h⟩:=h;exact⟨aI,ms,h.kept ht hn⟩
theorem aj.lt(h:aj w base d F A):∀k∈F,k<w.heap.size:=by obtain⟨aI,ms,h⟩:=h;exact h.lt
theorem aj.low(h:aj w base d F A):∀k∈F,base≤k:=by obtain⟨aI,ms,h⟩:=h;exact h.low
theorem aj.good(h:aj w base d F A):Good A:=by obtain⟨aI,ms,h⟩:=h;exact h.good
theorem Parts.Gy(h:Parts w base d F A aI ms)(ht:Turn [d] w w')(hs:w'.heap[d]? =some (.cells #[.int .i64 A'.room, .map aI, .bool A'.limited, .int .i64 A'.left] 48 (0,0)))
 (hf:A'.files=A.files) (hg:Good A'):Parts w' base d F A' aI ms:=by
 have hnd:=h.nodup;rw[h.foot,List.nodup_cons]at hnd;have hne:∀k,(k∈aI∨∃m∈ms,k∈m.foot)→k∉[d]:=by
  intro k hk e;simp only[List.mem_singleton]at e;subst e;exact hnd.1 (by simpa[List.mem_flatMap]using hk)
 exact {foot:=h.foot,nodup:=h.nodup,low:=h.low,self:=hs,files:=hf.trans h.files,good:=hg
        map:=h.map.kept ht (fun k hk=>hne k (.inl hk))
        each:=fun m hm=>(h.each m hm).kept ht (fun k hk=>hne k (.inr ⟨m,hm,hk⟩))}
end
def DA.fails(A:DA):Bool:=A.limited&&(A.left==0)
def DA.tick(A:DA):DA:=if A.limited then {A with left:=A.left-1}else A
theorem di(A:DA):A.tick.files=A.files:=by unfold DA.tick;split<;>rfl
theorem jU(A:DA):A.tick.room=A.room:=by unfold DA.tick;split<;>rfl
theorem iK(A:DA):A.tick.limited=A.limited:=by unfold DA.tick;split<;>rfl
theorem Good.tick{A:DA}(h:Good A)(hf:A.fails=false):Good A.tick where
 room:=by rw[jU];exact h.room
 used:=by rw[jU,di];exact h.used
 count:=by rw[di];exact h.count
 names:=by rw[di];exact h.names
 short:=by rw[di];exact h.short
 safe:=by rw[di];exact h.safe
 left:=fun hl=>by
  rw[iK]at hl;have:=h.left hl;simp[DA.fails,hl]at hf;simp only[DA.tick,hl,if_true];omega
def bQ(n:Int):Value:= .iface 45 (.int .i64 n)
section
variable {w:World} {base d:Nat} {F:List Nat} {A:DA} {aI:Option Nat} {ms:List aF}
theorem Parts.c0(h:Parts w base d F A aI ms):w.cell? ⟨d,0,none⟩=some (.int .i64 A.room):=by rw[cell_of h.self];rfl
theorem Parts.c1(h:Parts w base d F A aI ms):w.cell? ⟨d,1,none⟩=some (.map aI):=by rw[cell_of h.self];rfl
theorem Parts.c2(h:Parts w base d F A aI ms):w.cell? ⟨d,2,none⟩=some (.bool A.limited):=by rw[cell_of h.self];rfl
theorem Parts.c3(h:Parts w base d F A aI ms):w.cell? ⟨d,3,none⟩=some (.int .i64 A.left):=by rw[cell_of h.self];rfl
theorem Parts.fr(h:Parts w base d F A aI ms)(i:Nat):w.frozen? ⟨d,i,none⟩=false:=au h.self i
theorem yJ(h:Parts w base d F A aI ms)(hf:A.fails=true):
 Calls Tryz.prog 105 #[.pointer (some ⟨d,0,none⟩)] w fun e w'=>e= .returned (bQ 14)∧w=w':=by
 have c2:=h.c2;have c3:=h.c3;simp only[DA.fails,Bool.and_eq_true]at hf;obtain⟨hl,hz⟩:=hf;rw[hl]at c2;clear hl;go_enter Tryz.func105,Tryz.ntmps105
 go_wp2
 go_ret
 exact⟨rfl,rfl⟩
theorem ql(h:Parts w base d F A aI ms)(hf:A.fails=false):
 Calls Tryz.prog 105 #[.pointer (some ⟨d,0,none⟩)] w fun e w'=>e= .returned .nilIface∧Parts w' base d F A.tick aI ms∧Turn [d] w w':=by
 have c2:=h.c2;have c3:=h.c3;have f3:=h.fr 3;have hl3:=h.good.left;have hgt:=h.good.tick hf;have H:Hid (Parts w base d F A aI ms):=h;cases hl:A.limited
 ·rw[hl]at c2
  clear h hf hl3;have HL:Hid (A.limited=false):=hl;clear hl;go_enter Tryz.func105,Tryz.ntmps105
  go_wp2
  go_ret
  have e:A.tick=A:=by simp[DA.tick,HL.out]
  exact⟨rfl,by rw[e];exact H.out,Turn.refl _ _⟩
 ·rw[hl]at c2
  have hb:=hl3 hl;have hz:(A.left==0)=false:=by simpa[DA.fails,hl]using hf
  clear h hf hl3;have HL:Hid (A.limited=true):=hl;clear hl;go_enter Tryz.func105,Tryz.ntmps105
  go_wp2
  go_ret
  have e:A.tick={A with left:=A.left-1}:=by simp[DA.tick,HL.out]
  have t:Turn [d] w (w.setCell ⟨d,3,none⟩ (.int .i64 (A.left-1))):=(Turn.refl _ _).setCell (by simp) _;refine⟨rfl,H.out.Gy t ?_ (di A) hgt,t⟩;rw[heap_set H.out.self,e];simp
theorem jL(h:Parts w base d F A aI ms)(hf:A.fails=true)(s:ByteArray):
 Calls Tryz.prog 69 #[.pointer (some ⟨d,0,none⟩), .string s] w fun e w'=>e= .returned (.tuple #[.pointer none,bQ 14])∧w=w':=by
 have H:Hid (Parts w base d F A aI ms):=h;clear h;go_enter Tryz.func69,Tryz.ntmps69
 go_wp2_with (go_at_call 105;refine(yJ H.out hf).mono ?_;rintro e w' ⟨rfl,rfl⟩;unfold bQ)
 go_ret2
 exact⟨rfl,rfl⟩
def o6:Option aF→Value
 |some m=> .tuple #[.pointer (some ⟨m.blk,0,none⟩), .nilIface]
 |none=> .tuple #[.pointer none,bQ 7]
theorem dW(h:Parts w base d F A aI ms)(hf:A.fails=false)(s:ByteArray)(hs:s.size≤maxLen)(o:Option aF)(ho:bW ms s.data.toList=o):
 Calls Tryz.prog 69 #[.pointer (some ⟨d,0,none⟩), .string s] w fun e w'=>
  e= .returned (o6 o)∧Parts w' base d F A.tick aI ms∧Turn [d] w w':=by
 have H:Hid (Parts w base d F A aI ms):=h;have HO:Hid (bW ms s.data.toList=o):=ho;clear h ho;cases o
 all_goals
  go_enter Tryz.func69,Tryz.ntmps69
  go_wp2_with fail
  refine(ql H.out hf).mono ?_;rintro e w1 ⟨rfl,hp,ht⟩;have c1:=hp.c1;have aaF:=hp.map.look hs;rw[HO.out]at aaF;simp only[uI]at aaF;have HP:Hid (Parts w1 base d F A.tick aI ms):=hp;clear hp;go_wp2
  go_ret2
  exact⟨rfl,HP.out,ht⟩
end
end Dk
end
section
set_option linter.unusedSimpArgs false
open Go.RowKit Go.Maps
namespace Dk
def gY(left:Lit→Bool):List aF→Nat
 |[]=>0
 |m::r=>(if left (.string m.abs.name)then 0 else m.abs.bytes.length)+gY left r
theorem EZ(left:Lit→Bool):∀ms:List aF,gY left ms≤aH (ms.map (·.abs))
 |[]=>Nat.le_refl _
 |m::r=>by
  have ih:=EZ left r;simp only[gY,aH,List.map_cons,List.sum_cons]at*;split<;>omega
theorem Dj{left:Lit→Bool}(h:∀kl,left kl=false):∀ms:List aF,gY left ms=aH (ms.map (·.abs))
 |[]=>rfl
 |m::r=>by
  have ih:=Dj h r;simp only[gY,aH,List.map_cons,List.sum_cons]at*;simp[h,ih]
theorem Dl{left:Lit→Bool}:∀ms:List aF,(∀m∈ms,left (.string m.abs.name)=true)→gY left ms=0
 |[],_=>rfl
 |m::r,h=>by
  simp only[gY,h m (by simp),if_true];rw[Dl r (fun x hx=>h x (by simp[hx]))]
theorem Gz{D:DataW Unit}{ms:List aF}(h:Reads D ms):gY (has D) ms=0:=by
 apply Dl;intro m hm;rw[nY h];unfold bW;rw[List.find?_isSome];exact⟨m,hm,by simp⟩
theorem sO(a b:List UInt8):(Lit.string a).sameKey (.string b)=(a==b):=by
 by_cases h:a=b
 ·subst h;simp[WideAt.sameKey_self (isKey a)]
 ·rw[sameKey_ne (Gw h)];simpa using h
theorem yL(left:Lit→Bool)(nm:List UInt8):∀ms:List aF,nm∉ms.map (·.abs.name)→gY (fun z=>left z&& !z.sameKey (.string nm)) ms=gY left ms
 |[],_=>rfl
 |m::r,h=>by
  simp only[List.map_cons,List.mem_cons,not_or]at h;have hb:(m.abs.name==nm)=false:=by simpa using fun e=>h.1 e.symm
  simp only[gY,sO,hb,Bool.not_false,Bool.and_true];rw[yL left nm r h.2]
theorem yM(left:Lit→Bool)(nm:List UInt8)(m:aF)(hl:left (.string nm)=true):∀ms:List aF,(ms.map (·.abs.name)).Nodup→bW ms nm=some m→
 gY (fun z=>left z&& !z.sameKey (.string nm)) ms=gY left ms+m.abs.bytes.length
 |[],_,hf=>by simp[bW]at hf
 |a::r,hn,hf=>by
  simp only[List.map_cons,List.nodup_cons]at hn;unfold bW at hf;rw[List.find?_cons]at hf;by_cases ha:a.abs.name=nm
  ·have hb:(a.abs.name==nm)=true:=by simpa using ha
   rw[hb]at hf;simp at hf;subst hf;have hs:(Lit.string a.abs.name).sameKey (.string nm)=true:=by rw[sO];exact hb
   have hla:left (.string a.abs.name)=true:=by rw[ha];exact hl
   simp only[gY,hs,hla,yL left nm r (by rw[←ha];exact hn.1)];simp;omega
  ·have hb:(a.abs.name==nm)=false:=by simpa using ha
   rw[hb]at hf;have hs:(Lit.string a.abs.name).sameKey (.string nm)=false:=by rw[sO];exact hb
   simp only[gY,hs,yM left nm m hl r hn.2 hf];simp;omega
def Yc(c:Option Nat):Value:=match c with
 |some b=> .pointer (some ⟨b,0,none⟩)
 |none=> .pointer none
theorem invP(v:Value)(y:DataW Unit×List MemPlace)(h:qY v=some y):∃c,v=Yc c:=by
 unfold qY at h;split at h
 ·exact⟨some _,rfl⟩
 ·exact⟨none,rfl⟩
 ·cases h
theorem who{D:DataW Unit}{ms:List aF}(hr:Reads D ms){x:ByteArray}{c:Option Nat}{kl:Lit}{y:DataW Unit×List MemPlace}(hk:keyOf Tryz.prog 9 (.string x)=some kl)(hy:qY (Yc c)=some y)
 (hat:∀zd,D.atKey kl zd=y.1):∃nm m,kl= .string nm∧bW ms nm=some m∧c=some m.blk:=by
 have e:kl= .string x.data.toList:=by
  simp only[keyOf,mapKey,Tryz.underlying9]at hk;split at hk<;>simp_all
 subst e;refine⟨x.data.toList,?_⟩;cases hf:bW ms x.data.toList with
 |none=>
  have h1:=hat .nil;have h2:=hat (.lit (.bool true));rw[hr.2,hf]at h1 h2;rw[←h1]at h2;cases h2
 |some m=>
  have h1:=hat .nil;rw[hr.2,hf]at h1;refine⟨m,rfl,rfl,?_⟩;cases c with
  |none=>simp[Yc,qY]at hy;subst hy;cases h1
  |some b=>simp[Yc,qY]at hy;subst hy;simp[Uw]at h1;rw[Int.ofNat_inj.1 h1]
section
variable {w:World} {base d:Nat} {F:List Nat} {A:DA} {aI:Option Nat} {ms:List aF}
theorem qo{nm:List UInt8}{m:aF}(h:bW ms nm=some m):m∈ms∧m.abs.name=nm:=by
 unfold bW at h;exact⟨List.mem_of_find?_eq_some h,by simpa using List.find?_some h⟩
theorem Parts.names(h:Parts w base d F A aI ms):(ms.map (·.abs.name)).Nodup:=by
 have:=h.good.names;rw[h.files,List.map_map]at this;exact this
theorem IM(h:Parts w base d F A aI ms):
 Calls Tryz.prog 123 #[.pointer (some ⟨d,0,none⟩)] w fun e w'=>e= .returned (.int .i64 (aH A.files))∧Turn [] w w':=by
 have H:Hid (Parts w base d F A aI ms):=h;have c1:=h.c1;have KE:=h.names;have hu:=h.good.used;have aaz:=h.good.room;have aek:=h.files;have abI:=h.map;clear h;cases aI with
 |none=>
  have hms:ms=[]:=abI;subst hms;have hz:A.files=[]:=by rw[aek];rfl
  have HZ:Hid (aH A.files=0):=by rw[hz];rfl
  clear hz aek abI;have hrn:=fun w=>run_range_nilMap (P:=Tryz.prog) w _ _ _ Tryz.underlying46
  have hnx:=fun(w:World) ty a b s=>run_next_nilMap (P:=Tryz.prog) w ty a b s
  go_enter Tryz.func123,Tryz.ntmps123
  go_wp2
  refine wp_loop_rounds 1 ?_;rw[rounds_succ];go_wp2
  go_ret
  exact⟨by rw[HZ.out];rfl,(Turn.refl _ _).alloc _⟩
 |some mb=>
  obtain⟨D,aau,hrd⟩:=abI;have HR:Hid (Reads D ms):=hrd;have HN:Hid ((ms.map (·.abs.name)).Nodup):=KE;have HF:Hid (A.files=ms.map (·.abs)):=aek;have hle:=fun left=>EZ left ms
  rw[aek]at hu;have aks:∀left,gY left ms≤1048576:=fun left=>by have:=hle left;omega
  have h0:=Gz hrd;clear hle hu aaz KE hrd aek;go_enter Tryz.func123,Tryz.ntmps123
  go_wp2_with (first
   |(at_range;refine wpList_range_own _ rfl _ 46 rfl 9 96 law Tryz.underlying46 qY mb ms.length D rfl aau ?_;intro w0 akt hg0 hs0)
   |go_in)
  go_frame
  go_loopw [3] (fun s wr=>∃left cnt,s= .int .i64 (gY left ms)∧wr.ranges Tryz.prog 9 qY mb w.heap.size ms.length D left cnt∧Turn [] w wr) (fun _ wr=>wr.rangeLeft mb w.heap.size)
  case atStart=>exact⟨has D,size D,by rw[h0];rfl,akt,(Turn.refl _ _).grown hg0 (by simp)⟩
  case round=>
   obtain⟨left,cnt,rfl,hrg,ht⟩:=hrel;have hb:=aks left;clear akt hg0 hs0 h0;go_wp2_with (at_next;refine wpList_next_ranges _ rfl _ rfl 9 law qY Value.string Yc (fun _ _ hk=>Maps.keyOf_string_inv Tryz.underlying9 hk) invP mb w.heap.size ms.length D left cnt rfl hrg ?_ ?_)
   ·intro hc0 hl0
    have abn:=Dj hl0 ms;have HE:Hid (gY left ms=aH (ms.map (·.abs))):=abn;clear abn;go_wp2
    go_ret
    exact⟨nU (by rw[HF.out,HE.out]),ht⟩
   ·intro x c kl yd yp w1 cnt1 hk hlk hy hat aku hlt hg1 hs1 hen
    obtain⟨nm,m,rfl,hfm,rfl⟩:=who HR.out hk hy hat;have ht1:Turn [] w w1:=ht.grown hg1 (by simp);have hm:=qo hfm;have hfa:=(H.out.each m hm.1).kept ht1 (by simp);obtain⟨sa,sc,hsl,adq,adO⟩:=hfa.2.form;have cf:w1.cell? ⟨m.blk,0,none⟩=some (.slice sa m.abs.bytes.length sc):=by rw[cell_of hfa.1,hsl];rfl
    have hst:=yM left nm m hlk ms HN.out hfm;have hb1:=aks (fun z=>left z&& !z.sameKey (.string nm));rw[hst]at hb1;have HST:Hid (gY (fun z=>left z&& !z.sameKey (.string nm)) ms=gY left ms+m.abs.bytes.length):=hst;simp only[Yc]at hen⊢;clear hst hfm hm hfa hsl hk hy hat hlk;go_wp2
    go_roundw
    case rel=>
     repeat apply Exists.intro
     exact⟨⟨_,cnt1,by rw[HST.out];go_num,aku,ht1⟩,rfl⟩
    case measure=>rw[aku.left_eq,hrg.left_eq];omega
end
end Dk
end
section
open Go.RowKit
namespace Dk
def nb(c:Int):Bool:=decide (97≤c∧c≤122∨48≤c∧c≤57∨c=45∨c=46∨c=47)
theorem wF(c:Int)(w:World):
 Calls Tryz.prog 177 #[.int .u8 c] w fun e w'=>e= .returned (.bool (nb c))∧w'=w:=by
 go_enter Tryz.func177,Tryz.ntmps177
 go_wp2
 all_goals
  go_ret
  exact⟨lh (by unfold nb;first|(symm;apply decide_eq_true;omega)|(symm;apply decide_eq_false;omega)|(rw[Bool.eq_iff_iff];simp;omega)),rfl⟩
def allB(p:UInt8→Bool)(s:ByteArray):Bool:=s.data.toList.all p
theorem Q4(p:UInt8→Bool)(s:ByteArray)(k:Nat)(h:k<s.size):(s.data.toList.take (k+1)).all p=((s.data.toList.take k).all p&&p s[k]):=by
 rw[List.take_succ_eq_append_getElem (by simpa using h),List.all_append];simp;rfl
theorem all_false(p:UInt8→Bool)(s:ByteArray)(k:Nat)(h:k<s.size)(hp:p s[k]=false):allB p s=false:=by
 unfold allB;rw[List.all_eq_false];exact⟨s[k],by show s.data.toList[k]'(by simpa using h)∈_;exact List.getElem_mem _,by simp[hp]⟩
theorem Q5(p:UInt8→Bool)(s:ByteArray)(k:Nat)(h:s.size≤k):(s.data.toList.take k).all p=allB p s:=by
 unfold allB;rw[List.take_of_length_le (by simpa using h)]
def Kq(c:UInt8):Bool:=nb c.toNat
def nameB(s:ByteArray):Bool:=allB Kq s&&(decide (1≤s.size)&&decide (s.size≤40))
theorem kJ(s:ByteArray)(w:World)(hs:s.size≤maxLen):
 Calls Tryz.prog 152 #[.string s] w fun e w'=>e= .returned (.bool (nameB s))∧w'=w:=by
 unfold maxLen at hs;go_enter Tryz.func152,Tryz.ntmps152
 go_wp2
 go_loop [6] (fun i=>∃k:Nat,k≤s.size∧i= .int .i64 k∧(s.data.toList.take k).all Kq=true) (fun i=>s.size-(intOf i).toNat)
 case atStart=>exact⟨0,Nat.zero_le _,rfl,rfl⟩
 case round=>
  obtain⟨k,hk,rfl,ha⟩:=hrel;have HA:Hid ((s.data.toList.take k).all Kq=true):=ha;clear ha;by_cases hlt:k<s.size
  ·have hsn:=Q4 Kq s k hlt
   have HS:Hid ((s.data.toList.take (k+1)).all Kq=((s.data.toList.take k).all Kq&&Kq s[k])):=hsn;clear hsn;cases hi:nb s[k].toNat
   ·have hz:=all_false Kq s k hlt hi
    have HZ:Hid (allB Kq s=false):=hz;clear hz;go_wp2_with (go_at_call 177;refine(wF _ _).mono ?_;rintro e w' ⟨rfl,rfl⟩)
    go_ret
    exact⟨lh (by unfold nameB;rw[HZ.out];rfl),rfl⟩
   ·have H1:Hid (Kq s[k]=true):=hi
    go_wp2_with (go_at_call 177;refine(wF _ _).mono ?_;rintro e w' ⟨rfl,rfl⟩)
    go_round
    case rel=>exact⟨k+1,by omega,by go_num,by rw[HS.out,HA.out,H1.out];rfl⟩
    case measure=>simp[intOf];omega
  ·have H:=Q5 Kq s k (by omega)
   have HH:Hid (allB Kq s=true):=H.symm.trans HA.out;clear H;by_cases h1:1≤s.size<;>by_cases h2:s.size≤40
   all_goals go_wp2
   all_goals
    go_ret
    exact⟨lh (by have hq:=HH.out;rw[Bool.eq_iff_iff];simp[nameB,hq];omega),rfl⟩
end Dk
end
section
open Go.RowKit Go.Maps
set_option linter.unusedSimpArgs false
namespace Dk
def aC(n:Int):Value:=if n=0 then .nilIface else bQ n
theorem new_bad(r:Int)(h:r<0∨1048576<r)(w:World):
 Calls Tryz.prog 5 #[.int .i64 r] w fun e w'=>e= .returned (.tuple #[.pointer none,bQ 2])∧w=w':=by
 by_cases h1:r<0
 ·go_enter Tryz.func5,Tryz.ntmps5
  go_wp2
  go_ret2
  exact⟨rfl,rfl⟩
 ·have h2:1048576<r:=by omega
  go_enter Tryz.func5,Tryz.ntmps5
  go_wp2
  go_ret2
  exact⟨rfl,rfl⟩
def DA.empty(r:Nat):DA:=⟨r,[],false,0⟩
theorem Q7(r:Nat)(h:r≤1048576)(w:World)(base:Nat)(hb:base≤w.heap.size):
 Calls Tryz.prog 5 #[.int .i64 r] w fun e w'=>e= .returned (.tuple #[.pointer (some ⟨w.heap.size,0,none⟩), .nilIface])∧aj w' base w.heap.size [w.heap.size] (DA.empty r)∧Turn [] w w':=by
 go_enter Tryz.func5,Tryz.ntmps5
 go_wp2
 go_ret2
 refine⟨rfl,⟨none,[],?_⟩,(Turn.refl _ _).alloc _⟩
 exact {foot:=rfl,nodup:=by simp,low:=by simpa using hb,self:=ai w _,map:=rfl,each:=by simp,files:=rfl
        good:={room:=h,used:=by simp[aH,DA.empty],count:=by simp[DA.empty],names:=by simp[DA.empty],short:=by simp[DA.empty],safe:=by simp[DA.empty],left:=by simp[DA.empty]}}
def dA(w w':World)(base d:Nat)(F:List Nat)(A':DA):Prop:=∃F',aj w' base d F' A'∧Turn F w w'∧∀k∈F',k∈F∨w.heap.size≤k
section
variable {w w':World} {base d:Nat} {F:List Nat} {A A':DA} {aI:Option Nat} {ms:List aF}
theorem dA.same(h:Parts w' base d F A' aI ms)(ht:Turn F w w'):dA w w' base d F A':=⟨F,⟨_,_,h⟩,ht,fun _ hk=> .inl hk⟩
theorem dA.tick(h:Parts w' base d F A' aI ms)(hd:d∈F)(ht:Turn [d] w w'):dA w w' base d F A':=dA.same h (ht.mono (by simpa using .inl hd))
theorem dA.none(h:Parts w base d F A aI ms):dA w w base d F A:=dA.same h (Turn.refl _ _)
def DA.has(A:DA)(nm:List UInt8):Bool:=(A.files.find? (fun f=>f.name==nm)).isSome
def DA.make(A:DA)(s:ByteArray):Int×DA:=
 if A.fails then(14,A)
 else if !nameB s then(5,A.tick)
 else if A.has s.data.toList then(9,A.tick)
 else if 200≤A.files.length then(4,A.tick)
 else(0,{A.tick with files:=A.files++[⟨s.data.toList,[],0⟩]})
theorem wG(h:Parts w base d F A aI ms)(nm:List UInt8):A.has nm=(bW ms nm).isSome:=by
 unfold DA.has bW;rw[h.files,List.find?_map];simp[Function.comp_def]
theorem Parts.BO(h:Parts w base d F A aI ms){mb:Nat}{D:DataW Unit}{s:ByteArray}{F':List Nat}{A':DA}{k:Nat}(hk:k∉F)(hkb:base≤k)
 (ht:Turn (d::aI.toList) w w')(hs:w'.heap[d]? =some (.cells #[.int .i64 A'.room, .map (some mb), .bool A'.limited, .int .i64 A'.left] 48 (0,0)))
 (hmb:aI=some mb∨(aI=none∧mb∉F∧base≤mb∧mb≠k)) (aau:w'.ownsMap Tryz.prog 9 qY mb (ms.length+1) D) (hrd:Reads D (ms++[⟨⟨s.data.toList,[],0⟩,k, .slice none 0 0⟩]))
 (acx:w'.heap[k]? =some (.cells #[.slice none 0 0, .int .i64 0] 98 (0,0))) (hf:A'.files=A.files++[⟨s.data.toList,[],0⟩]) (hg:Good A')
 (hF:F'=d::(mb::(ms.flatMap aF.foot++[k]))):
 Parts w' base d F' A' (some mb) (ms++[⟨⟨s.data.toList,[],0⟩,k, .slice none 0 0⟩]):=by
 have hnd:=h.nodup;have hlo:=h.low;have yO:=h.foot;rw[yO]at hnd hlo hk hmb;simp only[List.mem_cons,List.mem_append,not_or]at hk;have abV:∀x∈ms.flatMap aF.foot,x∉d::aI.toList:=by
  intro x hx e;rw[List.nodup_cons,List.nodup_append]at hnd;rcases List.mem_cons.1 e with rfl|e
  ·exact hnd.1 (List.mem_append.2 (.inr hx))
  ·exact hnd.2.2.2 x e x hx rfl
 refine {foot:=?_,nodup:=?_,low:=?_,self:=hs,map:=⟨D,by simpa using aau,hrd⟩,each:=?_,files:=?_,good:=hg}
 ·rw[hF];simp[aF.foot,Value.ownBlock,List.flatMap_append]
 ·rw[hF]
  rw[List.nodup_cons,List.nodup_append]at hnd;have aiJ:d≠mb∧mb∉ms.flatMap aF.foot∧mb≠k:=by
   rcases hmb with rfl|⟨rfl,h1,_,h3⟩
   ·simp at hnd hk
    refine⟨hnd.1.1,fun e=>?_,fun e=>hk.2.1 e.symm⟩;exact abV mb e (by simp)
   ·simp at h1
    exact⟨fun e=>h1.1 e.symm,by simpa using h1.2,h3⟩
  simp only[List.nodup_cons,List.mem_cons,List.mem_append,List.nodup_append,List.not_mem_nil,or_false,not_or,not_false_eq_true,true_and,List.nodup_nil,and_true];refine⟨⟨aiJ.1,fun e=>hnd.1 (List.mem_append.2 (.inr e)),fun e=>hk.1 e.symm⟩,⟨aiJ.2.1,aiJ.2.2⟩,hnd.2.2.1,?_⟩;intro x hx y hy e;subst hy;subst e;exact hk.2.2 hx
 ·rw[hF]
  intro x hx;simp only[List.mem_cons,List.mem_append,List.mem_singleton,List.not_mem_nil,or_false]at hx;rcases hx with rfl|rfl|hx|rfl
  ·exact hlo _ (by simp)
  ·rcases hmb with rfl|⟨rfl,_,h2,_⟩
   ·exact hlo _ (by simp)
   ·exact h2
  ·exact hlo _ (List.mem_cons.2 (.inr (List.mem_append.2 (.inr hx))))
  ·exact hkb
 ·intro m hm
  rcases List.mem_append.1 hm with hm|hm
  ·exact(h.each m hm).kept ht (fun x hx=>abV x (List.mem_flatMap.2 ⟨m,hm,hx⟩))
  ·simp only[List.mem_singleton]at hm
   subst hm;exact⟨acx, .inl ⟨rfl,rfl⟩⟩
 ·rw[hf,h.files];simp
theorem Good.BO(h:Good A){s:ByteArray}(hn:nameB s=true)(hh:A.has s.data.toList=false)(hc:A.files.length<200):Good {A with files:=A.files++[⟨s.data.toList,[],0⟩]} where
 room:=h.room
 used:=by have:=h.used;simpa[aH]using this
 count:=by simp;omega
 names:=by
  simp only[List.map_append,List.map_cons,List.map_nil];rw[List.nodup_append];refine⟨h.names,by simp,?_⟩;intro a ha b hb e;simp only[List.mem_singleton]at hb;subst hb;subst e;obtain⟨f,hf,he⟩:=List.mem_map.1 ha;unfold DA.has at hh;rw[Option.isSome_eq_false_iff,Option.isNone_iff_eq_none,List.find?_eq_none]at hh;exact hh f hf (by simpa using he)
 short:=by
  intro f hf;rcases List.mem_append.1 hf with hf|hf
  ·exact h.short f hf
  ·simp only[List.mem_singleton]at hf
   subst hf;simp only[nameB,Bool.and_eq_true,decide_eq_true_eq]at hn;simpa using hn.2.2
 safe:=by
  intro f hf;rcases List.mem_append.1 hf with hf|hf
  ·exact h.safe f hf
  ·simp only[List.mem_singleton]at hf;subst hf;simp
 left:=h.left
theorem xB(w:World)(x:Option Nat):(binOp .eql 46 (.map x) (.map none)).run Tryz.prog w= .ok (.bool x.isNone) w:=by
 exact Go.run_eql_map_nil w _ _ _ x Tryz.underlying46
set_option maxRecDepth 100000 in
theorem wH(h:Parts w base d F A aI ms)(s:ByteArray)(hs:s.size≤maxLen):
 Calls Tryz.prog 110 #[.pointer (some ⟨d,0,none⟩), .string s] w fun e w'=>e= .returned (aC (A.make s).1)∧dA w w' base d F (A.make s).2:=by
 have H:Hid (Parts w base d F A aI ms):=h;have hdF:=h.iT;have aaP:=wG h s.data.toList;have aah:A.files.length=ms.length:=by rw[h.files];simp
 clear h;cases hf:A.fails
 case true=>
  have HV:Hid (A.make s=(14,A)):=by show A.make s=(14,A);simp[DA.make,hf]
  have HF:Hid (A.fails=true):=hf;clear hf aaP aah;go_enter Tryz.func110,Tryz.ntmps110
  go_wp2_with (go_at_call 105;refine(yJ H.out HF.out).mono ?_;rintro e w' ⟨rfl,rfl⟩;unfold bQ)
  go_ret
  exact⟨by rw[HV.out];rfl,by rw[HV.out];exact dA.none H.out⟩
 case false=>
  have HF:Hid (A.fails=false):=hf;cases hn:nameB s
  case false=>
   have HV:Hid (A.make s=(5,A.tick)):=by show A.make s=_;simp[DA.make,hf,hn]
   clear hf aaP aah;go_enter Tryz.func110,Tryz.ntmps110
   go_wp2_with (first|(go_at_call 105;refine(ql H.out HF.out).mono ?_;rintro e w1 ⟨rfl,hp,ht⟩)|(go_at_call 152;refine(kJ _ _ hs).mono ?_;rintro e w' ⟨rfl,rfl⟩))
   go_ret
   exact⟨by rw[HV.out];rfl,by rw[HV.out];exact dA.tick hp hdF ht⟩
  case true=>
   have hlk:=fun(w1:World) (hp:Parts w1 base d F A.tick aI ms)=>hp.map.look hs
   have hln:=fun(w1:World) (hp:Parts w1 base d F A.tick aI ms) ty=>hp.map.len ty
   cases hm:bW ms s.data.toList with
   |some m=>
    have HV:Hid (A.make s=(9,A.tick)):=by show A.make s=_;simp[DA.make,hf,hn,aaP,hm]
    have HM:Hid (bW ms s.data.toList=some m):=hm;clear hf aaP aah hm;go_enter Tryz.func110,Tryz.ntmps110
    go_wp2_with fail
    refine(ql H.out HF.out).mono ?_;rintro e w1 ⟨rfl,hp,ht⟩;have c1:=hp.c1;have aaF:=hlk w1 hp;rw[HM.out]at aaF;simp only[uI]at aaF;have HP:Hid (Parts w1 base d F A.tick aI ms):=hp;clear hp hlk hln;go_wp2_with (first|(go_at_call 152;refine(kJ _ _ hs).mono ?_;rintro e w' ⟨rfl,rfl⟩))
    go_ret
    exact⟨by rw[HV.out];rfl,by rw[HV.out];exact dA.tick HP.out hdF ht⟩
   |none=>
    have HM:Hid (bW ms s.data.toList=none):=hm;have hq:=xB;by_cases hc:200≤A.files.length
    ·have HV:Hid (A.make s=(4,A.tick)):=by show A.make s=_;simp[DA.make,hf,hn,aaP,hm,hc]
     rw[aah]at hc;clear hf aaP aah hm;go_enter Tryz.func110,Tryz.ntmps110
     go_wp2_with fail
     refine(ql H.out HF.out).mono ?_;rintro e w1 ⟨rfl,hp,ht⟩;have c1:=hp.c1;have aaF:=hlk w1 hp;have hl:=hln w1 hp;rw[HM.out]at aaF;simp only[uI]at aaF;have HP:Hid (Parts w1 base d F A.tick aI ms):=hp;clear hp hlk hln;go_wp2_with (first|(go_at_call 152;refine(kJ _ _ hs).mono ?_;rintro e w' ⟨rfl,rfl⟩))
     go_ret
     exact⟨by rw[HV.out];rfl,by rw[HV.out];exact dA.tick HP.out hdF ht⟩
    ·have HV:Hid (A.make s=(0,{A.tick with files:=A.files++[⟨s.data.toList,[],0⟩]})):=by show A.make s=_;simp[DA.make,hf,hn,aaP,hm,hc]
     have hg:=H.out.good.tick hf;have hgA:Good {A.tick with files:=A.tick.files++[⟨s.data.toList,[],0⟩]}:=hg.BO hn (by rw[DA.has,di];rw[DA.has,hm]at aaP;exact aaP) (by rw[di];omega);have HG:Hid (Good {A.tick with files:=A.tick.files++[⟨s.data.toList,[],0⟩]}):=hgA;rw[aah]at hc;have hcl:¬(200:Int)≤(ms.length:Int):=by omega
     have KE:=H.out.names;have HN:Hid ((ms.map (·.abs.name)).Nodup):=KE;have ah1:jZ ms s.data.toList=ms:=by
      unfold jZ;rw[List.filter_eq_self];intro x hx;have:=(List.find?_eq_none.1 hm) x hx;simpa using this
     have HD:Hid (jZ ms s.data.toList=ms):=ah1;clear hf aaP aah hm hg hgA hc KE ah1;cases aI with
     |none=>
      go_enter Tryz.func110,Tryz.ntmps110
      go_wp2_with fail
      refine(ql H.out HF.out).mono ?_;rintro e w1 ⟨rfl,hp,ht⟩;have c1:=hp.c1;have f1:=hp.fr 1;have aaF:=hlk w1 hp;have hl:=hln w1 hp;rw[HM.out]at aaF;simp only[uI]at aaF;have HP:Hid (Parts w1 base d F A.tick .none ms):=hp;have YJ:=hp.lt d hdF;have hmm:= @run_makeMap Tryz.prog;clear hp hlk hln;go_wp2_with (first|(go_at_call 152;refine(kJ _ _ hs).mono ?_;rintro e w' ⟨rfl,rfl⟩))
      have hms:ms=[]:=HP.out.map;subst hms;have ho0:=World.ownsMap_made (w'.setCell ⟨d,1,none⟩ (.map (some w'.heap.size))) Tryz.prog 9 qY;have hsz:(w'.setCell ⟨d,1,none⟩ (.map (some w'.heap.size))).heap.size=w'.heap.size:=by simp[World.setCell]
      rw[hsz]at ho0;obtain⟨w2,acY,ho2,hgr⟩:=(ho0.alloc (.cells #[.slice .none 0 0, .int .i64 0] 98)).store law Tryz.underlying46 (by simp[maxLen]) (keyS hs) (val:= .pointer (some ⟨w'.heap.size+1,0, .none⟩)) (d:= .lit (.int .i64 ((w'.heap.size+1:Nat):Int))) (ps:=[]) rfl;rw[acY];simp only[Result.andThen];rw[Oper.upon_skip];go_wp2
      go_ret
      have ht0:Turn [d] w' (w'.setCell ⟨d,1, .none⟩ (.map (some w'.heap.size))):=(Turn.refl _ _).setCell (by simp) _;have ht1:=(ht0.alloc (.map #[] 0)).alloc (.cells #[.slice .none 0 0, .int .i64 0] 98);have ht2:=ht1.grown hgr.grown (by intro k hk;cases hk;simp);have acy:∀k∈F,k<w'.heap.size:=HP.out.lt;have aas:=HP.out.low d hdF;have agx:w2.heap[d]? =some (.cells #[.int .i64 A.tick.room, .map (some w'.heap.size), .bool A.tick.limited, .int .i64 A.tick.left] 48 (0,0)):=by
       have h1:(w'.setCell ⟨d,1, .none⟩ (.map (some w'.heap.size))).heap[d]? =some (.cells #[.int .i64 A.tick.room, .map (some w'.heap.size), .bool A.tick.limited, .int .i64 A.tick.left] 48 (0,0)):=by
        rw[heap_set HP.out.self];simp
       have h2:=(((Turn.refl [] _).alloc (.map #[] 0)).alloc (.cells #[.slice .none 0 0, .int .i64 0] 98)).heap h1 (by simp);exact((Turn.refl [w'.heap.size] _).grown hgr.grown (by intro k hk;cases hk;simp)).heap h2 (by simp;omega)
      have acx:w2.heap[w'.heap.size+1]? =some (.cells #[.slice .none 0 0, .int .i64 0] 98 (0,0)):=by
       have h1:=ai ((w'.setCell ⟨d,1, .none⟩ (.map (some w'.heap.size))).alloc (.map #[] 0)) (.cells #[.slice .none 0 0, .int .i64 0] 98);have hs2:((w'.setCell ⟨d,1, .none⟩ (.map (some w'.heap.size))).alloc (.map #[] 0)).heap.size=w'.heap.size+1:=by simp[World.setCell]
       rw[hs2]at h1;exact((Turn.refl [w'.heap.size] _).grown hgr.grown (by intro k hk;cases hk;simp)).heap h1 (by simp)
      have hrd:Reads ((DataW.map []:DataW Unit).put (.string s.data.toList) (.lit (.int .i64 ((w'.heap.size+1:Nat):Int)))) ([]++[⟨⟨s.data.toList,[],0⟩,w'.heap.size+1, .slice .none 0 0⟩]):=
       Reads.put (ms:=[]) ⟨rfl,fun nm z=>rfl⟩ (by simp) tidy_empty ⟨⟨s.data.toList,[],0⟩,w'.heap.size+1, .slice .none 0 0⟩
      have hP:=HP.out.BO (mb:=w'.heap.size) (k:=w'.heap.size+1) (w':=w2) (A':={A.tick with files:=A.tick.files++[⟨s.data.toList,[],0⟩]}) (fun e=>by have:=acy _ e;omega) (by have:=acy d hdF;omega) (by simpa using ht2) agx (.inr ⟨rfl,fun e=>by have:=acy _ e;omega,by have:=acy d hdF;omega,by omega⟩)
       (by simpa using ho2) hrd acx rfl HG.out rfl
      rw[di]at hP;refine⟨by rw[HV.out];rfl,?_⟩;rw[HV.out];refine⟨_,⟨_,_,hP⟩,(ht.mono (by simpa using .inl hdF)).trans ht2 (by simpa using .inl hdF),?_⟩;intro k hk;have hle:=ht.size;simp at hk;rcases hk with rfl|rfl|rfl
      ·exact .inl hdF
      ·exact .inr hle
      ·exact .inr (by omega)
     |some mb=>
      go_enter Tryz.func110,Tryz.ntmps110
      go_wp2_with fail
      refine(ql H.out HF.out).mono ?_;rintro e w1 ⟨rfl,hp,ht⟩;have c1:=hp.c1;have aaF:=hlk w1 hp;have hl:=hln w1 hp;rw[HM.out]at aaF;simp only[uI]at aaF;have HP:Hid (Parts w1 base d F A.tick (.some mb) ms):=hp;have YJ:=hp.lt d hdF;clear hp hlk hln;go_wp2_with (first|(go_at_call 152;refine(kJ _ _ hs).mono ?_;rintro e w' ⟨rfl,rfl⟩))
      obtain⟨D,aau,hrd⟩:=HP.out.map;have hsm:=HP.out.good.count;rw[HP.out.files,List.length_map]at hsm;obtain⟨w2,acY,ho2,hgr⟩:=(aau.alloc (.cells #[.slice .none 0 0, .int .i64 0] 98)).store law Tryz.underlying46 (by simp only[maxLen];omega) (keyS hs) (val:= .pointer (some ⟨w'.heap.size,0, .none⟩)) (d:= .lit (.int .i64 (w'.heap.size:Int))) (ps:=[]) rfl;rw[acY];simp only[Result.andThen];rw[Oper.upon_skip];go_wp2
      go_ret
      have Wq:mb∈F:=HP.out.mem_map rfl;have ht2:Turn [mb] w' w2:=((Turn.refl [mb] w').alloc (.cells #[.slice .none 0 0, .int .i64 0] 98)).grown hgr.grown (by intro k hk;cases hk;simp);have acy:∀k∈F,k<w'.heap.size:=HP.out.lt;have hnd:=HP.out.nodup;rw[HP.out.foot]at hnd;simp at hnd;have agx:=ht2.heap HP.out.self (by simpa using hnd.1.1);have acx:w2.heap[w'.heap.size]? =some (.cells #[.slice .none 0 0, .int .i64 0] 98 (0,0)):=
       ((Turn.refl [mb] _).grown hgr.grown (by intro k hk;cases hk;simp)).heap (ai w' _) (by simp;have:=acy mb Wq;omega)
      have aem:=hrd.put HN.out (aau.tidy law) ⟨⟨s.data.toList,[],0⟩,w'.heap.size, .slice .none 0 0⟩;simp only[HD.out]at aem;have hP:=HP.out.BO (mb:=mb) (k:=w'.heap.size) (w':=w2) (A':={A.tick with files:=A.tick.files++[⟨s.data.toList,[],0⟩]}) (fun e=>by have:=acy _ e;omega) (by have:=HP.out.low d hdF;have:=acy d hdF;omega) (ht2.mono (by simp)) agx (.inl rfl)
       ho2 aem acx rfl HG.out rfl
      rw[di]at hP;refine⟨by rw[HV.out];rfl,?_⟩;rw[HV.out];refine⟨_,⟨_,_,hP⟩,(ht.mono (by simpa using .inl hdF)).trans ht2 (by simpa using .inl Wq),?_⟩;intro k hk;have hle:=ht.size;have hft:=HP.out.foot;simp only[List.mem_cons,List.mem_append,List.not_mem_nil,or_false]at hk;rcases hk with rfl|rfl|hk|rfl
      ·exact .inl hdF
      ·exact .inl Wq
      ·exact .inl (by rw[hft];exact List.mem_cons.2 (.inr (List.mem_append.2 (.inr hk))))
      ·exact .inr hle
end
end Dk
end
end Go.Proofs.YtficbckncieabaaGreatDoor
