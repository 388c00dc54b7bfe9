/- Lemmas of the claim, part l of 14. -/
import Derived.Shelf.SlIterI.Nil
import Derived.Shelf.SortM.Plain
import Derived.Shelf.SortM.SortNone
import Derived.Ground.GgzProg
import Derived.Ground.SlgmProg
import Derived.Test.YtmjpdhpmjmgmaaaGreatDoorProg
import Derived.Test.YtmjpdhpmjmgmaaaGreatDoorMk
section
open Go.Shelf
namespace Go.Proofs
def Tryz.CZ:Go.Shelf.Ren:=⟨fun|7=>69|10=>110|n=>n,fun|23=>56|26=>3|3=>82|28=>155|0=>0|27=>154|33=>124|4=>4|n=>n,fun|n=>n⟩
theorem Tryz.keys69:Go.Proofs.SlLaysZI.n7 Tryz.prog Tryz.CZ:={
 mixed:=by kernel_rfl
 f7:=⟨Tryz.f69.name,by decide,Tryz.func69.trans (congrArg some (by kernel_rfl))⟩
 f10:=⟨Tryz.f110.name,by decide,Tryz.func110.trans (congrArg some (by kernel_rfl))⟩
 t0:=Tryz.underlying0
 a0:=Tryz.isAgg0
 z0:=Tryz.sizeOf0
 v0:=Tryz.zeroValue0
 t4:=Tryz.underlying4
 a4:=Tryz.isAgg4
 z4:=Tryz.sizeOf4
 v4:=Tryz.zeroValue4
 t23:=Tryz.underlying56
 a23:=Tryz.isAgg56
 z23:=Tryz.sizeOf56
 v23:=Tryz.zeroValue56
 t26:=Tryz.underlying3
 a26:=Tryz.isAgg3
 z26:=Tryz.sizeOf3
 v26:=Tryz.zeroValue3
 t27:=Tryz.underlying154
 a27:=Tryz.isAgg154
 z27:=Tryz.sizeOf154
 v27:=Tryz.zeroValue154
 t28:=Tryz.underlying155
 a28:=Tryz.isAgg155
 z28:=Tryz.sizeOf155
 v28:=Tryz.zeroValue155
 t33:=Tryz.underlying124
 a33:=Tryz.isAgg124
 z33:=Tryz.sizeOf124
 v33:=Tryz.zeroValue124}
def Tryz.uO:Go.Shelf.Ren:=⟨fun|6=>68|8=>108|9=>109|11=>153|13=>155|12=>154|23=>203|24=>204|14=>194|15=>195|16=>196|17=>197|18=>198|19=>199|20=>200|21=>201|22=>202|25=>235|26=>236|27=>237|28=>238|29=>239|30=>44|31=>273|n=>n,fun|26=>3|28=>155|24=>37|0=>0|3=>3|37=>80|48=>277|50=>279|4=>4|40=>270|39=>269|45=>150|5=>5|9=>9|51=>305|55=>309|57=>334|58=>335|33=>124|n=>n,fun|n=>n⟩
theorem Tryz.sorted68:Go.Proofs.SlLaysZI.n6 Tryz.prog Tryz.uO:={
 mixed:=by kernel_rfl
 f6:=⟨Tryz.f68.name,by decide,Tryz.func68.trans (congrArg some (by kernel_rfl))⟩
 f8:=⟨Tryz.f108.name,by decide,Tryz.func108.trans (congrArg some (by kernel_rfl))⟩
 f11:=⟨Tryz.f153.name,by decide,Tryz.func153.trans (congrArg some (by kernel_rfl))⟩
 t0:=Tryz.underlying0
 a0:=Tryz.isAgg0
 z0:=Tryz.sizeOf0
 v0:=Tryz.zeroValue0
 t24:=Tryz.underlying37
 a24:=Tryz.isAgg37
 z24:=Tryz.sizeOf37
 v24:=Tryz.zeroValue37
 t26:=Tryz.underlying3
 a26:=Tryz.isAgg3
 z26:=Tryz.sizeOf3
 v26:=Tryz.zeroValue3
 t28:=Tryz.underlying155
 a28:=Tryz.isAgg155
 z28:=Tryz.sizeOf155
 v28:=Tryz.zeroValue155
 i26:=by kernel_rfl}
def Tryz.Jc:Go.Shelf.Ren:=⟨fun|5=>109|8=>155|7=>154|19=>203|20=>204|10=>194|11=>195|12=>196|13=>197|14=>198|15=>199|16=>200|17=>201|18=>202|30=>235|31=>236|32=>237|33=>238|34=>239|35=>44|40=>273|n=>n,fun|23=>37|25=>3|3=>3|32=>80|22=>37|0=>0|44=>277|46=>279|4=>4|36=>270|35=>269|41=>150|5=>5|9=>9|53=>305|57=>309|63=>334|64=>335|n=>n,fun|n=>n⟩
theorem Tryz.sort109:Go.Proofs.SlLaysM.n5 Tryz.prog Tryz.Jc:={
 mixed:=by kernel_rfl
 f5:=⟨Tryz.f109.name,by decide,Tryz.func109.trans (congrArg some (by kernel_rfl))⟩
 f7:=⟨Tryz.f154.name,by decide,Tryz.func154.trans (congrArg some (by kernel_rfl))⟩
 f8:=Tryz.func155.trans (congrArg some (by kernel_rfl))
 f10:=⟨Tryz.f194.name,by decide,Tryz.func194.trans (congrArg some (by kernel_rfl))⟩
 f11:=⟨Tryz.f195.name,by decide,Tryz.func195.trans (congrArg some (by kernel_rfl))⟩
 f12:=⟨Tryz.f196.name,by decide,Tryz.func196.trans (congrArg some (by kernel_rfl))⟩
 f13:=⟨Tryz.f197.name,by decide,Tryz.func197.trans (congrArg some (by kernel_rfl))⟩
 f14:=⟨Tryz.f198.name,by decide,Tryz.func198.trans (congrArg some (by kernel_rfl))⟩
 f15:=⟨Tryz.f199.name,by decide,Tryz.func199.trans (congrArg some (by kernel_rfl))⟩
 f16:=⟨Tryz.f200.name,by decide,Tryz.func200.trans (congrArg some (by kernel_rfl))⟩
 f17:=⟨Tryz.f201.name,by decide,Tryz.func201.trans (congrArg some (by kernel_rfl))⟩
 f18:=⟨Tryz.f202.name,by decide,Tryz.func202.trans (congrArg some (by kernel_rfl))⟩
 f19:=Tryz.func203.trans (congrArg some (by kernel_rfl))
 f20:=Tryz.func204.trans (congrArg some (by kernel_rfl))
 f30:=⟨Tryz.f235.name,by decide,Tryz.func235.trans (congrArg some (by kernel_rfl))⟩
 f31:=Tryz.func236.trans (congrArg some (by kernel_rfl))
 f32:=Tryz.func237.trans (congrArg some (by kernel_rfl))
 f33:=⟨Tryz.f238.name,by decide,Tryz.func238.trans (congrArg some (by kernel_rfl))⟩
 f34:=⟨Tryz.f239.name,by decide,Tryz.func239.trans (congrArg some (by kernel_rfl))⟩
 f35:=⟨Tryz.f44.name,by decide,Tryz.func44.trans (congrArg some (by kernel_rfl))⟩
 f40:=⟨Tryz.f273.name,by decide,Tryz.func273.trans (congrArg some (by kernel_rfl))⟩
 t0:=Tryz.underlying0
 a0:=Tryz.isAgg0
 z0:=Tryz.sizeOf0
 v0:=Tryz.zeroValue0
 t3:=Tryz.underlying3
 a3:=Tryz.isAgg3
 z3:=Tryz.sizeOf3
 v3:=Tryz.zeroValue3
 t4:=Tryz.underlying4
 a4:=Tryz.isAgg4
 z4:=Tryz.sizeOf4
 v4:=Tryz.zeroValue4
 t5:=Tryz.underlying5
 a5:=Tryz.isAgg5
 z5:=Tryz.sizeOf5
 v5:=Tryz.zeroValue5
 t9:=Tryz.underlying9
 a9:=Tryz.isAgg9
 z9:=Tryz.sizeOf9
 v9:=Tryz.zeroValue9
 t22:=Tryz.underlying37
 a22:=Tryz.isAgg37
 z22:=Tryz.sizeOf37
 v22:=Tryz.zeroValue37
 t23:=Tryz.underlying37
 a23:=Tryz.isAgg37
 z23:=Tryz.sizeOf37
 v23:=Tryz.zeroValue37
 t25:=Tryz.underlying3
 a25:=Tryz.isAgg3
 z25:=Tryz.sizeOf3
 v25:=Tryz.zeroValue3
 t32:=Tryz.underlying80
 a32:=Tryz.isAgg80
 z32:=Tryz.sizeOf80
 v32:=Tryz.zeroValue80
 t35:=Tryz.underlying269
 a35:=Tryz.isAgg269
 z35:=Tryz.sizeOf269
 v35:=Tryz.zeroValue269
 t36:=Tryz.underlying270
 a36:=Tryz.isAgg270
 z36:=Tryz.sizeOf270
 v36:=Tryz.zeroValue270
 t41:=Tryz.underlying150
 a41:=Tryz.isAgg150
 z41:=Tryz.sizeOf150
 v41:=Tryz.zeroValue150
 t44:=Tryz.underlying277
 a44:=Tryz.isAgg277
 z44:=Tryz.sizeOf277
 v44:=Tryz.zeroValue277
 t46:=Tryz.underlying279
 a46:=Tryz.isAgg279
 z46:=Tryz.sizeOf279
 v46:=Tryz.zeroValue279
 t53:=Tryz.underlying305
 a53:=Tryz.isAgg305
 z53:=Tryz.sizeOf305
 v53:=Tryz.zeroValue305
 t57:=Tryz.underlying309
 a57:=Tryz.isAgg309
 z57:=Tryz.sizeOf309
 v57:=Tryz.zeroValue309
 t63:=Tryz.underlying334
 a63:=Tryz.isAgg334
 z63:=Tryz.sizeOf334
 v63:=Tryz.zeroValue334
 t64:=Tryz.underlying335
 a64:=Tryz.isAgg335
 z64:=Tryz.sizeOf335
 v64:=Tryz.zeroValue335}
end Go.Proofs
end
section
open Go.RowKit Go.Maps Go.Sort Go.Shelf
namespace Go.Proofs
theorem Tryz.UH(m:Nat):AnyZI.SortsIn Tryz.prog Tryz.uO Fence.wide m:=
 ⟨fun blk off cap ss W hH hblk hsz=>callsIn_wide.2 (AnyM.slices_Sort_int Tryz.sort109 blk off cap ss W hH hblk hsz),
  fun p cap W=>callsIn_wide.2 (AnyM.slices_Sort_int_none Tryz.sort109 p cap W)⟩
theorem Tryz.Gl(mb:Option Nat)(W:World):CallsIn Fence.wide 5 Tryz.prog 69 #[.map mb] W fun e w'=>e= .returned (.func (.func 110) #[] #[.pointer (some ⟨W.heap.size,0,none⟩)])∧w'=W.alloc (.cells #[.map mb] 56):=
 AnyZI.keys_in Tryz.keys69 Fence.wide 5 trivial rfl mb W
set_option maxHeartbeats 1000000 in
theorem Tryz.nI{H:Type}(b nn:Nat)(D0:DataW H)(R:Value→Option (DataW H×List MemPlace))(w:World)(hown:w.ownsMap Tryz.prog 3 R b nn D0)(hmax:Maps.size D0≤maxLen)(hbytes:Maps.size D0*8≤140737488355328):
 CallsIn Fence.wide 5 Tryz.prog 68 #[.func (.func 110) #[] #[.pointer (some ⟨w.heap.size,0,none⟩)]] (w.alloc (.cells #[.map (some b)] 56)) fun e w'=>∃(v:Value) (ss:List Int),e= .returned v∧ss.Perm (intKeys D0)∧
  w'.ownsRow (w.alloc (.cells #[.map (some b)] 56)).heap.size 3 1 v ss.length ((ss.mergeSort (fun x y=>decide (x≤y))).map encZ)∧(v= .slice none 0 0↔ss=[])∧Below (w.alloc (.cells #[.map (some b)] 56)).heap.size (w.alloc (.cells #[.map (some b)] 56)) w':=by
 have hbl:=hown.lt;have hseq:SeqGives Fence.wide 2 Tryz.prog 110 #[.pointer (some ⟨w.heap.size,0,none⟩)] encZ (fun ss=>ss.Perm (intKeys D0)) (Maps.size D0) (w.alloc (.cells #[.map (some b)] 56)):=
  AnyZI.keys_gives (ρ:=Tryz.CZ) {Tryz.keys69 with} Fence.wide _ trivial rfl (by omega) w.heap.size b nn D0 _ (by simp) (by simp) (by
   obtain⟨es,clock,hb,Ft,hs,hD⟩:=hown;exact⟨es,clock,(Below.heap_alloc _ _ b hbl).trans hb,Ft,hs,hD⟩)
 exact AnyZI.sorted_in Tryz.sorted68 Fence.wide 5 trivial trivial trivial trivial rfl (by omega) (Tryz.UH _) (enters_of Tryz.func109 (by kernel_rfl) rfl) 110 #[.pointer (some ⟨w.heap.size,0,none⟩)] trivial (enters_of Tryz.func110 (by kernel_rfl) rfl) _ _ hmax hbytes _ hseq
end Go.Proofs
end
namespace Go.Proofs.YtmjpdhpmjmgmaaaGreatDoor
section
open Go.RowKit Go.Maps Go.Sort
set_option maxRecDepth 100000
set_option linter.unusedSimpArgs false
set_option linter.unusedVariables false
attribute [local go_sem] Oper.semAt_some
open Lg
open Wh (Tm Xt aP jX bI dF dQ eH ak IR Dq gG)
namespace Br
def ou(q:List Wq):Prop:=q.Pairwise (fun a b=>a.id<b.id)
theorem ou.ids{q:List Wq}(h:ou q):(q.map (fun x=>(x.id:Int))).Nodup:=by
 unfold List.Nodup;rw[List.pairwise_map];exact h.imp (fun h e=>by omega)
theorem ou.sorted{q:List Wq}(h:ou q):(q.map (fun x=>(x.id:Int))).Pairwise (fun a b=>(leI a b)=true):=by
 rw[List.pairwise_map];exact h.imp (fun h=>by simp only[leI,decide_eq_true_eq];omega)
theorem ou.sub{q p:List Wq}(h:ou q)(hs:List.Sublist p q):ou p:=List.Pairwise.sublist hs h
theorem AZ(q:List Wq):(q.map rO).map (·.1)=q.map (fun x=>(x.id:Int)):=by rw[List.map_map];rfl
theorem ou.find{q:List Wq}(h:ou q){x:Wq}(hx:x∈q):q.find? (fun y=>y.id==x.id)=some x:=by
 induction q with
 |nil=>simp at hx
 |cons y t ih=>
  unfold ou at h ih;rw[List.pairwise_cons]at h;rcases List.mem_cons.1 hx with rfl|hx
  ·simp
  ·have:=h.1 x hx
   have hb:(y.id==x.id)=false:=by rw[beq_eq_false_iff_ne];omega
   rw[List.find?_cons,hb];exact ih h.2 hx
theorem Np:∀L:List Int,L.map encZ=L.flatMap Dq
 |[]=>rfl
 |x::t=>by rw[List.map_cons,List.flatMap_cons,Np t];rfl
theorem La(w:World)(mb:Nat)(q:List Wq)(hm:jg w mb (q.map rO))(hq:ou q)(hl:q.length≤100000):
 Calls Tryz.prog 68 #[.func (.func 110) #[] #[.pointer (some ⟨w.heap.size,0,none⟩)]] (w.alloc (.cells #[.map (some mb)] 56)) fun e w'=>∃ia ic,e= .returned (.slice ia q.length ic)∧q.length≤ic∧ic≤maxLen∧IR w' (w.heap.size+1) (.slice ia q.length ic) (q.map (fun x=>(x.id:Int)))∧Turn [] w w':=by
 obtain⟨D,hown,hrd⟩:=hm;have hk:=tC.keys hown hrd (by rw[AZ];exact hq.ids);rw[AZ]at hk;have hmx:maxLen=9223372036854775807:=by simp[maxLen]
 have hsz:=hrd.1;rw[List.length_map]at hsz;have hc:=callsIn_wide.1 (Tryz.nI mb _ D Xf w hown (by rw[hsz];omega) (by rw[hsz];omega));refine hc.mono ?_;rintro e w' ⟨v,ss,rfl,hp,hrow,hnil,hb⟩;have hss:ss.mergeSort (fun x y=>decide (x≤y))=q.map (fun x=>(x.id:Int)):=by
  have h1:ss.Perm (q.map (fun x=>(x.id:Int))):=hp.trans hk.symm;have h2:=mergeSort_of_perm_i h1;rw[List.mergeSort_of_pairwise hq.sorted]at h2;exact h2
 have hl:ss.length=q.length:=by
  have:=(hp.trans hk.symm).length_eq;rwa [List.length_map]at this
 rw[hss,hl]at hrow;simp only[World.size_alloc]at hrow hb;have hT:Turn [] w w':=((Turn.refl [] w).alloc (.cells #[.map (some mb)] 56)).same (Turn.of_below (by simpa using hb) []);rcases hrow.2 with⟨rfl,h0⟩|⟨g,cap,cur,rfl,hb1,hg,h1,h2,h3,h4⟩
 ·have:q=[]:=List.eq_nil_of_length_eq_zero h0
  subst this;exact⟨none,0,rfl,by simp,by omega, .inl ⟨rfl,rfl⟩,hT⟩
 ·refine⟨_,_,rfl,h1,h2, .inr ⟨g,cap,cur,by simp,hb1,hg,by simpa using h1,by omega,h2,?_⟩,hT⟩
  rw[List.length_map,h4];exact Np _
def Vp(vals:List (List UInt8))(x:Wq)(o:Ot):Prop:=o.dst=(x.who:Int)∧o.err=0∧dU x.off vals o.recs
inductive Told (vals:List (List UInt8)):List Wq→List Ot→Prop
 |nil:Told vals [] []
 |snoc {q:List Wq} {os:List Ot} {x:Wq} {o:Ot}:Told vals q os→Vp vals x o→Told vals (q++[x]) (os++[o])
theorem Told.len{vals:List (List UInt8)}{q:List Wq}{os:List Ot}(h:Told vals q os):os.length=q.length:=by
 induction h with
 |nil=>rfl
 |snoc _ _ ih=>simp[ih]
def jh(vals:List (List UInt8))(q:List Wq)(k:Nat):List Wq:=(q.take k).filter (dm vals)++q.drop k
def pq(vals:List (List UInt8))(q:List Wq)(k:Nat):List Wq:=(q.take k).filter (fun x=> !dm vals x)
section
variable {vals:List (List UInt8)} {q:List Wq} {k:Nat}
theorem wE:List.Sublist (jh vals q k) q:=by
 unfold jh;conv=>rhs;rw[←List.take_append_drop k q]
 exact List.Sublist.append List.filter_sublist (List.Sublist.refl _)
theorem OL(hk:k<q.length):q[k]∈jh vals q k:=by
 unfold jh;refine List.mem_append_right _ ?_;rw[List.drop_eq_getElem_cons hk];exact List.mem_cons_self
theorem Lc(hk:k<q.length)(hs:dm vals q[k]=true):jh vals q (k+1)=jh vals q k:=by
 unfold jh;rw[List.take_succ_eq_append_getElem hk,List.filter_append,List.drop_eq_getElem_cons hk];simp[hs]
theorem Ld(hk:k<q.length)(hs:dm vals q[k]=true):pq vals q (k+1)=pq vals q k:=by
 unfold pq;rw[List.take_succ_eq_append_getElem hk,List.filter_append];simp[hs]
theorem Le(hk:k<q.length)(hs:dm vals q[k]=false):pq vals q (k+1)=pq vals q k++[q[k]]:=by
 unfold pq;rw[List.take_succ_eq_append_getElem hk,List.filter_append];simp[hs]
theorem Lh(hr:ou q)(hk:k<q.length)(hs:dm vals q[k]=false):jh vals q (k+1)=mY (jh vals q k) q[k].id:=by
 have hd:∀p:List Wq,(∀y∈p,y.id≠q[k].id)→mY p q[k].id=p:=fun p hp=>by
  unfold mY;rw[List.filter_eq_self];intro y hy;have:=hp y hy;simpa using this
 have e:q=q.take k++q[k]::q.drop (k+1):=by
  conv=>lhs;rw[←List.take_append_drop k q,List.drop_eq_getElem_cons hk]
 unfold ou at hr;rw[e,List.pairwise_append,List.pairwise_cons]at hr;obtain⟨-,⟨h2, -⟩,h3⟩:=hr;have h5:=hd ((q.take k).filter (dm vals)) (fun y hy=>by have:=h3 y (List.mem_filter.1 hy).1 q[k] List.mem_cons_self;omega);have h6:=hd (q.drop (k+1)) (fun y hy=>by have:=h2 y hy;omega);have hl:(q.take (k+1)).filter (dm vals)=(q.take k).filter (dm vals):=by
  rw[List.take_succ_eq_append_getElem hk,List.filter_append];simp[hs]
 have hrr:mY ((q.take k).filter (dm vals)++q[k]::q.drop (k+1)) q[k].id=(q.take k).filter (dm vals)++q.drop (k+1):=by
  unfold mY at h5 h6⊢;rw[List.filter_append,h5,List.filter_cons,h6];simp only[beq_self_eq_true,Bool.not_true,Bool.false_eq_true,if_false]
 unfold jh;rw[hl,List.drop_eq_getElem_cons hk,hrr]
end
end Br
end
section
open Go.RowKit Go.Maps
set_option maxRecDepth 100000
set_option linter.unusedSimpArgs false
set_option linter.unusedVariables false
attribute [local go_sem] Oper.semAt_some
open Lg
open Wh (Tm Xt aP jX bI dF dQ eH ak IR Dq gG)
namespace Br
structure UI(w:World)(b X1 X2 X3:Nat)(ov:Value):Prop where
 h1:w.heap[X1]? =some (.cells #[.string ⟨#[97]⟩] 9 (0,0))
 h2:w.heap[X2]? =some (.cells #[.pointer (some ⟨b,0,none⟩)] 23 (0,0))
 h3:w.heap[X3]? =some (.cells #[ov] 31 (0,0))
structure RS(w wr:World)(base d sb mo b:Nat)(SF WF:List Nat)(mb came now:Nat)(vals:List (List UInt8))(q:List Wq)(X1 X2 X3:Nat)(k:Nat)(WF':List Nat)(ov:Value)(outs:List Ot):Prop where
 house:dG wr base d sb mo b SF WF' mb came now vals (jh vals q k)
 wf:∀j∈WF',j∈WF∨w.heap.size≤j
 box:UI wr b X1 X2 X3 ov
 rows:bU wr w.heap.size ov outs
 told:Told vals (pq vals q k) outs
 turn:Turn (X3::mb::WF) w wr
section
variable {w wr w2:World} {base d sb mo b:Nat} {SF WF WF':List Nat} {mb came now:Nat} {vals:List (List UInt8)} {q:List Wq} {X1 X2 X3 k:Nat} {ov ov':Value} {outs:List Ot} {o:Ot}
theorem RS.stay(h:RS w wr base d sb mo b SF WF mb came now vals q X1 X2 X3 k WF' ov outs)(hk:k<q.length)(hs:dm vals q[k]=true)(ht:Turn [] wr w2):RS w w2 base d sb mo b SF WF mb came now vals q X1 X2 X3 (k+1) WF' ov outs:=
 ⟨by rw[Lc hk hs];exact h.house.still ht,h.wf,⟨ht.heap h.box.h1 (by simp),ht.heap h.box.h2 (by simp),ht.heap h.box.h3 (by simp)⟩,h.rows.still ht,by rw[Ld hk hs];exact h.told,h.turn.same (ht.mono (by simp))⟩
theorem RS.first{w0:World}(ht:Turn [] w0 w)(h:RS w wr base d sb mo b SF WF mb came now vals q X1 X2 X3 k WF' ov outs):RS w0 wr base d sb mo b SF WF mb came now vals q X1 X2 X3 k WF' ov outs:=
 ⟨h.house,fun j hj=>(h.wf j hj).imp_right (Nat.le_trans ht.size),h.box,⟨h.rows.row.aZ ht.size,fun o ho=>(h.rows.recs o ho).aZ ht.size⟩,h.told,(ht.mono (by simp)).same h.turn⟩
theorem RS.note(h:RS w wr base d sb mo b SF WF mb came now vals q X1 X2 X3 k WF' ov outs)(h3:w2.heap[X3]? =some (.cells #[ov'] 31 (0,0))) (ho:bU w2 w.heap.size ov' (outs++[o])) (ht:Turn (X3::ov.ownBlock.toList) wr w2):
 dG w2 base d sb mo b SF WF' mb came now vals (jh vals q k)∧UI w2 b X1 X2 X3 ov'∧Turn (X3::mb::WF) w w2:=by
 have hown:∀j∈ov.ownBlock,∃cs,wr.heap[j]? =some (.cells cs 43 (0,0)):=fun j hj=>h.rows.row.kind j hj
 have hX3:=h.box.h3;have hno:∀{j:Nat} {cs:Array Value} {T:TypeId} {fr:Nat×Nat},wr.heap[j]? =some (.cells cs T fr)→T≠43→T≠31→j∉X3::ov.ownBlock.toList:=fun hj h1 h2 hm=>by
  rcases List.mem_cons.1 hm with rfl|hm
  ·exact Lg.ai hj hX3 h2 rfl
  ·obtain⟨cs',e'⟩:=hown _ (by simpa using hm)
   exact Lg.ai hj e' h1 rfl
 have hS:∀j∈X3::ov.ownBlock.toList,j∉SF∧j∉WF'∧j≠mb:=fun j hj=>by
  rcases List.mem_cons.1 hj with rfl|hj
  ·exact⟨h.house.store.type hX3 (by decide) (by decide) (by decide) (by decide) (by decide) (by decide) (by decide) (by decide) (by decide) (by decide),dO h.house.dL hX3 (by decide) (by decide),h.house.map.ne hX3⟩
  ·obtain⟨cs',e'⟩:=hown _ (by simpa using hj)
   exact⟨h.house.store.type e' (by decide) (by decide) (by decide) (by decide) (by decide) (by decide) (by decide) (by decide) (by decide) (by decide),dO h.house.dL e' (by decide) (by decide),h.house.map.ne e'⟩
 refine⟨h.house.kept ht (fun j hj hm=>(hS j hm).1 hj) (fun j hj hm=>(hS j hm).2.1 hj) (fun hm=>(hS mb hm).2.2 rfl),⟨ht.heap h.box.h1 (hno h.box.h1 (by decide) (by decide)),ht.heap h.box.h2 (hno h.box.h2 (by decide) (by decide)),h3⟩,h.turn.trans ht (fun j hj=>?_)⟩;rcases List.mem_cons.1 hj with rfl|hj
 ·exact .inl (by simp)
 ·exact .inr (h.rows.row.lt j (by simpa using hj)).1
end
theorem ji{w:World}{base b now:Nat}{xt:Xt}{F:List Nat}{all:List Tm}(h:aP w base b xt F now all):w.cell? ⟨b,0,none⟩=some xt.1∧w.cell? ⟨b,451,none⟩=some xt.2.1∧w.cell? ⟨b,452,none⟩=some xt.2.2∧b<w.heap.size∧∀i,w.frozen? ⟨b,i,none⟩=false:=by
 obtain⟨ah,sv,sl,h1,h2,rfl⟩:=h;exact h1.cells.xs
section
variable {w w':World} {base d sb mo b:Nat} {SF WF:List Nat} {mb came now:Nat} {vals:List (List UInt8)} {q:List Wq}
set_option maxHeartbeats 8000000 in
theorem Jd(h:dG w base d sb mo b SF WF mb came now vals q)(hr:ou q)(hq:∀x∈q,x.off≤vals.length∧x.least≤600∧x.id≤1099511627776)(hl:q.length≤1000)(X1 X2 X3:Nat)(hX:UI w b X1 X2 X3 (.slice none 0 0)):
 Calls Tryz.prog 37 #[.pointer (some ⟨b,0,none⟩), .func (.func 38) #[] #[.pointer (some ⟨X1,0,none⟩), .pointer (some ⟨X2,0,none⟩), .pointer (some ⟨X3,0,none⟩)]] w fun e w'=>e= .returned (.tuple #[])∧∃WF' ov outs,RS w w' base d sb mo b SF WF mb came now vals q X1 X2 X3 q.length WF' ov outs:=by
 obtain⟨hb0,hb1, -,hbz, -⟩:=h.xs;have hkeys:=fun(mbx:Option Nat) (W:World)=>callsIn_wide.1 (Tryz.Gl mbx W)
 have hsrt:=La w mb q h.map hr (by omega);have H:=hide h;have HX:=hide hX;have HK:=hide hkeys;have HSRT:=hide hsrt;have HQ:=hide hq;have OM:=hide hr;have hmx:maxLen=9223372036854775807:=by simp[maxLen]
 clear h hX hkeys hsrt hq hr hb0;go_enter Tryz.func37,Tryz.ntmps37
 go_wp2_with fail
 refine(HK.out _ _).mono ?_;rintro e w1 ⟨rfl,rfl⟩;go_wp2_with fail
 refine HSRT.out.mono ?_;rintro e w1 ⟨ia,ic,rfl,hic1,hic2,hir,ht1⟩;rw[hmx]at hic2;have SS:=hide hir;have HT1:=hide ht1;have hrs0:RS w1 w1 base d sb mo b SF WF mb came now vals q X1 X2 X3 0 WF (.slice none 0 0) []:=
  ⟨by unfold jh;simpa using H.out.still ht1,fun j hj=> .inl hj,⟨ht1.heap HX.out.h1 (by simp),ht1.heap HX.out.h2 (by simp),ht1.heap HX.out.h3 (by simp)⟩,bU.nil _ _,by unfold pq;simpa using Told.nil,Turn.refl _ _⟩
 have HRS0:=hide hrs0;clear hir ht1 hrs0;go_wp2_with fail
 go_loopw [13] (fun kv wr=>∃k:Nat,k≤q.length∧kv= .int .i64 k∧∃WF' ov outs,RS w1 wr base d sb mo b SF WF mb came now vals q X1 X2 X3 k WF' ov outs) (fun kv _=>q.length-(intOf kv).toNat)
 case atStart=>exact⟨0,Nat.zero_le _,rfl,_,_,_,HRS0.out⟩
 case round=>
  obtain⟨k,hk,rfl,WF',ov,outs,hrs⟩:=hrel;have A7:=hide hrs;clear hrs;by_cases hlt:k<q.length
  ·obtain⟨x,hx⟩:∃x,x=q[k]:=⟨_,rfl⟩
   have hxm:x∈jh vals q k:=by rw[hx];exact OL hlt
   have UJ:x∈q:=by rw[hx];exact List.getElem_mem _
   obtain⟨hx1,hx2,hx3⟩:=HQ.out x UJ;have Gm:(Lit.int .i64 (x.id:Int)).wf=true:=Wh.CU hx3;have hwt:=(H.out.still HT1.out).dL;have hmp:=(H.out.still HT1.out).map;have hX31:=HX.out.h3;have Vq:=HT1.out.heap hX31 (by simp);have hrow:=SS.out.kept A7.out.turn (fun j hj hm=>by
    obtain⟨cs',e'⟩:=SS.out.kind j hj;rcases List.mem_cons.1 hm with rfl|hm
    ·exact Lg.ai e' Vq (by decide) rfl
    ·rcases List.mem_cons.1 hm with rfl|hm
     ·exact hmp.ne e' rfl
     ·exact dO hwt e' (by decide) (by decide) hm)
   obtain⟨g,cap,e,hc, -⟩:=hrow.at gG (j:=k) (by rw[List.length_map];exact hlt);simp only[Value.slice.injEq,List.length_map,true_and]at e;obtain⟨rfl,rfl⟩:=e;have c0:wr.cell? ⟨g,k,none⟩=some (.int .i64 (x.id:Int)):=by
    have:=hc 0 (by omega);rw[List.getElem_map,←hx]at this;simpa[Dq]using this
   obtain⟨-,hb451, -,hbz1, -⟩:=A7.out.house.xs;have hfw:jf ((jh vals q k).map rO) (x.id:Int)=some (rO x):=by rw[Gi,(OM.out.sub wE).find hxm];rfl
   have hlook:=A7.out.house.map.look Gm hfw;rw[Nk]at hlook;have hol:outs.length≤1000:=by
    rw[A7.out.told.len];unfold pq;exact Nat.le_trans (List.length_filter_le _ _) (by rw[List.length_take];omega)
   have hl1:=OJ A7.out.house x hx1 hx2 X1 X2 X3 w1.heap.size ov outs A7.out.box.h1 A7.out.box.h2 A7.out.box.h3 A7.out.rows hol A7.out.turn.size;have HL1:=hide hl1;have HXM:=hide hxm;have Gt:=hide hx;have RN:=hide Gm;clear hxm hx UJ hwt hmp hX31 Vq hrow hc hfw hol hl1 Gm;go_wp2_with fail
   refine HL1.out.mono ?_;rintro e w2 ⟨rfl,hst,hgo⟩;cases hs:dm vals x
   ·obtain⟨ov',o,h3',hO',o1,o2,o3,ht', -⟩:=hgo hs
    obtain⟨hh2,hb2,hT2⟩:=A7.out.note h3' hO' ht';have hft:dF ((jh vals q k).map pO) (x.id:Int)=some (pO x):=by rw[Nh,(OM.out.sub wE).find HXM.out];rfl
    have hcan:=Wh.I7 w2 base b _ now WF' _ hh2.dL (x.id:Int) RN.out (pO x) hft;have HCAN:=hide hcan;have HH2:=hide hh2;have HB2:=hide hb2;have HT2:=hide hT2;have HO2:=hide hO';have HTO:Hid (Told vals (pq vals q (k+1)) (outs++[o])):=by
     show Told _ _ _;rw[Le hlt (by rw[←Gt.out];exact hs)];exact A7.out.told.snoc (by rw[←Gt.out];exact⟨o1,o2,o3⟩)
    have MI:Hid (jh vals q (k+1)=mY (jh vals q k) x.id):=by
     show _=_;rw[Gt.out];exact Lh OM.out hlt (by rw[←Gt.out];exact hs)
    clear hst hgo hlook c0 hb451 hs hh2 hb2 hT2 hO' h3' ht' hcan hft o1 o2 o3;go_wp2_with fail
    refine HCAN.out.mono ?_;rintro e w3 ⟨rfl,WF2,hwh3,ht3,hf3⟩;rw[UG]at hwh3;have hst3:=HH2.out.store.kept ht3 HH2.out.sw;have hmp3:=HH2.out.map.kept ht3 HH2.out.wm;obtain⟨w4,hr4,hm4,ht4⟩:=hmp3.del (by rw[AZ];exact(OM.out.sub wE).ids) RN.out 0;rw[Nc]at hm4;obtain⟨-,b451, -,zb, -⟩:=ji hwh3;have hlt2:=HH2.out.lt;have hwm2:mb∉WF2:=fun hm=>(hf3 mb hm).elim HH2.out.wm (fun h=>by have:=hlt2.2.2;omega)
    have hh4:dG w4 base d sb mo b SF WF2 mb came now vals (jh vals q (k+1)):=by
     rw[MI.out];exact⟨hst3.kept ht4 (fun j hj hm=>by obtain rfl:=List.mem_singleton.1 hm;exact HH2.out.sm hj),hwh3.kept ht4 (fun j hj hm=>by obtain rfl:=List.mem_singleton.1 hm;exact hwm2 hj),hm4,HH2.out.low,fun j hj hm=>(hf3 j hm).elim (HH2.out.sw j hj) (fun h=>by have:=hlt2.1 j hj;omega),HH2.out.sm,hwm2⟩
    have hty:∀{j:Nat} {cs:Array Value} {T:TypeId} {fr:Nat×Nat},w2.heap[j]? =some (.cells cs T fr)→T≠64→T≠87→w4.heap[j]? =some (.cells cs T fr):=fun hj h1 h2=>
     ht4.heap (ht3.heap hj (dO HH2.out.dL hj h1 h2)) (fun hm=>by obtain rfl:=List.mem_singleton.1 hm;exact HH2.out.map.ne hj rfl)
    have hrows4:bU w4 w1.heap.size ov' (outs++[o]):=by
     refine(HO2.out.kept ht3 (fun j cs fr hj=>dO HH2.out.dL hj (by decide) (by decide)) (fun j cs fr hj=>dO HH2.out.dL hj (by decide) (by decide))).kept ht4 (fun j cs fr hj hm=>?_) (fun j cs fr hj hm=>?_)
     ·obtain rfl:=List.mem_singleton.1 hm;exact hmp3.ne hj rfl
     ·obtain rfl:=List.mem_singleton.1 hm;exact hmp3.ne hj rfl
    have hsz:=A7.out.turn.size;have hsz2:=HT2.out.size;have hrs4:RS w1 w4 base d sb mo b SF WF mb came now vals q X1 X2 X3 (k+1) WF2 ov' (outs++[o]):=
     ⟨hh4,fun j hj=>(hf3 j hj).elim (A7.out.wf j) (fun h=> .inr (by omega)),⟨hty HB2.out.h1 (by decide) (by decide),hty HB2.out.h2 (by decide) (by decide),hty HB2.out.h3 (by decide) (by decide)⟩,hrows4,HTO.out,(HT2.out.trans ht3 (fun j hj=>(A7.out.wf j hj).imp_left (fun h=>by simp[h]))).trans ht4 (fun j hj=> .inl (by simp at hj;simp[hj]))⟩
    have HRS4:=hide hrs4;have hr4':=hr4;clear hwh3 ht3 hf3 hst3 hmp3 hm4 ht4 hlt2 hwm2 hh4 hty hrows4 hsz hsz2 hrs4;go_wp2
    all_goals refine⟨⟨k+1,by omega,by go_num,_,_,_,HRS4.out⟩,?_⟩
    all_goals (simp only[intOf];omega)
   ·have hrs2:=A7.out.stay hlt (by rw[←Gt.out];exact hs) (hst hs)
    have HRS2:=hide hrs2;clear hst hgo hrs2 hlook c0 hb451 hs;go_wp2
    all_goals refine⟨⟨k+1,by omega,by go_num,_,_,_,HRS2.out⟩,?_⟩
    all_goals (simp only[intOf];omega)
  ·obtain rfl:k=q.length:=by omega
   go_wp2
   go_end0
   exact⟨rfl,_,_,_,A7.out.first HT1.out⟩
end
section
variable {w w' w2:World} {base d sb mo b:Nat} {SF SF' WF:List Nat} {mb came now:Nat} {vals vals':List (List UInt8)} {q:List Wq}
theorem dG.put(h:dG w base d sb mo b SF WF mb came now vals q)(hs:di w2 base d sb mo SF' vals')(ht:Turn SF w w2)(hf:∀k∈SF',k∈SF∨w.heap.size≤k):dG w2 base d sb mo b SF' WF mb came now vals' q:=
 {store:=hs,dL:=h.dL.kept ht (fun k hk hm=>h.sw k hm hk),map:=h.map.kept ht h.sm,low:=h.low,sw:=fun k hk hm=>(hf k hk).elim (fun h1=>h.sw k h1 hm) (fun h1=>by have:=h.lt.2.1 k hm;omega),sm:=fun hm=>(hf mb hm).elim h.sm (fun h1=>by have:=h.lt.2.2;omega),wm:=h.wm}
theorem RP:jh vals q q.length=q.filter (dm vals):=by
 unfold jh;rw[List.take_length,List.drop_length,List.append_nil]
theorem RQ:pq vals q q.length=q.filter (fun x=> !dm vals x):=by
 unfold pq;rw[List.take_length]
set_option maxHeartbeats 4000000 in
theorem RU(h:dG w base d sb mo b SF WF mb came now vals q)(hr:ou q)(hq:∀x∈q,x.off≤vals.length∧x.least≤600∧x.id≤1099511627776)(hl:q.length≤1000):
 Calls Tryz.prog 20 #[.pointer (some ⟨b,0,none⟩), .string ⟨#[97]⟩] w fun e w'=>∃ov outs WF',e= .returned ov∧dG w' base d sb mo b SF WF' mb came now vals (q.filter (dm vals))∧bU w' w.heap.size ov outs∧Told vals (q.filter (fun x=> !dm vals x)) outs∧Turn (mb::WF) w w'∧∀j∈WF',j∈WF∨w.heap.size≤j:=by
 obtain⟨wa,CV⟩:∃wa,wa=((w.alloc (.cells #[.pointer (some ⟨b,0,none⟩)] 23)).alloc (.cells #[.string ⟨#[97]⟩] 9)).alloc (.cells #[.slice none 0 0] 31):=⟨_,rfl⟩;have hta:Turn [] w wa:=by rw[CV];exact(((Turn.refl _ _).alloc _).alloc _).alloc _
 have hbx:UI wa b (w.heap.size+1) w.heap.size (w.heap.size+2) (.slice none 0 0):=by
  rw[CV];refine⟨?_,?_,?_⟩
  ·have:=ae (w.alloc (.cells #[.pointer (some ⟨b,0,none⟩)] 23)) (.cells #[.string ⟨#[97]⟩] 9)
   rw[World.size_alloc]at this;exact((Turn.refl [] _).alloc _).heap this (by simp)
  ·exact(((Turn.refl [] _).alloc _).alloc _).heap (ae w _) (by simp)
  ·have:=ae ((w.alloc (.cells #[.pointer (some ⟨b,0,none⟩)] 23)).alloc (.cells #[.string ⟨#[97]⟩] 9)) (.cells #[.slice none 0 0] 31)
   rw[World.size_alloc,World.size_alloc]at this;exact this
 have hrel:=Jd (h.still hta) hr hq hl _ _ _ hbx;have HREL:=hide hrel;have HWA:=hide CV;have Fh:=hide hta;have g2:wa.cell? ⟨w.heap.size,0,none⟩=some (.pointer (some ⟨b,0,none⟩)):=by rw[cell_of hbx.h2];rfl
 have z2:=lt_of_heap hbx.h2;clear h hr hq CV hta hbx hrel;go_enter Tryz.func20,Tryz.ntmps20
 go_upto_region 2 with fail
 rw[←HWA.out];go_wp2_with fail
 refine HREL.out.mono ?_;rintro e w2 ⟨rfl,WF',ov,outs,hrs⟩;obtain⟨oa,oc,hoe, -, -⟩:=hrs.rows.row.form;subst hoe;have g3:w2.cell? ⟨w.heap.size+2,0,none⟩=some (.slice oa outs.length oc):=by rw[cell_of hrs.box.h3];rfl
 have z3:=lt_of_heap hrs.box.h3;have hs:=Fh.out.size;have A7:=hide hrs;clear hrs;go_wp2
 go_ret
 refine⟨_,outs,WF',rfl,by rw[←RP];exact A7.out.house,⟨A7.out.rows.row.aZ hs,fun o ho=>(A7.out.rows.recs o ho).aZ hs⟩,by rw[←RQ];exact A7.out.told,(Fh.out.mono (T:=mb::WF) (by simp)).trans A7.out.turn (fun k hk=>?_),fun j hj=>(A7.out.wf j hj).imp_right (Nat.le_trans hs)⟩;rcases List.mem_cons.1 hk with rfl|hk
 ·exact .inr (by omega)
 ·exact .inl hk
end
section
variable {w w' w2:World} {base d sb mo b:Nat} {SF SF' WF:List Nat} {mb came now:Nat} {vals vals':List (List UInt8)} {q:List Wq}
set_option maxHeartbeats 8000000 in
theorem C9(h:dG w base d sb mo b SF WF mb came now vals q)(hr:ou q)(hq:∀x∈q,x.off≤vals.length∧x.least≤600∧x.id≤1099511627776)(hl:q.length≤1000)(jO:vals=[]∨100000≤mo)(hlen:vals.length<60){x:List UInt8}(hx:x.length≤500)(ra:Option Addr)(rc:Nat)(hrec:bn w (.slice ra 1 rc) [fU 0 x])(hro:∀k∈(Value.slice ra 1 rc).ownBlock,k<w.heap.size)(hv:∀Z,Turn SF w Z→Sn.dA Z∧As.lM Z)(fr:Int):
 Calls Tryz.prog 7 #[.pointer (some ⟨b,0,none⟩), .int .i64 fr, .agg #[.int .i64 1, .int .i64 0, .string ⟨#[97]⟩, .int .i64 0, .int .i64 0, .int .i64 0, .int .i64 0, .int .i64 0, .int .i64 0, .int .i64 0, .bool false, .bool false, .slice ra 1 rc]] w fun e w'=>∃ov o outs SF' WF',e= .returned ov∧dG w' base d sb mo b SF' WF' mb came now (vals++[x]) (q.filter (dm (vals++[x])))∧bU w' w.heap.size ov (o::outs)∧o.dst=fr∧o.err=0∧Told (vals++[x]) (q.filter (fun y=> !dm (vals++[x]) y)) outs∧Turn (SF++mb::WF) w w'∧(∀j∈SF',j∈SF∨w.heap.size≤j)∧(∀j∈WF',j∈WF∨w.heap.size≤j):=by
 obtain⟨hb0, -, -,hbz, -⟩:=h.xs;have hst:=h.store;have hans:=fun Z (hZ:Turn [] w Z)=>CW (hst.still hZ) b ((World.cell?_of_block (w:=w) (hZ.block _ hbz (by simp))).trans hb0) (Nat.lt_of_lt_of_le hbz hZ.size) jO hlen hx ra rc (hrec.still hZ) (fun k hk=>Nat.lt_of_lt_of_le (hro k hk) hZ.size) (fun Y hY=>hv Y ((hZ.mono (by simp)).same hY)) 0 0 0 0 0 0 0 false
 have Aa:=hide hans;have H:=hide h;have HQ:=hide hq;have OM:=hide hr;have hnb:∀k,w.heap.size≤k→k∉SF:=fun k hk hm=>by have:=h.lt.1 k hm;omega
 have rH:=hide hnb;have hx0:=ae w (.cells #[.int .i64 1, .int .i64 0, .string ⟨#[97]⟩, .int .i64 0, .int .i64 0, .int .i64 0, .int .i64 0, .int .i64 0, .int .i64 0, .int .i64 0, .bool false, .bool false, .slice ra 1 rc] 35);obtain⟨w0,hw0⟩:∃w0,w0=w.alloc (.cells #[.int .i64 1, .int .i64 0, .string ⟨#[97]⟩, .int .i64 0, .int .i64 0, .int .i64 0, .int .i64 0, .int .i64 0, .int .i64 0, .int .i64 0, .bool false, .bool false, .slice ra 1 rc] 35):=⟨_,rfl⟩;rw[←hw0]at hx0;have ht0:Turn [] w w0:=by rw[hw0];exact(Turn.refl _ _).alloc _
 have HW0:=hide hw0;have HT0:=hide ht0;have HX0:=hide hx0;clear h hst hans hb0 hq hr hrec hro hv jO hx hnb hx0 hw0 ht0;go_enter Tryz.func7,Tryz.ntmps7
 go_upto_region 1 with fail
 rw[←HW0.out];go_wp2_with (refine az rfl 35 _ rfl ⟨w.heap.size,0,none⟩ rfl _ (iW HX0.out) ?_)
 refine(Aa.out _ HT0.out).mono ?_;rintro e w2 ⟨rfl,SF',hs2,ht2,hf2⟩;have hz0:=HT0.out.size;have hx2:=ht2.heap HX0.out (rH.out _ (by omega));have hfs:=fC (cs:= #[.int .i64 1, .int .i64 0, .int .i64 0, .int .i64 (vals.length:Int), .int .i64 0, .int .i64 0, .bool false, .slice none 0 0, .slice none 0 0]) (ae w2 (.cells fQ 41));obtain⟨w3,hw3⟩:∃w3,w3=(w2.alloc (.cells fQ 41)).setRow w2.heap.size #[.int .i64 1, .int .i64 0, .int .i64 0, .int .i64 (vals.length:Int), .int .i64 0, .int .i64 0, .bool false, .slice none 0 0, .slice none 0 0]:=⟨_,rfl⟩;rw[←hw3]at hfs;have hta3:Turn [] w2 w3:=((Turn.refl [] w2).alloc (.cells fQ 41)).trans hfs.2 (fun q hq=> .inr (by obtain rfl:=List.mem_singleton.1 hq;exact Nat.le_refl _));have ht02:Turn SF w w2:=(HT0.out.mono (by simp)).same ht2;have hh3:=(H.out.put hs2 ht02 (fun k hk=>(hf2 k hk).imp_right (Nat.le_trans hz0))).still hta3;have HH3:=hide hh3;have HX3:=hide (hta3.heap hx2 (by simp));have HA3:=hide hfs.1;have HT3:=hide (ht02.same (hta3.mono (by simp)));have HF2:Hid (∀k∈SF',k∈SF∨w.heap.size≤k):=fun k hk=>(hf2 k hk).imp_right (Nat.le_trans hz0)
 have hw3':=hw3;unfold fQ at hw3';have HW3:=hide hw3';have hwi:=Ja w3 1 (.inl rfl) (.int .i64 0) (.string ⟨#[97]⟩) (.int .i64 0) (.int .i64 0) (.int .i64 0) (.int .i64 0) (.int .i64 0) (.int .i64 0) (.int .i64 0) (.bool false) (.bool false) (.slice ra 1 rc) (.int .i64 1) (.int .i64 0) (.int .i64 0) (.int .i64 (vals.length:Int)) (.int .i64 0) (.int .i64 0) (.bool false) (.slice none 0 0) (.slice none 0 0);have Nl:=hide hwi;clear hs2 ht2 hf2 hx2 hfs hw3 hta3 ht02 hh3 hw3' hwi;go_wp2_with (first|(refine wpList_store_row rfl 41 _ _ rfl w2.heap.size #[.int .i64 1, .int .i64 0, .int .i64 0, .int .i64 (vals.length:Int), .int .i64 0, .int .i64 0, .bool false, .slice none 0 0, .slice none 0 0] rfl rfl _ _ (ae w2 (.cells fQ 41)) (by kernel_rfl) rfl (by kernel_rfl) ?_;rw[←HW3.out])|(refine az rfl 35 _ rfl ⟨w.heap.size,0,none⟩ rfl _ (iW HX3.out) ?_)|(refine az rfl 41 _ rfl ⟨w2.heap.size,0,none⟩ rfl _ (iT HA3.out) ?_))
 refine Nl.out.mono ?_;rintro e w4 ⟨rfl,ht4⟩;obtain⟨o,ho⟩:∃o:Ot,o=⟨fr,1,0,0,(vals.length:Int),0,0,false, .slice none 0 0,[]⟩:=⟨_,rfl⟩;obtain⟨w5,hw5⟩:∃w5,w5=w4.alloc (.cells (vZ o).toArray 43):=⟨_,rfl⟩;have ht5:Turn [] w4 w5:=by rw[hw5];exact(Turn.refl _ _).alloc _
 have hk5:w5.heap[w4.heap.size]? =some (.cells (vZ o).toArray 43 (0,0)):=by rw[hw5];exact ae w4 _
 have hT5:Turn SF w w5:=HT3.out.same ((ht4.same ht5).mono (by simp));have hs5:=hT5.size;have hs4:=(HT3.out.same (ht4.mono (by simp))).size;have hO5:bU w5 w.heap.size (.slice (some ⟨w4.heap.size,0,none⟩) 1 1) [o]:=
  ⟨.inr ⟨w4.heap.size,1,_,rfl,hs4,hk5,Nat.le_refl _,by simp[vZ],by simp[maxLen],by simp[vZ]⟩,fun y hy=>by obtain rfl:=List.mem_singleton.1 hy;rw[ho];exact .inl ⟨rfl,rfl⟩⟩
 have hx5:=ht5.heap (ht4.heap HX3.out (by simp)) (by simp);have hA4:=ht4.heap HA3.out (by simp);have q0:w5.cell? ⟨w.heap.size,0,none⟩=some (.int .i64 1):=by rw[cell_of hx5];rfl
 have q2:w5.cell? ⟨w.heap.size,2,none⟩=some (.string ⟨#[97]⟩):=by rw[cell_of hx5];rfl
 have zq:=lt_of_heap hx5;have hh5:=(HH3.out.still ht4).still ht5;have hlk:=RU hh5 OM.out (fun y hy=>by obtain⟨a1,a2,a3⟩:=HQ.out y hy;exact⟨by rw[List.length_append];omega,a2,a3⟩) hl;rw[ho]at hw5;simp only[vZ]at hw5;have HW5:=hide hw5;have HA4:=hide hA4;have HO5:=hide hO5;have HT5:=hide hT5;have HLK:=hide hlk;have O1:=hide ho;have HH5:=hide hh5;clear ht4 hw5 ht5 hk5 hT5 hs5 hO5 hx5 hA4 hh5 hlk Nl ho;go_upto_region 8 with(first|(refine az rfl 41 _ rfl ⟨w2.heap.size,0,none⟩ rfl _ (iT HA4.out) ?_))
 rw[←HW5.out];go_wp2_with fail
 refine HLK.out.mono ?_;rintro e w6 ⟨ov,outs,WF',rfl,hh6,hO6,htold,ht6,hf6⟩;have hs5:=HT5.out.size;have hO56:=HO5.out.kept ht6 (fun k cs fr hk hm=>by
  rcases List.mem_cons.1 hm with rfl|hm
  ·exact HH5.out.map.ne hk rfl
  ·exact dO HH5.out.dL hk (by decide) (by decide) hm) (fun k cs fr hk hm=>by
  rcases List.mem_cons.1 hm with rfl|hm
  ·exact HH5.out.map.ne hk rfl
  ·exact dO HH5.out.dL hk (by decide) (by decide) hm)
 have hO6':bU w6 w.heap.size ov outs:=⟨hO6.row.aZ hs5,fun y hy=>(hO6.recs y hy).aZ hs5⟩;have hol:outs.length≤1000:=by
  rw[htold.len];exact Nat.le_trans (List.length_filter_le _ _) hl
 obtain⟨oa,oc,hoe, -, -⟩:=hO6.row.form;subst hoe;have hs6:=ht6.size;obtain⟨v7,w7,hr7,hO7,ht7⟩:=UF w6 w.heap.size (.slice (some ⟨w4.heap.size,0,none⟩) 1 1) (.slice oa outs.length oc) [o] outs hO56 hO6' (by simp;omega) (by omega);have hown:∀k∈(Value.slice (some ⟨w4.heap.size,0,none⟩) 1 1).ownBlock.toList,∃cs,w6.heap[k]? =some (.cells cs 43 (0,0)):=fun k hk=>hO56.row.kind k (by simpa using hk)
 have hh7:=hh6.kept ht7 (fun k hk hm=>by obtain⟨cs,e⟩:=hown k hm;exact hh6.store.type e (by decide) (by decide) (by decide) (by decide) (by decide) (by decide) (by decide) (by decide) (by decide) (by decide) hk) (fun k hk hm=>by obtain⟨cs,e⟩:=hown k hm;exact dO hh6.dL e (by decide) (by decide) hk) (fun hm=>by obtain⟨cs,e⟩:=hown mb hm;exact hh6.map.ne e rfl);obtain⟨a7,c7,hv7, -, -⟩:=hO7.row.form;subst hv7;have hT6:Turn (SF++mb::WF) w w6:=(HT5.out.mono (T:=SF++mb::WF) (fun k hk=> .inl (List.mem_append_left _ hk))).trans ht6 (fun k hk=> .inl (List.mem_append_right _ hk));have HT7:Hid (Turn (SF++mb::WF) w w7):=hT6.trans ht7 (fun k hk=> .inr (by simp[Value.ownBlock]at hk;omega));have HR7:=hide hr7;have HH7:=hide hh7;have HO7:=hide hO7;have YD:=hide htold;have HF6:Hid (∀j∈WF',j∈WF∨w.heap.size≤j):=fun j hj=>(hf6 j hj).imp_right (fun h=>by omega)
 clear hh6 hO6 htold ht6 hf6 hO56 hO6' hol hr7 hO7 ht7 hown hh7 hT6;go_wp2_with (at_builtin;go_must (refine Sn.dY rfl rfl rfl rfl HR7.out ?_))
 go_ret
 exact⟨_,o,outs,SF',WF',rfl,HH7.out,HO7.out,by rw[O1.out],by rw[O1.out],YD.out,HT7.out,HF2.out,HF6.out⟩
end
theorem Lj{w:World}{base b now:Nat}{xt:Xt}{F:List Nat}{all:List Tm}(h:aP w base b xt F now all)(i:Nat)(v:Value)(xt':Xt)(hi:(i=0∧xt'=(v,xt.2.1,xt.2.2))∨(i=451∧xt'=(xt.1,v,xt.2.2))∨(i=452∧xt'=(xt.1,xt.2.1,v))):aP (w.setCell ⟨b,i,none⟩ v) base b xt' F now all:=by
 obtain⟨ah,sv,sl,hW,hI,rfl⟩:=h;have ht:Turn [b] w (w.setCell ⟨b,i,none⟩ v):=(Turn.refl _ _).setCell (.inl (by simp)) _;refine⟨ah,sv,sl,⟨hW.cells.setX i v xt' hi,hW.lo,hW.map.kept ht (fun k hk hm=>?_),hW.WX,fun j hj=>(hW.rows j hj).kept ht (fun k hk hm=>?_),hW.apart⟩,hI,rfl⟩
 ·obtain rfl:=List.mem_singleton.1 hm
  exact hW.EH hk
 ·obtain rfl:=List.mem_singleton.1 hm
  exact hW.rZ hj hk
theorem Nq(w:World)(base b:Nat)(xt:Xt)(now:Nat)(F:List Nat)(all:List Tm)(h:aP w base b xt F now all):Calls Tryz.prog 34 #[.pointer (some ⟨b,0,none⟩)] w fun e w'=>e= .returned (.int .i64 now)∧w=w':=by
 have hn:=Wh.Ux w base b xt now F all h;have HN:=hide hn;have hz:=(ji h).2.2.2.1;clear hn h;go_enter Tryz.func34,Tryz.ntmps34
 go_wp2_with fail
 refine HN.out.mono ?_;rintro e w' ⟨rfl,rfl⟩;go_wp2
 go_ret
 exact⟨rfl,rfl⟩
section
variable {w w' w2:World} {base d sb mo b:Nat} {SF SF' WF:List Nat} {mb came now:Nat} {vals vals':List (List UInt8)} {q:List Wq}
set_option maxHeartbeats 8000000 in
theorem keep_any(h:dG w base d sb mo b SF WF mb came now vals q)(hr:∀x∈q,x.id<came)(hcm:came≤1000000)(hl:q.length≤1000)(f le wa who:Nat)(hnw:now+wa≤1099511627776):
 Calls Tryz.prog 18 #[.pointer (some ⟨b,0,none⟩), .int .i64 (who:Int), .agg #[.int .i64 2, .int .i64 0, .string ⟨#[97]⟩, .int .i64 0, .int .i64 (f:Int), .int .i64 3000, .int .i64 (le:Int), .int .i64 (wa:Int), .int .i64 0, .int .i64 0, .bool false, .bool false, .slice none 0 0]] w fun e w'=>e= .returned .nilIface∧∃WF',dG w' base d sb mo b SF WF' mb (came+1) now vals (q++[⟨came,now+wa,f,le,wa,who⟩])∧Turn (mb::WF) w w'∧∀j∈WF',j∈WF∨w.heap.size≤j:=by
 have hnb:∀k,w.heap.size≤k→k∉WF∧k∉SF∧k≠mb:=fun k hk=>⟨fun hm=>by have:=h.lt.2.1 k hm;omega,fun hm=>by have:=h.lt.1 k hm;omega,by have:=h.lt.2.2;omega⟩
 have Gm:(Lit.int .i64 (came:Int)).wf=true:=Wh.CU (by omega);have hno:q.find? (fun x=>x.id==came)=none:=by
  rw[List.find?_eq_none];intro x hx;have:=hr x hx;simp;omega
 have hft:dF (q.map pO) (came:Int)=none:=by rw[Nh,hno];rfl
 have hfw:jf (q.map rO) (came:Int)=none:=by rw[Gi,hno];rfl
 have hx0:=ae w (.cells #[.int .i64 2, .int .i64 0, .string ⟨#[97]⟩, .int .i64 0, .int .i64 (f:Int), .int .i64 3000, .int .i64 (le:Int), .int .i64 (wa:Int), .int .i64 0, .int .i64 0, .bool false, .bool false, .slice none 0 0] 35);obtain⟨w0,hw0⟩:∃w0,w0=w.alloc (.cells #[.int .i64 2, .int .i64 0, .string ⟨#[97]⟩, .int .i64 0, .int .i64 (f:Int), .int .i64 3000, .int .i64 (le:Int), .int .i64 (wa:Int), .int .i64 0, .int .i64 0, .bool false, .bool false, .slice none 0 0] 35):=⟨_,rfl⟩;rw[←hw0]at hx0;have ht0:Turn [] w w0:=by rw[hw0];exact(Turn.refl _ _).alloc _
 have hmin:min (wa:Int) (1099511627776-(now:Int))=wa:=by omega
 have hwr1:IntKind.i64.wrap (1099511627776-(now:Int))=1099511627776-(now:Int):=IntWalk.i64_in _ (by omega);obtain⟨D,hD⟩:∃D,D=now+wa:=⟨_,rfl⟩;have hwr2:IntKind.i64.wrap ((now:Int)+(wa:Int))=(D:Int):=by rw[IntWalk.i64_in _ (by omega)];omega
 have H:=hide h;have rH:=hide hnb;have HFT:=hide hft;have XJ:=hide hfw;have HW0:=hide hw0;have HT0:=hide ht0;have HX0:=hide hx0;have RN:=hide Gm;have Rx:now≤1099511627776:=by omega
 have HD:=hide hD;have hD2:D≤1099511627776:=by omega
 clear h hnb hr hno hft hfw hw0 ht0 hx0 Gm hD;go_enter Tryz.func18,Tryz.ntmps18
 go_upto_region 1 with fail
 rw[←HW0.out];refine aF (Turn []) (by kernel_rfl) (by kernel_rfl) (by kernel_rfl) (by kernel_rfl) rfl (Turn.refl _) (fun _ _ _ h k=>h.same k) ?_;apply Lo.ag 1 rfl rfl [] (by kernel_rfl) (Turn.refl _);apply Exists.intro;apply And.intro
 ·intro u w1 hR hF
  clear hF;refine⟨rfl,fun a ha K hK=>?_⟩;have e0:=ha 0;conv at e0=>rhs;whnf
  clear ha;go_simp
  refine hK _ ?_;rfl
 refine Lo.run 2 rfl rfl [0] (fun x w'=>x= .int .i64 (now:Int)) (by kernel_rfl) (fun x w w' h hR=>?_) (fun _ _ h=>h) (fun u w1 hR hF=>?_) ?_
 ·exact h
 ·obtain⟨h0, -⟩:=hF
  refine⟨rfl,fun a ha K hK=>?_⟩;have e9:=(ha 9).trans h0;clear ha h0;go_simp
  refine(Nq w1 base b _ now WF _ (H.out.dL.still (HT0.out.same ((Turn.refl [] w0).drew.same hR)))).mono ?_;rintro e w5 ⟨rfl,rfl⟩;exact hK _ _ rfl (Turn.refl _ _)
 apply Lo.ag 3 rfl rfl [] (by kernel_rfl) (Turn.refl _);apply Exists.intro;apply And.intro
 ·intro u w1 hR hF
  clear hF;refine⟨rfl,fun a ha K hK=>?_⟩;have e5:=ha 5;conv at e5=>rhs;whnf
  clear ha;go_simp
  refine hK _ ?_;rfl
 apply Lo.ag 4 rfl rfl [2] (by kernel_rfl) (Turn.refl _);apply Exists.intro;apply And.intro
 ·intro u w1 hR hF
  obtain⟨h2, -⟩:=hF;refine⟨rfl,fun a ha K hK=>?_⟩;have e11:=(ha 11).trans h2;clear ha h2;have hq1:=((Turn.refl [] w0).drew.same hR).heap HX0.out (by simp);have c7:w1.cell? ⟨w.heap.size,7,none⟩=some (.int .i64 (wa:Int)):=by rw[cell_of hq1];rfl
  have zq:=lt_of_heap hq1;go_simp
  refine hK _ ?_;rfl
 apply Lo.ag 5 rfl rfl [] (by kernel_rfl) (Turn.refl _);apply Exists.intro;apply And.intro
 ·intro u w1 hR hF
  clear hF;refine⟨rfl,fun a ha K hK=>?_⟩;have e0:=ha 0;conv at e0=>rhs;whnf
  clear ha;go_simp
  refine hK _ ?_;rfl
 refine Lo.run 6 rfl rfl [4] (fun x w'=>x= .int .i64 (now:Int)) (by kernel_rfl) (fun x w w' h hR=>?_) (fun _ _ h=>h) (fun u w1 hR hF=>?_) ?_
 ·exact h
 ·obtain⟨h4, -⟩:=hF
  refine⟨rfl,fun a ha K hK=>?_⟩;have e13:=(ha 13).trans h4;clear ha h4;go_simp
  refine(Nq w1 base b _ now WF _ (H.out.dL.still (HT0.out.same ((Turn.refl [] w0).drew.same hR)))).mono ?_;rintro e w5 ⟨rfl,rfl⟩;exact hK _ _ rfl (Turn.refl _ _)
 refine Lo.aJ 7 rfl rfl [5] (.int .i64 (1099511627776-(now:Int))) (by kernel_rfl) (fun u w1 hR hF=>?_) (Turn.refl _) ?_
 ·obtain⟨h5, -⟩:=hF
  refine⟨rfl,fun a ha K hK=>?_⟩;have e14:a.tmps.getD 14 undef=u 5:=ha 14;have h5:=(show(fun x w'=>x= .int .i64 (now:Int)) (u 5) w1 from h5);dsimp only at h5;clear ha;rw[h5]at e14;go_simp
  refine hK _ ?_;rfl
 refine Lo.aJ 8 rfl rfl [3,6] (.int .i64 (wa:Int)) (by kernel_rfl) (fun u w1 hR hF=>?_) (Turn.refl _) ?_
 ·obtain⟨h3,h6, -⟩:=hF
  refine⟨rfl,fun a ha K hK=>?_⟩;have e12:=(ha 12).trans h3;have e15:=(ha 15).trans h6;clear ha h3 h6;go_simp
  refine hK _ ?_;rfl
 refine Lo.aJ 9 rfl rfl [1,7] (.int .i64 (D:Int)) (by kernel_rfl) (fun u w1 hR hF=>?_) (Turn.refl _) ?_
 ·obtain⟨h1,h7, -⟩:=hF
  refine⟨rfl,fun a ha K hK=>?_⟩;have e10:a.tmps.getD 10 undef=u 1:=ha 10;have e16:=(ha 16).trans h7;have h1:=(show(fun x w'=>x= .int .i64 (now:Int)) (u 1) w1 from h1);dsimp only at h1;clear ha h7;rw[h1]at e10;go_simp
  refine hK _ ?_;first|rfl|(rw[hwr2])|go_num
 apply Lo.ag 10 rfl rfl [8] (by kernel_rfl) (Turn.refl _);apply Exists.intro;apply And.intro
 ·intro u w1 hR hF
  obtain⟨h8, -⟩:=hF;refine⟨rfl,fun a ha K hK=>?_⟩;have e17:=(ha 17).trans h8;clear ha h8;go_simp
  refine hK _ ?_;rfl
 refine Lo.done [9] (fun u w1 bP hSd hF=>?_);clear hSd;obtain⟨f9, -⟩:=hF;have d9:u 9=_:=f9;clear f9;simp only[ax,Act.put,List.setIfInBounds_toArray,List.set_cons_succ,List.set_cons_zero,Nat.zero_add,Nat.reduceAdd,d9];have hT1:Turn [] w0 w1:=((Turn.refl [] w0).drew).same bP;have HT1:=hide (HT0.out.same hT1);have HX1:=hide (hT1.heap HX0.out (by simp));obtain⟨wb,hwb⟩:∃wb,wb=w1:=⟨_,rfl⟩;rw[←hwb]at HT1 HX1⊢;clear bP hT1 hwb d9;go_wp2_with fail
 refine aB 8 (Turn []) (by kernel_rfl) (by kernel_rfl) (by kernel_rfl) (by kernel_rfl) (by kernel_rfl) (Nat.le_of_ble_eq_true rfl) rfl (Turn.refl _) (fun _ _ _ h k=>h.same k) ?_;apply Lo.ag 1 rfl rfl [] (by kernel_rfl) (Turn.refl _);apply Exists.intro;apply And.intro
 ·intro u w1 hR hF
  clear hF;refine⟨rfl,fun a ha K hK=>?_⟩;have e0:=ha 0;conv at e0=>rhs;whnf
  clear ha;go_simp
  refine hK _ ?_;rfl
 apply Lo.ag 2 rfl rfl [0] (by kernel_rfl) (Turn.refl _);apply Exists.intro;apply And.intro
 ·intro u w1 hR hF
  obtain⟨h0, -⟩:=hF;refine⟨rfl,fun a ha K hK=>?_⟩;have e18:=(ha 18).trans h0;clear ha h0;go_simp
  refine hK _ ?_;rfl
 refine Lo.aJ 3 rfl rfl [1] (.pointer (some ⟨b,1,none⟩)) (by kernel_rfl) (fun u w1 hR hF=>?_) (Turn.refl _) ?_
 ·obtain⟨h1, -⟩:=hF
  refine⟨rfl,fun a ha K hK=>?_⟩;have e19:=(ha 19).trans h1;clear ha h1;go_simp
  refine hK _ ?_;rfl
 refine Lo.aJ 4 rfl rfl [] (.int .i64 (D:Int)) (by kernel_rfl) (fun u w1 hR hF=>?_) (Turn.refl _) ?_
 ·clear hF
  refine⟨rfl,fun a ha K hK=>?_⟩;have e7:=ha 7;conv at e7=>rhs;whnf
  clear ha;go_simp
  refine hK _ ?_;rfl
 apply Lo.ag 5 rfl rfl [] (by kernel_rfl) (Turn.refl _);apply Exists.intro;apply And.intro
 ·intro u w1 hR hF
  clear hF;refine⟨rfl,fun a ha K hK=>?_⟩;have e0:=ha 0;conv at e0=>rhs;whnf
  clear ha;go_simp
  refine hK _ ?_;rfl
 apply Lo.ag 6 rfl rfl [4] (by kernel_rfl) (Turn.refl _);apply Exists.intro;apply And.intro
 ·intro u w1 hR hF
  obtain⟨h4, -⟩:=hF;refine⟨rfl,fun a ha K hK=>?_⟩;have e22:=(ha 22).trans h4;clear ha h4;go_simp
  refine hK _ ?_;rfl
 apply Lo.ag 7 rfl rfl [5] (by kernel_rfl) (Turn.refl _);apply Exists.intro;apply And.intro
 ·intro u w1 hR hF
  obtain⟨h5, -⟩:=hF;refine⟨rfl,fun a ha K hK=>?_⟩;have e23:=(ha 23).trans h5;clear ha h5;go_simp
  refine hK _ ?_;rfl
 refine Lo.aJ 8 rfl rfl [6] (.int .i64 (came:Int)) (by kernel_rfl) (fun u w1 hR hF=>?_) (Turn.refl _) ?_
 ·obtain⟨h6, -⟩:=hF
  refine⟨rfl,fun a ha K hK=>?_⟩;have e24:=(ha 24).trans h6;clear ha h6;obtain⟨-, -,c452,zb, -⟩:=ji (H.out.dL.still (HT1.out.same ((Turn.refl [] wb).drew.same hR)));go_simp
  refine hK _ ?_;rfl
 refine Lo.done [2,3,7] (fun u w1 bP hSd hF=>?_);clear hSd;obtain⟨f2,f3,f7, -⟩:=hF;have d2:u 2=_:=f2;have d3:u 3=_:=f3;have d7:u 7=_:=f7;clear f2 f3 f7;simp only[List.take_succ_cons,List.take_zero,List.drop_succ_cons,List.drop_zero,ax,Act.put,List.setIfInBounds_toArray,List.set_cons_succ,List.set_cons_zero,Nat.zero_add,Nat.reduceAdd,d2,d3,d7];have hT1:Turn [] wb w1:=((Turn.refl [] wb).drew).same bP;have HT2:=hide (HT1.out.same hT1);have HX2:=hide (hT1.heap HX1.out (by simp));have hadd:=Wh.add_any w1 base b _ now WF _ (H.out.dL.still HT2.out) (by rw[List.length_map];omega) D hD2 (came:Int) RN.out HFT.out;have Xh:=hide hadd;clear bP hT1 hadd;go_wp2_with fail
 refine Xh.out.mono ?_;rintro e w2 ⟨rfl,WF',hwh2,ht2,hf2⟩;have hz0:=HT2.out.size;have hx2:=ht2.heap HX2.out ((rH.out _ (Nat.le_refl _)).1);have c12:w2.cell? ⟨w.heap.size,12,none⟩=some (.slice none 0 0):=by rw[cell_of hx2];rfl
 have f12:=af hx2 12;have zx:=lt_of_heap hx2;have hx3:=heap_set hx2 12 (.slice none 0 0);obtain⟨w3,hw3⟩:∃w3,w3=w2.setCell ⟨w.heap.size,12,none⟩ (.slice none 0 0):=⟨_,rfl⟩;have ht3:Turn [w.heap.size] w2 w3:=by rw[hw3];exact(Turn.refl _ _).setCell (.inl (by simp)) _
 rw[←hw3]at hx3;have hst3:=(((H.out.store.still HT2.out).kept ht2 H.out.sw).kept ht3 (fun k hk hm=>by obtain rfl:=List.mem_singleton.1 hm;exact(rH.out _ (Nat.le_refl _)).2.1 hk));have hmp3:=(((H.out.map.still HT2.out).kept ht2 H.out.wm).kept ht3 (fun hm=>by have:=List.mem_singleton.1 hm;exact(rH.out _ (Nat.le_refl _)).2.2 this.symm));have hwn:w.heap.size∉WF':=dO hwh2 hx2 (by decide) (by decide);have hwh3:=hwh2.kept ht3 (fun k hk hm=>by obtain rfl:=List.mem_singleton.1 hm;exact hwn hk);have hwm3:mb∉WF':=fun hm=>(hf2 mb hm).elim H.out.wm (fun h=>by have:=H.out.lt.2.2;omega)
 have HX3:Hid (w3.heap[w.heap.size]? =some (.cells #[.int .i64 2, .int .i64 0, .string ⟨#[97]⟩, .int .i64 0, .int .i64 (f:Int), .int .i64 3000, .int .i64 (le:Int), .int .i64 (wa:Int), .int .i64 0, .int .i64 0, .bool false, .bool false, .slice none 0 0] 35 (0,0))):=by show _=_;rw[hx3];rfl
 have HST3:=hide hst3;have HMP3:=hide hmp3;have RV:=hide hwh3;have Xk:=hide hwm3;have HF2:Hid (∀j∈WF',j∈WF∨w.heap.size≤j):=fun j hj=>(hf2 j hj).imp_right (fun h=>by omega)
 have HT3:Hid (Turn (mb::WF) w w3):=((HT2.out.mono (T:=mb::WF) (by simp)).trans ht2 (fun k hk=> .inl (List.mem_cons_of_mem _ hk))).trans ht3 (fun k hk=> .inr (by obtain rfl:=List.mem_singleton.1 hk;exact Nat.le_refl _));have HW3:=hide hw3;clear hx3 ht3 hst3 hmp3 hwn hwh3 hwm3 hwh2 ht2 hf2 hx2 hw3;go_upto_region 6 with fail
 rw[←HW3.out];clear c12 f12 zx;refine aB 11 (Turn []) (by kernel_rfl) (by kernel_rfl) (by kernel_rfl) (by kernel_rfl) (by kernel_rfl) (Nat.le_of_ble_eq_true rfl) rfl (Turn.refl _) (fun _ _ _ h k=>h.same k) ?_;apply Lo.ag 1 rfl rfl [] (by kernel_rfl) (Turn.refl _);apply Exists.intro;apply And.intro
 ·intro u w1 hR hF
  clear hF;refine⟨rfl,fun a ha K hK=>?_⟩;have e0:=ha 0;conv at e0=>rhs;whnf
  clear ha;go_simp
  refine hK _ ?_;rfl
 apply Lo.ag 2 rfl rfl [0] (by kernel_rfl) (Turn.refl _);apply Exists.intro;apply And.intro
 ·intro u w1 hR hF
  obtain⟨h0, -⟩:=hF;refine⟨rfl,fun a ha K hK=>?_⟩;have e31:=(ha 31).trans h0;clear ha h0;go_simp
  refine hK _ ?_;rfl
 apply Lo.ag 3 rfl rfl [1] (by kernel_rfl) (Turn.refl _);apply Exists.intro;apply And.intro
 ·intro u w1 hR hF
  obtain⟨h1, -⟩:=hF;refine⟨rfl,fun a ha K hK=>?_⟩;have e32:=(ha 32).trans h1;clear ha h1;go_simp
  refine hK _ ?_;rfl
 refine Lo.aJ 4 rfl rfl [2] (.map (some mb)) (by kernel_rfl) (fun u w1 hR hF=>?_) (Turn.refl _) ?_
 ·obtain⟨h2, -⟩:=hF
  refine⟨rfl,fun a ha K hK=>?_⟩;have e33:=(ha 33).trans h2;clear ha h2;obtain⟨-,c451, -,zb, -⟩:=ji (RV.out.still ((Turn.refl [] w3).drew.same hR));go_simp
  refine hK _ ?_;rfl
 apply Lo.ag 5 rfl rfl [] (by kernel_rfl) (Turn.refl _);apply Exists.intro;apply And.intro
 ·intro u w1 hR hF
  clear hF;refine⟨rfl,fun a ha K hK=>?_⟩;have e0:=ha 0;conv at e0=>rhs;whnf
  clear ha;go_simp
  refine hK _ ?_;rfl
 apply Lo.ag 6 rfl rfl [4] (by kernel_rfl) (Turn.refl _);apply Exists.intro;apply And.intro
 ·intro u w1 hR hF
  obtain⟨h4, -⟩:=hF;refine⟨rfl,fun a ha K hK=>?_⟩;have e35:=(ha 35).trans h4;clear ha h4;go_simp
  refine hK _ ?_;rfl
 apply Lo.ag 7 rfl rfl [5] (by kernel_rfl) (Turn.refl _);apply Exists.intro;apply And.intro
 ·intro u w1 hR hF
  obtain⟨h5, -⟩:=hF;refine⟨rfl,fun a ha K hK=>?_⟩;have e36:=(ha 36).trans h5;clear ha h5;go_simp
  refine hK _ ?_;rfl
 refine Lo.aJ 8 rfl rfl [6] (.int .i64 (came:Int)) (by kernel_rfl) (fun u w1 hR hF=>?_) (Turn.refl _) ?_
 ·obtain⟨h6, -⟩:=hF
  refine⟨rfl,fun a ha K hK=>?_⟩;have e37:=(ha 37).trans h6;clear ha h6;obtain⟨-, -,c452,zb, -⟩:=ji (RV.out.still ((Turn.refl [] w3).drew.same hR));go_simp
  refine hK _ ?_;rfl
 refine Lo.aJ 9 rfl rfl [] (.agg #[.int .i64 2, .int .i64 0, .string ⟨#[97]⟩, .int .i64 0, .int .i64 (f:Int), .int .i64 3000, .int .i64 (le:Int), .int .i64 (wa:Int), .int .i64 0, .int .i64 0, .bool false, .bool false, .slice none 0 0]) (by kernel_rfl) (fun u w1 hR hF=>?_) (Turn.refl _) ?_
 ·clear hF
  refine⟨rfl,fun a ha K hK=>?_⟩;have e5:=ha 5;conv at e5=>rhs;whnf
  clear ha;have hq1:=((Turn.refl [] w3).drew.same hR).heap HX3.out (by simp);have c0:w1.cell? ⟨w.heap.size,0,none⟩=some (.int .i64 2):=by rw[cell_of hq1];rfl
  have c1:w1.cell? ⟨w.heap.size,1,none⟩=some (.int .i64 0):=by rw[cell_of hq1];rfl
  have c2:w1.cell? ⟨w.heap.size,2,none⟩=some (.string ⟨#[97]⟩):=by rw[cell_of hq1];rfl
  have c3:w1.cell? ⟨w.heap.size,3,none⟩=some (.int .i64 0):=by rw[cell_of hq1];rfl
  have c4:w1.cell? ⟨w.heap.size,4,none⟩=some (.int .i64 (f:Int)):=by rw[cell_of hq1];rfl
  have c5:w1.cell? ⟨w.heap.size,5,none⟩=some (.int .i64 3000):=by rw[cell_of hq1];rfl
  have c6:w1.cell? ⟨w.heap.size,6,none⟩=some (.int .i64 (le:Int)):=by rw[cell_of hq1];rfl
  have c7:w1.cell? ⟨w.heap.size,7,none⟩=some (.int .i64 (wa:Int)):=by rw[cell_of hq1];rfl
  have c8:w1.cell? ⟨w.heap.size,8,none⟩=some (.int .i64 0):=by rw[cell_of hq1];rfl
  have c9:w1.cell? ⟨w.heap.size,9,none⟩=some (.int .i64 0):=by rw[cell_of hq1];rfl
  have c10:w1.cell? ⟨w.heap.size,10,none⟩=some (.bool false):=by rw[cell_of hq1];rfl
  have c11:w1.cell? ⟨w.heap.size,11,none⟩=some (.bool false):=by rw[cell_of hq1];rfl
  have c12:w1.cell? ⟨w.heap.size,12,none⟩=some (.slice none 0 0):=by rw[cell_of hq1];rfl
  have zq:=lt_of_heap hq1;go_simp
  refine hK _ ?_;rfl
 apply Lo.ag 10 rfl rfl [] (by kernel_rfl) (Turn.refl _);apply Exists.intro;apply And.intro
 ·intro u w1 hR hF
  clear hF;refine⟨rfl,fun a ha K hK=>?_⟩;have e1:=ha 1;conv at e1=>rhs;whnf
  clear ha;go_simp
  refine hK _ ?_;rfl
 refine Lo.aJ 11 rfl rfl [8,9] (.agg #[.int .i64 2, .int .i64 0, .string ⟨#[97]⟩, .int .i64 0, .int .i64 (f:Int), .int .i64 3000, .int .i64 (le:Int), .int .i64 (wa:Int), .int .i64 0, .int .i64 0, .bool false, .bool false, .slice none 0 0, .int .i64 (who:Int)]) (by kernel_rfl) (fun u w1 hR hF=>?_) (Turn.refl _) ?_
 ·obtain⟨h8,h9, -⟩:=hF
  refine⟨rfl,fun a ha K hK=>?_⟩;have e39:=(ha 39).trans h8;have e40:=(ha 40).trans h9;clear ha h8 h9;have e39':a.tmps[39]?.getD undef= .agg #[.int .i64 2, .int .i64 0, .string ⟨#[97]⟩, .int .i64 0, .int .i64 (f:Int), .int .i64 3000, .int .i64 (le:Int), .int .i64 (wa:Int), .int .i64 0, .int .i64 0, .bool false, .bool false, .slice none 0 0]:=by rw[←Array.getD_eq_getD_getElem?,e39]
  have e40':a.tmps[40]?.getD undef= .int .i64 (who:Int):=by rw[←Array.getD_eq_getD_getElem?,e40]
  go_simp
  refine hK _ ?_;rfl
 refine Lo.done [3,7,10] (fun u w1 bP hSd hF=>?_);clear hSd;obtain⟨f3,f7,f10, -⟩:=hF;have d3:u 3=_:=f3;have d7:u 7=_:=f7;have d10:u 10=_:=f10;clear f3 f7 f10;simp only[List.take_succ_cons,List.take_zero,List.drop_succ_cons,List.drop_zero,ax,Act.put,List.setIfInBounds_toArray,List.set_cons_succ,List.set_cons_zero,Nat.zero_add,Nat.reduceAdd,d3,d7,d10];have hT1:Turn [] w3 w1:=((Turn.refl [] w3).drew).same bP;obtain⟨w4,hr4,hm4,ht4⟩:=(HMP3.out.still hT1).put (x:=((came:Int),⟨2,0,⟨#[97]⟩,0,(f:Int),3000,(le:Int),(wa:Int),0,0,false,false,(who:Int)⟩)) RN.out XJ.out (by rw[List.length_map];omega);have hr4':(Instr.mapUpdate 56 (.map (some mb)) (.int .i64 (came:Int)) (.agg #[.int .i64 2, .int .i64 0, .string ⟨#[97]⟩, .int .i64 0, .int .i64 (f:Int), .int .i64 3000, .int .i64 (le:Int), .int .i64 (wa:Int), .int .i64 0, .int .i64 0, .bool false, .bool false, .slice none 0 0, .int .i64 (who:Int)])).run Tryz.prog w1= .ok () w4:=hr4;have hmb:∀k,k≠mb→k∉[mb]:=fun k hk hm=>hk (List.mem_singleton.1 hm)
 have hwh4:=(RV.out.still hT1).kept ht4 (fun k hk hm=>by obtain rfl:=List.mem_singleton.1 hm;exact Xk.out hk);obtain⟨-, -,c452,zb,ff⟩:=ji hwh4;have f452:=ff 452;have hst4:=(HST3.out.still hT1).kept ht4 (fun k hk hm=>by obtain rfl:=List.mem_singleton.1 hm;exact H.out.sm hk);have hbw:b∈WF':=by
  obtain⟨ah,sv,sl,h1,h2,rfl⟩:=hwh4;exact ak.2 (.inl rfl)
 have ht5:Turn [b] w4 (w4.setCell ⟨b,452,none⟩ (.int .i64 ((came:Int)+1))):=(Turn.refl _ _).setCell (.inl (by simp)) _;have hwh5:=Lj hwh4 452 (.int .i64 ((came:Int)+1)) (XT sb mb (came+1)) (.inr (.inr ⟨rfl,rfl⟩));have hsw:∀k∈SF,k∉WF':=fun k hk hm=>(HF2.out k hm).elim (H.out.sw k hk) (fun h=>by have:=H.out.lt.1 k hk;omega)
 have hh5:dG (w4.setCell ⟨b,452,none⟩ (.int .i64 ((came:Int)+1))) base d sb mo b SF WF' mb (came+1) now vals (q++[⟨came,now+wa,f,le,wa,who⟩]):=by
  refine⟨hst4.kept ht5 (fun k hk hm=>by obtain rfl:=List.mem_singleton.1 hm;exact hsw _ hk hbw),?_,?_,H.out.low,hsw,H.out.sm,Xk.out⟩
  ·rw[List.map_append,List.map_singleton]
   unfold pO at hwh5⊢;rw[←HD.out];exact hwh5
  ·rw[List.map_append,List.map_singleton]
   exact hm4.kept ht5 (fun hm=>by obtain rfl:=List.mem_singleton.1 hm;exact Xk.out hbw)
 have hT5:Turn (mb::WF) w (w4.setCell ⟨b,452,none⟩ (.int .i64 ((came:Int)+1))):=
  ((HT3.out.same (hT1.mono (by simp))).trans ht4 (fun k hk=> .inl (by simp at hk;simp[hk]))).trans ht5 (fun k hk=>(HF2.out b hbw).imp (fun h=>by obtain rfl:=List.mem_singleton.1 hk;exact List.mem_cons_of_mem _ h) (fun h=>by obtain rfl:=List.mem_singleton.1 hk;exact h))
 have HH5:=hide hh5;have HT5:=hide hT5;clear hr4 hm4 ht4 hmb hwh4 ff hst4 hbw ht5 hwh5 hsw hh5 hT5 bP hT1;go_wp2
 go_ret
 exact⟨rfl,WF',HH5.out,HT5.out,HF2.out⟩
end
section
variable {w w' w2:World} {base d sb mo b:Nat} {SF SF' WF:List Nat} {mb came now:Nat} {vals vals':List (List UInt8)} {q:List Wq}
set_option maxHeartbeats 8000000 in
theorem UK(h:dG w base d sb mo b SF WF mb came now vals q)(hr:∀x∈q,x.id<came)(hcm:came≤1000000)(hl:q.length≤1000)(f le wa who:Nat)(hf:f≤vals.length)(hle:le≤600)(hnw:now+wa≤1099511627776)(hs:dm vals ⟨0,0,f,le,wa,0⟩=true):
 Calls Tryz.prog 7 #[.pointer (some ⟨b,0,none⟩), .int .i64 (who:Int), .agg #[.int .i64 2, .int .i64 0, .string ⟨#[97]⟩, .int .i64 0, .int .i64 (f:Int), .int .i64 3000, .int .i64 (le:Int), .int .i64 (wa:Int), .int .i64 0, .int .i64 0, .bool false, .bool false, .slice none 0 0]] w fun e w'=>e= .returned (.slice none 0 0)∧∃WF',dG w' base d sb mo b SF WF' mb (came+1) now vals (q++[⟨came,now+wa,f,le,wa,who⟩])∧Turn (mb::WF) w w'∧∀j∈WF',j∈WF∨w.heap.size≤j:=by
 have OM:=hide hr;obtain⟨hb0, -, -,hbz, -⟩:=h.xs;have hst:=h.store;obtain⟨hv1,hv2⟩:=hst.few;have hans:=fun Z (hZ:Turn [] w Z)=>lN (hst.still hZ) b ((World.cell?_of_block (w:=w) (hZ.block _ hbz (by simp))).trans hb0) (Nat.lt_of_lt_of_le hbz hZ.size) f hf 3000 (.inl rfl) 0 (le:Int) (wa:Int) 0 0 false false none 0 0
 have Aa:=hide hans;have H:=hide h;have hx0:=ae w (.cells #[.int .i64 2, .int .i64 0, .string ⟨#[97]⟩, .int .i64 0, .int .i64 (f:Int), .int .i64 3000, .int .i64 (le:Int), .int .i64 (wa:Int), .int .i64 0, .int .i64 0, .bool false, .bool false, .slice none 0 0] 35);obtain⟨w0,hw0⟩:∃w0,w0=w.alloc (.cells #[.int .i64 2, .int .i64 0, .string ⟨#[97]⟩, .int .i64 0, .int .i64 (f:Int), .int .i64 3000, .int .i64 (le:Int), .int .i64 (wa:Int), .int .i64 0, .int .i64 0, .bool false, .bool false, .slice none 0 0] 35):=⟨_,rfl⟩;rw[←hw0]at hx0;have ht0:Turn [] w w0:=by rw[hw0];exact(Turn.refl _ _).alloc _
 have HW0:=hide hw0;have HT0:=hide ht0;have HX0:=hide hx0;have HS:=hide hs;clear h hst hans hb0 hx0 hw0 ht0 hs hr;go_enter Tryz.func7,Tryz.ntmps7
 go_upto_region 1 with fail
 rw[←HW0.out];go_wp2_with (refine az rfl 35 _ rfl ⟨w.heap.size,0,none⟩ rfl _ (iW HX0.out) ?_)
 refine(Aa.out _ HT0.out).mono ?_;rintro e w2 ⟨rv,R,rfl,hrow,hfe,ht2⟩;obtain⟨oa,oc,hoe, -, -⟩:=hrow.form;subst hoe;have hx2:=ht2.heap HX0.out (by simp);have hfs:=fC (cs:= #[.int .i64 2, .int .i64 0, .int .i64 0, .int .i64 0, .int .i64 0, .int .i64 (vals.length:Int), .bool false, .slice oa R.length oc, .slice none 0 0]) (ae w2 (.cells fQ 41));obtain⟨w3,hw3⟩:∃w3,w3=(w2.alloc (.cells fQ 41)).setRow w2.heap.size #[.int .i64 2, .int .i64 0, .int .i64 0, .int .i64 0, .int .i64 0, .int .i64 (vals.length:Int), .bool false, .slice oa R.length oc, .slice none 0 0]:=⟨_,rfl⟩;rw[←hw3]at hfs;have hta3:Turn [] w2 w3:=((Turn.refl [] w2).alloc (.cells fQ 41)).trans hfs.2 (fun q hq=> .inr (by obtain rfl:=List.mem_singleton.1 hq;exact Nat.le_refl _));have HX3:=hide (hta3.heap hx2 (by simp));have HA3:=hide hfs.1;have HT3:=hide ((HT0.out.same ht2).same hta3);have HR3:=hide ((hrow.still hta3).aZ HT0.out.size);have KY:=hide hfe;have hw3':=hw3;unfold fQ at hw3';have HW3:=hide hw3';obtain⟨ok1,ok2,ok3⟩:=o7 hfe hv1 hv2;have hwi:=CX w3 w.heap.size (le:Int) (wa:Int) (.int .i64 0) (.string ⟨#[97]⟩) (.int .i64 0) (.int .i64 (f:Int)) (.int .i64 3000) (.int .i64 0) (.int .i64 0) (.bool false) (.bool false) (.slice none 0 0) (.int .i64 2) (.int .i64 0) (.int .i64 0) (.int .i64 0) (.int .i64 (vals.length:Int)) (.bool false) (.slice oa R.length oc) (.slice none 0 0) R HR3.out ok1 ok2 ok3;have hse:=Gj (x:=⟨0,0,f,le,wa,0⟩) hfe hle;simp only at hse;rw[hse,HS.out]at hwi;have Nl:=hide hwi;clear hrow hfe ht2 hx2 hta3 hfs hw3 hw3' hwi hse Aa ok1 ok2 ok3;go_wp2_with (first|(refine wpList_store_row rfl 41 _ _ rfl w2.heap.size #[.int .i64 2, .int .i64 0, .int .i64 0, .int .i64 0, .int .i64 0, .int .i64 (vals.length:Int), .bool false, .slice oa R.length oc, .slice none 0 0] rfl rfl _ _ (ae w2 (.cells fQ 41)) (by kernel_rfl) rfl (by kernel_rfl) ?_;rw[←HW3.out])|(refine az rfl 35 _ rfl ⟨w.heap.size,0,none⟩ rfl _ (iW HX3.out) ?_)|(refine az rfl 41 _ rfl ⟨w2.heap.size,0,none⟩ rfl _ (iT HA3.out) ?_))
 refine Nl.out.mono ?_;rintro e w4 ⟨rfl,ht4⟩;have HT4:=hide (HT3.out.same ht4);have HX4:=hide (ht4.heap HX3.out (by simp));have HA4:=hide (ht4.heap HA3.out (by simp));have HR4:=hide (HR3.out.still ht4);clear ht4 Nl;have hkp:=keep_any (H.out.still HT4.out) OM.out hcm hl f le wa who hnw;have HKP:=hide hkp;clear hkp;go_wp2_with (refine az rfl 35 _ rfl ⟨w.heap.size,0,none⟩ rfl _ (iW HX4.out) ?_)
 refine HKP.out.mono ?_;rintro e w5 ⟨rfl,WF',hh5,ht5,hf5⟩;have hs4:=HT4.out.size;have HH5:=hide hh5;have HT5:=hide ((HT4.out.mono (T:=mb::WF) (by simp)).same ht5);have HF5:Hid (∀j∈WF',j∈WF∨w.heap.size≤j):=fun j hj=>(hf5 j hj).imp_right (fun h=>by omega)
 clear hh5 ht5 hf5;go_wp2
 go_ret
 exact⟨rfl,WF',HH5.out,HT5.out,HF5.out⟩
set_option maxHeartbeats 8000000 in
theorem RX(h:dG w base d sb mo b SF WF mb came now vals q)(f le wa:Nat)(hf:f≤vals.length)(M co:Int)(hM:M=3000∨(M=99∧vals.length≤1))(hle:le≤600)(fr:Int)(hs:dm vals ⟨0,0,f,le,wa,0⟩=false):
 Calls Tryz.prog 7 #[.pointer (some ⟨b,0,none⟩), .int .i64 fr, .agg #[.int .i64 2, .int .i64 co, .string ⟨#[97]⟩, .int .i64 0, .int .i64 (f:Int), .int .i64 M, .int .i64 (le:Int), .int .i64 (wa:Int), .int .i64 0, .int .i64 0, .bool false, .bool false, .slice none 0 0]] w fun e w'=>∃ov o,e= .returned ov∧dG w' base d sb mo b SF WF mb came now vals q∧bU w' w.heap.size ov [o]∧o.dst=fr∧o.err=0∧o.OH=co∧o.fin=(vals.length:Int)∧dU f vals o.recs∧Turn [] w w':=by
 obtain⟨hb0, -, -,hbz, -⟩:=h.xs;have hst:=h.store;obtain⟨hv1,hv2⟩:=hst.few;have hans:=fun Z (hZ:Turn [] w Z)=>lN (hst.still hZ) b ((World.cell?_of_block (w:=w) (hZ.block _ hbz (by simp))).trans hb0) (Nat.lt_of_lt_of_le hbz hZ.size) f hf M hM co (le:Int) (wa:Int) 0 0 false false none 0 0
 have Aa:=hide hans;have H:=hide h;have hx0:=ae w (.cells #[.int .i64 2, .int .i64 co, .string ⟨#[97]⟩, .int .i64 0, .int .i64 (f:Int), .int .i64 M, .int .i64 (le:Int), .int .i64 (wa:Int), .int .i64 0, .int .i64 0, .bool false, .bool false, .slice none 0 0] 35);obtain⟨w0,hw0⟩:∃w0,w0=w.alloc (.cells #[.int .i64 2, .int .i64 co, .string ⟨#[97]⟩, .int .i64 0, .int .i64 (f:Int), .int .i64 M, .int .i64 (le:Int), .int .i64 (wa:Int), .int .i64 0, .int .i64 0, .bool false, .bool false, .slice none 0 0] 35):=⟨_,rfl⟩;rw[←hw0]at hx0;have ht0:Turn [] w w0:=by rw[hw0];exact(Turn.refl _ _).alloc _
 have HW0:=hide hw0;have HT0:=hide ht0;have HX0:=hide hx0;have HS:=hide hs;clear h hst hans hb0 hx0 hw0 ht0 hs hM;go_enter Tryz.func7,Tryz.ntmps7
 go_upto_region 1 with fail
 rw[←HW0.out];go_wp2_with (refine az rfl 35 _ rfl ⟨w.heap.size,0,none⟩ rfl _ (iW HX0.out) ?_)
 refine(Aa.out _ HT0.out).mono ?_;rintro e w2 ⟨rv,R,rfl,hrow,hfe,ht2⟩;obtain⟨oa,oc,hoe, -, -⟩:=hrow.form;subst hoe;have hx2:=ht2.heap HX0.out (by simp);have hfs:=fC (cs:= #[.int .i64 2, .int .i64 co, .int .i64 0, .int .i64 0, .int .i64 0, .int .i64 (vals.length:Int), .bool false, .slice oa R.length oc, .slice none 0 0]) (ae w2 (.cells fQ 41));obtain⟨w3,hw3⟩:∃w3,w3=(w2.alloc (.cells fQ 41)).setRow w2.heap.size #[.int .i64 2, .int .i64 co, .int .i64 0, .int .i64 0, .int .i64 0, .int .i64 (vals.length:Int), .bool false, .slice oa R.length oc, .slice none 0 0]:=⟨_,rfl⟩;rw[←hw3]at hfs;have hta3:Turn [] w2 w3:=((Turn.refl [] w2).alloc (.cells fQ 41)).trans hfs.2 (fun q hq=> .inr (by obtain rfl:=List.mem_singleton.1 hq;exact Nat.le_refl _));have HX3:=hide (hta3.heap hx2 (by simp));have HA3:=hide hfs.1;have HT3:=hide ((HT0.out.same ht2).same hta3);have HR3:=hide ((hrow.still hta3).aZ HT0.out.size);have KY:=hide hfe;have hw3':=hw3;unfold fQ at hw3';have HW3:=hide hw3';obtain⟨ok1,ok2,ok3⟩:=o7 hfe hv1 hv2;have hwi:=CX w3 w.heap.size (le:Int) (wa:Int) (.int .i64 co) (.string ⟨#[97]⟩) (.int .i64 0) (.int .i64 (f:Int)) (.int .i64 M) (.int .i64 0) (.int .i64 0) (.bool false) (.bool false) (.slice none 0 0) (.int .i64 2) (.int .i64 co) (.int .i64 0) (.int .i64 0) (.int .i64 (vals.length:Int)) (.bool false) (.slice oa R.length oc) (.slice none 0 0) R HR3.out ok1 ok2 ok3;have hse:=Gj (x:=⟨0,0,f,le,wa,0⟩) hfe hle;simp only at hse;rw[hse,HS.out]at hwi;have Nl:=hide hwi;clear hrow hfe ht2 hx2 hta3 hfs hw3 hw3' hwi hse Aa ok1 ok2 ok3;go_wp2_with (first|(refine wpList_store_row rfl 41 _ _ rfl w2.heap.size #[.int .i64 2, .int .i64 co, .int .i64 0, .int .i64 0, .int .i64 0, .int .i64 (vals.length:Int), .bool false, .slice oa R.length oc, .slice none 0 0] rfl rfl _ _ (ae w2 (.cells fQ 41)) (by kernel_rfl) rfl (by kernel_rfl) ?_;rw[←HW3.out])|(refine az rfl 35 _ rfl ⟨w.heap.size,0,none⟩ rfl _ (iW HX3.out) ?_)|(refine az rfl 41 _ rfl ⟨w2.heap.size,0,none⟩ rfl _ (iT HA3.out) ?_))
 refine Nl.out.mono ?_;rintro e w4 ⟨rfl,ht4⟩;have HT4:=hide (HT3.out.same ht4);have HX4:=hide (ht4.heap HX3.out (by simp));have HA4:=hide (ht4.heap HA3.out (by simp));have HR4:=hide (HR3.out.still ht4);clear ht4 Nl;obtain⟨o,ho⟩:∃o:Ot,o=⟨fr,2,co,0,0,0,(vals.length:Int),false, .slice oa R.length oc,R⟩:=⟨_,rfl⟩;obtain⟨w5,hw5⟩:∃w5,w5=w4.alloc (.cells (vZ o).toArray 43):=⟨_,rfl⟩;have ht5:Turn [] w4 w5:=by rw[hw5];exact(Turn.refl _ _).alloc _
 have hk5:w5.heap[w4.heap.size]? =some (.cells (vZ o).toArray 43 (0,0)):=by rw[hw5];exact ae w4 _
 have hs4:=HT4.out.size;have hO5:bU w5 w.heap.size (.slice (some ⟨w4.heap.size,0,none⟩) 1 1) [o]:=
  ⟨.inr ⟨w4.heap.size,1,_,rfl,hs4,hk5,Nat.le_refl _,by simp[vZ],by simp[maxLen],by simp[vZ]⟩,fun y hy=>by obtain rfl:=List.mem_singleton.1 hy;rw[ho];exact HR4.out.still ht5⟩
 have hx5:=ht5.heap HX4.out (by simp);have q0:w5.cell? ⟨w.heap.size,0,none⟩=some (.int .i64 2):=by rw[cell_of hx5];rfl
 have zq:=lt_of_heap hx5;rw[ho]at hw5;simp only[vZ]at hw5;have HW5:=hide hw5;have HO5:=hide hO5;have HT5:=hide (HT4.out.same ht5);have O1:=hide ho;clear hw5 ht5 hk5 hs4 hO5 hx5 ho;go_upto_region 8 with(first|(refine az rfl 41 _ rfl ⟨w2.heap.size,0,none⟩ rfl _ (iT HA4.out) ?_))
 rw[←HW5.out];go_wp2
 go_ret
 exact⟨_,o,rfl,H.out.still HT5.out,HO5.out,by rw[O1.out],by rw[O1.out],by rw[O1.out],by rw[O1.out],by rw[O1.out];exact KY.out,HT5.out⟩
end
end Br
end
section
open Go.RowKit Go.Maps
set_option maxRecDepth 100000
set_option linter.unusedSimpArgs false
set_option linter.unusedVariables false
attribute [local go_sem] Oper.semAt_some
open Lg
open Wh (Tm Xt aP jX bI dF dQ eH ak IR Dq gG og)
namespace Br
theorem RY{α β:Type}(f:α→β){m n:List β}(h:m.Perm n):∀l:List α,l.map f=m→∃l',l.Perm l'∧l'.map f=n:=by
 induction h with
 |nil=>intro l hl;exact⟨l,List.Perm.refl _,hl⟩
 |cons x _ ih=>
  intro l hl;cases l with
  |nil=>simp at hl
  |cons a r=>
   rw[List.map_cons,List.cons.injEq]at hl;obtain⟨r',h1,h2⟩:=ih r hl.2;exact⟨a::r',h1.cons a,by rw[List.map_cons,h2,hl.1]⟩
 |swap x y l=>
  intro k hl;match k,hl with
  |[],hl=>simp at hl
  |[a],hl=>simp at hl
  |a::b::r,hl=>
   simp only[List.map_cons,List.cons.injEq]at hl;exact⟨b::a::r,List.Perm.swap b a r,by simp only[List.map_cons];rw[hl.1,hl.2.1,hl.2.2]⟩
 |trans _ _ ih1 ih2=>
  intro l hl;obtain⟨l1,h1,h2⟩:=ih1 l hl;obtain⟨l2,h3,h4⟩:=ih2 l1 h2;exact⟨l2,h1.trans h3,h4⟩
def Dc(q l:List Wq):List Wq:=l.foldl (fun a x=>mY a x.id) q
theorem A8:∀(l q:List Wq),Dc q l=q.filter (fun y=>l.all (fun x=> !(y.id==x.id)))
 |[],q=>by
  show q=_;rw[List.filter_eq_self.2];simp
 |x::l,q=>by
  show Dc (mY q x.id) l=_;rw[A8 l,mY,List.filter_filter];apply List.filter_congr;intro y hy;simp[Bool.and_comm]
theorem OO(q l:List Wq)(x:Wq):Dc q (l++[x])=mY (Dc q l) x.id:=by
 unfold Dc;rw[List.foldl_append];rfl
theorem Je(q l:List Wq):List.Sublist (Dc q l) q:=by rw[A8];exact List.filter_sublist
theorem UL{q:List Wq}(h:ou q){x y:Wq}(hx:x∈q)(hy:y∈q)(e:x.id=y.id):x=y:=by
 have h1:=h.find hx;have h2:=h.find hy;rw[e]at h1;rw[h1]at h2;exact Option.some.inj h2
theorem RZ{q l:List Wq}{p:Wq→Bool}(h:ou q)(hp:(q.filter p).Perm l):Dc q l=q.filter (fun y=> !p y):=by
 rw[A8];apply List.filter_congr;intro y hy;have hmem:∀x,x∈l↔x∈q∧p x=true:=fun x=>by rw[←hp.mem_iff,List.mem_filter]
 cases hpy:p y
 ·simp only[Bool.not_false,List.all_eq_true,Bool.not_eq_true']
  intro x hx;rw[Bool.eq_false_iff];intro e;have e':y.id=x.id:=by simpa using e
  have UJ:=(hmem x).1 hx;have:=UL h hy UJ.1 e';rw[this,UJ.2]at hpy;cases hpy
 ·simp only[Bool.not_true]
  rw[Bool.eq_false_iff];intro e;rw[List.all_eq_true]at e;have:=e y ((hmem y).2 ⟨hy,hpy⟩);simp at this
def pR(t:Nat)(x:Wq):Bool:=decide (x.due≤t)
theorem Xl(q:List Wq)(t:Nat):(q.map pO).filter (fun x=>decide (x.1≤(t:Int)))=(q.filter (pR t)).map pO:=by
 rw[List.filter_map];congr 1
 apply List.filter_congr;intro x _;show decide ((x.due:Int)≤(t:Int))=decide (x.due≤t);rw[decide_eq_decide];omega
theorem UM(q:List Wq)(t:Nat):(q.map pO).filter (fun x=> !decide (x.1≤(t:Int)))=(q.filter (fun x=> !pR t x)).map pO:=by
 rw[List.filter_map];congr 1
 apply List.filter_congr;intro x _;show(!decide ((x.due:Int)≤(t:Int)))=(!decide (x.due≤t));congr 1
 rw[decide_eq_decide];omega
structure TS(w wr:World)(base d sb mo b:Nat)(SF WF:List Nat)(mb came now:Nat)(vals:List (List UInt8))(q qr dq:List Wq)(k:Nat)(ov:Value)(outs:List Ot):Prop where
 store:di wr base d sb mo SF vals
 dL:aP wr base b (XT sb mb came) WF now (qr.map pO)
 map:jg wr mb ((Dc q (dq.take k)).map rO)
 rows:bU wr w.heap.size ov outs
 told:Told vals (dq.take k) outs
 turn:Turn [mb] w wr
section
variable {w w' w2:World} {base d sb mo b:Nat} {SF SF' WF:List Nat} {mb came now:Nat} {vals vals':List (List UInt8)} {q:List Wq}
set_option maxHeartbeats 8000000 in
theorem Si(h:dG w base d sb mo b SF WF mb came now vals q)(hr:ou q)(hq:∀x∈q,x.off≤vals.length∧x.least≤600∧x.id≤1099511627776)(hl:q.length≤1000)(t:Nat)(hn:now≤t)(ht:t≤1099511627776):
 Calls Tryz.prog 10 #[.pointer (some ⟨b,0,none⟩), .int .i64 (t:Int)] w fun e w'=>∃ov outs dq WF',e= .returned (.tuple #[ov, .nilIface])∧dG w' base d sb mo b SF WF' mb came t vals (q.filter (fun x=> !pR t x))∧bU w' w.heap.size ov outs∧(q.filter (pR t)).Perm dq∧Told vals dq outs∧Turn (mb::WF) w w'∧∀j∈WF',j∈WF∨w.heap.size≤j:=by
 obtain⟨hb0,hb451, -,hbz, -⟩:=h.xs;have Fg:=Wh.Na w base b _ now WF _ h.dL t hn ht;rw[Xl,UM]at Fg;have Xm:=hide Fg;have H:=hide h;have HQ:=hide hq;have OM:=hide hr;have hmx:maxLen=9223372036854775807:=by simp[maxLen]
 clear h Fg hq hr hb0 hb451;go_enter Tryz.func10,Tryz.ntmps10
 go_wp2_with fail
 refine Xm.out.mono ?_;rintro e w1 ⟨ia,ic,D,WF',rfl,KX,hir,hwh1,ht1,hf1⟩;obtain⟨dq,Xn,Zc⟩:=RY pO KX.sq.perm (q.filter (pR t)) rfl;obtain⟨L,hL⟩:∃L,L=D.map (·.2):=⟨_,rfl⟩;have hLq:L=dq.map (fun x=>(x.id:Int)):=by rw[hL,←Zc,List.map_map];rfl
 have yO:L.length=dq.length:=by rw[hLq,List.length_map]
 rw[←hL,yO]at hir⊢;obtain⟨_,_,hie,hic1,hic2⟩:=hir.form;simp only[Value.slice.injEq]at hie;rw[hmx]at hic2;have hdl:dq.length≤q.length:=by rw[←Xn.length_eq];exact List.length_filter_le _ _
 have hts0:TS w1 w1 base d sb mo b SF WF' mb came t vals q (q.filter (fun x=> !pR t x)) dq 0 (.slice none 0 0) []:=
  ⟨H.out.store.kept ht1 H.out.sw,hwh1,H.out.map.kept ht1 H.out.wm,bU.nil _ _,Told.nil,Turn.refl _ _⟩
 have hwm1:mb∉WF':=fun hm=>(hf1 mb hm).elim H.out.wm (fun h=>by have:=H.out.lt.2.2;omega)
 have Xo:=hide hts0;have SS:=hide hir;have Zd:=hide hwm1;have HT1:=hide ht1;have HF1:=hide hf1;have ZQ:=hide Xn;have HLQ:=hide hLq;clear KX hwh1 ht1 hf1 Xn Zc hL hLq hir hie hts0 hwm1;go_wp2_with fail
 go_loopw [8,25] (fun sv kv wr=>∃k:Nat,k≤dq.length∧kv= .int .i64 k∧∃outs,TS w1 wr base d sb mo b SF WF' mb came t vals q (q.filter (fun x=> !pR t x)) dq k sv outs) (fun _ kv _=>dq.length-(intOf kv).toNat)
 case atStart=>exact⟨0,Nat.zero_le _,rfl,_,Xo.out⟩
 case round=>
  obtain⟨k,hk,rfl,outs,hts⟩:=hrel;have uS:=hide hts;obtain⟨va,vc,WZ, -, -⟩:=hts.rows.row.form;subst WZ;clear hts;by_cases hlt:k<dq.length
  ·obtain⟨wc,hwc⟩:∃wc,wc=w1:=⟨_,rfl⟩
   rw[←hwc]at uS Xo SS;obtain⟨x,hx⟩:∃x,x=dq[k]:=⟨_,rfl⟩;have hxm:x∈dq:=by rw[hx];exact List.getElem_mem _
   have UJ:x∈q:=(List.mem_filter.1 (ZQ.out.mem_iff.2 hxm)).1;obtain⟨hx1,hx2,hx3⟩:=HQ.out x UJ;have Gm:(Lit.int .i64 (x.id:Int)).wf=true:=Wh.CU hx3;have hnd:(dq.map (fun y=>y.id)).Nodup:=by
    refine(ZQ.out.map (fun y=>y.id)).nodup_iff.1 ?_;unfold List.Nodup;rw[List.pairwise_map];exact(OM.out.sub List.filter_sublist).imp (fun h e=>by omega)
   have hxo:x∈Dc q (dq.take k):=by
    rw[A8,List.mem_filter];refine⟨UJ,?_⟩;rw[List.all_eq_true];intro y hy;have hne:x.id≠y.id:=by
     intro e;have h1:dq=dq.take k++dq[k]::dq.drop (k+1):=by
      conv=>lhs;rw[←List.take_append_drop k dq,List.drop_eq_getElem_cons hlt]
     rw[h1,List.map_append,List.map_cons,List.nodup_append]at hnd;exact hnd.2.2 y.id (List.mem_map.2 ⟨y,hy,rfl⟩) dq[k].id List.mem_cons_self (by rw[←hx];exact e.symm)
    simpa using hne
   have hrow:=SS.out.kept uS.out.turn (fun j hj hm=>by
    obtain⟨cs',e'⟩:=SS.out.kind j hj;exact Xo.out.map.ne e' (List.mem_singleton.1 hm))
   obtain⟨g,cap,e,hc, -⟩:=hrow.at gG (j:=k) (by rw[yO];exact hlt);simp only[Value.slice.injEq,true_and]at e;obtain⟨rfl, -,rfl⟩:=e;have c0:wr.cell? ⟨g,k,none⟩=some (.int .i64 (x.id:Int)):=by
    have h1:=hc 0 (by omega);have h2:L[k]'(by rw[yO];exact hlt)=(x.id:Int):=by simp[HLQ.out,hx]
    rw[h2]at h1;simpa[Dq]using h1
   obtain⟨-,hb451, -,hbz1, -⟩:=ji uS.out.dL;have hfw:jf ((Dc q (dq.take k)).map rO) (x.id:Int)=some (rO x):=by rw[Gi,(OM.out.sub (Je _ _)).find hxo];rfl
   have hlook:=uS.out.map.look Gm hfw;rw[Nk]at hlook;have hfs:=fC (cs:= #[.int .i64 2, .int .i64 0, .string ⟨#[97]⟩, .int .i64 0, .int .i64 (x.off:Int), .int .i64 3000, .int .i64 (x.least:Int), .int .i64 (x.wait:Int), .int .i64 0, .int .i64 0, .bool false, .bool false, .slice none 0 0, .int .i64 (x.who:Int)]) (ae wr (.cells #[.int .i64 0, .int .i64 0, .string ⟨#[]⟩, .int .i64 0, .int .i64 0, .int .i64 0, .int .i64 0, .int .i64 0, .int .i64 0, .int .i64 0, .bool false, .bool false, .slice none 0 0, .int .i64 0] 82));obtain⟨w2,hw2⟩:∃w2,w2=(wr.alloc (.cells #[.int .i64 0, .int .i64 0, .string ⟨#[]⟩, .int .i64 0, .int .i64 0, .int .i64 0, .int .i64 0, .int .i64 0, .int .i64 0, .int .i64 0, .bool false, .bool false, .slice none 0 0, .int .i64 0] 82)).setRow wr.heap.size #[.int .i64 2, .int .i64 0, .string ⟨#[97]⟩, .int .i64 0, .int .i64 (x.off:Int), .int .i64 3000, .int .i64 (x.least:Int), .int .i64 (x.wait:Int), .int .i64 0, .int .i64 0, .bool false, .bool false, .slice none 0 0, .int .i64 (x.who:Int)]:=⟨_,rfl⟩;rw[←hw2]at hfs;have hta2:Turn [] wr w2:=((Turn.refl [] wr).alloc (.cells #[.int .i64 0, .int .i64 0, .string ⟨#[]⟩, .int .i64 0, .int .i64 0, .int .i64 0, .int .i64 0, .int .i64 0, .int .i64 0, .int .i64 0, .bool false, .bool false, .slice none 0 0, .int .i64 0] 82)).trans hfs.2 (fun q hq=> .inr (by obtain rfl:=List.mem_singleton.1 hq;exact Nat.le_refl _));obtain⟨w4,hr4,hm4,ht4⟩:=(uS.out.map.still hta2).del (by rw[AZ];exact(OM.out.sub (Je _ _)).ids) Gm 0;rw[Nc]at hm4;obtain⟨-,hb451', -,hbz2, -⟩:=ji (uS.out.dL.still hta2);have hmn:∀{j:Nat} {cs:Array Value} {T:TypeId} {fr:Nat×Nat},w2.heap[j]? =some (.cells cs T fr)→j∉[mb]:=fun hj hm=>(uS.out.map.still hta2).ne hj (List.mem_singleton.1 hm)
   have hX4:=ht4.heap hfs.1 (hmn hfs.1);have hst4:=(uS.out.store.still hta2).kept ht4 (fun j hj hm=>by obtain rfl:=List.mem_singleton.1 hm;exact H.out.sm hj);have hwh4:=(uS.out.dL.still hta2).kept ht4 (fun j hj hm=>by obtain rfl:=List.mem_singleton.1 hm;exact Zd.out hj);have hrows4:=(uS.out.rows.still hta2).kept ht4 (fun j cs fr hj=>hmn hj) (fun j cs fr hj=>hmn hj);have hT4:Turn [mb] wc w4:=(uS.out.turn.same (hta2.mono (by simp))).same ht4;have hol:outs.length≤1000:=by
    rw[uS.out.told.len,List.length_take];omega
   have YD:=hide uS.out.told;have Gt:=hide hx;have HW2:=hide hw2;have HX4:=hide hX4;have HST4:=hide hst4;have Ze:=hide hwh4;have Qi:=hide hrows4;have HM4:=hide hm4;have HT4:=hide hT4;have hr4':=hr4;clear hx hxm UJ hnd hxo hrow hc hfw hfs hw2 hta2 hm4 hmn hX4 hst4 hwh4 hrows4 hT4 uS ht4;go_wp2_with (refine wpList_store_row rfl 82 _ _ rfl wr.heap.size #[.int .i64 2, .int .i64 0, .string ⟨#[97]⟩, .int .i64 0, .int .i64 (x.off:Int), .int .i64 3000, .int .i64 (x.least:Int), .int .i64 (x.wait:Int), .int .i64 0, .int .i64 0, .bool false, .bool false, .slice none 0 0, .int .i64 (x.who:Int)] rfl rfl _ _ (ae wr (.cells #[.int .i64 0, .int .i64 0, .string ⟨#[]⟩, .int .i64 0, .int .i64 0, .int .i64 0, .int .i64 0, .int .i64 0, .int .i64 0, .int .i64 0, .bool false, .bool false, .slice none 0 0, .int .i64 0] 82)) (by kernel_rfl) rfl (by kernel_rfl) ?_;rw[←HW2.out])
   clear hr4 hr4' hlook c0 hb451 hb451';refine aB 9 (Turn []) (by kernel_rfl) (by kernel_rfl) (by kernel_rfl) (by kernel_rfl) (by kernel_rfl) (Nat.le_of_ble_eq_true rfl) rfl (Turn.refl _) (fun _ _ _ h k=>h.same k) ?_;refine Lo.aJ 1 rfl rfl [] (.slice va outs.length vc) (by kernel_rfl) (fun u w1 hR hF=>?_) (Turn.refl _) ?_
   ·clear hF
    refine⟨rfl,fun a ha K hK=>?_⟩;have e8:=ha 8;conv at e8=>rhs;whnf
    clear ha;go_simp
    refine hK _ ?_;rfl
   apply Lo.ag 2 rfl rfl [] (by kernel_rfl) (Turn.refl _);apply Exists.intro;apply And.intro
   ·intro u w1 hR hF
    clear hF;refine⟨rfl,fun a ha K hK=>?_⟩;have e11:=ha 11;conv at e11=>rhs;whnf
    clear ha;go_simp
    refine hK _ ?_;rfl
   refine Lo.aJ 3 rfl rfl [1] (.int .i64 (x.who:Int)) (by kernel_rfl) (fun u w1 hR hF=>?_) (Turn.refl _) ?_
   ·obtain⟨h1, -⟩:=hF
    refine⟨rfl,fun a ha K hK=>?_⟩;have e41:=(ha 41).trans h1;clear ha h1;have hq1:=((Turn.refl [] w4).drew.same hR).heap HX4.out (by simp);have c13:w1.cell? ⟨wr.heap.size,13,none⟩=some (.int .i64 (x.who:Int)):=by rw[cell_of hq1];rfl
    have zq:=lt_of_heap hq1;go_simp
    refine hK _ ?_;rfl
   apply Lo.ag 4 rfl rfl [] (by kernel_rfl) (Turn.refl _);apply Exists.intro;apply And.intro
   ·intro u w1 hR hF
    clear hF;refine⟨rfl,fun a ha K hK=>?_⟩;have e0:=ha 0;conv at e0=>rhs;whnf
    clear ha;go_simp
    refine hK _ ?_;rfl
   apply Lo.ag 5 rfl rfl [] (by kernel_rfl) (Turn.refl _);apply Exists.intro;apply And.intro
   ·intro u w1 hR hF
    clear hF;refine⟨rfl,fun a ha K hK=>?_⟩;have e11:=ha 11;conv at e11=>rhs;whnf
    clear ha;go_simp
    refine hK _ ?_;rfl
   refine Lo.aJ 6 rfl rfl [4] (.agg #[.int .i64 2, .int .i64 0, .string ⟨#[97]⟩, .int .i64 0, .int .i64 (x.off:Int), .int .i64 3000, .int .i64 (x.least:Int), .int .i64 (x.wait:Int), .int .i64 0, .int .i64 0, .bool false, .bool false, .slice none 0 0]) (by kernel_rfl) (fun u w1 hR hF=>?_) (Turn.refl _) ?_
   ·obtain⟨h4, -⟩:=hF
    refine⟨rfl,fun a ha K hK=>?_⟩;have e44:=(ha 44).trans h4;clear ha h4;have hq1:=((Turn.refl [] w4).drew.same hR).heap HX4.out (by simp);have c0:w1.cell? ⟨wr.heap.size,0,none⟩=some (.int .i64 2):=by rw[cell_of hq1];rfl
    have c1:w1.cell? ⟨wr.heap.size,1,none⟩=some (.int .i64 0):=by rw[cell_of hq1];rfl
    have c2:w1.cell? ⟨wr.heap.size,2,none⟩=some (.string ⟨#[97]⟩):=by rw[cell_of hq1];rfl
    have c3:w1.cell? ⟨wr.heap.size,3,none⟩=some (.int .i64 0):=by rw[cell_of hq1];rfl
    have c4:w1.cell? ⟨wr.heap.size,4,none⟩=some (.int .i64 (x.off:Int)):=by rw[cell_of hq1];rfl
    have c5:w1.cell? ⟨wr.heap.size,5,none⟩=some (.int .i64 3000):=by rw[cell_of hq1];rfl
    have c6:w1.cell? ⟨wr.heap.size,6,none⟩=some (.int .i64 (x.least:Int)):=by rw[cell_of hq1];rfl
    have c7:w1.cell? ⟨wr.heap.size,7,none⟩=some (.int .i64 (x.wait:Int)):=by rw[cell_of hq1];rfl
    have c8:w1.cell? ⟨wr.heap.size,8,none⟩=some (.int .i64 0):=by rw[cell_of hq1];rfl
    have c9:w1.cell? ⟨wr.heap.size,9,none⟩=some (.int .i64 0):=by rw[cell_of hq1];rfl
    have c10:w1.cell? ⟨wr.heap.size,10,none⟩=some (.bool false):=by rw[cell_of hq1];rfl
    have c11:w1.cell? ⟨wr.heap.size,11,none⟩=some (.bool false):=by rw[cell_of hq1];rfl
    have c12:w1.cell? ⟨wr.heap.size,12,none⟩=some (.slice none 0 0):=by rw[cell_of hq1];rfl
    have zq:=lt_of_heap hq1;go_simp
    refine hK _ ?_;rfl
   refine Lo.run 7 rfl rfl [3,5] (fun y w'=>∃oa oc R,y= .agg #[.int .i64 2, .int .i64 0, .int .i64 0, .int .i64 0, .int .i64 0, .int .i64 (vals.length:Int), .bool false, .slice oa R.length oc, .slice none 0 0]∧aH 47 6 recC w' wc.heap.size (.slice oa R.length oc) R∧dU x.off vals R) (by kernel_rfl) (fun x w w' h hR=>?_) (fun _ _ h=>h) (fun u w1 hR hF=>?_) ?_
   ·obtain⟨oa,oc,R,h1,h2,h3⟩:=h;exact⟨oa,oc,R,h1,h2.still hR,h3⟩
   ·obtain⟨h3,h5, -⟩:=hF
    refine⟨rfl,fun a ha K hK=>?_⟩;have e43:=(ha 43).trans h3;have e45:=(ha 45).trans h5;clear ha h3 h5;go_simp
    have ht1:=(Turn.refl [] w4).drew.same hR;obtain⟨hb0, -, -,hbz3, -⟩:=ji (Ze.out.still ht1);refine(lN (HST4.out.still ht1) b hb0 hbz3 x.off hx1 3000 (.inl rfl) 0 (x.least:Int) (x.wait:Int) 0 0 false false none 0 0).mono ?_;rintro e w5 ⟨rv,R,rfl,hrow,hfe,ht5⟩;obtain⟨oa,oc,hoe, -, -⟩:=hrow.form;subst hoe;exact hK _ _ ⟨oa,oc,R,rfl,hrow.aZ (HT4.out.same (ht1.mono (by simp))).size,hfe⟩ ht5
   refine Lo.run 8 rfl rfl [2,6] (fun y w'=>∃oa oc R,y= .agg #[.int .i64 (x.who:Int), .int .i64 2, .int .i64 0, .int .i64 0, .int .i64 0, .int .i64 0, .int .i64 (vals.length:Int), .bool false, .slice oa R.length oc, .slice none 0 0]∧aH 47 6 recC w' wc.heap.size (.slice oa R.length oc) R∧dU x.off vals R) (by kernel_rfl) (fun x w w' h hR=>?_) (fun _ _ h=>h) (fun u w1 hR hF=>?_) ?_
   ·obtain⟨oa,oc,R,h1,h2,h3⟩:=h;exact⟨oa,oc,R,h1,h2.still hR,h3⟩
   ·obtain⟨h2,h6, -⟩:=hF
    refine⟨rfl,fun a ha K hK=>?_⟩;have e42:=(ha 42).trans h2;have e46:a.tmps.getD 46 undef=u 6:=ha 46;have h6:=(show(fun y w'=>∃oa oc R,y= .agg #[.int .i64 2, .int .i64 0, .int .i64 0, .int .i64 0, .int .i64 0, .int .i64 (vals.length:Int), .bool false, .slice oa R.length oc, .slice none 0 0]∧aH 47 6 recC w' wc.heap.size (.slice oa R.length oc) R∧dU x.off vals R) (u 6) w1 from h6);dsimp only at h6;clear ha h2;obtain⟨oa,oc,R,h1,h2,h3⟩:=h6;rw[h1]at e46;have e42':a.tmps[42]?.getD undef= .int .i64 (x.who:Int):=by rw[←Array.getD_eq_getD_getElem?,e42]
    have e46':a.tmps[46]?.getD undef= .agg #[.int .i64 2, .int .i64 0, .int .i64 0, .int .i64 0, .int .i64 0, .int .i64 (vals.length:Int), .bool false, .slice oa R.length oc, .slice none 0 0]:=by rw[←Array.getD_eq_getD_getElem?,e46]
    go_simp
    exact hK _ _ ⟨oa,oc,R,rfl,h2,h3⟩ (Turn.refl _ _)
   refine Lo.run 9 rfl rfl [7] (fun y w'=>∃g oa oc R,y= .slice (some ⟨g,0,none⟩) 1 1∧w'.heap[g]? =some (.cells (vZ (⟨(x.who:Int),2,0,0,0,0,(vals.length:Int),false, .slice oa R.length oc,R⟩:Ot)).toArray 43 (0,0))∧aH 47 6 recC w' wc.heap.size (.slice oa R.length oc) R∧dU x.off vals R) (by kernel_rfl) (fun x w w' h hR=>?_) (fun _ _ h=>h) (fun u w1 hR hF=>?_) ?_
   ·obtain⟨g,oa,oc,R,h1,h2,h3,h4⟩:=h;exact⟨g,oa,oc,R,h1,hR.heap h2 (by simp),h3.still hR,h4⟩
   ·obtain⟨h7, -⟩:=hF
    refine⟨rfl,fun a ha K hK=>?_⟩;have e47:a.tmps.getD 47 undef=u 7:=ha 47;have h7:=(show(fun y w'=>∃oa oc R,y= .agg #[.int .i64 (x.who:Int), .int .i64 2, .int .i64 0, .int .i64 0, .int .i64 0, .int .i64 0, .int .i64 (vals.length:Int), .bool false, .slice oa R.length oc, .slice none 0 0]∧aH 47 6 recC w' wc.heap.size (.slice oa R.length oc) R∧dU x.off vals R) (u 7) w1 from h7);dsimp only at h7;clear ha;obtain⟨oa,oc,R,h1,h2,h3⟩:=h7;rw[h1]at e47;have e47':a.tmps[47]?.getD undef= .agg #[.int .i64 (x.who:Int), .int .i64 2, .int .i64 0, .int .i64 0, .int .i64 0, .int .i64 0, .int .i64 (vals.length:Int), .bool false, .slice oa R.length oc, .slice none 0 0]:=by rw[←Array.getD_eq_getD_getElem?,e47]
    go_simp
    exact hK _ _ ⟨w1.heap.size,oa,oc,R,rfl,ae w1 _,h2.still ((Turn.refl [] _).alloc _),h3⟩ ((Turn.refl [] _).alloc _)
   refine Lo.done [0,8] (fun u w1 bP hSd hF=>?_);clear hSd;obtain⟨f0,f8, -⟩:=hF;have d0:u 0=_:=f0;have d8:=(show(fun y w'=>∃g oa oc R,y= .slice (some ⟨g,0,none⟩) 1 1∧w'.heap[g]? =some (.cells (vZ (⟨(x.who:Int),2,0,0,0,0,(vals.length:Int),false, .slice oa R.length oc,R⟩:Ot)).toArray 43 (0,0))∧aH 47 6 recC w' wc.heap.size (.slice oa R.length oc) R∧dU x.off vals R) (u 8) w1 from f8)
   dsimp only at d8;clear f0 f8;simp only[List.take_succ_cons,List.take_zero,List.drop_succ_cons,List.drop_zero,ax,Act.put,List.setIfInBounds_toArray,List.set_cons_succ,List.set_cons_zero,Nat.zero_add,Nat.reduceAdd,d0];obtain⟨g2,oa,oc,R,h8,hg2,hrec,hfe⟩:=d8;rw[h8];have hT1:Turn [] w4 w1:=((Turn.refl [] w4).drew).same bP;have Zf:=(HT4.out.same (hT1.mono (by simp))).size;have hO1:=Qi.out.still hT1;obtain⟨v7,w7,hr7,hO7,ht7, -⟩:=RJ w1 wc.heap.size (.slice va outs.length vc) outs (⟨(x.who:Int),2,0,0,0,0,(vals.length:Int),false, .slice oa R.length oc,R⟩:Ot) g2 hO1 hrec hg2 (by omega) Zf;have hown:∀j∈(Value.slice va outs.length vc).ownBlock.toList,∃cs,w1.heap[j]? =some (.cells cs 43 (0,0)):=fun j hj=>hO1.row.kind j (by simpa using hj)
   have hst1:=HST4.out.still hT1;have hwh1:=Ze.out.still hT1;have hmp1:=HM4.out.still hT1;have htk:dq.take (k+1)=dq.take k++[x]:=by rw[List.take_succ_eq_append_getElem hlt,←Gt.out]
   have hts7:TS wc w7 base d sb mo b SF WF' mb came t vals q (q.filter (fun x=> !pR t x)) dq (k+1) v7 (outs++[(⟨(x.who:Int),2,0,0,0,0,(vals.length:Int),false, .slice oa R.length oc,R⟩:Ot)]):=by
    refine⟨hst1.kept ht7 (fun j hj hm=>?_),hwh1.kept ht7 (fun j hj hm=>?_),?_,hO7,?_,?_⟩
    ·obtain⟨cs,e⟩:=hown j hm
     exact hst1.type e (by decide) (by decide) (by decide) (by decide) (by decide) (by decide) (by decide) (by decide) (by decide) (by decide) hj
    ·obtain⟨cs,e⟩:=hown j hm
     exact dO hwh1 e (by decide) (by decide) hj
    ·rw[htk,OO]
     exact hmp1.kept ht7 (fun hm=>by obtain⟨cs,e⟩:=hown mb hm;exact hmp1.ne e rfl)
    ·rw[htk]
     exact YD.out.snoc ⟨rfl,rfl,hfe⟩
    ·exact(HT4.out.same (hT1.mono (by simp))).trans ht7 (fun j hj=> .inr (hO1.row.lt j (by simpa using hj)).1)
   obtain⟨a7,c7,hv7, -, -⟩:=hO7.row.form;rw[List.length_append,List.length_singleton]at hv7;subst hv7;have HTS7:=hide hts7;have HR7:=hide hr7;clear h8 hg2 hrec hfe hT1 hO1 hr7 hO7 ht7 hown hst1 hwh1 hmp1 htk hts7 bP Zf;go_wp2_with (at_builtin;go_must (refine Sn.dY rfl rfl rfl rfl HR7.out ?_))
   all_goals refine⟨⟨k+1,by omega,by go_num,_,by rw[←hwc];exact HTS7.out⟩,?_⟩
   all_goals (simp only[intOf];omega)
  ·obtain rfl:k=dq.length:=by omega
   go_wp2
   refine bodyPost_ret (results_tmp2 rfl _ _ _) rfl ?_;have hs1:=HT1.out.size;have hoq:Dc q (dq.take dq.length)=q.filter (fun x=> !pR t x):=by rw[List.take_length];exact RZ OM.out ZQ.out
   refine⟨_,outs,dq,WF',rfl,⟨uS.out.store,uS.out.dL,by have:=uS.out.map;rwa [hoq]at this,H.out.low,fun j hj hm=>(HF1.out j hm).elim (H.out.sw j hj) (fun h=>by have:=H.out.lt.1 j hj;omega),H.out.sm,Zd.out⟩,⟨uS.out.rows.row.aZ hs1,fun o ho=>(uS.out.rows.recs o ho).aZ hs1⟩,ZQ.out,by have:=uS.out.told;rwa [List.take_length]at this,?_,HF1.out⟩;exact(HT1.out.mono (T:=mb::WF) (fun j hj=> .inl (List.mem_cons_of_mem _ hj))).trans uS.out.turn (fun j hj=> .inl (by simp at hj;simp[hj]))
end
end Br
end
section
open Go.RowKit Go.Maps
set_option maxRecDepth 100000
set_option linter.unusedSimpArgs false
set_option linter.unusedVariables false
attribute [local go_sem] Oper.semAt_some
open Tp (iH Ew jm OX LR SL mQ dN nY listN One dB)
open Lg
open Wh (Tm Xt aP jX bI dF dQ eH ak IR Dq gG og)
open Dk (DA ay Parts fE aW dI)
namespace Br
theorem Sj:Dk.nameB (Sn.nameB oZ 0)=true:=by decide+kernel
theorem Sl:Tp.fM∉((Sn.nameB oZ 0).data.toList,([]:List UInt8)).1::([]:FL).map (·.1):=by decide+kernel
theorem Ll:(nY ⟨#[97]⟩ false).size≤100:=by decide+kernel
structure oz(w:World)(base d sb mo:Nat)(eU bytes:Int)(F:List Nat)(room:Nat):Prop where
 disk:ay w base d F (DA.empty room)
 box:w.heap[sb]? =some (.cells (iH d mo eU bytes (.slice none 0 0) false) 103 (0,0))
 low:base≤sb
 m1:100≤mo
 m2:mo≤1048576
 r1:40000≤room
def Made(w w':World)(base d sb mo:Nat)(F:List Nat):Prop:=∃SF,di w' base d sb mo SF []∧Turn (sb::F) w w'∧∀k∈SF,k∈sb::F∨w.heap.size≤k
section
variable {w w' w2:World} {base d sb mo:Nat} {eU bytes:Int} {F:List Nat} {room:Nat}
theorem oz.still(h:oz w base d sb mo eU bytes F room)(ht:Turn [] w w'):oz w' base d sb mo eU bytes F room:=
 ⟨h.disk.kept ht (by simp),ht.heap h.box (by simp),h.low,h.m1,h.m2,h.r1⟩
theorem oz.lt(h:oz w base d sb mo eU bytes F room):∀k∈sb::F,k<w.heap.size:=fun k hk=>by
 rcases List.mem_cons.1 hk with rfl|hk
 ·exact lt_of_heap h.box
 ·exact h.disk.lt k hk
theorem Made.first{w0:World}(ht:Turn [] w0 w)(h:Made w w' base d sb mo F):Made w0 w' base d sb mo F:=by
 obtain⟨SF,h1,h2,h3⟩:=h;exact⟨SF,h1,(ht.mono (by simp)).same h2,fun k hk=>(h3 k hk).imp_right (Nat.le_trans ht.size)⟩
theorem Made.still(h:Made w w' base d sb mo F)(ht:Turn [] w' w2):Made w w2 base d sb mo F:=by
 obtain⟨SF,h1,h2,h3⟩:=h;exact⟨SF,h1.still ht,h2.same (ht.mono (by simp)),h3⟩
theorem Made.also(h:Made w w' base d sb mo F){Y:Nat}{cs:Array Value}{T:TypeId}{fr:Nat×Nat}(hy:w'.heap[Y]? =some (.cells cs T fr)) (hT:T=41) (hYw:w.heap.size≤Y) (ht:Turn [Y] w' w2):Made w w2 base d sb mo F:=by
 obtain⟨SF,h1,h2,h3⟩:=h;subst hT;refine⟨SF,h1.kept ht (fun k hk hm=>?_),h2.trans ht (fun k hk=> .inr (by obtain rfl:=List.mem_singleton.1 hk;exact hYw)),h3⟩;obtain rfl:=List.mem_singleton.1 hm;exact h1.type hy (by decide) (by decide) (by decide) (by decide) (by decide) (by decide) (by decide) (by decide) (by decide) (by decide) hk
theorem Lm(h:oz w base d sb mo eU bytes F room)(hv:∀Z,Turn F w Z→Sn.dA Z):
 Calls Tryz.prog 58 #[.pointer (some ⟨sb,0,none⟩), .agg #[.string ⟨#[97]⟩, .int .i64 1, .bool false]] w fun e w'=>e= .returned .nilIface∧Made w w' base d sb mo F:=by
 refine(Tp.QX w base d F _ h.disk sb mo eU bytes h.box false Sj h.m1 h.m2 room [] (FP.empty room) (by simp) (by simp) (xC _ _) Sl (by have:=Ll;have:=h.r1;simp[fD];omega) hv).mono ?_;rintro e w' ⟨rfl,A',lb,F',ev,lv,gv,m,ho⟩;have hbw:base≤w.heap.size:=by have:=lt_of_heap h.box;have:=h.low;omega
 refine⟨rfl,_,⟨_,_,_,_,_,_,_,_,_,_,_,One.sa ho hbw h.low h.m2 h.r1,rfl⟩,ho.turn,fun k hk=>?_⟩;rcases jo.1 hk with rfl|h1|h1|h1
 ·exact .inl (by simp)
 ·exact .inr (ho.row.lt k h1).1
 ·exact .inr (ho.tq.lt k h1).1
 ·exact(ho.foot k h1).imp_left (fun h=>List.mem_cons_of_mem _ h)
theorem zset{Z:World}{A:Nat}(h:Z.heap[A]? =some (.cells fQ 41 (0,0))):(((((((((Z.setCell ⟨A,0,none⟩ (.int .i64 0)).setCell ⟨A,1,none⟩ (.int .i64 0)).setCell ⟨A,2,none⟩ (.int .i64 0)).setCell ⟨A,3,none⟩ (.int .i64 0)).setCell ⟨A,4,none⟩ (.int .i64 0)).setCell ⟨A,5,none⟩ (.int .i64 0)).setCell ⟨A,6,none⟩ (.bool false)).setCell ⟨A,7,none⟩ (.slice none 0 0)).setCell ⟨A,8,none⟩ (.slice none 0 0)).heap[A]? =some (.cells fQ 41 (0,0))∧Turn [A] Z (((((((((Z.setCell ⟨A,0,none⟩ (.int .i64 0)).setCell ⟨A,1,none⟩ (.int .i64 0)).setCell ⟨A,2,none⟩ (.int .i64 0)).setCell ⟨A,3,none⟩ (.int .i64 0)).setCell ⟨A,4,none⟩ (.int .i64 0)).setCell ⟨A,5,none⟩ (.int .i64 0)).setCell ⟨A,6,none⟩ (.bool false)).setCell ⟨A,7,none⟩ (.slice none 0 0)).setCell ⟨A,8,none⟩ (.slice none 0 0)):=by
 refine⟨?_,((((((((((Turn.refl [A] Z).setCell (.inl (by simp)) (.int .i64 0)).setCell (.inl (by simp)) (.int .i64 0)).setCell (.inl (by simp)) (.int .i64 0)).setCell (.inl (by simp)) (.int .i64 0)).setCell (.inl (by simp)) (.int .i64 0)).setCell (.inl (by simp)) (.int .i64 0)).setCell (.inl (by simp)) (.bool false)).setCell (.inl (by simp)) (.slice none 0 0)).setCell (.inl (by simp)) (.slice none 0 0))⟩;rw[(heap_set (heap_set (heap_set (heap_set (heap_set (heap_set (heap_set (heap_set (heap_set h 0 (.int .i64 0)) 1 (.int .i64 0)) 2 (.int .i64 0)) 3 (.int .i64 0)) 4 (.int .i64 0)) 5 (.int .i64 0)) 6 (.bool false)) 7 (.slice none 0 0)) 8 (.slice none 0 0))];rfl
theorem Zg{Z:World}{A:Nat}(h:Z.heap[A]? =some (.cells fQ 41 (0,0))):Turn [] Z (((((((((Z.setCell ⟨A,0,none⟩ (.int .i64 0)).setCell ⟨A,1,none⟩ (.int .i64 0)).setCell ⟨A,2,none⟩ (.int .i64 0)).setCell ⟨A,3,none⟩ (.int .i64 0)).setCell ⟨A,4,none⟩ (.int .i64 0)).setCell ⟨A,5,none⟩ (.int .i64 0)).setCell ⟨A,6,none⟩ (.bool false)).setCell ⟨A,7,none⟩ (.slice none 0 0)).setCell ⟨A,8,none⟩ (.slice none 0 0)):=by
 obtain⟨h1,t1,t2,t3,t4,t5⟩:=zset h;refine⟨t1,t2,t3,t4,fun k hk _=>?_⟩;by_cases e:k=A
 ·subst e
  rw[h1,h]
 ·exact t5 k hk (by simp[e])
set_option maxHeartbeats 4000000 in
theorem OQ(h:oz w base d sb mo eU bytes F room)(hv:∀Z,Turn F w Z→Sn.dA Z)(b:Nat)(hb:w.cell? ⟨b,0,none⟩=some (.pointer (some ⟨sb,0,none⟩)))(hbz:b<w.heap.size)(hbn:b∉sb::F):
 Calls Tryz.prog 32 #[.pointer (some ⟨b,0,none⟩), .agg #[.int .i64 5, .int .i64 0, .string ⟨#[97]⟩, .int .i64 0, .int .i64 0, .int .i64 0, .int .i64 0, .int .i64 0, .int .i64 0, .int .i64 1, .bool false, .bool false, .slice none 0 0]] w fun e w'=>e= .returned (.tuple #[.agg #[.int .i64 0, .int .i64 0, .int .i64 0, .int .i64 0, .int .i64 0, .int .i64 0, .bool false, .slice none 0 0, .slice none 0 0], .nilIface])∧Made w w' base d sb mo F:=by
 have hnb:∀k,w.heap.size≤k→k∉sb::F:=fun k hk hm=>by have:=h.lt k hm;omega
 have hcr:∀Z A,Turn [] w Z→w.heap.size≤A→Z.heap[A]? =some (.cells fQ 41 (0,0))→Calls Tryz.prog 58 #[.pointer (some ⟨sb,0,none⟩), .agg #[.string ⟨#[97]⟩, .int .i64 1, .bool false]] Z fun e w'=>e= .returned .nilIface∧Made w w' base d sb mo F∧w'.heap[A]? =some (.cells fQ 41 (0,0))∧Turn (sb::F) Z w':=by
  intro Z A hZ hA hz;refine(Lm (h.still hZ) (fun Y hY=>hv Y ((hZ.mono (by simp)).same hY))).mono ?_;rintro e w' ⟨rfl,hm⟩;have hm2:=hm.first hZ;obtain⟨SF, -,h2, -⟩:=hm;exact⟨rfl,hm2,h2.heap hz (hnb A hA),h2⟩
 have ZM:=hide hcr;have rH:=hide hnb;have HB:=hide hb;have HBN:=hide hbn;have h2:=jG w #[.int .i64 5, .int .i64 0, .string ⟨#[97]⟩, .int .i64 0, .int .i64 0, .int .i64 0, .int .i64 0, .int .i64 0, .int .i64 0, .int .i64 1, .bool false, .bool false, .slice none 0 0] fQ 35 41;obtain⟨wz,hwz⟩:∃wz,wz=(w.alloc (.cells #[.int .i64 5, .int .i64 0, .string ⟨#[97]⟩, .int .i64 0, .int .i64 0, .int .i64 0, .int .i64 0, .int .i64 0, .int .i64 0, .int .i64 1, .bool false, .bool false, .slice none 0 0] 35)).alloc (.cells fQ 41):=⟨_,rfl⟩;rw[←hwz]at h2;obtain⟨ht2,hq,ha⟩:=h2;unfold fQ at hwz;have Gw:=hide hwz;have HT2:=hide ht2;have HQ:=hide hq;have HA:=hide ha;have q0:wz.cell? ⟨w.heap.size,0,none⟩=some (.int .i64 5):=by rw[cell_of hq];rfl
 have zq:=lt_of_heap hq;clear h hv hcr hnb hb hbn hwz ht2 hq ha;go_enter Tryz.func32,Tryz.ntmps32
 go_upto_region 1 with fail
 rw[←Gw.out];go_upto_region 3 with fail
 have HBZ:Hid (∀Z,Turn (sb::F) wz Z→b∉sb::F→Z.cell? ⟨b,0,none⟩=some (.pointer (some ⟨sb,0,none⟩))∧b<Z.heap.size):=fun Z hZ hn=>by
  have hz2:=HT2.out.size;have hc:=(World.cell?_of_block (w:=w) (HT2.out.block _ hbz (by simp))).trans HB.out;exact⟨(World.cell?_of_block (w:=wz) (hZ.block _ (show b<wz.heap.size by omega) hn)).trans hc,by have:=hZ.size;omega⟩
 clear q0 zq;obtain⟨wo,rfl⟩:∃wo,wo=w:=⟨_,rfl⟩;refine cZ 14 (Turn (sb::F)) (Turn []) (fun k w=>match k with|0=>(fun w'=>Turn [] wo w'∧w'.heap[wo.heap.size+1]? =some (.cells fQ 41 (0,0))) w|_=>(fun w'=>0≤w'.heap.size) w) [12] (by kernel_rfl) (by kernel_rfl) (by kernel_rfl) (by kernel_rfl) (by kernel_rfl) (by kernel_rfl) (Nat.le_of_ble_eq_true rfl) (by decide) rfl (Turn.refl _) (fun _ _ _ h k=>h.same k) (fun _ _ h=>h.mono (by simp)) ?_ ?_ ?_
 ·intro k a b hk hR
  match k,hk with
  |0,hk=>
   have hk:=(show(fun w'=>Turn [] wo w'∧w'.heap[wo.heap.size+1]? =some (.cells fQ 41 (0,0))) a from hk)
   dsimp only at hk;show(fun w'=>Turn [] wo w'∧w'.heap[wo.heap.size+1]? =some (.cells fQ 41 (0,0))) b
   dsimp only;first|exact⟨hk.1.same hR,hR.heap hk.2 (by simp)⟩|exact Nat.zero_le _
  |_+1,hk=>
   have hk:=(show(fun w'=>0≤w'.heap.size) a from hk);dsimp only at hk;show(fun w'=>0≤w'.heap.size) b;dsimp only;first|exact⟨hk.1.same hR,hR.heap hk.2 (by simp)⟩|exact Nat.zero_le _
 ·show(fun w'=>Turn [] wo w'∧w'.heap[wo.heap.size+1]? =some (.cells fQ 41 (0,0))) _
  dsimp only;exact⟨HT2.out.drew,((Turn.refl [] _).drew).heap HA.out (by simp)⟩
 refine Lo.aJ 1 rfl rfl [] (.agg #[.int .i64 0, .int .i64 0, .int .i64 0, .int .i64 0, .int .i64 0, .int .i64 0, .bool false, .slice none 0 0, .slice none 0 0]) (by kernel_rfl) (fun u w1 hR hF=>?_) (Turn.refl _) ?_
 ·clear hF
  refine⟨rfl,fun a ha K hK=>?_⟩;clear ha;go_simp
  refine hK _ ?_;rfl
 apply Lo.ag 2 rfl rfl [] (by kernel_rfl) (Turn.refl _);apply Exists.intro;apply And.intro
 ·intro u w1 hR hF
  clear hF;refine⟨rfl,fun a ha K hK=>?_⟩;have e0:=ha 0;conv at e0=>rhs;whnf
  clear ha;go_simp
  refine hK _ ?_;rfl
 apply Lo.ag 3 rfl rfl [1] (by kernel_rfl) (Turn.refl _);apply Exists.intro;apply And.intro
 ·intro u w1 hR hF
  obtain⟨h1, -⟩:=hF;refine⟨rfl,fun a ha K hK=>?_⟩;have e11:=(ha 11).trans h1;clear ha h1;go_simp
  refine hK _ ?_;rfl
 apply Lo.ag 4 rfl rfl [2] (by kernel_rfl) (Turn.refl _);apply Exists.intro;apply And.intro
 ·intro u w1 hR hF
  obtain⟨h2, -⟩:=hF;refine⟨rfl,fun a ha K hK=>?_⟩;have e12:=(ha 12).trans h2;clear ha h2;go_simp
  refine hK _ ?_;rfl
 refine Lo.aJ 5 rfl rfl [3] (.pointer (some ⟨sb,0,none⟩)) (by kernel_rfl) (fun u w1 hR hF=>?_) (Turn.refl _) ?_
 ·obtain⟨h3, -⟩:=hF
  refine⟨rfl,fun a ha K hK=>?_⟩;have e13:=(ha 13).trans h3;clear ha h3;obtain⟨c0,zb⟩:=HBZ.out w1 (((Turn.refl (sb::F) wz).drew).same hR) HBN.out;go_simp
  refine hK _ ?_;rfl
 apply Lo.ag 6 rfl rfl [] (by kernel_rfl) (Turn.refl _);apply Exists.intro;apply And.intro
 ·intro u w1 hR hF
  clear hF;refine⟨rfl,fun a ha K hK=>?_⟩;have e3:=ha 3;conv at e3=>rhs;whnf
  clear ha;go_simp
  refine hK _ ?_;rfl
 refine Lo.aJ 7 rfl rfl [5] (.string ⟨#[97]⟩) (by kernel_rfl) (fun u w1 hR hF=>?_) (Turn.refl _) ?_
 ·obtain⟨h5, -⟩:=hF
  refine⟨rfl,fun a ha K hK=>?_⟩;have e15:=(ha 15).trans h5;clear ha h5;have hq1:=(((Turn.refl (sb::F) wz).drew).same hR).heap HQ.out (rH.out _ (Nat.le_refl _));have c2:w1.cell? ⟨wo.heap.size,2,none⟩=some (.string ⟨#[97]⟩):=by rw[cell_of hq1];rfl
  have zq:=lt_of_heap hq1;go_simp
  refine hK _ ?_;rfl
 apply Lo.ag 8 rfl rfl [] (by kernel_rfl) (Turn.refl _);apply Exists.intro;apply And.intro
 ·intro u w1 hR hF
  clear hF;refine⟨rfl,fun a ha K hK=>?_⟩;have e3:=ha 3;conv at e3=>rhs;whnf
  clear ha;go_simp
  refine hK _ ?_;rfl
 refine Lo.aJ 9 rfl rfl [7] (.int .i64 1) (by kernel_rfl) (fun u w1 hR hF=>?_) (Turn.refl _) ?_
 ·obtain⟨h7, -⟩:=hF
  refine⟨rfl,fun a ha K hK=>?_⟩;have e17:=(ha 17).trans h7;clear ha h7;have hq1:=(((Turn.refl (sb::F) wz).drew).same hR).heap HQ.out (rH.out _ (Nat.le_refl _));have c9:w1.cell? ⟨wo.heap.size,9,none⟩=some (.int .i64 1):=by rw[cell_of hq1];rfl
  have zq:=lt_of_heap hq1;go_simp
  refine hK _ ?_;rfl
 apply Lo.ag 10 rfl rfl [] (by kernel_rfl) (Turn.refl _);apply Exists.intro;apply And.intro
 ·intro u w1 hR hF
  clear hF;refine⟨rfl,fun a ha K hK=>?_⟩;have e3:=ha 3;conv at e3=>rhs;whnf
  clear ha;go_simp
  refine hK _ ?_;rfl
 refine Lo.aJ 11 rfl rfl [9] (.bool false) (by kernel_rfl) (fun u w1 hR hF=>?_) (Turn.refl _) ?_
 ·obtain⟨h9, -⟩:=hF
  refine⟨rfl,fun a ha K hK=>?_⟩;have e19:=(ha 19).trans h9;clear ha h9;have hq1:=(((Turn.refl (sb::F) wz).drew).same hR).heap HQ.out (rH.out _ (Nat.le_refl _));have c11:w1.cell? ⟨wo.heap.size,11,none⟩=some (.bool false):=by rw[cell_of hq1];rfl
  have zq:=lt_of_heap hq1;go_simp
  refine hK _ ?_;rfl
 refine Lo.aJ 12 rfl rfl [6,8,10] (.agg #[.string ⟨#[97]⟩, .int .i64 1, .bool false]) (by kernel_rfl) (fun u w1 hR hF=>?_) (Turn.refl _) ?_
 ·obtain⟨h6,h8,h10, -⟩:=hF
  refine⟨rfl,fun a ha K hK=>?_⟩;have e16:=(ha 16).trans h6;have e18:=(ha 18).trans h8;have e20:=(ha 20).trans h10;clear ha h6 h8 h10;have e16':a.tmps[16]?.getD undef= .string ⟨#[97]⟩:=by rw[←Array.getD_eq_getD_getElem?,e16]
  have e18':a.tmps[18]?.getD undef= .int .i64 1:=by rw[←Array.getD_eq_getD_getElem?,e18]
  have e20':a.tmps[20]?.getD undef= .bool false:=by rw[←Array.getD_eq_getD_getElem?,e20]
  go_simp
  refine hK _ ?_;rfl
 refine Lo.rX 13 rfl 0 rfl [4,11] (fun x w'=>x= .nilIface∧Made wo w' base d sb mo F∧w'.heap[wo.heap.size+1]? =some (.cells fQ 41 (0,0))) (by kernel_rfl) (fun x w w' h hR=>?_) (.inl (by kernel_rfl)) (fun u w1 hR hS hF=>?_) ?_
 ·exact⟨h.1,h.2.1.still hR,hR.heap h.2.2 (by simp)⟩
 ·obtain⟨h4,h11, -⟩:=hF
  have hS:=(show(fun w'=>Turn [] wo w'∧w'.heap[wo.heap.size+1]? =some (.cells fQ 41 (0,0))) w1 from hS)
  dsimp only at hS;refine⟨rfl,fun a ha K hK=>?_⟩;have e14:=(ha 14).trans h4;have e21:=(ha 21).trans h11;clear ha h4 h11;go_simp
  refine(ZM.out w1 (wo.heap.size+1) hS.1 (by omega) hS.2).mono ?_;rintro e w5 ⟨rfl,hm,ha5,ht5⟩;exact hK _ _ ⟨rfl,hm,ha5⟩ ht5 (Nat.zero_le _)
 refine Lo.run 14 rfl rfl [0] (fun x w'=>0≤w'.heap.size) (by kernel_rfl) (fun x w w' h hR=>?_) (fun _ _ h=>h.mono (by simp)) (fun u w1 hR hF=>?_) ?_
 ·exact Nat.zero_le _
 ·obtain⟨h0, -⟩:=hF
  refine⟨rfl,fun a ha K hK=>?_⟩;have e4:=ha 4;conv at e4=>rhs;whnf
  have e10:=(ha 10).trans h0;clear ha h0;have ha1:=(((Turn.refl (sb::F) wz).drew).same hR).heap HA.out (rH.out _ (by omega));have b0:=cell_of ha1 0;have b1:=cell_of ha1 1;have b2:=cell_of ha1 2;have b3:=cell_of ha1 3;have b4:=cell_of ha1 4;have b5:=cell_of ha1 5;have b6:=cell_of ha1 6;have b7:=cell_of ha1 7;have b8:=cell_of ha1 8;simp[fQ]at b0 b1 b2 b3 b4 b5 b6 b7 b8;have g0:=af ha1 0;have g1:=af ha1 1;have g2:=af ha1 2;have g3:=af ha1 3;have g4:=af ha1 4;have g5:=af ha1 5;have g6:=af ha1 6;have g7:=af ha1 7;have g8:=af ha1 8;have za:=lt_of_heap ha1;go_simp
  exact hK undef _ (Nat.zero_le _) (Zg ha1)
 refine Lo.done [12] (fun u w1 bP hSd hF=>?_);have hSd:=(show(fun w'=>0≤w'.heap.size) w1 from hSd);dsimp only at hSd;obtain⟨f12, -⟩:=hF;have d12:=(show(fun x w'=>x= .nilIface∧Made wo w' base d sb mo F∧w'.heap[wo.heap.size+1]? =some (.cells fQ 41 (0,0))) (u 12) w1 from f12)
 dsimp only at d12;clear f12;simp only[List.take_succ_cons,List.take_zero,List.drop_succ_cons,List.drop_zero,ax,Act.put,List.setIfInBounds_toArray,List.set_cons_succ,List.set_cons_zero,Nat.zero_add,Nat.reduceAdd];obtain⟨h12,hm,ha2⟩:=d12;rw[h12];have HM:=hide hm;have HA2:=hide ha2;clear hm ha2 h12;go_wp2
 unfold fQ at HA2;have hld:=iT HA2.out;refine bodyPost_ret (v:= .tuple #[.agg #[.int .i64 0, .int .i64 0, .int .i64 0, .int .i64 0, .int .i64 0, .int .i64 0, .bool false, .slice none 0 0, .slice none 0 0], .nilIface]) (by simp[results,Tryz.results32,asAddr,hld,Result.andThen,Act.put]) rfl ?_;exact⟨rfl,HM.out⟩
set_option maxHeartbeats 4000000 in
theorem DK(h:oz w base d sb mo eU bytes F room)(hv:∀Z,Turn F w Z→Sn.dA Z)(b:Nat)(hb:w.cell? ⟨b,0,none⟩=some (.pointer (some ⟨sb,0,none⟩)))(hbz:b<w.heap.size)(hbn:b∉sb::F):
 Calls Tryz.prog 16 #[.pointer (some ⟨b,0,none⟩), .agg #[.int .i64 5, .int .i64 0, .string ⟨#[97]⟩, .int .i64 0, .int .i64 0, .int .i64 0, .int .i64 0, .int .i64 0, .int .i64 0, .int .i64 1, .bool false, .bool false, .slice none 0 0]] w fun e w'=>e= .returned (.agg #[.int .i64 5, .int .i64 0, .int .i64 0, .int .i64 0, .int .i64 0, .int .i64 0, .bool false, .slice none 0 0, .slice none 0 0])∧Made w w' base d sb mo F:=by
 have hnb:∀k,w.heap.size≤k→k∉sb::F:=fun k hk hm=>by have:=h.lt k hm;omega
 have rH:=hide hnb;have hol:=fun Z (hZ:Turn [] w Z)=>OQ (h.still hZ) (fun Y hY=>hv Y ((hZ.mono (by simp)).same hY)) b ((World.cell?_of_block (w:=w) (hZ.block _ hbz (by simp))).trans hb) (Nat.lt_of_lt_of_le hbz hZ.size) hbn
 have UE:=hide hol;have h2:=jG w #[.int .i64 5, .int .i64 0, .string ⟨#[97]⟩, .int .i64 0, .int .i64 0, .int .i64 0, .int .i64 0, .int .i64 0, .int .i64 0, .int .i64 1, .bool false, .bool false, .slice none 0 0] fQ 35 41;obtain⟨wz,hwz⟩:∃wz,wz=(w.alloc (.cells #[.int .i64 5, .int .i64 0, .string ⟨#[97]⟩, .int .i64 0, .int .i64 0, .int .i64 0, .int .i64 0, .int .i64 0, .int .i64 0, .int .i64 1, .bool false, .bool false, .slice none 0 0] 35)).alloc (.cells fQ 41):=⟨_,rfl⟩;rw[←hwz]at h2;obtain⟨ht2,hq,ha⟩:=h2;unfold fQ at hwz;have Gw:=hide hwz;have HT2:=hide ht2;have HQ:=hide hq;have HA:=hide ha;clear h hb hol hwz ht2 hq ha hnb hv hbn;go_enter Tryz.func16,Tryz.ntmps16
 go_upto_region 1 with fail
 rw[←Gw.out];go_wp2_with (refine az rfl _ _ rfl ⟨w.heap.size,0,none⟩ rfl _ (iW HQ.out) ?_)
 refine(UE.out _ HT2.out).mono ?_;rintro e w2 ⟨rfl,hmd⟩;have ht2:=hmd.choose_spec.2.1;have hfs:=fC (cs:= #[.int .i64 0, .int .i64 0, .int .i64 0, .int .i64 0, .int .i64 0, .int .i64 0, .bool false, .slice none 0 0, .slice none 0 0]) (ae w2 (.cells fQ 41));obtain⟨w3,hw3⟩:∃w3,w3=(w2.alloc (.cells fQ 41)).setRow w2.heap.size #[.int .i64 0, .int .i64 0, .int .i64 0, .int .i64 0, .int .i64 0, .int .i64 0, .bool false, .slice none 0 0, .slice none 0 0]:=⟨_,rfl⟩;rw[←hw3]at hfs;have hz2:=HT2.out.size;have hz3:=ht2.size;have hzz:=lt_of_heap HA.out;have hta3:Turn [] w2 w3:=((Turn.refl [] w2).alloc (.cells fQ 41)).trans hfs.2 (fun q hq=> .inr (by obtain rfl:=List.mem_singleton.1 hq;exact Nat.le_refl _));have hq3:=hta3.heap (ht2.heap HQ.out (rH.out _ (by omega))) (by simp);have ha3:=hta3.heap (ht2.heap HA.out (rH.out _ (by omega))) (by simp);have q0:w3.cell? ⟨w.heap.size,0,none⟩=some (.int .i64 5):=by rw[cell_of hq3];rfl
 have q1:w3.cell? ⟨w.heap.size,1,none⟩=some (.int .i64 0):=by rw[cell_of hq3];rfl
 have e0:w3.cell? ⟨w2.heap.size,0,none⟩=some (.int .i64 0):=by rw[cell_of hfs.1];rfl
 have e1:w3.cell? ⟨w2.heap.size,1,none⟩=some (.int .i64 0):=by rw[cell_of hfs.1];rfl
 have f0:=af hfs.1 0;have f1:=af hfs.1 1;have zq:=lt_of_heap hq3;have ze:=lt_of_heap hfs.1;have hr3:=(hmd.still hta3).first HT2.out;have hw3':=hw3;unfold fQ at hw3';have HW3:=hide hw3';have hn1:¬w.heap.size=w2.heap.size:=by omega
 have hn2:¬w2.heap.size=w.heap.size:=by omega
 have HX3:=hide hfs.1;have HA3:=hide ha3;have HR3:=hide hr3;clear hq3 ha3 hr3 hta3 hfs hw3 hw3' hmd ht2;go_wp2_with (refine wpList_store_row rfl _ _ _ rfl w2.heap.size #[.int .i64 0, .int .i64 0, .int .i64 0, .int .i64 0, .int .i64 0, .int .i64 0, .bool false, .slice none 0 0, .slice none 0 0] rfl rfl _ _ (ae w2 (.cells fQ 41)) (by kernel_rfl) rfl (by kernel_rfl) ?_)
 rw[←HW3.out];go_region
 obtain⟨w5,hw5⟩:∃w5,w5=((w3.setCell ⟨w2.heap.size,0,none⟩ (.int .i64 5)).setCell ⟨w2.heap.size,1,none⟩ (.int .i64 0)).drew:=⟨_,rfl⟩;rw[←hw5];have ht5:Turn [w2.heap.size] w3 w5:=by rw[hw5];exact(((Turn.refl _ _).setCell (.inl (by simp)) _).setCell (.inl (by simp)) _).drew
 have hx5:w5.heap[w2.heap.size]? =some (.cells #[.int .i64 5, .int .i64 0, .int .i64 0, .int .i64 0, .int .i64 0, .int .i64 0, .bool false, .slice none 0 0, .slice none 0 0] 41 (0,0)):=by
  rw[hw5];exact((Turn.refl [] _).drew).heap (heap_set (heap_set HX3.out 0 (.int .i64 5)) 1 (.int .i64 0)) (by simp)
 have ha5:=ht5.heap HA3.out (by simp;omega);have hr5:=HR3.out.also HX3.out rfl (by omega) ht5;have HX5:=hide hx5;have HA5:=hide ha5;have HR5:=hide hr5;have pI:=hide (fC (cs:= #[.int .i64 5, .int .i64 0, .int .i64 0, .int .i64 0, .int .i64 0, .int .i64 0, .bool false, .slice none 0 0, .slice none 0 0]) HA5.out);clear hx5 ha5 hr5 ht5 hw5 q0 q1 e0 e1 f0 f1 zq ze hn1 hn2;go_wp2_with (first|(refine az rfl _ _ rfl ⟨w2.heap.size,0,none⟩ rfl _ (iT HX5.out) ?_)|(refine wpList_store_row rfl _ _ _ rfl (w.heap.size+1) #[.int .i64 5, .int .i64 0, .int .i64 0, .int .i64 0, .int .i64 0, .int .i64 0, .bool false, .slice none 0 0, .slice none 0 0] rfl rfl _ _ HA5.out (by kernel_rfl) rfl (by kernel_rfl) ?_))
 have hld:=iT pI.out.1;refine bodyPost_ret (v:= .agg #[.int .i64 5, .int .i64 0, .int .i64 0, .int .i64 0, .int .i64 0, .int .i64 0, .bool false, .slice none 0 0, .slice none 0 0]) (by simp[results,Tryz.results16,asAddr,hld,Result.andThen,Act.put]) rfl ?_;exact⟨rfl,HR5.out.also HA5.out rfl (by omega) pI.out.2⟩
end
end Br
end
end Go.Proofs.YtmjpdhpmjmgmaaaGreatDoor
