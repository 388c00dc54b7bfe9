/- Lemmas of the claim, part i of 14. -/
import Derived.Test.YtficbckncieabaaGreatDoorMh
import Derived.Test.YtficbckncieabaaGreatDoorMd
import Derived.Shelf.SlIter.Nil
import Derived.Shelf.SortM.Plain
import Derived.Shelf.SortM.SortNone
import Derived.Ground.GgzProg
import Derived.Ground.SlgmProg
import Derived.Test.YtficbckncieabaaGreatDoorProg
import Derived.RangeFuncNested
import Derived.RangeFuncBound
import Derived.RangeFuncCalls
import Derived.RangeFuncLeaves
import Derived.Shelf.Abstract
import Derived.Shelf.RegionOpen
import Derived.OwnWalkIn
import Derived.TacticsInMore
import Derived.LoopNIn
import Derived.LoopIn
import Derived.Test.YtficbckncieabaaGreatDoorMa
import Derived.Deep.QuietTactic
import Derived.BigQuiet
import Derived.OrdersIn
set_option maxHeartbeats 16000000
namespace Go.Proofs.YtficbckncieabaaGreatDoor
section
open Go.RowKit Go.Maps
set_option maxRecDepth 100000
set_option linter.unusedSimpArgs false
set_option linter.unusedVariables false
attribute [local go_sem] Oper.semAt_some
open Dk (DA aj Parts dA aC bQ)
open Sg (aS aA dV Both Came ae flat Chain iG BV uD jm Fj GM)
namespace Lg
theorem mV.kept{w w':World}{B0 B1 B2 mb n:Nat}{f:List UInt8→Int}{now ak:Int}{S:List Nat}(h:mV w B0 B1 B2 mb n f now ak)(ht:Turn S w w')(h0:B0∉S)(h1:B1∉S)(h2:B2∉S)(h3:mb∉S):mV w' B0 B1 B2 mb n f now ak:=
 ⟨ht.heap h.b0 h0,ht.heap h.b1 h1,ht.heap h.b2 h2,h.map.kept ht h3⟩
theorem mV.VI{α:Type}{T:TypeId}{n':Nat}{enc:α→List Value}{w w':World}{B0 B1 B2 mb n base:Nat}{f:List UInt8→Int}{now ak:Int}{sv:Value}{xs:List α}(h:mV w B0 B1 B2 mb n f now ak)(hr:aO T n' enc w base sv xs)(ht:Turn sv.ownBlock.toList w w')(h1:T≠90)(h2:T≠3):mV w' B0 B1 B2 mb n f now ak:=by
 rcases hr with⟨rfl, -⟩|⟨g,cap,cs,rfl, -,hg, -⟩
 ·exact h.still (by simpa[Value.ownBlock]using ht)
 ·exact h.Zq (by simpa[Value.ownBlock]using ht) hg h1 h2
theorem NW(f:List UInt8→Int)(now ak:Int)(ys:List BV):pq f now ak ys=fU f now ak (ys.map (·.x)):=by
 unfold pq fU;rw[List.map_map];rfl
theorem SQ(f:List UInt8→Int)(now ak:Int)(ys:List BV):pq f now ak ys≤(aK (ys.map (·.x))).length:=by
 rw[NW];have:=FN f now ak (ys.map (·.x));omega
theorem PI(f:List UInt8→Int)(now ak:Int)(ys:List BV):(pF f now ak ys.length ys).map (·.x)=(ys.map (·.x)).map (bn f now ak):=by
 unfold pF;simp[wV,bn,Function.comp_def]
theorem JD{w1 w2:World}{Z g k l c base:Nat}{y:BV}{V:Value}{ys:List BV}{rs:List Bt.Rec}(hz:w1.heap[Z]? =some (.cells #[.int .i64 y.x.base, .int .i64 y.x.fin, .slice y.a y.x.recs.length y.c] 71 (0,0)))
 (Pe:aO 71 3 uD w1 base (.slice (some ⟨g,0,none⟩) l c) ys) (hne:Z≠g) (hk:k<ys.length) (hr:aO 52 6 recC w1 base (.slice y.a y.x.recs.length y.c) rs) (ht:Turn (Value.slice y.a y.x.recs.length y.c).ownBlock.toList w1 w2):
 (w2.cell? ⟨g,k*3+2,none⟩).isSome=true∧w2.frozen? ⟨g,k*3+2,none⟩=false∧w2.cell? ⟨Z,2,none⟩=some (.slice y.a y.x.recs.length y.c)∧∀Q,Turn [] (w2.setCell ⟨g,k*3+2,none⟩ V) Q→Q.cell? ⟨Z,2,none⟩=some (.slice y.a y.x.recs.length y.c)∧Q.cell? ⟨g,k*3+2,none⟩=some V∧Q.heap[Z]? =some (.cells #[.int .i64 y.x.base, .int .i64 y.x.fin, .slice y.a y.x.recs.length y.c] 71 (0,0)):=by
 have hzs:Z∉(Value.slice y.a y.x.recs.length y.c).ownBlock.toList:=fun hm=>by
  obtain⟨cs,e⟩:=Fj hr Z (by simpa using hm);rw[hz]at e;simp at e
 have hz2:=ht.heap hz hzs;have aaC:=Pe.kept ht (fun q hq hm=>GM Pe hr q (by simpa using hm) hq);obtain⟨g',cap',e,hc,hf⟩:=aaC.at jm (j:=k) hk;simp only[Value.slice.injEq,Option.some.injEq,Addr.mk.injEq,and_true]at e;obtain⟨rfl, -⟩:=e;obtain⟨cs,hg⟩:=Fj aaC g (by simp[Value.ownBlock]);have c2:=hc 2 (by omega);refine⟨by rw[c2];rfl,hf _,by rw[cell_of hz2];rfl,fun Q hQ=>?_⟩;have hts:Turn [g] w2 (w2.setCell ⟨g,k*3+2,none⟩ V):=(Turn.refl [g] w2).setCell (by simp) _;have hz3:=hQ.heap (hts.heap hz2 (by simpa using hne)) (by simp);have hg3:=hQ.heap (heap_set hg (k*3+2) V) (by simp);refine⟨by rw[cell_of hz3];rfl,?_,hz3⟩;rw[cell_of hg3];have hsz:k*3+2<cs.size:=by
  rw[cell_of hg]at c2;have:=(Array.getElem?_eq_some_iff.1 c2).1;exact this
 simp[hsz]
def Zw(w:World)(base d:Nat)(F:List Nat)(A:DA)(sb:Nat)(sv:Value)(file:ByteArray)(n:Nat)(xs:List Bt.aB)(fl:List UInt8→Int)(now ak:Int)(e:Ending)(w':World):Prop:=
 (fU fl now ak xs=0∧e= .returned (.tuple #[.int .i64 0, .nilIface])∧Turn [] w w')∨
 (fU fl now ak xs≠0∧(aG A file n (xs.map (bn fl now ak))).1=0∧e= .returned (.tuple #[.int .i64 (fU fl now ak xs:Nat), .nilIface])∧
   Came w w' base d F (aG A file n (xs.map (bn fl now ak))).2.1 sb sv file n (dV 0 (-1) (xs.map (bn fl now ak))))∨
 (fU fl now ak xs≠0∧(aG A file n (xs.map (bn fl now ak))).1≠0∧e= .returned (.tuple #[.int .i64 0, .iface 45 (.int .i64 (aG A file n (xs.map (bn fl now ak))).1)])∧
   Came w w' base d F (aG A file n (xs.map (bn fl now ak))).2.1 sb sv file n (dV 0 (-1) xs))
theorem JE(w:World)(base d:Nat)(F:List Nat)(A:DA)(sb:Nat)(sv:Value)(file:ByteArray)(n:Nat)(xs:List Bt.aB)(h:Both w base d F A sb sv file n (dV 0 (-1) xs))(hfs:file.size≤10000)(f:Dk.FA)(hf:A.file file.data.toList=some f)(hfb:f.bytes=flat xs)(hch:Chain n xs)
 (B0 B1 B2 mb nn:Nat)(fl:List UInt8→Int)(now ak:Int)(hcb:mV w B0 B1 B2 mb nn fl now ak)(hsh:(flat xs).length≤1048576):
 Calls Tryz.prog 77 #[.pointer (some ⟨sb,0,none⟩),VD B0 B1 B2] w (Zw w base d F A sb sv file n xs fl now ak):=by
 have hmx:maxLen=9223372036854775807:=by simp[maxLen]
 have hwh:=FB w base d F A sb sv file n xs h (by omega) f hf hfb hch;have hxl:=Sg.dw xs;have hrf:=sZ xs;have Zt:=hide hwh;have H:=hide h;have VJ:=hide hcb;have KU:=hide hch;clear hwh h hf hfb hch hcb;unfold VD;go_enter Tryz.func77,Tryz.ntmps77
 go_wp2_with fail
 refine Zt.out.mono ?_;rintro e w1 ⟨lv,ys,rfl,hbr,hys,ht1⟩;obtain⟨la,lc,hlv,KX,KY⟩:=hbr.row.form;subst hlv;rw[hmx]at KY;have hyl:ys.length≤900000:=by have:=congrArg List.length hys;rw[List.length_map]at this;omega
 have hgl:∀k,pq fl now ak (ys.take k)≤1000000:=by
  intro k;have h1:=SQ fl now ak ys;rw[hys]at h1;have h2:pq fl now ak (ys.take k)≤pq fl now ak ys:=by
   unfold pq;conv=>rhs;rw[←List.take_append_drop k ys,List.map_append,List.sum_append]
   omega
  unfold aK at h1;omega
 obtain⟨N,hN⟩:∃N,N=ys.length:=⟨_,rfl⟩;rw[←hN]at KX hyl;have hrl:∀y∈ys,y.x.recs.length≤900000:=by
  intro y hy;have hm:y.x∈xs:=by rw[←hys];exact List.mem_map_of_mem hy
  obtain⟨i,hi,e⟩:=List.mem_iff_getElem.1 hm;have:=NM xs i hi;rw[e]at this;omega
 have HN:=hide hN;have xm:=hide hbr;have NP:=hide hys;have HT1:=hide ht1;have YG:=hide hrl;have HGL:=hide hgl;clear hbr hys ht1 Zt hrl hgl;rw[←hN];clear hN;go_wp2
 go_loopw [8,22] (fun nv kv wr=>∃k:Nat,k≤N∧kv= .int .i64 k∧nv= .int .i64 (pq fl now ak (ys.take k):Nat)∧iG wr w.heap.size (.slice la N lc) (pF fl now ak k ys)∧mV wr B0 B1 B2 mb nn fl now ak∧Turn [] w wr) (fun _ kv _=>N-(intOf kv).toNat)
 case atStart=>
  refine⟨0,Nat.zero_le _,rfl,rfl,?_,VJ.out.still HT1.out,HT1.out⟩;have:=xm.out;rw[←HN.out]at this;exact this
 case round=>
  obtain⟨k,hk,rfl,rfl,Pe,hcb,htw⟩:=hrel;have dI:=hide Pe;have Zx:=hide hcb;have dO:=hide htw;clear Pe hcb htw;by_cases hlt:k<N
  ·have hky:k<ys.length:=by rw[←HN.out];exact hlt
   have hks:k<(pF fl now ak k ys).length:=by rw[uu];exact hky
   have hya:=SN fl now ak hky;obtain⟨y,hy⟩:∃y,y=ys[k]:=⟨_,rfl⟩;have hym:y∈ys:=by rw[hy];exact List.getElem_mem _
   obtain⟨g,cap,e,hc,hfz⟩:=dI.out.row.at jm (j:=k) hks;rw[uu,←HN.out]at e;simp only[Value.slice.injEq,true_and]at e;obtain⟨rfl,rfl⟩:=e;rw[hya,←hy]at hc;obtain⟨Z,hZ⟩:∃Z,Z=wr.heap.size:=⟨_,rfl⟩;obtain⟨wq,hwq⟩:∃wq,wq=wr.alloc (.cells #[.int .i64 y.x.base, .int .i64 y.x.fin, .slice y.a y.x.recs.length y.c] 71):=⟨_,rfl⟩;have hal:Turn [] wr wq:=by rw[hwq];exact(Turn.refl [] wr).alloc _
   have hbq:wq.heap[Z]? =some (.cells #[.int .i64 y.x.base, .int .i64 y.x.fin, .slice y.a y.x.recs.length y.c] 71 (0,0)):=by rw[hwq,hZ];exact ai wr _
   have yY:=dI.out.still hal;have aaK:=yY.recs _ (List.getElem_mem hks);have LJ:=yY.ok _ (List.getElem_mem hks);rw[hya,←hy]at aaK LJ;obtain⟨ra,rc,hyv,Dw,wK⟩:=aaK.form;have hyn:y.n=y.x.recs.length:=by
    unfold BV.sl at hyv;simp only[Value.slice.injEq]at hyv;exact hyv.2.1
   have hyc:y.c≤9223372036854775807∧y.x.recs.length≤y.c:=by
    unfold BV.sl at hyv;simp only[Value.slice.injEq]at hyv;rw[hyv.2.2,←hmx];exact⟨wK,Dw⟩
   have acF:=aaK;unfold BV.sl at acF;rw[hyn]at acF;have c0:wr.cell? ⟨g,k*3,none⟩=some (.int .i64 y.x.base):=hc 0 (by omega);have c1:wr.cell? ⟨g,k*3+1,none⟩=some (.int .i64 y.x.fin):=hc 1 (by omega);have c2:wr.cell? ⟨g,k*3+2,none⟩=some (.slice y.a y.x.recs.length y.c):=by rw[←hyn];exact hc 2 (by omega)
   have hgz:g<wr.heap.size:=(dI.out.row.lt g (by simp[Value.ownBlock])).2;have hne:Z≠g:=by omega
   have acW:∀w2:World,aO 52 6 recC w2 w.heap.size (.slice y.a (aU fl now ak y.x.recs).length y.c) (aU fl now ak y.x.recs)→Turn (Value.slice y.a y.x.recs.length y.c).ownBlock.toList wq w2→
    iG (w2.setCell ⟨g,k*3+2,none⟩ (.slice y.a (aU fl now ak y.x.recs).length y.c)) w.heap.size (.slice (some ⟨g,0,none⟩) N lc) (pF fl now ak (k+1) ys)∧mV (w2.setCell ⟨g,k*3+2,none⟩ (.slice y.a (aU fl now ak y.x.recs).length y.c)) B0 B1 B2 mb nn fl now ak∧Turn [] w (w2.setCell ⟨g,k*3+2,none⟩ (.slice y.a (aU fl now ak y.x.recs).length y.c)):=by
    intro w2 h1 h2;have hst:=Pz (w:=wq) (w2:=w2) (f:=fl) (now:=now) (ak:=ak) yY hks (by rw[hya,←hy];exact h1) (by rw[hya,←hy];unfold BV.sl;rw[hyn];exact h2);rw[hya,LG fl now ak hky,←hy]at hst;have aaC:=yY.row.kept h2 (fun q hq hm=>GM yY.row acF q (by simpa using hm) hq);have hts:Turn [g] w2 (w2.setCell ⟨g,k*3+2,none⟩ (.slice y.a (aU fl now ak y.x.recs).length y.c)):=(Turn.refl [g] w2).setCell (by simp) _;refine⟨hst,(((Zx.out.still hal).VI acF h2 (by decide) (by decide)).VI aaC (by simpa[Value.ownBlock]using hts) (by decide) (by decide)),?_⟩;refine((dO.out.same hal).trans h2 (fun q hq=> .inr (acF.lt q (by simpa using hq)).1)).trans hts (fun q hq=>?_);obtain rfl:=List.mem_singleton.1 hq;exact .inr (yY.row.lt _ (by simp[Value.ownBlock])).1
   have hcl:=fun(w2:World) (h2:Turn (Value.slice y.a y.x.recs.length y.c).ownBlock.toList wq w2)=>JD (V:= .slice y.a (aU fl now ak y.x.recs).length y.c) hbq yY.row hne hks acF h2
   have afW:=Ls wq B0 B1 B2 mb nn fl now ak (Zx.out.still hal) w.heap.size y.a y.c y.x.recs acF LJ (by have:=YG.out y hym;omega);unfold VD at afW;have hry:=YG.out y hym;have hgs:=LH fl now ak hky;rw[←hy]at hgs;have hsl:=uw fl now ak y.x.recs;have hg1:=HGL.out k;have hg2:=HGL.out (k+1);obtain⟨sl,auD⟩:∃sl,sl=(aU fl now ak y.x.recs).length:=⟨_,rfl⟩;obtain⟨rl,auE⟩:∃rl,rl=y.x.recs.length:=⟨_,rfl⟩;have PK:=hide afW;have VK:=hide acW;have NQ:=hide hcl;have HGS:=hide hgs;have HZ:=hide hZ;have HWQ:=hide hwq;have HBQ:=hide hbq;have hzq:Z<wq.heap.size:=lt_of_heap hbq;have hgq:g<wq.heap.size:=by have:=hal.size;omega
   have b2:wq.cell? ⟨Z,2,none⟩=some (.slice y.a y.x.recs.length y.c):=by rw[cell_of hbq];rfl
   clear hya hy hym hc hfz aaK LJ hyv Dw wK afW acW hgs hal yY acF hcl hZ hwq hbq hks;go_upto_region 8 with fail
   rw[show wr.alloc (.cells #[.int .i64 y.x.base, .int .i64 y.x.fin, .slice y.a y.x.recs.length y.c] 71)=wq from HWQ.out.symm,←HZ.out];clear c0 c1 c2;go_wp2_with fail
   refine PK.out.mono ?_;rintro e w2 ⟨rfl,aaC,ht2⟩;have hs:=VK.out w2 aaC ht2;obtain⟨k1,k2,k3,k4⟩:=NQ.out w2 ht2;obtain⟨oldv,acy⟩:=Option.isSome_iff_exists.1 k1;have HS:=hide hs;have HK4:=hide k4;have hz2:Z<w2.heap.size:=Nat.lt_of_lt_of_le hzq ht2.size;have auJ:g<w2.heap.size:=Nat.lt_of_lt_of_le hgq ht2.size;clear hs k4 k1 aaC ht2 PK VK NQ b2;go_upto_region 9 with fail
   have hki:(k:Int)<(N:Int):=by omega
   have auK:(0:Int)≤(k:Int):=by omega
   refine gU 12 [] (by kernel_rfl) rfl ?_;apply Lo.r0 1 rfl 8 (by intro u;conv=>lhs;whnf) rfl
   ·intro a w1 hR e8 K hK
    go_simp
    exact hK _ rfl
   apply Lo.r0 2 rfl 10 (by intro u;conv=>lhs;whnf) rfl
   ·intro a w1 hR e10 K hK
    go_simp
    exact hK _ rfl
   apply Lo.r1 3 rfl 36 1 (fun _=>rfl) rfl (by kernel_rfl)
   ·intro a w1 hR e36 K hK
    have q0:=(HK4.out w1 hR.dr).1;go_simp
    exact hK _ rfl
   apply Lo.r1 4 rfl 37 2 (fun _=>rfl) rfl (by kernel_rfl)
   ·intro a w1 hR e37 K hK
    go_simp
    exact hK _ rfl
   apply Lo.r0 5 rfl 6 (by intro u;conv=>lhs;whnf) rfl
   ·intro a w1 hR e6 K hK
    go_simp
    exact hK _ rfl
   apply Lo.r0 6 rfl 9 (by intro u;conv=>lhs;whnf) rfl
   ·intro a w1 hR e9 K hK
    go_simp
    exact hK _ rfl
   apply Lo.r2 7 rfl 39 4 40 5 (fun _=>rfl) (fun _=>rfl) rfl rfl (by kernel_rfl)
   ·intro a w1 hR e39 e40 K hK
    go_simp
    exact hK _ rfl
   apply Lo.r1 8 rfl 41 6 (fun _=>rfl) rfl (by kernel_rfl)
   ·intro a w1 hR e41 K hK
    go_simp
    exact hK _ rfl
   apply Lo.r1 9 rfl 42 7 (fun _=>rfl) rfl (by kernel_rfl)
   ·intro a w1 hR e42 K hK
    have q1:=(HK4.out w1 hR.dr).2.1;go_simp
    exact hK _ rfl
   apply Lo.r1 10 rfl 43 8 (fun _=>rfl) rfl (by kernel_rfl)
   ·intro a w1 hR e43 K hK
    go_simp
    exact hK _ rfl
   refine Lo.df 11 rfl rfl [3,9] (.int .i64 ((y.x.recs.length-(aU fl now ak y.x.recs).length:Nat):Int)) (by kernel_rfl) (fun u w1 hR hF=>?_) (Turn.refl _) ?_
   ·obtain⟨h3,h9, -⟩:=hF
    refine⟨rfl,fun a ha K hK=>?_⟩;have e38:=(ha 38).trans h3;have e44:=(ha 44).trans h9;clear ha h3 h9;go_simp
    refine hK _ ?_;rw[IntWalk.i64_in _ (by omega)];congr 1;omega
   refine Lo.df 12 rfl rfl [0,10] (.int .i64 ((pq fl now ak (ys.take (k+1)):Nat):Int)) (by kernel_rfl) (fun u w1 hR hF=>?_) (Turn.refl _) ?_
   ·obtain⟨h0,h10, -⟩:=hF
    refine⟨rfl,fun a ha K hK=>?_⟩;have e35:=(ha 35).trans h0;have e45:=(ha 45).trans h10;clear ha h0 h10;go_simp
    refine hK _ ?_;have auL:=HGS.out;rw[IntWalk.i64_in _ (by omega)];congr 1;omega
   refine Lo.done [11] (fun u w1 bI hSd hF=>?_);clear hSd;obtain⟨f11, -⟩:=hF;have d11:u 11=_:=f11;clear f11;simp only[List.take_succ_cons,List.take_zero,List.drop_succ_cons,List.drop_zero,ax,Act.put,List.setIfInBounds_toArray,List.set_cons_succ,List.set_cons_zero,Nat.zero_add,Nat.reduceAdd,d11];have hw1:Turn [] (w2.setCell ⟨g,k*3+2,none⟩ (.slice y.a (aU fl now ak y.x.recs).length y.c)) w1:=bI.dr;obtain⟨e1,e2,e3⟩:=HS.out;have HE1:=hide (e1.still hw1);have HE2:=hide (e2.still hw1);have HE3:=hide (e3.same hw1);clear e1 e2 e3 hw1 bI HS HK4 k2 k3 acy;obtain⟨gn,hgn⟩:∃gn,gn=pq fl now ak (ys.take (k+1)):=⟨_,rfl⟩;rw[←hgn]at d11;have HGN:=hide hgn;clear hgn;go_wp2
   all_goals refine⟨⟨k+1,by omega,by go_num,by rw[←HGN.out],HE1.out,HE2.out,HE3.out⟩,?_⟩
   all_goals (simp only[intOf];omega)
  ·obtain rfl:k=N:=by omega
   have htk:ys.take k=ys:=by rw[HN.out];exact List.take_length
   have hgb:pq fl now ak (ys.take k)=fU fl now ak xs:=by rw[htk,NW,NP.out]
   have hsx:(pF fl now ak k ys).map (·.x)=xs.map (bn fl now ak):=by rw[HN.out,PI,NP.out]
   rw[hgb];have hG:=HGL.out k;rw[hgb]at hG;have PL:=hide hsx;clear htk hgb hsx hlt;by_cases h0:fU fl now ak xs=0
   ·have hb:((fU fl now ak xs:Int)==0)=true:=by simp;omega
    have H0:=hide h0;clear h0;go_wp2
    go_ret2
    exact Or.inl ⟨H0.out,rfl,dO.out⟩
   ·have hb:((fU fl now ak xs:Int)==0)=false:=by simp;omega
    have H0:=hide h0;clear h0;have ahK:=iO fl now ak KU.out;have hsf:=qI fl now ak KU.out;have hrw:=Ju wr base d F A sb sv file n (dV 0 (-1) xs) (H.out.still dO.out) hfs w.heap.size (.slice la k lc) (pF fl now ak k ys) dI.out (by rw[uu,←HN.out];exact hyl) (by rw[PL.out];omega)
     (fun y hy=>by
       have hm:y.x∈xs.map (bn fl now ak):=by rw[←PL.out];exact List.mem_map_of_mem hy
       obtain⟨k1,k2,k3, -⟩:=Bt.jX (Bt.dJ (Sg.Chain.mem ahK y.x hm)).1;omega)
     (fun q hq hm=>by
       have h1:=H.out.disk.lt q hm;rcases hq with hq|⟨y,hy,hq⟩
       ·have:=(dI.out.row.lt q hq).1;omega
       ·have:=((dI.out.recs y hy).lt q hq).1;omega)
    rw[PL.out]at hrw;obtain⟨c,A',tk,Pq⟩:∃c A' tk,aG A file (n:Int) (xs.map (bn fl now ak))=(c,A',tk):=⟨_,_,_,rfl⟩;rw[Pq]at hrw;simp only at hrw;have SV:=hide Pq;have ae9:=yX A file (n:Int) (xs.map (bn fl now ak));rw[Pq]at ae9;simp only at ae9;have Zy:=hide ae9;clear ae9;have HRW:=hide hrw;clear hrw Pq ahK hsf;by_cases hc0:c=0
    ·subst hc0
     rw[show aC 0= .nilIface from rfl]at HRW;go_wp2_with fail
     refine HRW.out.mono ?_;rintro e w3 ⟨rfl,hcm⟩;obtain⟨F',sv',hb',ht',hF',hs'⟩:=hcm;have HCM:Hid (Came w w3 base d F A' sb sv file n (Lu tk (dV 0 (-1) (xs.map (bn fl now ak))) (dV 0 (-1) xs))):=
      hide ⟨F',sv',hb',(dO.out.mono (by simp)).trans ht' (fun q hq=> .inl hq),fun q hq=>(hF' q hq).imp_right (fun h=>Nat.le_trans dO.out.size h),fun q hq=>(hs' q hq).imp_right (fun h=>Nat.le_trans dO.out.size h)⟩
     clear hb' ht' hF' hs' HRW;go_wp2
     go_ret2
     have hcm:=HCM.out;rw[Zy.out.2 (by trivial)]at hcm;refine Or.inr (Or.inl ⟨H0.out,?_,rfl,?_⟩)
     ·rw[SV.out]
     ·rw[SV.out];exact hcm
    ·have hr:aC c= .iface 45 (.int .i64 c):=by unfold aC;rw[if_neg hc0];rfl
     rw[hr]at HRW;have HR:=hide hr;have HC0:=hide hc0;clear hr hc0;go_wp2_with fail
     refine HRW.out.mono ?_;rintro e w3 ⟨rfl,hcm⟩;obtain⟨F',sv',hb',ht',hF',hs'⟩:=hcm;have HCM:Hid (Came w w3 base d F A' sb sv file n (Lu tk (dV 0 (-1) (xs.map (bn fl now ak))) (dV 0 (-1) xs))):=
      hide ⟨F',sv',hb',(dO.out.mono (by simp)).trans ht' (fun q hq=> .inl hq),fun q hq=>(hF' q hq).imp_right (fun h=>Nat.le_trans dO.out.size h),fun q hq=>(hs' q hq).imp_right (fun h=>Nat.le_trans dO.out.size h)⟩
     clear hb' ht' hF' hs' HRW;go_wp2
     go_ret2
     have hcm:=HCM.out;have htk:tk=false:=by
      cases htk:tk with
      |false=>rfl
      |true=>exact absurd (Zy.out.1 htk) HC0.out
     rw[htk]at hcm;refine Or.inr (Or.inr ⟨H0.out,?_,?_,?_⟩)
     ·rw[SV.out];exact HC0.out
     ·rw[SV.out];rfl
     ·rw[SV.out];exact hcm
end Lg
end
section
open Go.RowKit Go.Maps
set_option maxRecDepth 100000
set_option linter.unusedSimpArgs false
set_option linter.unusedVariables false
attribute [local go_sem] Oper.semAt_some
open Dk (DA aj Parts dA aC bQ)
open Sg (aS aA dV Both Came ae flat Chain iG BV)
namespace Lg
theorem vF{dir:ByteArray}{n:Nat}(hn:n≤1099511627776)(hd:dir.size≤1000):(Sn.nameB dir n).size≤10000:=by
 have h:=Sn.oG hn;rw[Lib.size_eq];unfold Sn.nameB Sn.iF Sn.pad;have e:dir.data.toList.length=dir.size:=by simp
 simp;omega
theorem Xp(w:World):(sizeOf 61).run Tryz.prog w= .ok 1 w:=by kernel_rfl
theorem LM(a:Option Addr)(l c n:Nat)(hn:n≤c)(w:World):(Instr.slice 56 (.slice a l c) none (some (.int .i64 (n:Int))) none).run Tryz.prog w= .ok (.slice a n c) w:=by
 have h:=Xp w;cases a<;>simp[Instr.slice,run_underlying Tryz.underlying56,Instr.sliceBounds,run_sliceBound,h,Result.andThen,hn,add_zero]
def CompactS(A:DA)(dir:ByteArray)(v:LV)(ss0:List (Nat×List Bt.aB))(m:Nat×List Bt.aB)(now ak:Int):Nat×Int×DA×LV×List (Nat×List Bt.aB):=
 if (dS A dir v m).1≠0 then(0,(dS A dir v m).1,(dS A dir v m).2.1,(dS A dir v m).2.2,ss0++[m])else
 ((bC dir (dQ (aK (af (ss0++[m])))) now ak (dS A dir v m).2.1 ss0).2.2.1,(bC dir (dQ (aK (af (ss0++[m])))) now ak (dS A dir v m).2.1 ss0).1,
   (bC dir (dQ (aK (af (ss0++[m])))) now ak (dS A dir v m).2.1 ss0).2.1,fF (bC dir (dQ (aK (af (ss0++[m])))) now ak (dS A dir v m).2.1 ss0).1 (dS A dir v m).2.2,
   (bC dir (dQ (aK (af (ss0++[m])))) now ak (dS A dir v m).2.1 ss0).2.2.2++[m])
theorem sW.same{A A':DA}{dir:ByteArray}{ss:List (Nat×List Bt.aB)}(h:sW A dir ss)(hs:dZ A A' []):sW A' dir ss:=by
 refine⟨h.base,fun p hp=>?_,h.chain,h.many⟩;obtain⟨f,hf,hb⟩:=h.file p hp;have:=hs (Sn.nameB dir p.1).data.toList (by simp);unfold bu at this;rw[hf,Option.map_some]at this;obtain⟨g,hg,e⟩:=Option.map_eq_some_iff.1 this;exact⟨g,hg,e.trans hb⟩
theorem SX{fl:List UInt8→Int}{now ak:Int}{xs:List Bt.aB}(h:(flat xs).length≤1048576):fU fl now ak xs≤400000:=by
 have h1:=FN fl now ak xs;have h2:=sZ xs;unfold aK at h1;omega
theorem JF(w:World)(base d:Nat)(F:List Nat)(A:DA)(lb:Nat)(gv:Value)(dir:ByteArray)(v:LV)(ms0:List SM)(m:SM)(h:az w base d F A lb gv dir v (ms0++[m]))(gG:dir.size≤1000)(hok:sW A dir ((ms0++[m]).map SM.abs))(hnd:(((ms0++[m]).map SM.abs).map (·.1)).Nodup)(hd:v.down=false)
 (hg:∀Z,Turn (aJ F lb gv (ms0++[m])) w Z→As.iq Z)(now ak:Int)(hn1: -9223372036854775808≤now)(hn2:now≤9223372036854775807)(ha1: -9223372036854775808≤ak)(ha2:ak≤9223372036854775807)(ss0:List (Nat×List Bt.aB))(mm:Nat×List Bt.aB)(hss:ms0.map SM.abs=ss0)(hmm:m.abs=mm):
 Calls Tryz.prog 50 #[.pointer (some ⟨lb,0,none⟩), .int .i64 now, .int .i64 ak] w fun e w'=>e= .returned (.tuple #[.int .i64 ((CompactS A dir v ss0 mm now ak).1:Nat),aC (CompactS A dir v ss0 mm now ak).2.1])∧
  ig w w' base d (aJ F lb gv (ms0++[m])) (CompactS A dir v ss0 mm now ak).2.2.1 lb dir (CompactS A dir v ss0 mm now ak).2.2.2.1 (CompactS A dir v ss0 mm now ak).2.2.2.2:=by
 have qF:=hok.many;rw[List.length_map,List.length_append,List.length_singleton]at qF;have ape:maxLen=9223372036854775807:=by simp[maxLen]
 have hfm:(flat m.xs).length≤1048576:=iM (p:=m.abs) h.disk hok (by simp);have hxm:=Sg.dw m.xs;obtain⟨L0,hL0⟩:∃L0,L0=aJ F lb gv (ms0++[m]):=⟨_,rfl⟩;have afS:∀k∈L0,k<w.heap.size:=by rw[hL0];exact fun k hk=>(h.lt k hk).2
 obtain⟨wa,Yk⟩:∃wa,wa=(w.alloc (.cells #[.int .i64 now] 3)).alloc (.cells #[.int .i64 ak] 3):=⟨_,rfl⟩;have hta:Turn [] w wa:=by rw[Yk];exact((Turn.refl [] w).alloc _).alloc _
 have hb1:wa.heap[w.heap.size]? =some (.cells #[.int .i64 now] 3 (0,0)):=by rw[Yk];exact((Turn.refl [] _).alloc _).heap (ai w _) (by simp)
 have hb2:wa.heap[w.heap.size+1]? =some (.cells #[.int .i64 ak] 3 (0,0)):=by
  have:=ai (w.alloc (.cells #[.int .i64 now] 3)) (.cells #[.int .i64 ak] 3);rw[World.size_alloc]at this;rw[Yk];exact this
 have auO:wa.heap.size=w.heap.size+2:=by rw[Yk];simp
 have hfl:=Fz wa base d F A lb gv dir v ms0 m (h.still hta) (by omega) (by omega) (by have:=vF (hok.base m.abs (by simp)) gG;show(Sn.nameB dir m.abs.1).size≤maxLen;omega) hd
  (fun Z hZ=>hg Z ((hta.mono (by simp)).same hZ))
 have adH:=oK A (bJ dir m.abs.1) [];have ac1:sW (dS A dir v m.abs).2.1 dir ((ms0++[m]).map SM.abs):=hok.same adH;rw[←hL0]at hfl hg⊢;rw[hmm]at hfl ac1;have hfe:CompactS A dir v ss0 mm now ak=if (dS A dir v mm).1≠0 then(0,(dS A dir v mm).1,(dS A dir v mm).2.1,(dS A dir v mm).2.2,ss0++[mm])else
  ((bC dir (dQ (aK (af (ss0++[mm])))) now ak (dS A dir v mm).2.1 ss0).2.2.1,(bC dir (dQ (aK (af (ss0++[mm])))) now ak (dS A dir v mm).2.1 ss0).1,
  (bC dir (dQ (aK (af (ss0++[mm])))) now ak (dS A dir v mm).2.1 ss0).2.1,fF (bC dir (dQ (aK (af (ss0++[mm])))) now ak (dS A dir v mm).2.1 ss0).1 (dS A dir v mm).2.2,
  (bC dir (dQ (aK (af (ss0++[mm])))) now ak (dS A dir v mm).2.1 ss0).2.2.2++[mm]):=rfl
 obtain⟨ec,A1,v1,hFS⟩:∃ec A1 v1,dS A dir v mm=(ec,A1,v1):=⟨_,_,_,rfl⟩;rw[hFS]at hfl ac1 hfe;simp only at hfl ac1 hfe;have abI:(ms0++[m]).map SM.abs=ss0++[mm]:=by rw[List.map_append,List.map_singleton,hss,hmm]
 rw[abI]at hfl ac1 hnd;obtain⟨fl,Xq⟩:∃fl,fl=dQ (aK (af (ss0++[mm]))):=⟨_,rfl⟩;rw[←Xq]at hfe;obtain⟨RES,Xr⟩:∃RES,RES=bC dir fl now ak A1 ss0:=⟨_,rfl⟩;rw[←Xr]at hfe;obtain⟨CS,hCS⟩:∃CS,CS=CompactS A dir v ss0 mm now ak:=⟨_,rfl⟩;rw[←hCS]at hfe⊢;have aii:ss0.length=ms0.length:=by rw[←hss,List.length_map]
 have WM:=hide hfl;have xq:=hide ac1;have HFE:=hide hfe;have apg:=hide Xr;have aph:=hide Xq;have HG:=hide hg;have U0:=hide afS;have UH:=hide hta;have HB1:=hide hb1;have HB2:=hide hb2;have HWA:=hide Yk;have Yl:=hide hnd;have hlb:=lt_of_heap h.box;clear h hok hfl ac1 adH hfe hFS Xr hCS Xq hg afS hta hb1 hb2 Yk hnd abI hss hmm hL0 hfm hxm hd;go_enter Tryz.func50,Tryz.ntmps50
 go_wp2_with fail
 rw[show(w.alloc (.cells #[.int .i64 now] 3)).alloc (.cells #[.int .i64 ak] 3)=wa from HWA.out.symm];refine WM.out.mono ?_;rintro e wf ⟨rfl,hdf⟩;by_cases h0:ec=0
 ·subst h0
  rw[show aC 0= .nilIface from rfl];obtain⟨F1,gv1,ms1,hl1,hm1,ht1,hf1⟩:=hdf;have ajd:=rf wf base d F1 A1 lb gv1 dir v1 ms1 hl1 gG (by rw[hm1];exact xq.out);rw[hm1]at ajd;have agB:∀k∈aJ F1 lb gv1 ms1,k<wf.heap.size:=fun k hk=>(hl1.lt k hk).2
  have HL1:=hide hl1;have HM1:=hide hm1;have HT1:=hide ht1;have HF1:=hide hf1;have Zz:=hide ajd;have apj:=hide agB;have auQ:=ht1.size;clear hl1 hm1 ht1 hf1 ajd agB WM;go_wp2_with fail
  refine Zz.out.mono ?_;rintro e w2 ⟨mb,nn,rfl,him,hmb,hnn,ht2⟩;have auR:=ht2.size;obtain⟨wb,hwb⟩:∃wb,wb=w2.alloc (.cells #[.map (some mb)] 90):=⟨_,rfl⟩;have htb:Turn [] wf wb:=by rw[hwb];exact ht2.alloc _
  have auS:wb.heap.size=w2.heap.size+1:=by rw[hwb];simp
  have hcb:mV wb w2.heap.size w.heap.size (w.heap.size+1) mb nn fl now ak:=by
   refine⟨by rw[hwb];exact ai w2 _,?_,?_,?_⟩
   ·exact htb.heap (HT1.out.heap HB1.out (fun hm=>by have:=U0.out _ hm;omega)) (by simp)
   ·exact htb.heap (HT1.out.heap HB2.out (fun hm=>by have:=U0.out _ hm;omega)) (by simp)
   ·rw[aph.out,hwb]
    exact him.still ((Turn.refl [] w2).alloc _)
  obtain⟨ms2,m2,rfl,hm2,lL⟩:=dB HM1.out;have ZA:mb<wb.heap.size:=by
   have:=hcb.map;obtain⟨D,⟨es,clock,hb, -⟩, -⟩:=this;exact(Array.getElem?_eq_some_iff.1 hb).1
  have agL:=HL1.out.still htb;obtain⟨g1,cap1,agS⟩:∃g cap,gv1= .slice (some ⟨g,0,none⟩) (ms2.length+1) cap:=by
   obtain⟨g,cap,e, -⟩:=agL.row.at fJ (j:=ms2.length) (by simp);exact⟨g,cap,by rw[e];simp⟩
  subst agS;obtain⟨ga,gc,e9,ale,alf⟩:=agL.row.form;simp only[List.length_append,List.length_singleton,Value.slice.injEq,true_and]at e9;obtain⟨-,rfl⟩:=e9;rw[List.length_append,List.length_singleton]at ale;rw[ape]at alf;obtain⟨L1,hL1⟩:∃L1,L1=aJ F1 lb (.slice (some ⟨g1,0,none⟩) (ms2.length+1) cap1) (ms2++[m2]):=⟨_,rfl⟩;have Xt:∀x∈L1,x<wf.heap.size∧(x∈L0∨wa.heap.size≤x):=by
   rw[hL1];exact fun x hx=>⟨apj.out x hx,HF1.out x hx⟩
  have hbx:∀S:List Nat,(∀x∈S,x∈L1∨wb.heap.size≤x)→w2.heap.size∉S∧w.heap.size∉S∧w.heap.size+1∉S∧mb∉S:=by
   intro S hS;have hno:∀x,x<wb.heap.size→(x<wf.heap.size→x∉L0∧x<wa.heap.size)→x∉S:=by
    intro x h1 h2 hm;rcases hS x hm with h|h
    ·have h3:=Xt x h
     have h4:=h2 h3.1;rcases h3.2 with h5|h5
     ·exact h4.1 h5
     ·omega
    ·omega
   refine⟨hno _ (by omega) (fun h=>by omega),hno _ (by omega) (fun h=>⟨fun hm=>by have:=U0.out _ hm;omega,by omega⟩),hno _ (by omega) (fun h=>⟨fun hm=>by have:=U0.out _ hm;omega,by omega⟩),hno _ ZA (fun h=>by omega)⟩
  have ZB:Turn L0 w wb:=((UH.out.mono (T:=L0) (by simp)).same HT1.out).same (htb.mono (by simp))
  have akW:ms2.length≤999:=by have:ms2.length=ms0.length:=by rw[←aii,←hm2,List.length_map]
                              omega
  have aij:((ms2++[m2]).map SM.abs).map (·.1)=(ss0++[mm]).map (·.1):=by rw[List.map_append,List.map_singleton,hm2,lL]
  have ac2:sW A1 dir ((ms2++[m2]).map SM.abs):=by rw[List.map_append,List.map_singleton,hm2,lL];exact xq.out
  have HLB:=hide agL;have VJ:=hide hcb;have BR:=hide hbx;have SY:=hide ZB;have HM2:=hide hm2;have ZC:=hide lL;have apl:=hide aij;have KN:=hide ac2;have HWB:=hide hwb;have apm:=hide hL1;have ZE:=hide Xt;clear aii agL hcb hbx ZB hm2 lL aij ac2 hwb Xt him htb hmb hnn ht2 Zz HM1 HL1 xq ZA;go_upto_region 9 with fail
  rw[show w2.alloc (.cells #[.map (some mb)] 90)=wb from HWB.out.symm];refine jT [] (by kernel_rfl) rfl ?_;apply Lo.r0 1 rfl 0 (by intro u;conv=>lhs;whnf) rfl
  ·intro a w1 hR e0 K hK
   go_simp
   exact hK _ rfl
  apply Lo.r1 2 rfl 31 0 (fun _=>rfl) rfl (by kernel_rfl)
  ·intro a w1 hR e31 K hK
   go_simp
   exact hK _ rfl
  apply Lo.r1 3 rfl 32 1 (fun _=>rfl) rfl (by kernel_rfl)
  ·intro a w1 hR e32 K hK
   go_simp
   exact hK _ rfl
  refine Lo.df 4 rfl rfl [2] (.slice (some ⟨g1,0,none⟩) (ms2.length+1) cap1) (by kernel_rfl) (fun u w1 hR hF=>?_) (Turn.refl _) ?_
  ·obtain⟨h2, -⟩:=hF
   refine⟨rfl,fun a ha K hK=>?_⟩;have e33:=(ha 33).trans h2;clear ha h2;have hL:=HLB.out.still hR.dr;have c3:=hL.c3;have z1:=lt_of_heap hL.box;go_simp
   exact hK _ rfl
  apply Lo.r0 5 rfl 0 (by intro u;conv=>lhs;whnf) rfl
  ·intro a w1 hR e0 K hK
   go_simp
   exact hK _ rfl
  apply Lo.r1 6 rfl 35 4 (fun _=>rfl) rfl (by kernel_rfl)
  ·intro a w1 hR e35 K hK
   go_simp
   exact hK _ rfl
  apply Lo.r1 7 rfl 36 5 (fun _=>rfl) rfl (by kernel_rfl)
  ·intro a w1 hR e36 K hK
   go_simp
   exact hK _ rfl
  refine Lo.df 8 rfl rfl [6] (.slice (some ⟨g1,0,none⟩) (ms2.length+1) cap1) (by kernel_rfl) (fun u w1 hR hF=>?_) (Turn.refl _) ?_
  ·obtain⟨h6, -⟩:=hF
   refine⟨rfl,fun a ha K hK=>?_⟩;have e37:=(ha 37).trans h6;clear ha h6;have hL:=HLB.out.still hR.dr;have c3:=hL.c3;have z1:=lt_of_heap hL.box;go_simp
   exact hK _ rfl
  apply Lo.r1 9 rfl 38 7 (fun _=>rfl) rfl (by kernel_rfl)
  ·intro a w1 hR e38 K hK
   go_simp
   exact hK _ rfl
  refine Lo.df 10 rfl rfl [8] (.int .i64 (ms2.length:Int)) (by kernel_rfl) (fun u w1 hR hF=>?_) (Turn.refl _) ?_
  ·obtain⟨h8, -⟩:=hF
   refine⟨rfl,fun a ha K hK=>?_⟩;have e39:=(ha 39).trans h8;clear ha h8;go_simp
   refine hK _ ?_;first|(rw[IntWalk.i64_in _ (by omega)];done)|(rw[IntWalk.i64_in _ (by omega)];congr 1;omega)
  refine Lo.df 11 rfl rfl [3,9] (.slice (some ⟨g1,0,none⟩) ms2.length cap1) (by kernel_rfl) (fun u w1 hR hF=>?_) (Turn.refl _) ?_
  ·obtain⟨h3,h9, -⟩:=hF
   refine⟨rfl,fun a ha K hK=>?_⟩;have e34:=(ha 34).trans h3;have e40:=(ha 40).trans h9;clear ha h3 h9;have auU:=LM (some ⟨g1,0,none⟩) (ms2.length+1) cap1 ms2.length (by omega);go_simp
   exact hK _ rfl
  refine Lo.df 12 rfl rfl [10] (.int .i64 (ms2.length:Int)) (by kernel_rfl) (fun u w1 hR hF=>?_) (Turn.refl _) ?_
  ·obtain⟨h10, -⟩:=hF
   refine⟨rfl,fun a ha K hK=>?_⟩;have e41:=(ha 41).trans h10;clear ha h10;go_simp
   exact hK _ rfl
  apply Lo.lu 13 rfl rfl [] (by kernel_rfl) (Turn.refl _);apply Exists.intro;apply And.intro
  ·intro u w1 hR hF
   clear hF;refine⟨rfl,fun a ha K hK=>?_⟩;clear ha;go_simp
   exact hK _ rfl
  refine Lo.done [10,11,12] (fun u w1 bI hSd hF=>?_);clear hSd;obtain⟨f10,f11,f12, -⟩:=hF;have d10:u 10=_:=f10;have d11:u 11=_:=f11;have d12:u 12=_:=f12;clear f10 f11 f12;simp only[ax,Act.put,List.setIfInBounds_toArray,List.set_cons_succ,List.set_cons_zero,Nat.zero_add,Nat.reduceAdd,d10,d11,d12];have abd:Turn [] wb w1:=bI.dr;obtain⟨wc,rfl⟩:∃wc,wc=w1:=⟨_,rfl⟩;have Xu:=hide abd;clear abd bI;go_wp2
  go_loopw [12,43] (fun sv kv wr=>∃(k sum:Nat) (Ak:DA) (Fk:List Nat) (dn:List SM),k≤ms2.length∧kv= .int .i64 k∧sv= .int .i64 sum∧sum≤400000*k∧dn.length=k∧
   az wr base d Fk Ak lb (.slice (some ⟨g1,0,none⟩) (ms2.length+1) cap1) dir v1 (dn++ms2.drop k++[m2])∧sW Ak dir ((dn++ms2.drop k++[m2]).map SM.abs)∧((dn++ms2.drop k++[m2]).map SM.abs).map (·.1)=(ss0++[mm]).map (·.1)∧
   RES=((bC dir fl now ak Ak ((ms2.drop k).map SM.abs)).1,(bC dir fl now ak Ak ((ms2.drop k).map SM.abs)).2.1,sum+(bC dir fl now ak Ak ((ms2.drop k).map SM.abs)).2.2.1,dn.map SM.abs++(bC dir fl now ak Ak ((ms2.drop k).map SM.abs)).2.2.2)∧
   mV wr w2.heap.size w.heap.size (w.heap.size+1) mb nn fl now ak∧Turn L1 wb wr∧∀x∈aJ Fk lb (.slice (some ⟨g1,0,none⟩) (ms2.length+1) cap1) (dn++ms2.drop k++[m2]),x∈L1∨wb.heap.size≤x) (fun _ kv _=>ms2.length-(intOf kv).toNat)
  case atStart=>
   refine⟨0,0,A1,F1,[],Nat.zero_le _,rfl,rfl,by omega,rfl,by simpa using HLB.out.still Xu.out,by simpa using KN.out,by simpa using apl.out,?_,VJ.out.still Xu.out,Xu.out.mono (by simp),?_⟩
   ·rw[apg.out,List.drop_zero,HM2.out]
    simp
   ·intro x hx
    rw[apm.out];exact .inl (by simpa using hx)
  case round=>
   obtain⟨k,sum,Ak,Fk,dn,hk,rfl,rfl,akF,hdn,jI,D7,afX,hre,U1,htw,hft⟩:=hrel;by_cases hlt:k<ms2.length
   ·have hdr:ms2.drop k=ms2[k]::ms2.drop (k+1):=List.drop_eq_getElem_cons hlt
    obtain⟨mk,hmk⟩:∃mk,mk=ms2[k]:=⟨_,rfl⟩;rw[←hmk]at hdr;obtain⟨R,hR⟩:∃R,R=ms2.drop (k+1):=⟨_,rfl⟩;rw[←hR]at hdr;rw[hdr]at jI D7 afX hre hft;have alh:dn++mk::R++[m2]=dn++mk::(R++[m2]):=by simp
    rw[alh]at jI D7 afX hft;obtain⟨g',cap',e,hc, -⟩:=jI.row.at fJ (j:=k) (by simp;omega);simp only[Value.slice.injEq,Option.some.injEq,Addr.mk.injEq,and_true]at e;obtain⟨rfl, -,rfl⟩:=e;have hgk:(dn++mk::(R++[m2]))[k]'(by simp;omega)=mk:=by
     rw[List.getElem_append_right (by omega)];simp[hdn]
    rw[hgk]at hc;have c0:wr.cell? ⟨g1,k,none⟩=some (.pointer (some ⟨mk.sb,0,none⟩)):=by simpa[DL]using hc 0 (by omega)
    have abI:(dn++mk::(R++[m2])).map SM.abs=dn.map SM.abs++mk.abs::(R++[m2]).map SM.abs:=by simp
    have hpm:mk.abs∈(dn++mk::(R++[m2])).map SM.abs:=by simp
    have hbn:mk.n≤1099511627776:=D7.base mk.abs hpm;obtain⟨fi,hfi,ZF⟩:=D7.file mk.abs hpm;have ZG:Chain (mk.n:Int) mk.xs:=D7.chain mk.abs hpm;have hfs:(flat mk.xs).length≤1048576:=iM jI.disk D7 hpm;have aeo:=JE wr base d Fk Ak mk.sb mk.sv (Sn.nameB dir mk.n) mk.n mk.xs (jI.both (by simp)) (vF hbn gG) fi hfi ZF ZG _ _ _ mb nn fl now ak U1 hfs;unfold VD at aeo;have hgf:=SX (fl:=fl) (now:=now) (ak:=ak) hfs;have U2:=Yl.out;rw[←afX]at U2;rw[abI]at D7 U2;have ZH:=D7.rewrite (s1:=dn.map SM.abs) (p:=mk.abs) (s2:=(R++[m2]).map SM.abs) U2 fl now ak;have NY:=hide aeo;have xP:=hide jI;have apo:=hide D7;have VL:=hide afX;have HRE:=hide hre;have ZI:=hide U1;have dO:=hide htw;have KQ:=hide hft;have apr:=hide ZH;have DF:=hide hR;have auV:=hide abI;have hk1:k+1≤ms2.length:=hlt;clear hdr hmk jI D7 afX hre U1 htw hft hc hgk abI hpm hbn hfi ZF ZG hfs aeo U2 ZH hR alh;go_wp2_with fail
    refine NY.out.mono ?_;rintro e w3 hp;rcases hp with⟨hz,rfl,ht3⟩|⟨hz,hr0,rfl,hcm⟩|⟨hz,hr0,rfl,hcm⟩
    ·have hl3:az w3 base d Fk Ak lb (.slice (some ⟨g1,0,none⟩) (ms2.length+1) cap1) dir v1 (dn++[mk]++ms2.drop (k+1)++[m2]):=by
      rw[←DF.out];simpa using xP.out.still ht3
     have ho3:sW Ak dir ((dn++[mk]++ms2.drop (k+1)++[m2]).map SM.abs):=by rw[←DF.out];simpa using apo.out
     have hk3:((dn++[mk]++ms2.drop (k+1)++[m2]).map SM.abs).map (·.1)=(ss0++[mm]).map (·.1):=by rw[←DF.out];simpa using VL.out
     have hr3:RES=((bC dir fl now ak Ak ((ms2.drop (k+1)).map SM.abs)).1,(bC dir fl now ak Ak ((ms2.drop (k+1)).map SM.abs)).2.1,sum+(bC dir fl now ak Ak ((ms2.drop (k+1)).map SM.abs)).2.2.1,(dn++[mk]).map SM.abs++(bC dir fl now ak Ak ((ms2.drop (k+1)).map SM.abs)).2.2.2):=by
      rw[HRE.out,←DF.out,List.map_cons,bC,if_pos (show fU fl now ak mk.abs.2=0 from hz)];simp
     have hf3:∀x∈aJ Fk lb (.slice (some ⟨g1,0,none⟩) (ms2.length+1) cap1) (dn++[mk]++ms2.drop (k+1)++[m2]),x∈L1∨wb.heap.size≤x:=by
      rw[←DF.out];intro x hx;exact KQ.out x (by simpa using hx)
     have HL3:=hide hl3;have HO3:=hide ho3;have HK3:=hide hk3;have HR3:=hide hr3;have HF3:=hide hf3;have HC3:=hide (ZI.out.still ht3);have HT3:=hide (dO.out.same (ht3.mono (by simp)));clear hl3 ho3 hk3 hr3 hf3 ht3 hz NY;go_wp2
     all_goals refine⟨⟨k+1,sum,Ak,Fk,dn++[mk],hk1,by go_num,by go_num,by omega,by simp[hdn],HL3.out,HO3.out,HK3.out,HR3.out,HC3.out,HT3.out,HF3.out⟩,?_⟩
     all_goals (simp only[intOf];omega)
    ·obtain⟨F3,sv3,ahL,ht3,aje⟩:=xP.out.back hcm
     obtain⟨A3,hA3⟩:∃A3,A3=(aG Ak (Sn.nameB dir mk.n) mk.n (mk.xs.map (bn fl now ak))).2.1:=⟨_,rfl⟩;have ajf:=apr.out.2 hr0;rw[show(aG Ak (Sn.nameB dir mk.abs.1) mk.abs.1 (mk.abs.2.map (bn fl now ak))).2.1=A3 from hA3.symm]at ajf;rw[←hA3]at ahL;obtain⟨mk3,agU⟩:∃mk3:SM,mk3=⟨mk.sb,sv3,mk.n,mk.xs.map (bn fl now ak)⟩:=⟨_,rfl⟩;rw[←agU]at ahL aje;have wM:mk3.abs=(mk.n,mk.xs.map (bn fl now ak)):=by rw[agU];rfl
     have hn3:mk3.n=mk.n:=by rw[agU]
     have hx3:mk3.xs=mk.xs.map (bn fl now ak):=by rw[agU]
     have hl3:az w3 base d F3 A3 lb (.slice (some ⟨g1,0,none⟩) (ms2.length+1) cap1) dir v1 (dn++[mk3]++ms2.drop (k+1)++[m2]):=by
      rw[←DF.out];simpa using ahL
     have ho3:sW A3 dir ((dn++[mk3]++ms2.drop (k+1)++[m2]).map SM.abs):=by
      rw[←DF.out];have e:(dn++[mk3]++R++[m2]).map SM.abs=dn.map SM.abs++(mk.abs.1,mk.abs.2.map (bn fl now ak))::(R++[m2]).map SM.abs:=by
       simp only[List.map_append,List.map_cons,List.map_nil,wM,List.append_assoc,List.cons_append,List.nil_append];rfl
      rw[e];exact ajf
     have hk3:((dn++[mk3]++ms2.drop (k+1)++[m2]).map SM.abs).map (·.1)=(ss0++[mm]).map (·.1):=by
      rw[←DF.out,←VL.out];simp[hn3,SM.abs]
     have hr3:RES=((bC dir fl now ak A3 ((ms2.drop (k+1)).map SM.abs)).1,(bC dir fl now ak A3 ((ms2.drop (k+1)).map SM.abs)).2.1,(sum+fU fl now ak mk.xs)+(bC dir fl now ak A3 ((ms2.drop (k+1)).map SM.abs)).2.2.1,(dn++[mk3]).map SM.abs++(bC dir fl now ak A3 ((ms2.drop (k+1)).map SM.abs)).2.2.2):=by
      rw[HRE.out,←DF.out,List.map_cons,bC,if_neg (show ¬fU fl now ak mk.abs.2=0 from hz),if_neg (show ¬(aG Ak (Sn.nameB dir mk.abs.1) mk.abs.1 (mk.abs.2.map (bn fl now ak))).1≠0 from fun h=>h hr0)];rw[show(aG Ak (Sn.nameB dir mk.abs.1) mk.abs.1 (mk.abs.2.map (bn fl now ak))).2.1=A3 from hA3.symm];simp[hn3,hx3,SM.abs,Nat.add_assoc]
     have hin:∀x∈Fk++mk.foot,x∈aJ Fk lb (.slice (some ⟨g1,0,none⟩) (ms2.length+1) cap1) (dn++mk::(R++[m2])):=fun x hx=>by
      rcases List.mem_append.1 hx with h1|h1
      ·exact ay.2 (.inr (.inr (.inr h1)))
      ·exact ay.2 (.inr (.inr (.inl ⟨mk,by simp,h1⟩)))
     have hf3:∀x∈aJ F3 lb (.slice (some ⟨g1,0,none⟩) (ms2.length+1) cap1) (dn++[mk3]++ms2.drop (k+1)++[m2]),x∈L1∨wb.heap.size≤x:=by
      rw[←DF.out];intro x hx;rcases aje x (by simpa using hx)with h1|h1
      ·exact KQ.out x h1
      ·exact .inr (Nat.le_trans dO.out.size h1)
     obtain⟨q0,q1,q2,q3⟩:=BR.out (Fk++mk.foot) (fun x hx=>KQ.out x (hin x hx));have HL3:=hide hl3;have HO3:=hide ho3;have HK3:=hide hk3;have HR3:=hide hr3;have HF3:=hide hf3;have HC3:=hide (ZI.out.kept ht3 q0 q1 q2 q3);have HT3:=hide (dO.out.trans ht3 (fun x hx=>KQ.out x (hin x hx)));clear hl3 ho3 hk3 hr3 hf3 ht3 hz hr0 hcm ahL aje hA3 ajf agU wM hn3 hx3 hin q0 q1 q2 q3 NY;go_wp2
     all_goals refine⟨⟨k+1,sum+fU fl now ak mk.xs,A3,F3,dn++[mk3],hk1,by go_num,by go_num,by omega,by simp[hdn],HL3.out,HO3.out,HK3.out,HR3.out,HC3.out,HT3.out,HF3.out⟩,?_⟩
     all_goals (simp only[intOf];omega)
    ·obtain⟨F3,sv3,hl3,ht3,hf3⟩:=xP.out.back hcm
     obtain⟨A3,hA3⟩:∃A3,A3=(aG Ak (Sn.nameB dir mk.n) mk.n (mk.xs.map (bn fl now ak))).2.1:=⟨_,rfl⟩;obtain⟨c,hcv⟩:∃c,c=(aG Ak (Sn.nameB dir mk.n) mk.n (mk.xs.map (bn fl now ak))).1:=⟨_,rfl⟩;rw[←hA3]at hl3;rw[←hcv]at hr0⊢;have hin:∀x∈Fk++mk.foot,x∈aJ Fk lb (.slice (some ⟨g1,0,none⟩) (ms2.length+1) cap1) (dn++mk::(R++[m2])):=fun x hx=>by
      rcases List.mem_append.1 hx with h1|h1
      ·exact ay.2 (.inr (.inr (.inr h1)))
      ·exact ay.2 (.inr (.inr (.inl ⟨mk,by simp,h1⟩)))
     have hto:Turn L1 wb w3:=dO.out.trans ht3 (fun x hx=>KQ.out x (hin x hx));have adw:∀x∈L1,x∈L0∨w.heap.size≤x:=fun x hx=>(ZE.out x hx).2.imp_right (fun h=>by omega)
     have ht0:Turn L0 w w3:=SY.out.trans hto adw;have hnt:=rD w3 base d F3 A3 lb _ dir v1 _ hl3 c (HG.out w3 ht0);have alk:∀x∈aJ F3 lb (.slice (some ⟨g1,0,none⟩) (ms2.length+1) cap1) (dn++⟨mk.sb,sv3,mk.n,mk.xs⟩::(R++[m2])),x∈L0∨w.heap.size≤x:=by
      intro x hx;rcases hf3 x hx with h1|h1
      ·rcases KQ.out x h1 with h2|h2
       ·exact adw x h2
       ·exact .inr (by have:=SY.out.size;omega)
      ·exact .inr (by have:=SY.out.size;have:=dO.out.size;omega)
     have hr3:RES=(c,A3,sum,dn.map SM.abs++(mk.abs::R.map SM.abs)):=by
      rw[HRE.out,List.map_cons,bC,if_neg (show ¬fU fl now ak mk.abs.2=0 from hz),if_pos (show(aG Ak (Sn.nameB dir mk.abs.1) mk.abs.1 (mk.abs.2.map (bn fl now ak))).1≠0 from by rw[show(aG Ak (Sn.nameB dir mk.abs.1) mk.abs.1 (mk.abs.2.map (bn fl now ak))).1=c from hcv.symm];exact hr0)];rw[show(aG Ak (Sn.nameB dir mk.abs.1) mk.abs.1 (mk.abs.2.map (bn fl now ak))).2.1=A3 from hA3.symm,show(aG Ak (Sn.nameB dir mk.abs.1) mk.abs.1 (mk.abs.2.map (bn fl now ak))).1=c from hcv.symm];rfl
     have hcs:CS=(sum,c,A3,fF c v1,(dn++⟨mk.sb,sv3,mk.n,mk.xs⟩::(R++[m2])).map SM.abs):=by
      rw[HFE.out,if_neg (by simp),hr3];simp[←ZC.out,SM.abs]
     have HNT:=hide hnt;have yZ:=hide hcs;have HT0:=hide ht0;have apv:=hide alk;have HR0:=hide hr0;clear hnt hcs ht0 alk hr0 hcv hA3 hin hto adw hr3 hz hcm hl3 ht3 hf3 NY;go_wp2_with fail
     refine HNT.out.mono ?_;rintro e w4 ⟨rfl,hd4⟩;have hd5:=hd4.then HT0.out apv.out;have HD5:=hide hd5;clear hd4 hd5 HNT;go_wp2
     go_ret2
     rw[yZ.out];refine⟨?_,HD5.out⟩;have:aC c= .iface 45 (.int .i64 c):=by unfold aC;rw[if_neg HR0.out];rfl
     rw[this];rfl
   ·obtain rfl:k=ms2.length:=by omega
    have hdz:ms2.drop ms2.length=[]:=List.drop_length;rw[hdz]at jI hre hft;have hcs:CS=(sum,0,Ak,v1,(dn++[]++[m2]).map SM.abs):=by
     rw[HFE.out,if_neg (by simp),hre];have e:∀v:LV,fF 0 v=v:=fun v=>by unfold fF;rw[if_neg (by omega)]
     simp[bC,ZC.out,e]
    have adw:∀x∈L1,x∈L0∨w.heap.size≤x:=fun x hx=>(ZE.out x hx).2.imp_right (fun h=>by omega)
    have ht0:Turn L0 w wr:=SY.out.trans htw adw;have aar:ig w wr base d L0 Ak lb dir v1 ((dn++[]++[m2]).map SM.abs):=⟨_,_,_,jI,rfl,ht0,fun x hx=>by
     rcases hft x hx with h2|h2
     ·exact adw x h2
     ·exact .inr (by have:=SY.out.size;omega)⟩
    have yZ:=hide hcs;have jK:=hide aar;clear hcs aar adw ht0 jI D7 afX hre U1 htw hft hdz;go_wp2
    go_ret2
    rw[yZ.out];exact⟨rfl,jK.out⟩
 ·have hr:aC ec= .iface 45 (.int .i64 ec):=by unfold aC;rw[if_neg h0];rfl
  have hcs:CS=(0,ec,A1,v1,ss0++[mm]):=by rw[HFE.out,if_pos h0]
  have yZ:=hide hcs;have HR:=hide hr;have HD:=hide (ig.before UH.out hdf);rw[hr];clear hr hcs hdf WM h0;go_wp2
  go_ret2
  rw[yZ.out];refine⟨?_,HD.out⟩;rw[HR.out];rfl
end Lg
end
section
open Go.RowKit Go.Maps
set_option linter.unusedSimpArgs false
set_option linter.unusedVariables false
namespace Dk
def nS(fs:List UInt8)(k:Nat):Nat:=if fs.length=0 then 0 else(fs.getD (k%fs.length) 0).toNat
set_option maxRecDepth 100000 in
theorem S9(w:World)(v:Value)(fs:List UInt8)(hx:SliceAt w v (fs.map ah))(k:Nat)(hk:k≤1048576)(hl:fs.length≤9223372036854775807):
 Calls Tryz.prog 53 #[v, .int .i64 k] w fun e w'=>e= .returned (.int .i64 (nS fs k))∧w=w':=by
 rcases hx with⟨rfl,hb⟩|⟨a,c,rfl,hc⟩
 ·have hb':fs=[]:=by simpa using hb
  subst hb';go_enter Tryz.func53,Tryz.ntmps53
  go_wp2
  go_ret
  exact⟨rfl,rfl⟩
 ·simp only[List.length_map]
  by_cases h0:fs.length=0
  ·have HE:Hid (nS fs k=0):=by show _=_;simp[nS,h0]
   have hz:((fs.length:Int)==0)=true:=by simp[h0]
   clear hc h0;go_enter Tryz.func53,Tryz.ntmps53
   go_wp2
   go_ret
   exact⟨nU (by rw[HE.out];rfl),rfl⟩
  ·have hlt:k%fs.length<fs.length:=Nat.mod_lt _ (Nat.pos_of_ne_zero h0)
   have HE:Hid (nS fs k=(fs.getD (k%fs.length) 0).toNat):=by show _=_;simp[nS,h0]
   have hz:((fs.length:Int)==0)=false:=by rw[beq_eq_false_iff_ne];omega
   have agl:=hc (k%fs.length) (ah (fs.getD (k%fs.length) 0)) (by simp[List.getElem?_eq_getElem hlt,List.getD]);unfold ah at agl;have hb8:(fs.getD (k%fs.length) 0).toNat<256:=(fs.getD (k%fs.length) 0).toNat_lt;clear hc;have aiB:(0:Int)<(fs.length:Int):=by omega
   go_enter Tryz.func53,Tryz.ntmps53
   go_wp2
   go_ret
   exact⟨nU (by rw[HE.out];have:=UInt8.toNat_lt fs[k%fs.length];simp[List.getD,List.getElem?_eq_getElem hlt];exact IntWalk.wrap64_in _ (by omega)),rfl⟩
end Dk
end
end Go.Proofs.YtficbckncieabaaGreatDoor
section
open Go.Shelf
namespace Go.Proofs
def Tryz.vG:Go.Shelf.Ren:=⟨fun|7=>80|10=>115|n=>n,fun|23=>46|26=>9|3=>96|28=>94|0=>0|27=>93|33=>127|4=>4|n=>n,fun|n=>n⟩
theorem Tryz.keys80:Go.Proofs.SlLaysZ.n7 Tryz.prog Tryz.vG:={
 mixed:=by kernel_rfl
 f7:=⟨Tryz.f80.name,by decide,Tryz.func80.trans (congrArg some (by kernel_rfl))⟩
 f10:=⟨Tryz.f115.name,by decide,Tryz.func115.trans (congrArg some (by kernel_rfl))⟩
 t0:=Tryz.underlying0
 a0:=Tryz.isAgg0
 z0:=Tryz.sizeOf0
 v0:=Tryz.zeroValue0
 t4:=Tryz.underlying4
 a4:=Tryz.isAgg4
 z4:=Tryz.sizeOf4
 v4:=Tryz.zeroValue4
 t23:=Tryz.underlying46
 a23:=Tryz.isAgg46
 z23:=Tryz.sizeOf46
 v23:=Tryz.zeroValue46
 t26:=Tryz.underlying9
 a26:=Tryz.isAgg9
 z26:=Tryz.sizeOf9
 v26:=Tryz.zeroValue9
 t27:=Tryz.underlying93
 a27:=Tryz.isAgg93
 z27:=Tryz.sizeOf93
 v27:=Tryz.zeroValue93
 t28:=Tryz.underlying94
 a28:=Tryz.isAgg94
 z28:=Tryz.sizeOf94
 v28:=Tryz.zeroValue94
 t33:=Tryz.underlying127
 a33:=Tryz.isAgg127
 z33:=Tryz.sizeOf127
 v33:=Tryz.zeroValue127}
def Tryz.wX:Go.Shelf.Ren:=⟨fun|6=>79|8=>96|9=>114|11=>127|13=>98|12=>157|23=>137|24=>138|14=>179|15=>180|16=>181|17=>182|18=>183|19=>184|20=>185|21=>186|22=>187|25=>199|26=>164|27=>165|28=>200|29=>201|30=>202|31=>209|n=>n,fun|26=>9|28=>94|24=>77|0=>0|3=>3|37=>44|48=>180|50=>195|4=>4|40=>187|39=>186|45=>191|5=>5|9=>9|51=>219|55=>223|57=>245|58=>246|33=>127|n=>n,fun|n=>n⟩
theorem Tryz.sorted79:Go.Proofs.SlLaysZ.n6 Tryz.prog Tryz.wX:={
 mixed:=by kernel_rfl
 f6:=⟨Tryz.f79.name,by decide,Tryz.func79.trans (congrArg some (by kernel_rfl))⟩
 f8:=⟨Tryz.f96.name,by decide,Tryz.func96.trans (congrArg some (by kernel_rfl))⟩
 f11:=⟨Tryz.f127.name,by decide,Tryz.func127.trans (congrArg some (by kernel_rfl))⟩
 t0:=Tryz.underlying0
 a0:=Tryz.isAgg0
 z0:=Tryz.sizeOf0
 v0:=Tryz.zeroValue0
 t24:=Tryz.underlying77
 a24:=Tryz.isAgg77
 z24:=Tryz.sizeOf77
 v24:=Tryz.zeroValue77
 t26:=Tryz.underlying9
 a26:=Tryz.isAgg9
 z26:=Tryz.sizeOf9
 v26:=Tryz.zeroValue9
 t28:=Tryz.underlying94
 a28:=Tryz.isAgg94
 z28:=Tryz.sizeOf94
 v28:=Tryz.zeroValue94
 i26:=by kernel_rfl}
def Tryz.JG:Go.Shelf.Ren:=⟨fun|6=>114|8=>98|9=>157|19=>137|20=>138|21=>179|22=>180|23=>181|24=>182|25=>183|26=>184|27=>185|28=>186|29=>187|36=>199|31=>164|32=>165|37=>200|38=>201|39=>202|41=>209|n=>n,fun|27=>77|29=>9|3=>3|32=>44|26=>77|0=>0|44=>180|46=>195|4=>4|36=>187|35=>186|41=>191|5=>5|9=>9|53=>219|57=>223|63=>245|64=>246|n=>n,fun|n=>n⟩
theorem Tryz.sort114:Go.Proofs.SlLaysM.n6 Tryz.prog Tryz.JG:={
 mixed:=by kernel_rfl
 f6:=⟨Tryz.f114.name,by decide,Tryz.func114.trans (congrArg some (by kernel_rfl))⟩
 f8:=Tryz.func98.trans (congrArg some (by kernel_rfl))
 f9:=⟨Tryz.f157.name,by decide,Tryz.func157.trans (congrArg some (by kernel_rfl))⟩
 f19:=Tryz.func137.trans (congrArg some (by kernel_rfl))
 f20:=Tryz.func138.trans (congrArg some (by kernel_rfl))
 f21:=⟨Tryz.f179.name,by decide,Tryz.func179.trans (congrArg some (by kernel_rfl))⟩
 f22:=⟨Tryz.f180.name,by decide,Tryz.func180.trans (congrArg some (by kernel_rfl))⟩
 f23:=⟨Tryz.f181.name,by decide,Tryz.func181.trans (congrArg some (by kernel_rfl))⟩
 f24:=⟨Tryz.f182.name,by decide,Tryz.func182.trans (congrArg some (by kernel_rfl))⟩
 f25:=⟨Tryz.f183.name,by decide,Tryz.func183.trans (congrArg some (by kernel_rfl))⟩
 f26:=⟨Tryz.f184.name,by decide,Tryz.func184.trans (congrArg some (by kernel_rfl))⟩
 f27:=⟨Tryz.f185.name,by decide,Tryz.func185.trans (congrArg some (by kernel_rfl))⟩
 f28:=⟨Tryz.f186.name,by decide,Tryz.func186.trans (congrArg some (by kernel_rfl))⟩
 f29:=⟨Tryz.f187.name,by decide,Tryz.func187.trans (congrArg some (by kernel_rfl))⟩
 f31:=Tryz.func164.trans (congrArg some (by kernel_rfl))
 f32:=Tryz.func165.trans (congrArg some (by kernel_rfl))
 f36:=⟨Tryz.f199.name,by decide,Tryz.func199.trans (congrArg some (by kernel_rfl))⟩
 f37:=⟨Tryz.f200.name,by decide,Tryz.func200.trans (congrArg some (by kernel_rfl))⟩
 f38:=⟨Tryz.f201.name,by decide,Tryz.func201.trans (congrArg some (by kernel_rfl))⟩
 f39:=⟨Tryz.f202.name,by decide,Tryz.func202.trans (congrArg some (by kernel_rfl))⟩
 f41:=⟨Tryz.f209.name,by decide,Tryz.func209.trans (congrArg some (by kernel_rfl))⟩
 t0:=Tryz.underlying0
 a0:=Tryz.isAgg0
 z0:=Tryz.sizeOf0
 v0:=Tryz.zeroValue0
 t3:=Tryz.underlying3
 a3:=Tryz.isAgg3
 z3:=Tryz.sizeOf3
 v3:=Tryz.zeroValue3
 t4:=Tryz.underlying4
 a4:=Tryz.isAgg4
 z4:=Tryz.sizeOf4
 v4:=Tryz.zeroValue4
 t5:=Tryz.underlying5
 a5:=Tryz.isAgg5
 z5:=Tryz.sizeOf5
 v5:=Tryz.zeroValue5
 t9:=Tryz.underlying9
 a9:=Tryz.isAgg9
 z9:=Tryz.sizeOf9
 v9:=Tryz.zeroValue9
 t26:=Tryz.underlying77
 a26:=Tryz.isAgg77
 z26:=Tryz.sizeOf77
 v26:=Tryz.zeroValue77
 t27:=Tryz.underlying77
 a27:=Tryz.isAgg77
 z27:=Tryz.sizeOf77
 v27:=Tryz.zeroValue77
 t29:=Tryz.underlying9
 a29:=Tryz.isAgg9
 z29:=Tryz.sizeOf9
 v29:=Tryz.zeroValue9
 t32:=Tryz.underlying44
 a32:=Tryz.isAgg44
 z32:=Tryz.sizeOf44
 v32:=Tryz.zeroValue44
 t35:=Tryz.underlying186
 a35:=Tryz.isAgg186
 z35:=Tryz.sizeOf186
 v35:=Tryz.zeroValue186
 t36:=Tryz.underlying187
 a36:=Tryz.isAgg187
 z36:=Tryz.sizeOf187
 v36:=Tryz.zeroValue187
 t41:=Tryz.underlying191
 a41:=Tryz.isAgg191
 z41:=Tryz.sizeOf191
 v41:=Tryz.zeroValue191
 t44:=Tryz.underlying180
 a44:=Tryz.isAgg180
 z44:=Tryz.sizeOf180
 v44:=Tryz.zeroValue180
 t46:=Tryz.underlying195
 a46:=Tryz.isAgg195
 z46:=Tryz.sizeOf195
 v46:=Tryz.zeroValue195
 t53:=Tryz.underlying219
 a53:=Tryz.isAgg219
 z53:=Tryz.sizeOf219
 v53:=Tryz.zeroValue219
 t57:=Tryz.underlying223
 a57:=Tryz.isAgg223
 z57:=Tryz.sizeOf223
 v57:=Tryz.zeroValue223
 t63:=Tryz.underlying245
 a63:=Tryz.isAgg245
 z63:=Tryz.sizeOf245
 v63:=Tryz.zeroValue245
 t64:=Tryz.underlying246
 a64:=Tryz.isAgg246
 z64:=Tryz.sizeOf246
 v64:=Tryz.zeroValue246}
end Go.Proofs
end
section
open Go.RowKit Go.Maps Go.Sort Go.Shelf
namespace Go.Proofs
theorem Tryz.NZ(m:Nat):AnyZ.SortsIn Tryz.prog Tryz.wX Fence.wide m:=
 ⟨fun blk off cap ss W hH aeT hsz=>callsIn_wide.2 (AnyM.slices_Sort_string Tryz.sort114 blk off cap ss W hH aeT hsz),
  fun p cap W=>callsIn_wide.2 (AnyM.slices_Sort_string_none Tryz.sort114 p cap W)⟩
theorem Tryz.Hg(mb:Option Nat)(W:World):CallsIn Fence.wide 5 Tryz.prog 80 #[.map mb] W fun e w'=>e= .returned (.func (.func 115) #[] #[.pointer (some ⟨W.heap.size,0,none⟩)])∧w'=W.alloc (.cells #[.map mb] 46):=
 AnyZ.keys_in Tryz.keys80 Fence.wide 5 trivial rfl mb W
theorem Tryz.pU{H:Type}(b nn:Nat)(D0:DataW H)(R:Value→Option (DataW H×List MemPlace))(w:World)(aau:w.ownsMap Tryz.prog 9 R b nn D0)(abD:Maps.size D0≤maxLen)(acz:Maps.size D0*16≤140737488355328):
 CallsIn Fence.wide 5 Tryz.prog 79 #[.func (.func 115) #[] #[.pointer (some ⟨w.heap.size,0,none⟩)]] (w.alloc (.cells #[.map (some b)] 46)) fun e w'=>∃(v:Value) (ss:List (List UInt8)),e= .returned v∧ss.Perm (strKeys D0)∧
  w'.ownsRow (w.alloc (.cells #[.map (some b)] 46)).heap.size 9 1 v ss.length ((ss.mergeSort (fun x y=>decide (x≤y))).map encStr)∧(v= .slice none 0 0↔ss=[])∧Below (w.alloc (.cells #[.map (some b)] 46)).heap.size (w.alloc (.cells #[.map (some b)] 46)) w':=by
 have hbl:=aau.lt;have acP:SeqGives Fence.wide 2 Tryz.prog 115 #[.pointer (some ⟨w.heap.size,0,none⟩)] encStr (fun ss=>ss.Perm (strKeys D0)) (Maps.size D0) (w.alloc (.cells #[.map (some b)] 46)):=
  AnyZ.keys_gives (ρ:=Tryz.vG) {Tryz.keys80 with} Fence.wide _ trivial rfl (by omega) w.heap.size b nn D0 _ (by simp) (by simp) (by
   obtain⟨es,clock,hb,Ft,hs,hD⟩:=aau;exact⟨es,clock,(Below.heap_alloc _ _ b hbl).trans hb,Ft,hs,hD⟩)
 exact AnyZ.sorted_in Tryz.sorted79 Fence.wide 5 trivial trivial trivial trivial rfl (by omega) (Tryz.NZ _) (enters_of Tryz.func114 (by kernel_rfl) rfl) 115 #[.pointer (some ⟨w.heap.size,0,none⟩)] trivial (enters_of Tryz.func115 (by kernel_rfl) rfl) _ _ abD acz _ acP
theorem Tryz.ni(w:World):
 CallsIn Fence.wide 5 Tryz.prog 79 #[.func (.func 115) #[] #[.pointer (some ⟨w.heap.size,0,none⟩)]] (w.alloc (.cells #[.map none] 46)) fun e w'=>∃(v:Value) (ss:List (List UInt8)),e= .returned v∧ss=[]∧
  w'.ownsRow (w.alloc (.cells #[.map none] 46)).heap.size 9 1 v ss.length ((ss.mergeSort (fun x y=>decide (x≤y))).map encStr)∧(v= .slice none 0 0↔ss=[])∧Below (w.alloc (.cells #[.map none] 46)).heap.size (w.alloc (.cells #[.map none] 46)) w':=by
 have acP:SeqGives Fence.wide 2 Tryz.prog 115 #[.pointer (some ⟨w.heap.size,0,none⟩)] encStr (fun ss:List (List UInt8)=>ss=[]) 0 (w.alloc (.cells #[.map none] 46)):=
  AnyZ.keys_gives_nil (ρ:=Tryz.vG) {Tryz.keys80 with} Fence.wide _ trivial rfl w.heap.size _ (by simp) (by simp)
 exact AnyZ.sorted_in Tryz.sorted79 Fence.wide 5 trivial trivial trivial trivial rfl (by omega) (Tryz.NZ _) (enters_of Tryz.func114 (by kernel_rfl) rfl) 115 #[.pointer (some ⟨w.heap.size,0,none⟩)] trivial (enters_of Tryz.func115 (by kernel_rfl) rfl) _ 0 (Nat.zero_le _) (by omega) _ acP
end Go.Proofs
end
namespace Go.Proofs.YtficbckncieabaaGreatDoor
section
open Go.RowKit Go.Maps Go.Shelf Go.Sort
set_option linter.unusedSimpArgs false
set_option linter.unusedVariables false
attribute [local go_sem] Oper.semAt_some
namespace Dk
def preB(p s:ByteArray):Bool:=p.data.toList.isPrefixOf s.data.toList
theorem LP{p s:ByteArray}(h:s.size<p.size):preB p s=false:=by
 unfold preB;rw[Bool.eq_false_iff];intro e;have:=(List.isPrefixOf_iff_prefix.1 e).length_le;rw[←Lib.size_eq,←Lib.size_eq]at this;omega
theorem Hl{p s:ByteArray}(_h:p.size≤s.size):((s.extract 0 p.size).toList==p.toList)=preB p s:=by
 unfold preB;rw[Bool.eq_iff_iff,List.isPrefixOf_iff_prefix,beq_iff_eq,List.prefix_iff_eq_take,Lib.toList_data,Lib.toList_data,Lib.extract_data,←Lib.size_eq];simp;exact eq_comm
theorem EH(s p:ByteArray)(hs:s.size≤maxLen)(hp:p.size≤maxLen)(w:World):
 Calls Tryz.prog 82 #[.string s, .string p] w fun e w'=>e= .returned (.bool (preB p s))∧w=w':=by
 unfold maxLen at hs hp;by_cases h:p.size≤s.size
 ·have HE:Hid (((s.extract 0 p.size).toList==p.toList)=preB p s):=Hl h
  go_enter Tryz.func82,Tryz.ntmps82
  go_wp2
  go_ret
  exact⟨lh HE.out,rfl⟩
 ·have HE:Hid (preB p s=false):=LP (by omega)
  go_enter Tryz.func82,Tryz.ntmps82
  go_wp2
  go_ret
  exact⟨lh HE.out.symm,rfl⟩
def aT(A:DA):List (List UInt8):=(A.files.map (·.name)).mergeSort leB
def kR(bg:List UInt8)(nm:List UInt8):Bool:=bg.isPrefixOf nm
def dN(A:DA)(bg:List UInt8):List (List UInt8):=(aT A).filter (kR bg)
abbrev pV(A:DA):Type:={x:List UInt8//x∈aT A}
def cZ(A:DA)(bg:List UInt8):List (pV A):=(aT A).attach.filter (fun x=>kR bg x.1)
theorem zf(A:DA)(bg:List UInt8):(cZ A bg).map (·.1)=dN A bg:=by
 unfold cZ dN;conv=>rhs;rw[←List.attach_map_subtype_val (aT A)]
 rw[List.filter_map];rfl
theorem names_in(d:Nat)(s:ByteArray)(w:World):
 CallsIn Fence.wide 5 Tryz.prog 51 #[.pointer (some ⟨d,0,none⟩), .string s] w fun e w'=>
  e= .returned (.func (.func 78) #[] #[.pointer (some ⟨w.heap.size,0,none⟩), .pointer (some ⟨w.heap.size+1,0,none⟩)])∧
  w'=(w.alloc (.cells #[.pointer (some ⟨d,0,none⟩)] 24)).alloc (.cells #[.string s] 9):=by
 refine callsIn_wide.2 ?_;have hmf:∀(fn:Fn) (first cap:Array Value) (w:World),(Instr.makeFunc fn first cap).run Tryz.prog w= .ok (.func fn first cap) w:=fun _ _ _ _=>rfl
 go_enter Tryz.func51,Tryz.ntmps51
 go_wp2
 go_ret
 exact⟨rfl,rfl⟩
structure PN(T:List Nat)(W W':World):Prop where
 size:W.heap.size≤W'.heap.size
 cells:∀k cs t fr,W.heap[k]? =some (.cells cs t fr)→k∉T→W'.heap[k]? =some (.cells cs t fr)
theorem PN.refl(T:List Nat)(W:World):PN T W W:=⟨Nat.le_refl _,fun _ _ _ _ h _=>h⟩
theorem VM{T:List Nat}{A B C:World}(h:PN T A B)(k:PN T B C):PN T A C:=⟨Nat.le_trans h.size k.size,fun i cs t fr hi hn=>k.cells i cs t fr (h.cells i cs t fr hi hn) hn⟩
theorem ZJ{T:List Nat}{w:World}(W:World)(l:Nat)(o o':Obj)(_:w.heap.size≤l)(h:W.heap[l]? =some o) (ho:o.isCells=false) (_:o.isWalk=false):PN T W (W.putObj l o'):=by
 refine⟨by simp,fun k cs t fr hk _=>?_⟩;have hne:k≠l:=by
  intro e;subst e;rw[h]at hk;cases hk;cases ho
 rw[World.putObj_heap_other hne];exact hk
theorem PN.Cc{T S:List Nat}{W W':World}(h:Turn S W W')(hs:∀k∈S,k∈T∨W.heap.size≤k):PN T W W':=by
 refine⟨h.size,fun k cs t fr hk hn=>?_⟩;refine h.heap hk (fun e=>?_);rcases hs k e with h1|h1
 ·exact hn h1
 ·have:=lt_of_heap hk;omega
section
variable {w w':World} {base d:Nat} {F:List Nat} {A A':DA} {aI:Option Nat} {ms:List aF}
theorem LQ{D:DataW Unit}{mb n:Nat}(aau:w.ownsMap Tryz.prog 9 qY mb n D)(hr:Reads D ms)(hn:(ms.map (·.abs.name)).Nodup):(ms.map (·.abs.name)).Perm (strKeys D):=by
 have hc:Collected D (fun _=>false) (ms.map (·.abs.name)):=by
  refine⟨hn,fun x=>?_⟩;rw[nY hr];unfold bW;rw[List.find?_isSome];simp only[List.mem_map,beq_iff_eq,and_true]
 exact hc.perm aau law Tryz.underlying9 (fun _=>rfl)
def U3(w:World)(B:Nat)(va:Option Addr)(L:List (List UInt8)):Prop:=
 L=[]∨∃g cur,va=some ⟨g,0,none⟩∧B≤g∧w.heap[g]? =some (.cells cur 9 (0,0))∧∀(j:Nat) (x:List UInt8),L[j]? =some x→cur[j]? =some (encStr x)
theorem N7{B:Nat}{v:Value}{L:List (List UInt8)}(h:w.ownsRow B 9 1 v L.length (L.map encStr)):∃va vc,v= .slice va L.length vc∧U3 w B va L:=by
 rcases h.2 with⟨rfl,h0⟩|⟨g,cap,cur,rfl,hb,hg,_,_,_,ht⟩
 ·exact⟨none,0,by rw[h0], .inl (List.eq_nil_of_length_eq_zero h0)⟩
 ·refine⟨_,_,rfl, .inr ⟨g,cur,rfl,hb,hg,fun j x hx=>?_⟩⟩
  have hj:=(List.getElem?_eq_some_iff.1 hx).1;have:(L.map encStr)[j]? =some (encStr x):=by rw[List.getElem?_map,hx];rfl
  rw[←ht,List.getElem?_take_of_lt (by omega)]at this;simpa using this
theorem LU(h:Parts w base d F A aI ms):
 CallsIn Fence.wide 5 Tryz.prog 79 #[.func (.func 115) #[] #[.pointer (some ⟨w.heap.size,0,none⟩)]] (w.alloc (.cells #[.map aI] 46)) fun e w'=>∃va vc,e= .returned (.slice va (aT A).length vc)∧
  U3 w' (w.heap.size+1) va (aT A)∧Below (w.heap.size+1) (w.alloc (.cells #[.map aI] 46)) w':=by
 have aek:=h.files;have KE:=h.names;have alm:=h.good.count;have hm:=h.map;have hnl:A.files.map (·.name)=ms.map (·.abs.name):=by rw[aek,List.map_map];rfl
 cases aI with
 |none=>
  have hms:ms=[]:=hm;have hs0:aT A=[]:=by unfold aT;rw[hnl,hms];simp
  refine(Tryz.ni w).mono ?_;rintro e w' ⟨v,ss,rfl,rfl,Pe,aeh,hb⟩;simp only[World.size_alloc]at Pe hb;rw[show([]:List (List UInt8)).length=(aT A).length by rw[hs0],show(([]:List (List UInt8)).mergeSort fun x y=>decide (x≤y))=aT A by rw[hs0];simp]at Pe;obtain⟨va,vc,rfl,hr⟩:=N7 Pe;exact⟨va,vc,rfl,hr,hb⟩
 |some mb=>
  obtain⟨D,aau,hrd⟩:=hm;have auW:ms.length≤200:=by rw[aek,List.length_map]at alm;exact alm
  refine(Tryz.pU mb ms.length D qY w aau (by rw[hrd.1];simp only[maxLen];omega) (by rw[hrd.1];omega)).mono ?_;rintro e w' ⟨v,ss,rfl,hp,Pe,aeh,hb⟩;simp only[World.size_alloc]at Pe hb;have hp2:ss.Perm (A.files.map (·.name)):=by rw[hnl];exact hp.trans (LQ aau hrd KE).symm
  have hs0:ss.mergeSort leB=aT A:=mergeSort_of_perm hp2;have hl:ss.length=(aT A).length:=by rw[←hs0];simp
  have aaC:w'.ownsRow (w.heap.size+1) 9 1 v (aT A).length ((aT A).map encStr):=by rw[←hl,←hs0];exact Pe
  obtain⟨va,vc,rfl,hr⟩:=N7 aaC;exact⟨va,vc,rfl,hr,hb⟩
theorem pW(h:Good A):∀x∈aT A,x.length≤40:=by
 intro x hx;unfold aT at hx;rw[List.mem_mergeSort]at hx;obtain⟨f,hf,rfl⟩:=List.mem_map.1 hx;exact h.short f hf
theorem lQ(A:DA):(aT A).length=A.files.length:=by simp[aT]
theorem xQ{α:Type}(p:α→Bool)(L:List α)(k:Nat)(h:k<L.length):(L.take (k+1)).filter p=(L.take k).filter p++(if p L[k]then [L[k]]else []):=by
 rw[List.take_succ_eq_append_getElem h,List.filter_append];congr 1
 simp[List.filter_cons]
theorem zh(x:List UInt8):(⟨x.toArray⟩:ByteArray).size=x.length:=by simp[ByteArray.size]
theorem Hf(h:Parts w base d F A aI ms):
 Calls Tryz.prog 81 #[.pointer (some ⟨d,0,none⟩)] w fun e w'=>e= .returned (.map aI)∧w=w':=by
 have c1:=h.c1;clear h;go_enter Tryz.func81,Tryz.ntmps81
 go_wp2
 go_ret
 exact⟨rfl,rfl⟩
set_option maxRecDepth 100000 in
theorem zi(h:Parts w base d F A aI ms)(s:ByteArray)(hs:s.size≤maxLen)(B1 B2:Nat)(hB1:w.heap[B1]? =some (.cells #[.pointer (some ⟨d,0,none⟩)] 24 (0,0))) (hB2:w.heap[B2]? =some (.cells #[.string s] 9 (0,0)))
 (Kp:World→World→Prop) (hKr:∀W,Kp W W) (hKt:∀{A B C:World},Kp A B→Kp B C→Kp A C)
 (hKc:∀(W0 W W':World) (k:Nat) (cs:Array Value) (t:TypeId) (fr:Nat×Nat),Below w.heap.size w W0→Below W0.heap.size W0 W→(k=B2∨W0.heap.size<k)→Kp W W'→W.heap[k]? =some (.cells cs t fr)→W'.heap[k]? =some (.cells cs t fr)):
 SeqStopsK Fence.wide 6 Tryz.prog 78 #[.pointer (some ⟨B1,0,none⟩), .pointer (some ⟨B2,0,none⟩)] (fun x:pV A=> #[encStr x.1]) Kp
  (fun xs=>xs=cZ A s.data.toList) (fun pre=>pre<+:cZ A s.data.toList) (cZ A s.data.toList).length w:=fun l J Jx W hW hJ hJx hY h0=>by
 have hP:Parts W base d F A aI ms:=h.kept (Turn.of_below hW []) (by simp);have hP1:Parts (W.alloc (.cells #[.map aI] 46)) base d F A aI ms:=hP.kept ((Turn.refl [] _).alloc _) (by simp);have c1:=hP.c1;have hb1:W.cell? ⟨B1,0,none⟩=some (.pointer (some ⟨d,0,none⟩)):=by rw[hW.cell (p:=⟨B1,0,none⟩) (lt_of_heap hB1),cell_of hB1];rfl
 have acC:=LU hP;have HR:Hid (CallsIn Fence.wide 5 Tryz.prog 79 #[.func (.func 115) #[] #[.pointer (some ⟨W.heap.size,0,none⟩)]] (W.alloc (.cells #[.map aI] 46)) fun e w'=>∃va vc,e= .returned (.slice va (aT A).length vc)∧
  U3 w' (W.heap.size+1) va (aT A)∧Below (W.heap.size+1) (W.alloc (.cells #[.map aI] 46)) w'):=acC
 have hsz:=hW.size;have f1:Fence.wide.fn 81:=trivial;have f2:Fence.wide.fn 80:=trivial;have f3:Fence.wide.fn 79:=trivial;have f4:Fence.wide.fn 82:=trivial;have HG:Hid (Good A):=hP.good;have HA:Hid (Calls Tryz.prog 81 #[.pointer (some ⟨d,0,none⟩)] W fun e w'=>e= .returned (.map aI)∧W=w'):=Hf hP;clear hP hP1 acC h;refine callsIn_of_wp Tryz.func78 rfl trivial ?_ rfl;simp only[Tryz.ntmps78,List.size_toArray,List.length_cons,List.length_nil,Nat.reduceAdd,Nat.reduceSub,Array.replicate_succ,Array.replicate_zero,List.push_toArray,List.append_toArray,List.nil_append,List.cons_append];gi_wp2_with (first
  |(gi_at_call 80;refine(Tryz.Hg _ _).mono ?_;rintro e w' ⟨rfl,rfl⟩)
  |(gi_at_call 79;refine HR.out.mono ?_;rintro e W2 ⟨va,vc,rfl,Pe,hb⟩)
  |(gi_at_call 81;refine(callsIn_wide.2 HA.out).mono ?_;rintro e w' ⟨rfl,rfl⟩))
 have apw:B2<w.heap.size:=lt_of_heap hB2;have ac9:Below W.heap.size W W2:=((Below.refl _ W).alloc (Nat.le_refl _) _).trans (hb.mono (by omega));have hg2:W2.heap[B2]? =some (.cells #[.string s] 9 (0,0)):=(ac9.block B2 (by omega)).trans ((hW.block B2 apw).trans hB2)
 have hJ2:J [] W2:=hJ _ _ _ none h0 ⟨ac9.os,ac9.tape,ac9.output,ac9.size,fun k hk _=>ac9.block k hk⟩ (by simp);have aah:(aT A).length≤200:=by rw[lQ];exact HG.out.count
 have apx:Hid (U3 W2 (W.heap.size+1) va (aT A)):=Pe;have HY:Hid (∀(pre:List (pV A)) (x:pV A) (W1:World),J pre W1→pre.length<(cZ A s.data.toList).length→YieldAt Fence.wide (6-1) Tryz.prog l #[encStr x.1] W1 fun e W'=>
  (e= .returned (.bool true)∧J (pre++[x]) W'∧Kp W1 W')∨(e= .returned (.bool false)∧Jx (pre++[x]) W')):=hY
 have ZK:Hid (Below W.heap.size W W2):=ac9;have HW:Hid (Below w.heap.size w W):=hW;clear Pe hb hY h0 HR ac9 HA c1 hb1;gi_loopw [11] (fun i wr=>∃k:Nat,k≤(aT A).length∧i= .int .i64 k∧J (((aT A).attach.take k).filter (fun x=>kR s.data.toList x.1)) wr∧Kp W2 wr)
  (fun i _=>(aT A).length-(intOf i).toNat)
 case atStart=>exact⟨0,Nat.zero_le _,rfl,by simpa using hJ2,hKr _⟩
 case round=>
  obtain⟨k,hk,rfl,hJs,hkp⟩:=hrel;by_cases hlt:k<(aT A).length
  ·have ajg:k<(aT A).attach.length:=by simpa using hlt
   obtain⟨x,hxe⟩:∃x,(aT A).attach[k]=x:=⟨_,rfl⟩;have hx:(aT A)[k]? =some x.1:=by rw[List.getElem?_eq_getElem hlt,←hxe,List.getElem_attach]
   rcases apx.out with h0|⟨g,cur,rfl,hgb,hgc,SK⟩
   ·rw[h0]at hlt;simp at hlt
   have ahM:=hKc W W2 wr g cur _ _ HW.out ZK.out (.inr (by omega)) hkp hgc;have hcx:wr.cell? ⟨g,k,none⟩=some (encStr x.1):=by rw[cell_of ahM];exact SK k x.1 hx
   have ZL:=hKc W W2 wr B2 _ _ _ HW.out ZK.out (.inl rfl) hkp hg2;have hcb:wr.cell? ⟨B2,0,none⟩=some (.string s):=by rw[cell_of ZL];rfl
   have hxs:x.1.length≤40:=pW HG.out x.1 x.2;have hft:=xQ (fun x:pV A=>kR s.data.toList x.1) (aT A).attach k ajg;rw[hxe]at hft;have acs:=fun W=>EH ⟨x.1.toArray⟩ s (by rw[zh];simp only[maxLen];omega) hs W
   have HP:Hid (∀W,Calls Tryz.prog 82 #[.string ⟨x.1.toArray⟩, .string s] W fun e w'=>e= .returned (.bool (preB s ⟨x.1.toArray⟩))∧W=w'):=acs;have HF:Hid (((aT A).attach.take (k+1)).filter (fun x=>kR s.data.toList x.1)=((aT A).attach.take k).filter (fun x=>kR s.data.toList x.1)++(if kR s.data.toList x.1 then [x]else [])):=hft;have HJs:Hid (J (((aT A).attach.take k).filter (fun x=>kR s.data.toList x.1)) wr):=hJs;unfold encStr at hcx;clear hgc SK ahM ZL acs hft hx hxe hJs ajg;cases hpx:preB s ⟨x.1.toArray⟩
   ·have ZM:Hid (kR s.data.toList x.1=false):=by show _=_;simpa[preB,kR]using hpx
    gi_wp2_with (gi_at_call 82;refine(callsIn_wide.2 (HP.out _)).mono ?_;rintro e w' ⟨rfl,rfl⟩)
    refine⟨fun _ h=>(by cases h),?_⟩;gi_wp2
    go_roundw
    case rel=>exact⟨k+1,by omega,by go_num,by rw[HF.out,ZM.out];simpa using HJs.out,hkp⟩
    case measure=>simp[intOf];omega
   ·have ZM:Hid (kR s.data.toList x.1=true):=by show _=_;simpa[preB,kR]using hpx
    have U4:(((aT A).attach.take k).filter (fun x=>kR s.data.toList x.1)).length<(cZ A s.data.toList).length:=by
     have e:=List.take_append_drop (k+1) (aT A).attach;unfold cZ;conv=>rhs;rw[←e]
     rw[List.filter_append,HF.out,ZM.out];simp
    obtain⟨fn,tmps,assign,body,hy,hR⟩:=HY.out _ x wr HJs.out U4;unfold encStr at hy;have Ym:((aT A).attach.take (k+1)).filter (fun x=>kR s.data.toList x.1)<+:cZ A s.data.toList:=by
     unfold cZ;exact(List.take_prefix _ _).filter _
    have HPF:Hid (((aT A).attach.take (k+1)).filter (fun x=>kR s.data.toList x.1)<+:cZ A s.data.toList):=Ym;clear U4 Ym;gi_wp2_with (gi_at_call 82;refine(callsIn_wide.2 (HP.out _)).mono ?_;rintro e w' ⟨rfl,rfl⟩)
    refine hR.mono ?_;rintro e W3 (⟨rfl,hJ3,hk3⟩|⟨rfl,alo⟩)
    ·have HJ3:Hid (J (((aT A).attach.take k).filter (fun x=>kR s.data.toList x.1)++[x]) W3):=hJ3
     clear hJ3;gi_wp2
     go_roundw
     case rel=>exact⟨k+1,by omega,by go_num,by rw[HF.out,ZM.out];exact HJ3.out,hKt hkp hk3⟩
     case measure=>simp[intOf];omega
    ·have HJ3:Hid (Jx (((aT A).attach.take k).filter (fun x=>kR s.data.toList x.1)++[x]) W3):=alo
     clear alo;gi_wp2
     refine bodyPost_ret (results_none rfl _ _ _) rfl ?_;refine⟨⟨_,rfl⟩, .inr ⟨_,?_,HJ3.out⟩⟩;have:=HPF.out;rw[HF.out,ZM.out]at this;exact this
  ·obtain rfl:k=(aT A).length:=by omega
   have HJs:Hid (J (((aT A).attach.take (aT A).length).filter (fun x=>kR s.data.toList x.1)) wr):=hJs;clear hJs;gi_wp2
   go_end0
   refine⟨⟨_,rfl⟩, .inl ⟨_,rfl,?_⟩⟩;have:=HJs.out;rw[List.take_of_length_le (by simp)]at this;exact this
theorem LX(h:Parts w base d F A aI ms)(s:ByteArray)(hs:s.size≤maxLen)(B1 B2:Nat)(hB1:w.heap[B1]? =some (.cells #[.pointer (some ⟨d,0,none⟩)] 24 (0,0))) (hB2:w.heap[B2]? =some (.cells #[.string s] 9 (0,0)))
 (T:List Nat) (hT:∀k∈T,k<w.heap.size) (hBT:B2∉T):
 SeqStopsK Fence.wide 6 Tryz.prog 78 #[.pointer (some ⟨B1,0,none⟩), .pointer (some ⟨B2,0,none⟩)] (fun x:pV A=> #[encStr x.1]) (PN T)
  (fun xs=>xs=cZ A s.data.toList) (fun pre=>pre<+:cZ A s.data.toList) (cZ A s.data.toList).length w:=
 zi h s hs B1 B2 hB1 hB2 (PN T) (PN.refl T) VM (fun W0 W W' k cs t fr hb0 hb1 hk hkp hc=>hkp.cells k cs t fr hc (by
  rcases hk with rfl|hk
  ·exact hBT
  ·intro e
   have:=hT k e;have:=hb0.size;omega))
end
end Dk
end
section
open Go.RowKit
set_option linter.unusedSimpArgs false
set_option linter.unusedVariables false
section
variable {n l:Nat} {P:Program} {C:World→Prop}
theorem wpIn_of_quiet{o:Oper}{a:Act}{K:Act→Prop}{K':Act→World→Prop}{Q':Exit→Act→World→Prop}{w:World}(hp:∀c,o.op≠ .defer c)(hw:C w)(h:∀a w',C w'→K a→K' a w')(hh:o.quiet P a C K):
 o.wpIn (Fence.wide.inRound l) n P a w K' Q':=by
 obtain⟨v,h1,h2⟩:=hh;have h3:=h1 w hw;unfold Oper.quietAt at h3;unfold Oper.wpIn;refine⟨fun f _=>trivial,?_⟩;rw[Oper.semAt_eq _ _ _ hp];generalize (execOp a.eval o).run P w=r at*
 cases r with
 |ok x w'=>
  cases x<;>simp only[Oper.quietUpon]at h3<;>simp only[Oper.uponIn]
  case value u=>obtain⟨e1,e2⟩:=h3;rw[e1,e2];exact h _ _ hw h2
  case skip=>obtain⟨e1,e2⟩:=h3;rw[e1,←e2];exact h _ _ hw h2
  case enter f args=>
   obtain⟨e1,hc⟩:=h3;rw[e1];exact⟨fun hd=>by simp[Fence.wide]at hd,CallsIn.inRound l (callsIn_wide.2 (hc.mono fun e w'' ⟨he,ajh⟩=>by subst he;exact h _ _ ajh h2))⟩
 |halt x w'=>simp only[Oper.quietUpon]at h3
theorem Hm{ls:List Oper}{o:Oper}{Q:Exit→Act→World→Prop}(hc:Gm ls o=true)(hp:Kt ls=true)(hg:jY ls=true)(hon:∀e∈o.after.toList,e.on<ls.length)(abu:∀(i:Nat) (x:Oper),ls[i]? =some x→∀e∈x.after.toList,Region.binds .any e=true→e.on<i):
 ∀(fuel:Nat) (listed:Array Bool) (a:Act) (w:World),listed.size=ls.length→Down ls listed→C w→
  wpAnyQ P .any ls.toArray C (fun a'=>∀w',C w'→wpOpIn (Fence.wide.inRound l) n P (ls++[o]).toArray Q ls.length (fun a w=>Q .normal a w) a' w') fuel listed a→
  wpAnyIn (Fence.wide.inRound l) n P .any (ls++[o]).toArray Q (fuel+1) (listed.push false) a w:=by
 have last:(ls++[o])[ls.length]? =some o:=by simp
 have dn:∀listed:Array Bool,Down ls listed→listed.size=ls.length→Down (ls++[o]) listed:=by
  intro listed hd hs i x hx hi;by_cases h1:i<ls.length
  ·rw[List.getElem?_append_left h1]at hx;exact hd i x hx hi
  ·exfalso
   have:=OB hi;omega
 have full:∀listed:Array Bool,listed.size=ls.length→Region.ready .any ls.toArray listed=[]→∀i,i<ls.length→Listed listed i:=by
  intro listed hs hr i;induction i using Nat.strongRecOn with
  |ind i ih=>
   intro hi;refine Classical.byContradiction fun hn=>?_
   have hm:i∈Region.ready .any ls.toArray listed:=by
    rw[mem_ready];refine⟨by simpa using hi,?_,ls[i],by simp[hi],fun e he hb=>ih e.on (abu i _ (by simp[hi]) e he hb) (by have:=abu i _ (by simp[hi]:ls[i]? =some ls[i]) e he hb;omega)⟩
    unfold Listed at hn;rw[Array.getElem?_eq_getElem (by omega)]at hn⊢;simpa using hn
   rw[hr]at hm;cases hm
 have fin:∀(fuel:Nat) (listed:Array Bool) (a:Act) (w:World),listed.size=ls.length→(∀i,i<ls.length→Listed listed i)→C w→
  (∀w',C w'→wpOpIn (Fence.wide.inRound l) n P (ls++[o]).toArray Q ls.length (fun a w=>Q .normal a w) a w')→
  wpOpIn (Fence.wide.inRound l) n P (ls++[o]).toArray Q ls.length (wpAnyIn (Fence.wide.inRound l) n P .any (ls++[o]).toArray Q fuel ((listed.push false).setIfInBounds ls.length true)) a w:=by
  intro fuel listed a w hs aan hw h;refine wpOpIn_mono (fun a' w' hq=>?_) (h w hw);have hr:Region.ready .any (ls++[o]).toArray ((listed.push false).setIfInBounds ls.length true)=[]:=by
   rw[List.eq_nil_iff_forall_not_mem];intro i hi;rw[mem_ready]at hi;obtain⟨h1,h2,_⟩:=hi;simp only[List.size_toArray,List.length_append,List.length_cons,List.length_nil]at h1;by_cases hil:i<ls.length
   ·have:=aan i hil
    have h5:Listed ((listed.push false).setIfInBounds ls.length true) i:=fP.2 (.inl (ji.2 this));unfold Listed at h5;rw[h5]at h2;cases h2
   ·have:i=ls.length:=by omega
    subst this;have h5:Listed ((listed.push false).setIfInBounds ls.length true) ls.length:=fP.2 (.inr ⟨rfl,by simp;omega⟩);unfold Listed at h5;rw[h5]at h2;cases h2
  cases fuel with
  |zero=>exact⟨hr,hq⟩
  |succ fuel=>exact⟨fun _=>hq,fun i hi=>by rw[hr]at hi;cases hi⟩
 intro fuel;induction fuel with
 |zero=>
  intro listed a w hs hd hw h;have aan:=full listed hs h.1;refine⟨fun hr=>?_,fun i hi=>?_⟩
  ·exfalso
   have hm:ls.length∈Region.ready .any (ls++[o]).toArray (listed.push false):=by
    rw[mem_ready];refine⟨by simp,by rw[←hs];simp,o,by simp,fun e he _=>ji.2 (aan _ (hon e he))⟩
   rw[hr]at hm;cases hm
  ·have hi':=hi
   rw[mem_ready]at hi;obtain⟨h1,h2,_⟩:=hi;simp only[List.size_toArray,List.length_append,List.length_cons,List.length_nil]at h1;by_cases hil:i<ls.length
   ·exfalso
    have:=aan i hil;rw[uQ (by omega)]at h2;unfold Listed at this;rw[this]at h2;cases h2
   ·have:i=ls.length:=by omega
    subst this;exact fin 0 listed a w hs aan hw h.2
 |succ fuel ih=>
  intro listed a w hs hd hw h;refine⟨fun hr=>?_,fun i hi=>?_⟩
  ·exfalso
   by_cases he:Region.ready .any ls.toArray listed=[]
   ·have aan:=full listed hs he
    have hm:ls.length∈Region.ready .any (ls++[o]).toArray (listed.push false):=by
     rw[mem_ready];exact⟨by simp,by rw[←hs];simp,o,by simp,fun e he _=>ji.2 (aan _ (hon e he))⟩
    rw[hr]at hm;cases hm
   ·obtain⟨i,hi⟩:=List.exists_mem_of_ne_nil _ he
    rw[mem_ready]at hi;obtain⟨h1,h2,x,hx,h3⟩:=hi;simp only[List.size_toArray]at h1;have hm:i∈Region.ready .any (ls++[o]).toArray (listed.push false):=by
     rw[mem_ready];refine⟨by simp;omega,(uQ (by omega)).2 h2,x,?_,fun e he hb=>ji.2 (h3 e he hb)⟩;simpa[List.getElem?_append_left h1]using hx
    rw[hr]at hm;cases hm
  ·have hi':=hi
   rw[mem_ready]at hi;obtain⟨h1,h2,x,hx,h3⟩:=hi;simp only[List.size_toArray,List.length_append,List.length_cons,List.length_nil]at h1;by_cases hil:i<ls.length
   ·have hx':ls[i]? =some x:=by simpa[List.getElem?_append_left hil]using hx
    have hm:i∈Region.ready .any ls.toArray listed:=by
     rw[mem_ready];exact⟨by simpa using hil,(uQ (by omega)).1 h2,x,by simpa using hx',fun e he hb=>ji.1 (h3 e he hb)⟩
    have hq:=h.2 i hm;unfold qOp at hq;rw[show ls.toArray[i]? =some x by simpa using hx']at hq
    simp only at hq;have hdn:Down ls (listed.setIfInBounds i true):=CV hd hx' (fun e he hb=>ji.1 (h3 e he hb));unfold wpOpIn;rw[hx];simp only[Kv hg hx'];rw[QJ (by omega)];split
    ·rename_i hw'
     rw[if_pos hw']at hq;exact wpIn_of_quiet (QI hp hx') hw (fun a' w' hC hK=>ih _ a' w' (by simpa using hs) hdn hC hK) hq
    ·rename_i hw'
     rw[if_neg hw']at hq;exact⟨fun f _=>trivial,ih _ _ w (by simpa using hs) hdn hw hq⟩
   ·have:i=ls.length:=by omega
    subst this;have hxo:x=o:=by simpa using hx.symm
    subst hxo;have aan:=Ku hc (dn _ hd hs) (fun e he hb=>ji.1 (h3 e he hb));refine fin (fuel+1) listed a w hs aan hw (h.1 ?_);rw[List.eq_nil_iff_forall_not_mem];intro i hi;rw[mem_ready]at hi;obtain⟨g1,g2,_⟩:=hi;simp only[List.size_toArray]at g1;have:=aan i g1;unfold Listed at this;rw[this]at g2;cases g2
def lastB(ls:List Oper)(o:Oper):Bool:=Gm ls o&&Kt ls&&jY ls&&pM ls&&o.after.toList.all fun e=>decide (e.on<ls.length)
theorem rY{id m:Nat}{lo:List Oper}{o:Oper}{Q:Exit→Act→World→Prop}{a:Act}{w:World}(alp:lo[m]? =some o) (aah:m+1=lo.length) (hm:P.follows .mixedOrders=true)
 (hB:Region.lexB .any (lo.take m).toArray=true) (hl:lastB (lo.take m) o=true)
 (h:wpQuiet P (lo.take m).toArray (fun w'=>∃k,w'=w.drewN k) (fun a'=>∀w',(∃k,w'=w.drewN k)→wpListIn (Fence.wide.inRound l) n P lo.toArray Q [o] a' w') (lo.take m) a):
 (Code.region id lo.toArray true).wpIn (Fence.wide.inRound l) n P Q a w:=by
 have hlm:(lo.take m).length=m:=by simp;omega
 have ab7:lo=lo.take m++[o]:=by
  have h1:=List.take_append_drop m lo;have h2:lo.drop m=[o]:=by
   obtain⟨hi,he⟩:=List.getElem?_eq_some_iff.1 alp;rw[List.drop_eq_getElem_cons hi,he,List.drop_of_length_le (by omega)]
  rw[h2]at h1;exact h1.symm
 simp only[lastB,Bool.and_eq_true]at hl;obtain⟨⟨⟨⟨h1,h2⟩,h3⟩,h4⟩,h5⟩:=hl;simp only[Region.lexB,Bool.and_eq_true]at hB;have hq:=wpAnyQ_lex (C:=fun w'=>∃k,w'=w.drewN k) (md:= .any) hB.1 (lo.take m) 0 (Array.replicate (lo.take m).toArray.size false) a (by simp) (by simpa using hB.2) h;have aar:∀a' w',wpListIn (Fence.wide.inRound l) n P lo.toArray Q [o] a' w'→wpOpIn (Fence.wide.inRound l) n P (lo.take m++[o]).toArray Q (lo.take m).length (fun a w=>Q .normal a w) a' w':=by
  intro a' w' hh;rw[←ab7,hlm];unfold wpOpIn;rw[show lo.toArray[m]? =some o by simpa using alp]
  exact hh
 have hq2:wpAnyQ P .any (lo.take m).toArray (fun w'=>∃k,w'=w.drewN k) (fun a'=>∀w',(∃k,w'=w.drewN k)→wpOpIn (Fence.wide.inRound l) n P (lo.take m++[o]).toArray Q (lo.take m).length (fun a w=>Q .normal a w) a' w') (lo.take m).length (Array.replicate (lo.take m).toArray.size false) a:=by
  have mono:∀(fuel:Nat) (listed:Array Bool) (a:Act),wpAnyQ P .any (lo.take m).toArray (fun w'=>∃k,w'=w.drewN k) (fun a'=>∀w',(∃k,w'=w.drewN k)→wpListIn (Fence.wide.inRound l) n P lo.toArray Q [o] a' w') fuel listed a→
   wpAnyQ P .any (lo.take m).toArray (fun w'=>∃k,w'=w.drewN k) (fun a'=>∀w',(∃k,w'=w.drewN k)→wpOpIn (Fence.wide.inRound l) n P (lo.take m++[o]).toArray Q (lo.take m).length (fun a w=>Q .normal a w) a' w') fuel listed a:=by
   intro fuel;induction fuel with
   |zero=>intro listed a hh;exact⟨hh.1,fun w' hw'=>aar _ _ (hh.2 w' hw')⟩
   |succ fuel ih=>intro listed a hh;exact⟨fun hr w' hw'=>aar _ _ (hh.1 hr w' hw'),fun i hi=>qOp_mono (fun a=>ih _ a) (hh.2 i hi)⟩
  exact mono _ _ _ hq
 have aji:=Hm (n:=n) (l:=l) (Q:=Q) h1 h2 h3 (fun e he=>by simpa using(List.all_eq_true.1 h5) e he) (by
  intro i x hx e he hb;have hi:i<(lo.take m).length:=(List.getElem?_eq_some_iff.1 hx).1;have h6:=(List.all_eq_true.1 h4) i (List.mem_range.2 hi);rw[hx,Option.map_some,Option.getD_some]at h6;have h7:=(List.all_eq_true.1 h6) e he;rw[hb]at h7;simpa using h7) (lo.take m).length (Array.replicate (lo.take m).toArray.size false) a {w with drawn:=w.drawn+1} (by simp) (by
   intro i x _ hi;unfold Listed at hi;rw[Array.getElem?_replicate]at hi;split at hi<;>cases hi) ⟨1,rfl⟩ hq2
 refine wpIn_region_any hm ?_;rw[←ab7]at aji;have e1:(Array.replicate (lo.take m).toArray.size false).push false=Array.replicate lo.toArray.size false:=by
  rw[←Array.replicate_succ];congr 1
  simp;omega
 have e2:(lo.take m).length+1=lo.toArray.size:=by rw[hlm];simpa using aah
 rw[e1,e2]at aji;exact aji
end
end
section
open Go.RowKit Go.Maps Go.Shelf Go.Sort
set_option linter.unusedSimpArgs false
set_option linter.unusedVariables false
attribute [local go_sem] Oper.semAt_some
namespace Dk
def dF(fs:List UInt8)(k:Nat)(f:FA):FA:={f with bytes:=f.bytes.take (min (f.safe+nS fs k) f.bytes.length),safe:=min (f.safe+nS fs k) f.bytes.length}
def ed(A:DA)(fs:List UInt8)(pre:List (List UInt8)):DA:=pre.zipIdx.foldl (fun B p=>B.upd p.1 (dF fs p.2)) A
def DA.gI(A:DA)(fs:List UInt8):DA:={ed A fs (aT A)with limited:=false}
theorem oh(A:DA)(fs:List UInt8)(pre:List (List UInt8))(x:List UInt8):ed A fs (pre++[x])=(ed A fs pre).upd x (dF fs pre.length):=by
 simp[ed,List.zipIdx_append,List.foldl_append]
theorem JH(fs:List UInt8)(k:Nat)(f:FA):(dF fs k f).name=f.name:=rfl
theorem D8{α:Type}{p:List α→Prop}(h0:p [])(hs:∀l x,p l→p (l++[x])):∀l,p l:=by
 have:∀l:List α,p l.reverse:=by
  intro l;induction l with
  |nil=>exact h0
  |cons x l ih=>rw[List.reverse_cons];exact hs _ _ ih
 intro l;have:=this l.reverse;rwa [List.reverse_reverse]at this
theorem EI(A:DA)(fs:List UInt8):∀pre:List (List UInt8),(ed A fs pre).files.map (·.name)=A.files.map (·.name):=by
 refine D8 rfl ?_;intro pre x ih;rw[oh];show((fO _ _ _).map (·.name))=_;rw[KG _ _ _ (JH fs _),ih]
theorem Ho(A:DA)(fs:List UInt8):∀pre:List (List UInt8),(ed A fs pre).room=A.room∧(ed A fs pre).limited=A.limited∧(ed A fs pre).left=A.left:=by
 refine D8 ⟨rfl,rfl,rfl⟩ ?_;intro pre x ih;rw[oh];exact ih
theorem wY{B:Nat}{S:List Nat}{W W':World}(h:Turn S W W')(hs:∀k∈S,k<B):KeepsFrom B W W':=
 ⟨h.size,fun k o hB hk _=>h.heap hk (fun e=>by have:=hs k e;omega)⟩
section
variable {w w':World} {base d:Nat} {F:List Nat} {A A':DA} {aI:Option Nat} {ms:List aF}
theorem PO(h:Parts w base d F A aI ms){x:List UInt8}(hx:x∈A.files.map (·.name)):∃m,bW ms x=some m:=by
 rw[h.files,List.map_map]at hx;obtain⟨m,hm,e⟩:=List.mem_map.1 hx;have:(bW ms x).isSome:=by unfold bW;rw[List.find?_isSome];exact⟨m,hm,by simpa using e⟩
 exact Option.isSome_iff_exists.1 this
def LY(w:World)(base d:Nat)(F:List Nat)(A:DA)(aI:Option Nat)(v:Value)(fs:List UInt8)(pre:List (pV A))(W:World):Prop:=
 (∃F' ms',Parts W base d F' (ed A fs (pre.map (·.1))) aI ms'∧∀k∈F',k∈F)∧Turn F w W∧
 W.heap[w.heap.size]? =some (.cells #[.pointer (some ⟨d,0,none⟩)] 24 (0,0))∧W.heap[w.heap.size+1]? =some (.cells #[v] 39 (0,0))∧W.heap[w.heap.size+1+1]? =some (.cells #[.int .i64 pre.length] 3 (0,0))
set_option maxRecDepth 100000 in
theorem PQ(h:Parts w base d F A aI ms)(v:Value)(fs:List UInt8)(hxk:∀Z,Turn F w Z→SliceAt Z v (fs.map ah))(hfl:fs.length≤9223372036854775807):
 Calls Tryz.prog 27 #[.pointer (some ⟨d,0,none⟩),v] w fun e w'=>e= .returned (.tuple #[])∧dA w w' base d F (A.gI fs):=by
 have hdF:=h.iT;have YJ:=h.lt d hdF;have hx:=hxk w (Turn.refl _ _);have Yn:∃xa xc,v= .slice xa fs.length xc:=by
  rcases hx with⟨rfl,hb⟩|⟨a,c,rfl,_⟩
  ·have:fs=[]:=by simpa using hb
   subst this;exact⟨_,_,rfl⟩
  ·exact⟨some a,c,by simp⟩
 obtain⟨xa,xc,rfl⟩:=Yn;refine(callsIn_wide (n:=7)).1 ?_;have H:Hid (Parts w base d F A aI ms):=h;have HX:Hid (SliceAt w (.slice xa fs.length xc) (fs.map ah)):=hx;have HXK:Hid (∀Z,Turn F w Z→SliceAt Z (.slice xa fs.length xc) (fs.map ah)):=hxk;clear h hx hxk;have f1:Fence.wide.fn 51:=trivial;refine callsIn_of_wp_marks Tryz.func27 rfl trivial ?_ rfl;simp only[Tryz.ntmps27,List.size_toArray,List.length_cons,List.length_nil,Nat.reduceAdd,Nat.reduceSub,Array.replicate_succ,Array.replicate_zero,List.push_toArray,List.append_toArray,List.nil_append,List.cons_append];gi_wp2_with (gi_at_call 51;refine(callsIn_wide.2 (callsIn_wide.1 (names_in d _ _))).mono ?_;rintro e w' ⟨rfl,rfl⟩)
 obtain⟨W3,hW3⟩:∃W3,(((w.alloc (.cells #[.pointer (some ⟨d,0,none⟩)] 24)).alloc (.cells #[.slice xa fs.length xc] 39)).alloc (.cells #[.int .i64 0] 3))=W3:=⟨_,rfl⟩;have hs3:W3.heap.size=w.heap.size+3:=by rw[←hW3];simp
 have hb3:Below w.heap.size w W3:=by
  rw[←hW3];exact(((Below.refl _ w).alloc (Nat.le_refl _) _).alloc (by simp) _).alloc (by simp;omega) _
 have hd3:W3.heap[w.heap.size]? =some (.cells #[.pointer (some ⟨d,0,none⟩)] 24 (0,0)):=by
  rw[←hW3,Below.heap_alloc _ _ _ (by simp;omega),Below.heap_alloc _ _ _ (by simp)];exact ai w _
 have hf3:W3.heap[w.heap.size+1]? =some (.cells #[.slice xa fs.length xc] 39 (0,0)):=by
  rw[←hW3,Below.heap_alloc _ _ _ (by simp)];have:=ai (w.alloc (.cells #[.pointer (some ⟨d,0,none⟩)] 24)) (.cells #[.slice xa fs.length xc] 39);rwa [World.size_alloc]at this
 have hk3:W3.heap[w.heap.size+1+1]? =some (.cells #[.int .i64 0] 3 (0,0)):=by
  rw[←hW3];have:=ai ((w.alloc (.cells #[.pointer (some ⟨d,0,none⟩)] 24)).alloc (.cells #[.slice xa fs.length xc] 39)) (.cells #[.int .i64 0] 3);rwa [World.size_alloc,World.size_alloc]at this
 simp only[hW3];obtain⟨W5,hW5⟩:∃W5,(W3.alloc (.cells #[.pointer (some ⟨d,0,none⟩)] 24)).alloc (.cells #[.string {data:= #[]}] 9)=W5:=⟨_,rfl⟩;have hs5:W5.heap.size=w.heap.size+5:=by rw[←hW5];simp[hs3]
 have hb5:Turn [] W3 W5:=by rw[←hW5];exact((Turn.refl [] W3).alloc _).alloc _
 have hB1:W5.heap[w.heap.size+1+1+1]? =some (.cells #[.pointer (some ⟨d,0,none⟩)] 24 (0,0)):=by
  rw[←hW5,Below.heap_alloc _ _ _ (by simp[hs3])];have:=ai W3 (.cells #[.pointer (some ⟨d,0,none⟩)] 24);rwa [hs3]at this
 have hB2:W5.heap[w.heap.size+1+1+1+1]? =some (.cells #[.string {data:= #[]}] 9 (0,0)):=by
  rw[←hW5];have:=ai (W3.alloc (.cells #[.pointer (some ⟨d,0,none⟩)] 24)) (.cells #[.string {data:= #[]}] 9);rwa [World.size_alloc,hs3]at this
 have EE:=H.out.lt;have agE:Turn [] w W5:=(Turn.of_below hb3 []).same hb5;have hP5:Parts W5 base d F A aI ms:=H.out.kept agE (by simp);have hI5:LY w base d F A aI (.slice xa fs.length xc) fs [] W5:=
  ⟨⟨F,ms,hP5,fun _ hk=>hk⟩,agE.mono (by simp),hb5.heap hd3 (by simp),hb5.heap hf3 (by simp),hb5.heap hk3 (by simp)⟩
 have acP:=LX hP5 {data:= #[]} (by simp[maxLen,ByteArray.size]) (w.heap.size+1+1+1) (w.heap.size+1+1+1+1) hB1 hB2 (F++[w.heap.size+1+1])
  (by intro k hk;rcases List.mem_append.1 hk with hk|hk; ·have:=EE k hk;omega
      ·simp only[List.mem_singleton]at hk;omega)
  (by intro hk;rcases List.mem_append.1 hk with hk|hk; ·have:=EE _ hk;omega
      ·simp only[List.mem_singleton]at hk;omega)
 rw[hW5];have Xv:Hid (SeqStopsK Fence.wide 6 Tryz.prog 78 #[.pointer (some ⟨w.heap.size+1+1+1,0,none⟩), .pointer (some ⟨w.heap.size+1+1+1+1,0,none⟩)] (fun x:pV A=> #[encStr x.1]) (PN (F++[w.heap.size+1+1]))
  (fun xs=>xs=cZ A ({data:= #[]}:ByteArray).data.toList) (fun pre=>pre<+:cZ A ({data:= #[]}:ByteArray).data.toList) (cZ A ({data:= #[]}:ByteArray).data.toList).length W5):=acP
 have HI5:Hid (LY w base d F A aI (.slice xa fs.length xc) fs [] W5):=hI5;clear hd3 hf3 hk3 hB1 hB2 agE hP5 hI5 acP hb5 hb3 hW5 hW3 f1;refine wpIn_rangeFunc_ownG rfl (by omega) (gf:=78) (lb:= #[.pointer (some ⟨w.heap.size+1+1+1,0,none⟩), .pointer (some ⟨w.heap.size+1+1+1+1,0,none⟩)]) rfl trivial (enters_of Tryz.func78 (by kernel_rfl) rfl)
  Xv.out (fun h k=>VM h k) (fun W l o o' h1 h2 h3 h4=>ZJ (w:=W5) W l o o' h1 h2 h3 h4) (Below.refl _ _) (fun _=>rfl)
  (LY w base d F A aI (.slice xa fs.length xc) fs) (fun _ _ _=>False) ?own (fun _ _ _ _ _ hs _ _=>hs) HI5.out
  (fun x=>{tmps:= #[.pointer (some ⟨d,0,none⟩), .slice xa fs.length xc, .pointer (some ⟨w.heap.size,0,none⟩), .pointer (some ⟨w.heap.size+1,0,none⟩), .pointer (some ⟨w.heap.size+1+1,0,none⟩),encStr x.1,undef, .pointer (some ⟨d,0,none⟩), .bool false, .pointer (some ⟨d,0,none⟩),
    .func (.func 78) #[] #[.pointer (some ⟨w.heap.size+1+1+1,0,none⟩), .pointer (some ⟨w.heap.size+1+1+1+1,0,none⟩)],encStr x.1,undef,undef,undef,undef,undef,undef,undef,undef,undef,undef,undef,undef,undef,undef,undef,undef,undef,undef,undef,undef,undef,undef,undef,undef,undef,undef,undef,undef,undef,undef,undef,undef,undef,undef,undef],defers:=[]}) ?assign ?body ?done ?stop
 case own=>
  rintro pre X Y row ⟨⟨F',ms',hP,hF'⟩,ht,hd,hf,hk⟩ hg hr;have t:Turn row.toList X Y:=(Turn.refl _ _).grown hg (by intro k hk;exact .inl (by simp[hk]));have Pe:∀k∈row.toList,w.heap.size+5≤k:=by
   intro k hk;simp only[Option.mem_toList]at hk;have:=(hr k hk).1;omega
  refine⟨⟨F',ms',hP.kept t (fun k hk e=>?_),hF'⟩,ht.trans t (fun k hk=> .inr (by have:=Pe k hk;omega)),t.heap hd (fun e=>?_),t.heap hf (fun e=>?_),t.heap hk (fun e=>?_)⟩
  ·have:=Pe k e;have:=EE k (hF' k hk);omega
  ·have:=Pe _ e;omega
  ·have:=Pe _ e;omega
  ·have:=Pe _ e;omega
 case assign=>
  intro l x W K hK;gi_wp2
  exact hK
 case body=>
  rintro l pre x W ⟨⟨F',ms',hP,hF'⟩,ht,hd,hf,hk⟩ aah;have hmx:(Tryz.prog).follows .mixedOrders=true:=by kernel_rfl
  have hxn:x.1∈(ed A fs (pre.map (·.1))).files.map (·.name):=by
   rw[EI];have:=x.2;unfold aT at this;rwa [List.mem_mergeSort]at this
  obtain⟨m,hm⟩:=PO hP hxn;obtain⟨pr,po,rfl,hnm⟩:=qp hm;have hfa:=hP.each m (by simp);obtain⟨sa,sc,hsl,adq,adO⟩:=hfa.2.form;have hxl:x.1.length≤maxLen:=by have:=pW H.out.good x.1 x.2;simp only[maxLen];omega
  have aaF:=hP.map.look (s:=⟨x.1.toArray⟩) (by rw[zh];exact hxl);rw[show(⟨x.1.toArray⟩:ByteArray).data.toList=x.1 by simp,hm]at aaF;simp only[uI]at aaF;have c1:=hP.c1;have cd:W.cell? ⟨w.heap.size,0,none⟩=some (.pointer (some ⟨d,0,none⟩)):=by rw[cell_of hd];rfl
  have cv:W.cell? ⟨w.heap.size+1,0,none⟩=some (.slice xa fs.length xc):=by rw[cell_of hf];rfl
  have ck:W.cell? ⟨w.heap.size+1+1,0,none⟩=some (.int .i64 pre.length):=by rw[cell_of hk];rfl
  have cf:W.cell? ⟨m.blk,0,none⟩=some (.slice sa m.abs.bytes.length sc):=by rw[cell_of hfa.1,hsl];rfl
  have cg:W.cell? ⟨m.blk,1,none⟩=some (.int .i64 m.abs.safe):=by rw[cell_of hfa.1];rfl
  have abj:=hP.good;have VN:m.abs∈(ed A fs (pre.map (·.1))).files:=by rw[hP.files];simp
  have aen:=abj.safe m.abs VN;have acz:m.abs.bytes.length≤1048576:=by
   have h1:=abj.used;have h2:=abj.room;rw[hP.files,List.map_append,List.map_cons,iD]at h1;omega
  have ast:pre.length≤200:=by
   have h1:(cZ A ({data:= #[]}:ByteArray).data.toList).length≤200:=by
    have h2:(cZ A ({data:= #[]}:ByteArray).data.toList).length≤(aT A).attach.length:=List.length_filter_le _ _;have h3:=H.out.good.count;rw[List.length_attach,lQ]at h2;omega
   omega
  have VO:=fun Z (hZ:Turn F w Z)=>S9 Z (.slice xa fs.length xc) fs (HXK.out Z hZ) pre.length (by omega) (by omega)
  have hfn:nS fs pre.length≤255:=by
   unfold nS;split
   ·omega
   ·have:=UInt8.toNat_lt (fs.getD (pre.length%fs.length) 0);omega
  obtain⟨n,hn⟩:∃n,n=min (m.abs.safe+nS fs pre.length) m.abs.bytes.length:=⟨_,rfl⟩;have apA:n≤m.abs.bytes.length:=by omega
  have hwr:IntKind.i64.wrap ((m.abs.safe:Int)+(nS fs pre.length:Int))=(m.abs.safe:Int)+(nS fs pre.length:Int):=by
   rw[IntWalk.i64_left,IntWalk.wrap64_in _ (by omega)]
  have ahw:∀ts t w,(Builtin.min_ ts t #[.int .i64 ((m.abs.safe:Int)+(nS fs pre.length:Int)), .int .i64 (m.abs.bytes.length:Int)]).run Tryz.prog w= .ok (.int .i64 (n:Int)) w:=by
   intro ts t w;rw[IP];congr 2
   split<;>omega
  have hnb:m.blk∉m.sl.ownBlock:=by
   have hnd:=hP.nodup;rw[hP.foot]at hnd;simp only[List.flatMap_append,List.flatMap_cons,List.nodup_cons,List.nodup_append,aF.foot]at hnd;intro e;exact hnd.2.2.1.2.1.1.1 (by simpa using e)
  have acE:=fun Z (hZ:Turn [] W Z)=>keep_any (hfa.kept hZ (by simp)) hnb n apA acz aen
  have agB:m.blk<w.heap.size:=EE _ (hF' _ (hP.lH (m:=m) (by simp) (by simp[aF.foot])));have ZN:Hid (∀Z,Turn F w Z→Calls Tryz.prog 53 #[.slice xa fs.length xc, .int .i64 pre.length] Z fun e w'=>e= .returned (.int .i64 (nS fs pre.length))∧Z=w'):=VO;have ZO:Hid (∀Z,Turn [] W Z→Calls Tryz.prog 52 #[.pointer (some ⟨m.blk,0,none⟩), .int .i64 n] Z fun e w'=>e= .returned (.tuple #[])∧gK w' base ⟨{m.abs with bytes:=m.abs.bytes.take n,safe:=min m.abs.safe n},m.blk,nP m.sl n⟩∧Turn [m.blk] Z w'):=acE;have HP:Hid (Parts W base d F' (ed A fs (pre.map (·.1))) aI (pr++m::po)):=hP;have HT:Hid (Turn F w W):=ht;have HN:Hid (n=min (m.abs.safe+nS fs pre.length) m.abs.bytes.length):=hn;have Wu:Hid (m.abs.name=x.1):=hnm;have Yd:Hid (m.blk∉m.sl.ownBlock):=hnb;have HC:Hid (nP m.sl n= .slice sa n n):=by show _=_;rw[hsl];rfl
  have sN:Hid (m.blk<w.heap.size):=agB;have hwk:IntKind.i64.wrap ((pre.length:Int)+1)=(pre.length:Int)+1:=by rw[IntWalk.i64_left,IntWalk.wrap64_in _ (by omega)]
  have g1:Fence.wide.fn 53:=trivial;have g2:Fence.wide.fn 52:=trivial;unfold encStr;have HD:Hid (W.heap[w.heap.size]? =_):=hd
  have HFv:Hid (W.heap[w.heap.size+1]? =_):=hf
  have HK:Hid (W.heap[w.heap.size+1+1]? =_):=hk
  clear hP ht hfa hsl hm hn hnm VO acE abj VN hxn hd hf hk hnb aah;gi_wp2
  refine rY (m:=15) rfl rfl hmx (by kernel_rfl) (by kernel_rfl) ?_;simp only[List.take_succ_cons,List.take_zero];repeat (any_goals (first|go_big_quiet_step ((go_at_call 53;exact Calls.quiet_of_same ((ZN.out _ (by exact HT.out.drewN _)).mono (fun e w' ⟨he,hw'⟩=>⟨he,hw'.symm⟩))))|quiet_step (fail)))
  refine wpQuiet_nil ?_;intro _ hw';obtain⟨nq,ajh⟩:=hw';subst ajh;gi_wp2_with fail
  refine(CallsIn.inRound l (callsIn_wide.2 (ZO.out _ (by exact(Turn.refl [] W).drewN _)))).mono ?_;rintro e W2 ⟨rfl,aeV,ht2⟩;have HA2:Hid (gK W2 base ⟨{m.abs with bytes:=m.abs.bytes.take n,safe:=min m.abs.safe n},m.blk,nP m.sl n⟩):=aeV;have HT2:Hid (Turn [m.blk] (W.drewN nq) W2):=ht2;have b1:W2.cell? ⟨m.blk,0,none⟩=some (.slice sa n n):=by rw[cell_of aeV.1,HC.out];rfl
  have b2:W2.frozen? ⟨m.blk,1,none⟩=false:=au aeV.1 1;have hkk:W2.heap[w.heap.size+1+1]? =some (.cells #[.int .i64 pre.length] 3 (0,0)):=by
   refine ht2.heap (by simpa using HK.out) ?_;have:=sN.out;simp;omega
  have b3:W2.cell? ⟨w.heap.size+1+1,0,none⟩=some (.int .i64 pre.length):=by rw[cell_of hkk];rfl
  have b5:W2.cell? ⟨m.blk,1,none⟩=some (.int .i64 (min m.abs.safe n:Nat)):=by rw[cell_of aeV.1];rfl
  have n1:(w.heap.size+1+1==m.blk)=false:=by have:=sN.out;rw[beq_eq_false_iff_ne];omega
  have n2:¬(w.heap.size+1+1=m.blk):=by have:=sN.out;omega
  have n3:¬(m.blk=w.heap.size+1+1):=by have:=sN.out;omega
  have b4:W2.frozen? ⟨w.heap.size+1+1,0,none⟩=false:=au hkk 0;have HKK:Hid (W2.heap[w.heap.size+1+1]? =some (.cells #[.int .i64 pre.length] 3 (0,0))):=hkk
  clear aeV ht2 hkk;gi_wp2
  have t1:Turn [m.blk] W (W2.setCell ⟨m.blk,1,none⟩ (.int .i64 n)):=(((Turn.refl [m.blk] W).drewN nq).same HT2.out).setCell (by simp) _;have t2:Turn [w.heap.size+1+1] (W2.setCell ⟨m.blk,1,none⟩ (.int .i64 n)) ((W2.setCell ⟨m.blk,1,none⟩ (.int .i64 n)).setCell ⟨w.heap.size+1+1,0,none⟩ (.int .i64 (pre.length+1))):=(Turn.refl _ _).setCell (by simp) _;have acx:gK (W2.setCell ⟨m.blk,1,none⟩ (.int .i64 n)) base ⟨dF fs pre.length m.abs,m.blk,nP m.sl n⟩:=by
   have e1:dF fs pre.length m.abs={m.abs with bytes:=m.abs.bytes.take n,safe:=n}:=by unfold dF;rw[←HN.out]
   rw[e1];refine⟨by rw[heap_set HA2.out.1 1];simp,?_⟩;exact HA2.out.2.kept (S:=[m.blk]) ((Turn.refl _ _).setCell (by simp) _) (by
    intro k hk e;simp only[List.mem_singleton]at e;subst e;exact Yd.out (oC m.sl n _ hk))
  have abj:Good ((ed A fs (pre.map (·.1))).upd m.abs.name (dF fs pre.length)):=HP.out.good.upd (fun _ _=>rfl) (fun f _ _=>by simp only[dF,List.length_take];omega) (Nat.le_trans (IQ (fun f _=>by simp only[dF,List.length_take];omega)) HP.out.good.used);obtain⟨F'',hP2,abH,_⟩:=HP.out.BP (m':=⟨dF fs pre.length m.abs,m.blk,nP m.sl n⟩) rfl rfl (t1.mono (by intro k hk;simp only[List.mem_singleton]at hk;subst hk;exact .inl (by simp[aF.foot]))) acx (fun k hk=> .inl (oC m.sl n k hk)) (A':=(ed A fs (pre.map (·.1))).upd m.abs.name (dF fs pre.length)) rfl rfl rfl (uU HP.out _) abj;have hF2:∀k∈F'',k∈F:=by
   intro k hk;rcases abH k hk with h1|h1
   ·exact hF' k h1
   ·exact hF' k (HP.out.lH (m:=m) (by simp) (by simp only[aF.foot,List.mem_cons,Option.mem_toList];exact .inr (oC m.sl n k h1)))
  have hmF:m.blk∈F:=hF' _ (HP.out.lH (m:=m) (by simp) (by simp[aF.foot]));have aan:Turn (m.blk::[w.heap.size+1+1]) W ((W2.setCell ⟨m.blk,1,none⟩ (.int .i64 n)).setCell ⟨w.heap.size+1+1,0,none⟩ (.int .i64 (pre.length+1))):=(t1.mono (by intro k hk;exact .inl (by simp at hk;simp[hk]))).trans t2 (by intro k hk;exact .inl (by simp at hk;simp[hk]));refine⟨wY aan ?_,PN.Cc aan ?_,⟨F'',pr++⟨dF fs pre.length m.abs,m.blk,nP m.sl n⟩::po,?_,hF2⟩,HT.out.trans aan ?_,aan.heap HD.out ?_,aan.heap HFv.out ?_,?_⟩
  ·intro k hk
   have:=sN.out;simp only[List.mem_cons,List.not_mem_nil,or_false]at hk;rcases hk with rfl|rfl<;>omega
  ·intro k hk
   simp only[List.mem_cons,List.not_mem_nil,or_false]at hk;rcases hk with rfl|rfl
   ·exact .inl (by simp[hmF])
   ·exact .inl (by simp)
  ·have e2:ed A fs ((pre++[x]).map (·.1))=(ed A fs (pre.map (·.1))).upd m.abs.name (dF fs pre.length):=by
    rw[List.map_append,List.map_cons,List.map_nil,oh,Wu.out,List.length_map]
   rw[e2];exact hP2.kept t2 (by intro k hk e;have:=EE k (hF2 k hk);simp only[List.mem_singleton]at e;omega)
  ·intro k hk
   simp only[List.mem_cons,List.not_mem_nil,or_false]at hk;rcases hk with rfl|rfl
   ·exact .inl hmF
   ·exact .inr (by omega)
  ·intro e
   have:=sN.out;simp only[List.mem_cons,List.not_mem_nil,or_false]at e;omega
  ·intro e
   have:=sN.out;simp only[List.mem_cons,List.not_mem_nil,or_false]at e;omega
  ·rw[heap_set (show(W2.setCell ⟨m.blk,1,none⟩ (.int .i64 n)).heap[w.heap.size+1+1]? =some (.cells #[.int .i64 pre.length] 3 (0,0))from((Turn.refl [m.blk] W2).setCell (by simp) _).heap HKK.out (by simp;exact n2)) 0]
   simp
 case done=>
  rintro D xs W hD rfl ⟨⟨F',ms',hP,hF'⟩,ht,hd,hf,hk⟩ hK;have cd:W.cell? ⟨w.heap.size,0,none⟩=some (.pointer (some ⟨d,0,none⟩)):=by rw[cell_of hd];rfl
  have c2:=hP.c2;have ff:W.frozen? ⟨d,2,none⟩=false:=au hP.self 2;have HP:Hid (Parts W base d F' (ed A fs ((cZ A ({data:= #[]}:ByteArray).data.toList).map (·.1))) aI ms'):=hP;have HT:Hid (Turn F w W):=ht;have HK:Hid (W.heap[D]? =some (.deferred (some []))):=hK
  clear hP ht hd hf hk hK;gi_wp2
  have hne:D≠d:=by omega
  have hK':(W.setCell ⟨d,2,none⟩ (.bool false)).heap[D]? =some (.deferred (some [])):=((Turn.refl [d] W).setCell (by simp) _).heap HK.out (by simpa using hne)
  have ht1:Turn [d] W ((W.setCell ⟨d,2,none⟩ (.bool false)).putObj D (.deferred none))∨True:= .inr trivial;refine⟨by simp, .inl ⟨_,_,rfl,run_takeDeferred hK',?_⟩⟩;have eN:(cZ A ([]:List UInt8)).map (·.1)=aT A:=by
   rw[zf];unfold dN;rw[List.filter_eq_self];intro a _;simp[kR]
  have hP:=HP.out;simp only[show({data:= #[]}:ByteArray).data.toList=[]from rfl,eN]at hP;have YT:Parts (W.setCell ⟨d,2,none⟩ (.bool false)) base d F' (A.gI fs) aI ms':=by
   refine hP.Gy ((Turn.refl _ _).setCell (by simp) _) ?_ rfl ?_
   ·rw[heap_set hP.self 2];simp[DA.gI]
   ·have hg:=hP.good
    exact {room:=hg.room,used:=hg.used,count:=hg.count,names:=hg.names,short:=hg.short,safe:=hg.safe,left:=by intro h;simp[DA.gI]at h}
  have tS:Turn F w (W.setCell ⟨d,2,none⟩ (.bool false)):=HT.out.setCell (.inl hdF) _;have tD:Turn [D] (W.setCell ⟨d,2,none⟩ (.bool false)) ((W.setCell ⟨d,2,none⟩ (.bool false)).putObj D (.deferred none)):=by
   refine⟨rfl,rfl,rfl,by simp,fun k _ hn=>?_⟩;exact World.putObj_heap_other (by simpa using hn)
  have aar:dA w ((W.setCell ⟨d,2,none⟩ (.bool false)).putObj D (.deferred none)) base d F (A.gI fs):=by
   refine⟨F',⟨_,_,YT.kept tD ?_⟩,tS.trans tD ?_,fun k hk=> .inl (hF' k hk)⟩
   ·intro k hk e
    have:=EE k (hF' k hk);simp only[List.mem_singleton]at e;omega
   ·intro k hk
    simp only[List.mem_singleton]at hk;exact .inr (by omega)
  clear ht1;refine⟨.tuple #[],?_,rfl,aar⟩;simp[results,Tryz.f27,go_sem]
 case stop=>
  rintro D c pre W hD _ h _;exact h.elim
end
end Dk
end
section
open Go.RowKit Go.Maps
set_option linter.unusedSimpArgs false
set_option linter.unusedVariables false
open Dk (DA FA aH fO dm dF ed aT)
namespace Lg
structure FS(A:DA)(room:Nat)(L:List FA):Prop where
 room:A.room=room
 files:A.files.Perm L
 nd:(L.map (·.name)).Nodup
section
variable {A:DA} {room:Nat} {L L':List FA} {nm bs:List UInt8} {f:FA}
theorem FS.perm(h:FS A room L)(hp:L.Perm L'):FS A room L':=⟨h.room,h.files.trans hp,(hp.map _).nodup_iff.1 h.nd⟩
theorem FS.names(h:FS A room L):(A.files.map (·.name)).Perm (L.map (·.name)):=h.files.map _
theorem FS.nodup(h:FS A room L):(A.files.map (·.name)).Nodup:=h.names.nodup_iff.2 h.nd
theorem FS.file(h:FS A room L)(hm:f∈L):A.file f.name=some f:=Ce h.nodup (h.files.mem_iff.2 hm)
theorem FS.N8(h:FS A room L)(hm:nm∉L.map (·.name)):A.file nm=none:=Cf (fun hc=>hm (h.names.mem_iff.1 hc))
theorem FS.has(h:FS A room L)(hm:f∈L):A.has f.name=true:=by rw[Dk.kz,h.file hm];rfl
theorem FS.len(h:FS A room L):A.files.length=L.length:=h.files.length_eq
theorem vI{l l':List FA}(h:l.Perm l'):aH l=aH l':=wS (h.map _)
theorem FS.used(h:FS A room L):aH A.files=aH L:=vI h.files
theorem FS.same{B:DA}(h:FS A room L)(h1:B.room=A.room)(h2:B.files=A.files):FS B room L:=⟨h1.trans h.room,by rw[h2];exact h.files,h.nd⟩
theorem FS.tick(h:FS A room L):FS A.tick room L:=h.same (Dk.jU A) (Dk.di A)
theorem jQ(f:FA)(l:List FA):aH (f::l)=f.bytes.length+aH l:=by simp[aH]
theorem FQ(l r:List FA):aH (l++r)=aH l+aH r:=by simp[aH]
theorem PR{A:DA}(h:A.limited=false):A.fails=false:=fQ h
theorem FS.make(h:FS A room L)(hfl:A.fails=false){s:ByteArray}(hn:s.data.toList∉L.map (·.name))(hok:Dk.nameB s=true)(hl:L.length<200):(A.make s).1=0∧FS (A.make s).2 room (⟨s.data.toList,[],0⟩::L)∧(A.make s).2.limited=A.limited:=by
 have h1:A.has s.data.toList=false:=by rw[Dk.kz,h.N8 hn];rfl
 have e:A.make s=(0,{A.tick with files:=A.files++[⟨s.data.toList,[],0⟩]}):=by
  unfold DA.make;rw[hfl,hok,h1,h.len,if_neg (by simp),if_neg (by simp),if_neg (by simp),if_neg (by omega)]
 rw[e];refine⟨rfl,⟨h.tick.room,(List.Perm.append_right _ h.files).trans List.perm_append_comm,?_⟩,Dk.iK A⟩;rw[List.map_cons,List.nodup_cons];exact⟨hn,h.nd⟩
theorem PS{l l':List FA}(h:l.Perm l')(nm:List UInt8)(g:FA→FA):(fO l nm g).Perm (fO l' nm g):=h.map _
theorem PT{l:List FA}{f:FA}(h:((f::l).map (·.name)).Nodup)(g:FA→FA):fO (f::l) f.name g=g f::l:=by
 rw[List.map_cons,List.nodup_cons]at h;unfold Dk.fO;rw[List.map_cons,if_pos (by simp)];congr 1
 conv=>rhs;rw[←List.map_id l]
 apply List.map_congr_left;intro x hx;rw[if_neg (fun e=>h.1 (List.mem_map.2 ⟨x,hx,by simpa using e⟩))];rfl
theorem FS.upd(h:FS A room (f::L))(g:FA→FA)(hg:(g f).name=f.name):FS (A.upd f.name g) room (g f::L):=by
 refine⟨h.room,?_,by have:=h.nd;rw[List.map_cons]at this⊢;rw[hg];exact this⟩;have h1:=PS h.files f.name g;rw[PT h.nd g]at h1;exact h1
theorem FS.add(h:FS A room (f::L))(hfl:A.fails=false)(hr:aH (f::L)+bs.length≤room):(A.add f.name bs).1=0∧FS (A.add f.name bs).2 room ({f with bytes:=f.bytes++bs}::L)∧(A.add f.name bs).2.limited=A.limited:=by
 have e:A.add f.name bs=(0,A.tick.upd f.name (fun f=>{f with bytes:=f.bytes++bs})):=by
  unfold DA.add;rw[hfl,h.has (by simp),h.used,h.room,if_neg (by simp),if_neg (by simp),if_neg (by omega)]
 rw[e];exact⟨rfl,h.tick.upd (fun f=>{f with bytes:=f.bytes++bs}) rfl,Dk.iK A⟩
theorem FS.sync(h:FS A room (f::L))(hfl:A.fails=false):(A.sync f.name).1=0∧FS (A.sync f.name).2 room ({f with safe:=f.bytes.length}::L)∧(A.sync f.name).2.limited=A.limited:=by
 have e:A.sync f.name=(0,A.tick.upd f.name (fun f=>{f with safe:=f.bytes.length})):=by
  unfold DA.sync;rw[hfl,h.has (by simp),if_neg (by simp),if_neg (by simp)]
 rw[e];exact⟨rfl,h.tick.upd (fun f=>{f with safe:=f.bytes.length}) rfl,Dk.iK A⟩
theorem FS.cut(h:FS A room (f::L))(hfl:A.fails=false){n:Nat}(hn:n≤f.bytes.length):(A.cut f.name (n:Int)).1=0∧FS (A.cut f.name (n:Int)).2 room (Dk.wI n f::L)∧(A.cut f.name (n:Int)).2.limited=A.limited:=by
 have e:A.cut f.name (n:Int)=(0,A.tick.upd f.name (Dk.wI n)):=by
  unfold DA.cut;rw[hfl,if_neg (by simp),h.file (f:=f) (by simp)];simp only;rw[if_neg (by omega)];rfl
 rw[e];exact⟨rfl,h.tick.upd (Dk.wI n) rfl,Dk.iK A⟩
theorem Xw{l:List FA}{x:List UInt8}(h:x∉l.map (·.name)):dm l x=l:=by
 unfold Dk.dm;rw[List.filter_eq_self];intro q hq;have:(q.name==x)=false:=by
  rw[beq_eq_false_iff_ne];intro e;exact h (List.mem_map.2 ⟨q,hq,e⟩)
 simp[this]
theorem D9{l:List FA}{f:FA}(h:((f::l).map (·.name)).Nodup):dm (f::l) f.name=l:=by
 rw[List.map_cons,List.nodup_cons]at h;have:dm (f::l) f.name=dm l f.name:=by unfold Dk.dm;rw[List.filter_cons,if_neg (by simp)]
 rw[this,Xw h.1]
theorem FS.remove(h:FS A room (f::L))(hfl:A.fails=false):(A.remove f.name).1=0∧FS (A.remove f.name).2 room L∧(A.remove f.name).2.limited=A.limited:=by
 have hnd:=h.nd;rw[List.map_cons,List.nodup_cons]at hnd;have e:A.remove f.name=(0,{A.tick with files:=dm A.files f.name}):=by
  unfold DA.remove;rw[hfl,h.has (by simp),if_neg (by simp),if_neg (by simp)]
 rw[e];refine⟨rfl,⟨h.tick.room,?_,hnd.2⟩,Dk.iK A⟩;have h1:(dm A.files f.name).Perm (dm (f::L) f.name):=h.files.filter _;rw[D9 h.nd]at h1;exact h1
theorem FS.rename{g:FA}(h:FS A room (f::g::L))(hfl:A.fails=false){tn:ByteArray}(hok:Dk.nameB tn=true)(hg:g.name=tn.data.toList):(A.rename f.name tn).1=0∧FS (A.rename f.name tn).2 room ({f with name:=tn.data.toList}::L)∧(A.rename f.name tn).2.limited=A.limited:=by
 have hnd:=h.nd;rw[List.map_cons,List.nodup_cons,List.map_cons,List.nodup_cons]at hnd;have e:A.rename f.name tn=(0,{A.tick with files:=dm (dm A.files f.name) tn.data.toList++[{f with name:=tn.data.toList}]}):=by
  unfold DA.rename;rw[hfl,if_neg (by simp),h.file (f:=f) (by simp)];simp only;rw[hok,if_neg (by simp)]
 rw[e];refine⟨rfl,⟨h.tick.room,?_,?_⟩,Dk.iK A⟩
 ·have h1:(dm A.files f.name).Perm (dm (f::g::L) f.name):=h.files.filter _
  rw[D9 h.nd]at h1;have h2:(dm (dm A.files f.name) tn.data.toList).Perm (dm (g::L) tn.data.toList):=h1.filter _;rw[←hg,D9 (by rw[List.map_cons,List.nodup_cons];exact hnd.2)]at h2;rw[hg]at h2;exact(List.Perm.append_right _ h2).trans List.perm_append_comm
 ·rw[List.map_cons,List.nodup_cons]
  exact⟨by rw[←hg];exact hnd.2.1,hnd.2.2⟩
end
theorem N9{A:DA}(h:A.fails=true)(s:ByteArray):A.make s=(14,A):=by unfold DA.make;rw[if_pos h]
theorem LZ{A:DA}(h:A.fails=true)(nm bs:List UInt8):A.add nm bs=(14,A):=by unfold DA.add;rw[if_pos h]
theorem Ci{A:DA}(h:A.fails=true)(nm:List UInt8):A.sync nm=(14,A):=by unfold DA.sync;rw[if_pos h]
theorem Tc{A:DA}(h:A.fails=true)(nm:List UInt8)(n:Int):A.cut nm n=(14,A):=by unfold DA.cut;rw[if_pos h]
theorem jD{A:DA}(h:A.fails=true)(nm:List UInt8):A.remove nm=(14,A):=by unfold DA.remove;rw[if_pos h]
theorem PU{A:DA}(h:A.fails=true)(nm:List UInt8)(tn:ByteArray):A.rename nm tn=(14,A):=by unfold DA.rename;rw[if_pos h]
theorem Hq(A:DA)(fs:List UInt8):∀pre:List (List UInt8),pre.Nodup→∃k:List UInt8→Nat,(ed A fs pre).files=A.files.map (fun f=>if f.name∈pre then dF fs (k f.name) f else f):=by
 refine Dk.D8 ?_ ?_
 ·intro _
  exact⟨fun _=>0,by simp[ed]⟩
 ·intro pre x ih hnd
  rw[List.nodup_append]at hnd;obtain⟨k,hk⟩:=ih hnd.1;have hx:x∉pre:=fun hm=>hnd.2.2 x hm x (by simp) rfl
  refine⟨fun n=>if n=x then pre.length else k n,?_⟩;rw[Dk.oh];unfold DA.upd Dk.fO;simp only;rw[hk,List.map_map];apply List.map_congr_left;intro f _;simp only[Function.comp,List.mem_append,List.mem_singleton];by_cases h1:f.name=x
  ·have h2:f.name∉pre:=by rw[h1];exact hx
   simp[h1,hx]
  ·by_cases h2:f.name∈pre
   ·have h3:(dF fs (k f.name) f).name=f.name:=rfl
    simp[h1,h2,h3]
   ·simp[h1,h2]
theorem FS.gI{A:DA}{room:Nat}{L:List FA}(h:FS A room L)(fs:List UInt8):∃k:List UInt8→Nat,FS (A.gI fs) room (L.map (fun f=>dF fs (k f.name) f)):=by
 have hnd:(aT A).Nodup:=by
  unfold Dk.aT;exact(List.mergeSort_perm _ _).nodup_iff.2 h.nodup
 obtain⟨k,hk⟩:=Hq A fs (aT A) hnd;have hk2:(A.gI fs).files=A.files.map (fun f=>dF fs (k f.name) f):=by
  show(ed A fs (aT A)).files=_;rw[hk];apply List.map_congr_left;intro f hf;rw[if_pos];unfold Dk.aT;exact(List.mergeSort_perm _ _).mem_iff.2 (List.mem_map_of_mem hf)
 refine⟨k,⟨(Dk.Ho A fs _).1.trans h.room,by rw[hk2];exact h.files.map _,?_⟩⟩;rw[List.map_map];exact h.nd
end Lg
end
section
open Go.RowKit Go.Maps
set_option linter.unusedSimpArgs false
set_option linter.unusedVariables false
open Dk (DA FA aH fO dm)
open Sg (Chain flat ae)
namespace Lg
abbrev FL:Type:=List (List UInt8×List UInt8)
structure FP(A:DA)(room:Nat)(L:FL):Prop where
 lim:A.limited=false
 room:A.room=room
 files:(A.files.map (fun f=>(f.name,f.bytes))).Perm L
 nd:(L.map (·.1)).Nodup
section
variable {A:DA} {room:Nat} {L L':FL} {nm b bs:List UInt8}
theorem FP.perm(h:FP A room L)(hp:L.Perm L'):FP A room L':=⟨h.lim,h.room,h.files.trans hp,(hp.map _).nodup_iff.1 h.nd⟩
theorem FP.names(h:FP A room L):(A.files.map (·.name)).Perm (L.map (·.1)):=by
 have:=h.files.map Prod.fst;simpa[Function.comp_def]using this
theorem FP.nodup(h:FP A room L):(A.files.map (·.name)).Nodup:=h.names.nodup_iff.2 h.nd
theorem FP.bytes(h:FP A room L)(hm:(nm,b)∈L):bu A nm=some b:=by
 obtain⟨f,hf,e⟩:=List.mem_map.1 (h.files.mem_iff.2 hm);have e1:f.name=nm:=congrArg Prod.fst e;have e2:f.bytes=b:=congrArg Prod.snd e;unfold bu DA.file;have:=Ce h.nodup hf;rw[e1]at this;rw[this];simp[e2]
theorem FP.has(h:FP A room L)(hm:nm∈L.map (·.1)):A.has nm=true:=by
 obtain⟨q,hq,rfl⟩:=List.mem_map.1 hm;have hb:=h.bytes (nm:=q.1) (b:=q.2) hq;unfold bu at hb;rw[Dk.kz];cases hf:A.file q.1 with
 |none=>rw[hf]at hb;simp at hb
 |some f=>rfl
theorem FP.Xi(h:FP A room L)(hm:nm∉L.map (·.1)):A.file nm=none:=Cf (fun hc=>hm (h.names.mem_iff.1 hc))
theorem FP.len(h:FP A room L):A.files.length=L.length:=by
 have:=h.files.length_eq;simpa using this
def nT(L:FL):Nat:=(L.map (fun q=>q.2.length)).sum
theorem FP.used(h:FP A room L):aH A.files=nT L:=by
 have:=wS (h.files.map (fun q=>q.2.length));unfold nT;rw[←this];simp[aH,Function.comp_def]
theorem FP.make(h:FP A room L){s:ByteArray}(hn:s.data.toList∉L.map (·.1))(hok:Dk.nameB s=true)(hl:L.length<200):(A.make s).1=0∧FP (A.make s).2 room ((s.data.toList,[])::L):=by
 have e:A.make s=(0,{A with files:=A.files++[⟨s.data.toList,[],0⟩]}):=by
  unfold DA.make;have h1:A.has s.data.toList=false:=by rw[Dk.kz,h.Xi hn];rfl
  rw[fQ h.lim,hok,h1,h.len,if_neg (by simp),if_neg (by simp),if_neg (by simp),if_neg (by omega),jb h.lim]
 rw[e];refine⟨rfl,h.lim,h.room,?_,?_⟩
 ·simp only[List.map_append,List.map_cons,List.map_nil]
  exact(List.Perm.append_right _ h.files).trans List.perm_append_comm
 ·rw[List.map_cons,List.nodup_cons]
  exact⟨hn,h.nd⟩
theorem Oa{fs:List FA}(g:FA→FA)(hg:∀f,(g f).name=f.name)(nm:List UInt8):((fO fs nm g).map (fun f=>(f.name,f.bytes)))=fs.map (fun f=>(f.name,if f.name=nm then(g f).bytes else f.bytes)):=by
 unfold Dk.fO;rw[List.map_map];apply List.map_congr_left;intro x _;simp only[Function.comp];by_cases e:x.name=nm
 ·simp[e,hg]
 ·simp[e]
theorem FP.sync(h:FP A room L)(hm:nm∈L.map (·.1)):(A.sync nm).1=0∧FP (A.sync nm).2 room L:=by
 have e:A.sync nm=(0,A.upd nm (fun f=>{f with safe:=f.bytes.length})):=by
  unfold DA.sync;rw[fQ h.lim,h.has hm,if_neg (by simp),if_neg (by simp),jb h.lim]
 rw[e];refine⟨rfl,h.lim,h.room,?_,h.nd⟩;show((fO A.files nm _).map (fun f=>(f.name,f.bytes))).Perm L;rw[Oa (fun f=>{f with safe:=f.bytes.length}) (fun _=>rfl) nm];simpa using h.files
theorem FP.add(h:FP A room ((nm,b)::L))(hr:nT ((nm,b)::L)+bs.length≤room):(A.add nm bs).1=0∧FP (A.add nm bs).2 room ((nm,b++bs)::L):=by
 have e:A.add nm bs=(0,A.upd nm (fun f=>{f with bytes:=f.bytes++bs})):=by
  unfold DA.add;rw[fQ h.lim,h.has (by simp),h.used,h.room,if_neg (by simp),if_neg (by simp),if_neg (by omega),jb h.lim]
 rw[e];refine⟨rfl,h.lim,h.room,?_,h.nd⟩;show((fO A.files nm _).map (fun f=>(f.name,f.bytes))).Perm _;rw[Oa (fun f=>{f with bytes:=f.bytes++bs}) (fun _=>rfl) nm];have h1:A.files.map (fun f=>(f.name,if f.name=nm then({f with bytes:=f.bytes++bs}:FA).bytes else f.bytes))=(A.files.map (fun f=>(f.name,f.bytes))).map (fun q=>(q.1,if q.1=nm then q.2++bs else q.2)):=by
  rw[List.map_map];rfl
 rw[h1];refine(h.files.map _).trans ?_;have hnd:=h.nd;rw[List.map_cons,List.nodup_cons]at hnd;have h2:L.map (fun q=>(q.1,if q.1=nm then q.2++bs else q.2))=L.map id:=by
  apply List.map_congr_left;intro q hq;rw[if_neg (fun e=>hnd.1 (List.mem_map.2 ⟨q,hq,e⟩))];rfl
 rw[List.map_cons,h2];simp
theorem Ea{l:FL}{x:List UInt8}(h:x∉l.map (·.1)):l.filter (fun q=> !(q.1==x))=l:=by
 rw[List.filter_eq_self];intro q hq;have:(q.1==x)=false:=by
  rw[beq_eq_false_iff_ne];intro e;exact h (List.mem_map.2 ⟨q,hq,e⟩)
 simp[this]
theorem FP.out(h:FP A room L)(nm:List UInt8):((dm A.files nm).map (fun f=>(f.name,f.bytes))).Perm (L.filter (fun q=> !(q.1==nm))):=by
 have:(dm A.files nm).map (fun f=>(f.name,f.bytes))=(A.files.map (fun f=>(f.name,f.bytes))).filter (fun q=> !(q.1==nm)):=by
  unfold Dk.dm;rw[List.filter_map];rfl
 rw[this];exact h.files.filter _
theorem FP.rename(h:FP A room ((nm,b)::L)){tn:ByteArray}(hok:Dk.nameB tn=true):(A.rename nm tn).1=0∧FP (A.rename nm tn).2 room ((tn.data.toList,b)::L.filter (fun q=> !(q.1==tn.data.toList))):=by
 have hb:=h.bytes (nm:=nm) (b:=b) (by simp);unfold bu at hb;obtain⟨f,hf,hfb⟩:=Option.map_eq_some_iff.1 hb;have hnd:=h.nd;rw[List.map_cons,List.nodup_cons]at hnd;have e:A.rename nm tn=(0,{A with files:=dm (dm A.files nm) tn.data.toList++[{f with name:=tn.data.toList}]}):=by
  unfold DA.rename;rw[fQ h.lim,if_neg (by simp),hf];simp only;rw[hok,if_neg (by simp),jb h.lim]
 rw[e];have h1:((nm,b)::L).filter (fun q=> !(q.1==nm))=L:=by
  rw[List.filter_cons,if_neg (by simp),Ea hnd.1]
 have h2:=(h.out nm);rw[h1]at h2;have h3:((dm (dm A.files nm) tn.data.toList).map (fun f=>(f.name,f.bytes))).Perm (L.filter (fun q=> !(q.1==tn.data.toList))):=by
  have:(dm (dm A.files nm) tn.data.toList).map (fun f=>(f.name,f.bytes))=((dm A.files nm).map (fun f=>(f.name,f.bytes))).filter (fun q=> !(q.1==tn.data.toList)):=by
   unfold Dk.dm;rw[List.filter_map];rfl
  rw[this];exact h2.filter _
 refine⟨rfl,h.lim,h.room,?_,?_⟩
 ·simp only[List.map_append,List.map_cons,List.map_nil]
  refine(List.Perm.append_right _ h3).trans (List.perm_append_comm.trans ?_);simp[hfb]
 ·rw[List.map_cons,List.nodup_cons]
  refine⟨fun hm=>?_,hnd.2.sublist (List.filter_sublist.map _)⟩;obtain⟨q,hq,e⟩:=List.mem_map.1 hm;have:=(List.mem_filter.1 hq).2;simp[e]at this
theorem FP.remove(h:FP A room ((nm,b)::L)):(A.remove nm).1=0∧FP (A.remove nm).2 room L:=by
 have hnd:=h.nd;rw[List.map_cons,List.nodup_cons]at hnd;have e:A.remove nm=(0,{A with files:=dm A.files nm}):=by
  unfold DA.remove;rw[fQ h.lim,h.has (by simp),if_neg (by simp),if_neg (by simp),jb h.lim]
 rw[e];refine⟨rfl,h.lim,h.room,?_,hnd.2⟩;have h2:=h.out nm;rw[List.filter_cons,if_neg (by simp),Ea hnd.1]at h2;exact h2
end
theorem FP.empty(room:Nat):FP (DA.empty room) room []:=⟨rfl,rfl,by simp[DA.empty],by simp⟩
def fG(dir:ByteArray)(ss:List (Nat×List Bt.aB)):FL:=ss.map (fun p=>(bJ dir p.1,flat p.2))
end Lg
end
end Go.Proofs.YtficbckncieabaaGreatDoor
