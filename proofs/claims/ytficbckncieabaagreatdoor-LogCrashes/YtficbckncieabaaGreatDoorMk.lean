/- Lemmas of the claim, part k of 14. -/
import Derived.Test.YtficbckncieabaaGreatDoorMg
import Derived.Test.YtficbckncieabaaGreatDoorMi
import Derived.Test.YtficbckncieabaaGreatDoorMj
import Derived.Deep.CutRange
import Derived.Shelf.Abstract
import Derived.Test.YtficbckncieabaaGreatDoorMh
set_option maxHeartbeats 16000000
namespace Go.Proofs.YtficbckncieabaaGreatDoor
open Go.RowKit Go.Maps
set_option linter.unusedSimpArgs false
set_option linter.unusedVariables false
section
set_option maxRecDepth 100000
attribute [local go_sem] Oper.semAt_some
open Dk (DA aj Parts dA aC bQ)
open Sg (aS aA dV Both Came ae flat Chain)
namespace Lg
inductive qM (gr:LV→List (Nat×List Bt.aB)→Bool→Prop) (dir:ByteArray):DA→LV→List (Nat×List Bt.aB)→Int→DA→LV→List (Nat×List Bt.aB)→Prop
 |last {A:DA} {v:LV} {m:Nat×List Bt.aB}:qM gr dir A v [m] 0 A v [m]
 |stop {A:DA} {v:LV} {ss:List (Nat×List Bt.aB)} (h:gr v ss false):qM gr dir A v ss 0 A v ss
 |fail {A:DA} {v:LV} {p q:Nat×List Bt.aB} {r:List (Nat×List Bt.aB)} (hg:gr v (p::q::r) true) (h:(A.remove (bJ dir p.1)).1≠0):qM gr dir A v (p::q::r) (A.remove (bJ dir p.1)).1 (A.remove (bJ dir p.1)).2 (fF (A.remove (bJ dir p.1)).1 v) (p::q::r)
 |step {A A':DA} {v v':LV} {p q:Nat×List Bt.aB} {r ss':List (Nat×List Bt.aB)} {c:Int} (hg:gr v (p::q::r) true) (h:(A.remove (bJ dir p.1)).1=0) (k:qM gr dir (A.remove (bJ dir p.1)).2 {v with start:=max v.start (q.1:Int)} (q::r) c A' v' ss'):qM gr dir A v (p::q::r) c A' v' ss'
theorem sW.tail{A A':DA}{dir:ByteArray}{p:Nat×List Bt.aB}{ss:List (Nat×List Bt.aB)}(h:sW A dir (p::ss))(hnd:((p::ss).map (·.1)).Nodup)(hs:dZ A A' [bJ dir p.1]):sW A' dir ss:=by
 rw[List.map_cons,List.nodup_cons]at hnd;refine⟨fun q hq=>h.base q (by simp[hq]),fun q hq=>?_,fun q hq=>h.chain q (by simp[hq]),by have:=h.many;simp at this;omega⟩;obtain⟨f,hf,hb⟩:=h.file q (by simp[hq]);have hne:(Sn.nameB dir q.1).data.toList∉[bJ dir p.1]:=fun hm=>by
  rw[List.mem_singleton]at hm;exact hnd.1 (List.mem_map.2 ⟨q,hq,fK (h.base q (by simp[hq])) (h.base p (by simp)) hm⟩)
 have:=hs _ hne;unfold bu at this;rw[hf]at this;obtain⟨g,hg,e⟩:=Option.map_eq_some_iff.1 this;exact⟨g,hg,by rw[e];exact hb⟩
theorem FW(gr:LV→List (Nat×List Bt.aB)→Bool→Prop)(BX:World→Prop)(w:World)(base d:Nat)(F:List Nat)(A:DA)(lb:Nat)(gv:Value)(dir:ByteArray)(v:LV)(ms:List SM)(h:az w base d F A lb gv dir v ms)(gG:dir.size≤1000)(hok:sW A dir (ms.map SM.abs))(hnd:((ms.map SM.abs).map (·.1)).Nodup)(hne:ms≠[])
 (hg:∀Z,Turn (aJ F lb gv ms) w Z→As.iq Z)(hbx:BX w)
 (acE:∀Z Z' F gv A v ms,az Z base d F A lb gv dir v ms→Turn (aJ F lb gv ms) Z Z'→BX Z→BX Z')(g0:Nat)(caps:Array Value)(eg:∀args w,(callFunc g0 args).run Tryz.prog w= .ok (.enter g0 args) w)
 (hgo:∀Z F gv A v m0 m1 r,az Z base d F A lb gv dir v (m0::m1::r)→sW A dir ((m0::m1::r).map SM.abs)→BX Z→Calls Tryz.prog g0 (#[.pointer (some ⟨m0.sb,0,none⟩), .pointer (some ⟨m1.sb,0,none⟩)]++caps) Z fun e w'=>∃b,e= .returned (.bool b)∧gr v ((m0::m1::r).map SM.abs) b∧Turn [] Z w'):
 Calls Tryz.prog 43 #[.pointer (some ⟨lb,0,none⟩), .func (.func g0) #[] caps] w fun e w'=>∃c A' v' ss',qM gr dir A v (ms.map SM.abs) c A' v' ss'∧e= .returned (.tuple #[.int .i64 (if c=0 then(((ms.map SM.abs).length-ss'.length:Nat):Int)else 0),aC c])∧ig w w' base d (aJ F lb gv ms) A' lb dir v' ss'∧BX w':=by
 have qF:=hok.many;obtain⟨G,hG⟩:∃G,G=aJ F lb gv ms:=⟨_,rfl⟩;obtain⟨ss,hss⟩:∃ss,ss=ms.map SM.abs:=⟨_,rfl⟩;have aly:ig w w base d G A lb dir v ss:=by rw[hG,hss];exact h.quiet (Turn.refl _ _)
 have ac8:ss≠[]:=by rw[hss];simpa using hne
 rw[←hG]at hg;rw[←hss]at hok hnd qF;rw[←hG,←hss];have apL:=hide aly;have apM:=hide hok;have apN:=hide hnd;have apO:=hide hbx;have apP:=hide ac8;have HEG:=hide hg;have xe:=hide acE;have apQ:=hide hgo;clear h hok hnd hg hbx acE hgo aly hne ac8 hG hss;have hmx:maxLen=9223372036854775807:=by simp[maxLen]
 go_enter Tryz.func43,Tryz.ntmps43
 go_wp2
 go_loopw [6] (fun iv wr=>∃(i:Nat) (A1:DA) (v1:LV) (ss1:List (Nat×List Bt.aB)),iv= .int .i64 i∧i+ss1.length=ss.length∧(ig w wr base d G A1 lb dir v1 ss1∧ss1≠[])∧(sW A1 dir ss1∧(ss1.map (·.1)).Nodup)∧BX wr∧∀c A' v' ss',qM gr dir A1 v1 ss1 c A' v' ss'→qM gr dir A v ss c A' v' ss') (fun iv _=>ss.length+1-(intOf iv).toNat)
 case atStart=>exact⟨0,A,v,ss,rfl,by omega,⟨apL.out,apP.out⟩,⟨apM.out,apN.out⟩,apO.out,fun _ _ _ _ h=>h⟩
 case round=>
  obtain⟨i,A1,v1,ss1,rfl,hil,⟨hds,ajn⟩,⟨hok,hnd⟩,hbx,hct⟩:=hrel;obtain⟨F1,gv1,ms1,jI,hms,htw,hft⟩:=hds;subst hms;obtain⟨g0',cap,hgv,Ag,uF⟩:=jI.row.form;rw[hmx]at uF;rw[List.length_map]at hil;have BR:=hide hbx;have LC:=hide hct;have Yl:=hide hnd;have xq:=hide hok;clear hbx hct hnd hok;cases ms1 with
  |nil=>exact absurd rfl ajn
  |cons m0 msr=>
  cases msr with
  |cons m1 r=>
   obtain⟨g,cap',e,hc0, -⟩:=jI.row.at fJ (j:=0) (by simp);obtain⟨g',cap'',e',hc1, -⟩:=jI.row.at fJ (j:=1) (by simp);subst hgv;simp only[Value.slice.injEq,true_and]at e e';obtain⟨rfl,rfl⟩:=e;simp only[Option.some.injEq,Addr.mk.injEq,and_true]at e';obtain⟨rfl,rfl⟩:=e';have k0:wr.cell? ⟨g,0,none⟩=some (.pointer (some ⟨m0.sb,0,none⟩)):=by simpa[DL]using hc0 0 (by omega)
   have k1:wr.cell? ⟨g,1,none⟩=some (.pointer (some ⟨m1.sb,0,none⟩)):=by simpa[DL]using hc1 0 (by omega)
   have abK:∀Z,Turn [] wr Z→Z.cell? ⟨lb,3,none⟩=some (.slice (some ⟨g,0,none⟩) (r.length+1+1) cap)∧lb<Z.heap.size∧Z.cell? ⟨g,0,none⟩=some (.pointer (some ⟨m0.sb,0,none⟩))∧Z.cell? ⟨g,1,none⟩=some (.pointer (some ⟨m1.sb,0,none⟩)):=fun Z hZ=>
    ⟨(jI.still hZ).c3,lt_of_heap (jI.still hZ).box,(World.cell?_of_block (w:=wr) (hZ.block _ (World.block_lt_of_cell? _ _ k0) (by simp))).trans k0,(World.cell?_of_block (w:=wr) (hZ.block _ (World.block_lt_of_cell? _ _ k1) (by simp))).trans k1⟩
   have hgo:=fun(Z:World) (hZ:Turn [] wr Z)=>apQ.out Z F1 _ A1 v1 m0 m1 r (jI.still hZ) xq.out (xe.out wr Z F1 _ A1 v1 _ jI (hZ.mono (by simp)) BR.out)
   have HC:=hide abK;have NT:=hide hgo;have xP:=hide jI;have dO:=hide htw;have KQ:=hide hft;clear jI htw hft hc0 hc1 abK hgo k0 k1 ajn;rw[List.length_cons,List.length_cons]at hil Ag;have Yp:=hide hil;clear hil;go_wp2
   refine jT [] (by kernel_rfl) rfl ?_;apply Lo.r0 1 rfl 0 (by intro u;conv=>lhs;whnf) rfl
   ·intro a w1 hR e0 K hK
    go_simp
    exact hK _ rfl
   apply Lo.r1 2 rfl 8 0 (fun _=>rfl) rfl (by kernel_rfl)
   ·intro a w1 hR e8 K hK
    go_simp
    exact hK _ rfl
   apply Lo.r1 3 rfl 9 1 (fun _=>rfl) rfl (by kernel_rfl)
   ·intro a w1 hR e9 K hK
    go_simp
    exact hK _ rfl
   apply Lo.r1 4 rfl 10 2 (fun _=>rfl) rfl (by kernel_rfl)
   ·intro a w1 hR e10 K hK
    obtain⟨c3,z3,k0,k1⟩:=HC.out w1 hR.dr;go_simp
    exact hK _ rfl
   apply Lo.r1 5 rfl 11 3 (fun _=>rfl) rfl (by kernel_rfl)
   ·intro a w1 hR e11 K hK
    go_simp
    exact hK _ rfl
   refine Lo.df 6 rfl rfl [4] (.bool (true)) (by kernel_rfl) (fun u w1 hR hF=>?_) (Turn.refl _) ?_
   ·obtain⟨h4, -⟩:=hF
    refine⟨rfl,fun a ha K hK=>?_⟩;have e12:=(ha 12).trans h4;clear ha h4;go_simp
    refine hK _ ?_;simp;omega
   apply Lo.r1 7 rfl 13 5 (fun _=>rfl) rfl (by kernel_rfl)
   ·intro a w1 hR e13 K hK
    go_simp
    exact hK _ rfl
   apply Lo.q0 8 rfl 6 1 rfl rfl (fun _=>rfl) rfl (by intro u;conv=>lhs;whnf) rfl (by kernel_rfl)
   ·intro a w1 hR e1 K hK
    go_simp
    exact hK _ rfl
   apply Lo.q0 9 rfl 6 0 rfl rfl (fun _=>rfl) rfl (by intro u;conv=>lhs;whnf) rfl (by kernel_rfl)
   ·intro a w1 hR e0 K hK
    go_simp
    exact hK _ rfl
   apply Lo.q1 10 rfl 6 16 8 rfl rfl (fun _=>rfl) rfl (fun _=>rfl) rfl rfl (by kernel_rfl)
   ·intro a w1 hR e16 K hK
    go_simp
    exact hK _ rfl
   apply Lo.q1 11 rfl 6 17 9 rfl rfl (fun _=>rfl) rfl (fun _=>rfl) rfl rfl (by kernel_rfl)
   ·intro a w1 hR e17 K hK
    go_simp
    exact hK _ rfl
   apply Lo.q1 12 rfl 6 18 10 rfl rfl (fun _=>rfl) rfl (fun _=>rfl) rfl rfl (by kernel_rfl)
   ·intro a w1 hR e18 K hK
    obtain⟨c3,z3,k0,k1⟩:=HC.out w1 hR.dr;go_simp
    exact hK _ rfl
   apply Lo.q1 13 rfl 6 19 11 rfl rfl (fun _=>rfl) rfl (fun _=>rfl) rfl rfl (by kernel_rfl)
   ·intro a w1 hR e19 K hK
    have h12:(0:Int)<(r.length:Int)+1+1:=by omega
    go_simp
    exact hK _ rfl
   apply Lo.q1 14 rfl 6 20 12 rfl rfl (fun _=>rfl) rfl (fun _=>rfl) rfl rfl (by kernel_rfl)
   ·intro a w1 hR e20 K hK
    obtain⟨c3,z3,k0,k1⟩:=HC.out w1 hR.dr;go_simp
    exact hK _ rfl
   apply Lo.q0 15 rfl 6 0 rfl rfl (fun _=>rfl) rfl (by intro u;conv=>lhs;whnf) rfl (by kernel_rfl)
   ·intro a w1 hR e0 K hK
    go_simp
    exact hK _ rfl
   apply Lo.q1 16 rfl 6 22 14 rfl rfl (fun _=>rfl) rfl (fun _=>rfl) rfl rfl (by kernel_rfl)
   ·intro a w1 hR e22 K hK
    go_simp
    exact hK _ rfl
   apply Lo.q1 17 rfl 6 23 15 rfl rfl (fun _=>rfl) rfl (fun _=>rfl) rfl rfl (by kernel_rfl)
   ·intro a w1 hR e23 K hK
    go_simp
    exact hK _ rfl
   apply Lo.q1 18 rfl 6 24 16 rfl rfl (fun _=>rfl) rfl (fun _=>rfl) rfl rfl (by kernel_rfl)
   ·intro a w1 hR e24 K hK
    obtain⟨c3,z3,k0,k1⟩:=HC.out w1 hR.dr;go_simp
    exact hK _ rfl
   apply Lo.q1 19 rfl 6 25 17 rfl rfl (fun _=>rfl) rfl (fun _=>rfl) rfl rfl (by kernel_rfl)
   ·intro a w1 hR e25 K hK
    have h18:(1:Int)<(r.length:Int)+1+1:=by omega
    go_simp
    exact hK _ rfl
   apply Lo.q1 20 rfl 6 26 18 rfl rfl (fun _=>rfl) rfl (fun _=>rfl) rfl rfl (by kernel_rfl)
   ·intro a w1 hR e26 K hK
    obtain⟨c3,z3,k0,k1⟩:=HC.out w1 hR.dr;go_simp
    exact hK _ rfl
   refine Lo.run 21 rfl rfl [6,7,13,19] (fun y w'=>∃b:Bool,y= .bool b∧gr v1 ((m0::m1::r).map SM.abs) b) (by kernel_rfl) (fun x w w' h hR=>?_) (fun _ _ h=>h) (fun u w1 hR hF=>?_) ?_
   ·exact h
   ·obtain⟨h6,h7,h13,h19, -⟩:=hF
    refine⟨.inl ⟨true,h6,rfl⟩,fun a ha K hK=>?_⟩;have e15:=(ha 15).trans h7;have e21:=(ha 21).trans h13;have e27:=(ha 27).trans h19;clear ha h6 h7 h13 h19;go_simp
    refine(NT.out w1 hR.dr).mono ?_;rintro e w5 ⟨b,rfl,hb5,ht5⟩;exact hK _ _ ⟨b,rfl,hb5⟩ ht5
   refine Lo.run 22 rfl rfl [6,20] (fun y w'=>∃b:Bool,y= .bool b∧gr v1 ((m0::m1::r).map SM.abs) b) (by kernel_rfl) (fun x w w' h hR=>?_) (fun _ _ h=>h) (fun u w1 hR hF=>?_) ?_
   ·exact h
   ·obtain⟨h6,h20, -⟩:=hF
    refine⟨rfl,fun a ha K hK=>?_⟩;have e14:=(ha 14).trans h6;have e28:a.tmps.getD 28 undef=u 20:=ha 28;have h20:=(show(fun y w'=>∃b:Bool,y= .bool b∧gr v1 ((m0::m1::r).map SM.abs) b) (u 20) w1 from h20);dsimp only at h20;clear ha h6;obtain⟨b,hb,hgb⟩:=h20;rw[hb]at e28;go_simp
    exact hK _ _ ⟨b,rfl,hgb⟩ (Turn.refl _ _)
   refine Lo.done [21] (fun u w1 bI hSd hF=>?_);clear hSd;obtain⟨f21, -⟩:=hF;have d21:=(show(fun y w'=>∃b:Bool,y= .bool b∧gr v1 ((m0::m1::r).map SM.abs) b) (u 21) w1 from f21);dsimp only at d21;clear f21;simp only[ax,Act.put,List.setIfInBounds_toArray,List.set_cons_succ,List.set_cons_zero,Nat.zero_add,Nat.reduceAdd];obtain⟨b,alz,hgb⟩:=d21;have Yq:=hide hgb;have HT1:=hide bI.dr;obtain⟨wa,rfl⟩:∃wa,wa=w1:=⟨_,rfl⟩;rw[alz];clear alz bI hgb;cases b
   ·have aar:=LC.out _ _ _ _ (.stop Yq.out)
    have jK:=hide aar;have aah:ss.length-((m0::m1::r).map SM.abs).length=i:=by
     have:=Yp.out;rw[List.length_map,List.length_cons,List.length_cons];omega
    have acO:=hide aah;clear aar aah Yq LC;go_wp2
    go_ret2
    refine⟨0,A1,v1,_,jK.out,by rw[acO.out];rfl,⟨F1,_,_,xP.out.still HT1.out,rfl,dO.out.same (HT1.out.mono (by simp)),KQ.out⟩,xe.out wr wa F1 _ A1 v1 _ xP.out (HT1.out.mono (by simp)) BR.out⟩
   ·obtain⟨c3,z3,k0,k1⟩:=HC.out wa HT1.out
    have h12:(0:Int)<(r.length:Int)+1+1:=by omega
    have hpb:m0.n≤1099511627776:=xq.out.base m0.abs (by simp);have hrm:=Sg.kN wa base d F1 A1 m0.sb m0.sv (Sn.nameB dir m0.n) m0.n _ ((xP.out.still HT1.out).both (m:=m0) (by simp)) (Sg.ja hpb gG);obtain⟨c9,hc9⟩:∃c9,c9=(A1.remove (Sn.nameB dir m0.n).data.toList).1:=⟨_,rfl⟩;obtain⟨A9,hA9⟩:∃A9,A9=(A1.remove (Sn.nameB dir m0.n).data.toList).2:=⟨_,rfl⟩;rw[←hc9,←hA9]at hrm;have HC9:=hide hc9;have HA9:=hide hA9;have Yi:=hide hrm;have ZY:=xe.out wr wa F1 _ A1 v1 _ xP.out (HT1.out.mono (by simp)) BR.out;have ZZ:=hide ZY;clear hpb hrm hc9 hA9 ZY;go_wp2_with fail
    refine Yi.out.mono ?_;rintro e w2 ⟨rfl,hd2⟩;have alA:=xe.out wa w2 F1 _ A1 v1 _ (xP.out.still HT1.out) (hd2.turn.mono (fun k hk=> .inl (ay.2 (.inr (.inr (.inr hk)))))) ZZ.out;obtain⟨F2,gv2,ms2,hl2,hm2,ht2,hf2⟩:=(xP.out.still HT1.out).did hd2;have aeu:=dO.out.trans ((HT1.out.mono (T:=aJ F1 lb (.slice (some ⟨g,0,none⟩) (r.length+1+1) cap) (m0::m1::r)) (by simp)).same ht2) (fun k hk=>KQ.out k hk);have afc:∀k∈aJ F2 lb gv2 ms2,k∈G∨w.heap.size≤k:=fun k hk=>by
     rcases hf2 k hk with h|h
     ·exact KQ.out k h
     ·exact .inr (Nat.le_trans dO.out.size (Nat.le_trans HT1.out.size h))
    have Rt:=hide alA;clear alA hd2 ht2 hf2 Yi ZZ;by_cases h0:c9=0
    ·subst h0
     rw[show aC 0= .nilIface from rfl];have hr1:(A1.remove (bJ dir m0.n)).1=0:=HC9.out.symm;have hst:=fun c A' v' ss' k=>LC.out c A' v' ss' (.step (p:=m0.abs) (q:=m1.abs) (r:=r.map SM.abs) Yq.out hr1 k)
     have alB:sW A9 dir ((m1::r).map SM.abs):=by
      rw[HA9.out];exact sW.tail xq.out Yl.out (o9 A1 (bJ dir m0.n))
     have alC:(((m1::r).map SM.abs).map (·.1)).Nodup:=by
      have:=Yl.out;rw[List.map_cons,List.map_cons,List.nodup_cons]at this;exact this.2
     rw[show(A1.remove (bJ dir m0.abs.1)).2=A9 from HA9.out.symm]at hst;have HST:=hide hst;have apR:=hide alB;have apS:=hide alC;have acN:=hide aeu;have afd:=hide afc;rw[List.map_cons,List.map_cons]at hm2;obtain⟨m0',ms2',rfl,apT,air⟩:=List.map_eq_cons_iff.1 hm2;obtain⟨m1',r',rfl,aev,hr'⟩:=List.map_eq_cons_iff.1 air;have hrl:r'.length=r.length:=by simpa using congrArg List.length hr'
     obtain⟨g2,cap2,e2,hc2, -⟩:=hl2.row.at fJ (j:=0) (by simp);subst e2;obtain⟨a2,c2',e3,avg,apU⟩:=hl2.row.form;simp only[Value.slice.injEq,true_and]at e3;obtain⟨-,rfl⟩:=e3;rw[hmx]at apU;have afW:=G5 w2 base g2 cap2 m0' (m1'::r') hl2.row (by simp) (by have:=Yp.out;simp;omega);have apV:=lt_of_heap hl2.box;have c32:=hl2.c3;have PK:=hide afW;have HL2:=hide hl2;have alD:=hide aev;have HR':=hide hr';have YG:=hide hrl;clear hst alB alC aeu afc hl2 hm2 apT air aev hr' hrl hc2 afW hr1 LC Yq HC9 HA9;simp only[List.length_cons]at PK c32;go_wp2_with fail
     refine PK.out.mono ?_;rintro e w3 ⟨rfl,aaE,ht3⟩;have afy:=ht3.heap HL2.out.box (fun hm=>by
      obtain h:=List.mem_singleton.1 hm;exact HL2.out.Fq (by rw[h];simp[Value.ownBlock]))
     have c33:w3.cell? ⟨lb,3,none⟩=some (.slice (some ⟨g2,0,none⟩) (r'.length+1+1) cap2):=by rw[cell_of afy];rfl
     have f33:=au afy 3;have z33:=lt_of_heap afy;have hl4:=HL2.out.tail ht3 (by simpa using aaE);obtain⟨w4,hw4⟩:∃w4,w4=w3.setCell ⟨lb,3,none⟩ (.slice (some ⟨g2,0,none⟩) (r'.length+1) cap2):=⟨_,rfl⟩;have ajo:Turn [lb,g2] w2 w4:=by rw[hw4];exact(ht3.mono (by simp)).setCell (.inl (by simp)) _
     have ajp:∀k∈[lb,g2],k∈aJ F2 lb (.slice (some ⟨g2,0,none⟩) (m0'::m1'::r').length cap2) (m0'::m1'::r'):=fun k hk=>by
      simp only[List.mem_cons,List.mem_nil_iff,or_false]at hk;rcases hk with rfl|rfl
      ·exact ay.2 (.inl rfl)
      ·exact ay.2 (.inr (.inl (by simp[Value.ownBlock])))
     have Z4:=xe.out w2 w4 F2 _ A9 v1 _ HL2.out (ajo.mono (fun k hk=> .inl (ajp k hk))) Rt.out;simp only[List.length_cons]at hl4;rw[←hw4]at hl4;have HL4:=hide hl4;have HT4:=hide (acN.out.trans ajo (fun k hk=>afd.out k (ajp k hk)));have apW:=hide Z4;have HW4:=hide hw4;have HF4:Hid (∀k∈aJ F2 lb (.slice (some ⟨g2,0,none⟩) (r'.length+1) cap2) (m1'::r'),k∈G∨w.heap.size≤k):=fun k hk=>by
      refine afd.out k ?_;rcases ay.1 hk with h|h|⟨x,hx,h⟩|h
      ·exact ay.2 (.inl h)
      ·exact ay.2 (.inr (.inl (by simpa[Value.ownBlock]using h)))
      ·exact ay.2 (.inr (.inr (.inl ⟨x,by simp[hx],h⟩)))
      ·exact ay.2 (.inr (.inr (.inr h)))
     clear hl4 ajo ajp Z4 hw4 aaE ht3 afy PK Rt;go_wp2
     rw[←HW4.out];have hn1:m1'.n=m1.n:=congrArg Prod.fst alD.out;obtain⟨N1,hN1⟩:∃N1,N1=m1'.n:=⟨_,rfl⟩;have afz:∀Z,Turn [] w4 Z→Z.cell? ⟨lb,3,none⟩=some (.slice (some ⟨g2,0,none⟩) (r'.length+1) cap2)∧lb<Z.heap.size∧Z.cell? ⟨lb,4,none⟩=some (.int .i64 v1.start)∧Z.cell? ⟨g2,0,none⟩=some (.pointer (some ⟨m1'.sb,0,none⟩))∧Z.frozen? ⟨lb,4,none⟩=false:=fun Z hZ=>by
      have hlz:=HL4.out.still hZ;obtain⟨g',cap',e,hc, -⟩:=hlz.row.at fJ (j:=0) (by simp);simp only[Value.slice.injEq,Option.some.injEq,Addr.mk.injEq,and_true]at e;obtain⟨rfl, -, -⟩:=e;exact⟨hlz.c3,lt_of_heap hlz.box,hlz.c4,by simpa[DL]using hc 0 (by omega),hlz.fr 4⟩
     have afe:=fun(Z:World) (hZ:Turn [] w4 Z)=>Sg.jP Z base d m1'.sb m1'.sv _ m1'.n _ ((HL4.out.still hZ).jo m1' (by simp))
     rw[←hN1]at afe;have HC4:=hide afz;have apZ:=hide afe;have HN1:=hide (hN1.trans hn1);clear hn1 hN1 afz afe c3 z3 k0 k1 h12 c32 c33 f33 z33 apV;refine gU 15 [] (by kernel_rfl) rfl ?_;apply Lo.r0 1 rfl 0 (by intro u;conv=>lhs;whnf) rfl
     ·intro a w1 hR e0 K hK
      go_simp
      exact hK _ rfl
     apply Lo.r0 2 rfl 0 (by intro u;conv=>lhs;whnf) rfl
     ·intro a w1 hR e0 K hK
      go_simp
      exact hK _ rfl
     apply Lo.r1 3 rfl 51 1 (fun _=>rfl) rfl (by kernel_rfl)
     ·intro a w1 hR e51 K hK
      go_simp
      exact hK _ rfl
     apply Lo.r1 4 rfl 52 2 (fun _=>rfl) rfl (by kernel_rfl)
     ·intro a w1 hR e52 K hK
      go_simp
      exact hK _ rfl
     apply Lo.r1 5 rfl 53 3 (fun _=>rfl) rfl (by kernel_rfl)
     ·intro a w1 hR e53 K hK
      obtain⟨c3,z3,c4,k0, -⟩:=HC4.out w1 hR.dr;go_simp
      exact hK _ rfl
     apply Lo.r0 6 rfl 0 (by intro u;conv=>lhs;whnf) rfl
     ·intro a w1 hR e0 K hK
      go_simp
      exact hK _ rfl
     apply Lo.r1 7 rfl 55 5 (fun _=>rfl) rfl (by kernel_rfl)
     ·intro a w1 hR e55 K hK
      go_simp
      exact hK _ rfl
     apply Lo.r1 8 rfl 56 6 (fun _=>rfl) rfl (by kernel_rfl)
     ·intro a w1 hR e56 K hK
      go_simp
      exact hK _ rfl
     apply Lo.r1 9 rfl 57 7 (fun _=>rfl) rfl (by kernel_rfl)
     ·intro a w1 hR e57 K hK
      obtain⟨c3,z3,c4,k0, -⟩:=HC4.out w1 hR.dr;go_simp
      exact hK _ rfl
     apply Lo.r1 10 rfl 58 8 (fun _=>rfl) rfl (by kernel_rfl)
     ·intro a w1 hR e58 K hK
      have h12:(0:Int)<(r'.length:Int)+1:=by omega
      go_simp
      exact hK _ rfl
     apply Lo.r1 11 rfl 59 9 (fun _=>rfl) rfl (by kernel_rfl)
     ·intro a w1 hR e59 K hK
      obtain⟨c3,z3,c4,k0, -⟩:=HC4.out w1 hR.dr;go_simp
      exact hK _ rfl
     refine Lo.run 12 rfl rfl [10] (fun y w'=>y= .int .i64 (N1:Int)) (by kernel_rfl) (fun x w w' h hR=>?_) (fun _ _ h=>h) (fun u w1 hR hF=>?_) ?_
     ·exact h
     ·obtain⟨h10, -⟩:=hF
      refine⟨rfl,fun a ha K hK=>?_⟩;have e60:=(ha 60).trans h10;clear ha h10;go_simp
      refine(apZ.out w1 hR.dr).mono ?_;rintro e w5 ⟨rfl,rfl⟩;exact hK _ _ rfl (Turn.refl _ _)
     refine Lo.df 13 rfl rfl [4,11] (.int .i64 (max v1.start (N1:Int))) (by kernel_rfl) (fun u w1 hR hF=>?_) (Turn.refl _) ?_
     ·obtain⟨h4,h11, -⟩:=hF
      refine⟨rfl,fun a ha K hK=>?_⟩;have e54:=(ha 54).trans h4;have e61:a.tmps.getD 61 undef=u 11:=ha 61;have h11:=(show(fun y w'=>y= .int .i64 (N1:Int)) (u 11) w1 from h11);dsimp only at h11;clear ha h4;go_simp
      exact hK _ rfl
     apply Lo.r1 14 rfl 50 0 (fun _=>rfl) rfl (by kernel_rfl)
     ·intro a w1 hR e50 K hK
      go_simp
      exact hK _ rfl
     apply Lo.r1 15 rfl 63 13 (fun _=>rfl) rfl (by kernel_rfl)
     ·intro a w1 hR e63 K hK
      go_simp
      exact hK _ rfl
     refine Lo.done [12,14] (fun u w1 bI hSd hF=>?_);clear hSd;obtain⟨f12,f14, -⟩:=hF;have d12:u 12=_:=f12;have d14:u 14=_:=f14;clear f12 f14;simp only[List.take_succ_cons,List.take_zero,List.drop_succ_cons,List.drop_zero,ax,Act.put,List.setIfInBounds_toArray,List.set_cons_succ,List.set_cons_zero,Nat.zero_add,Nat.reduceAdd,d12,d14];have HT5:=hide bI.dr;obtain⟨wb,rfl⟩:∃wb,wb=w1:=⟨_,rfl⟩;clear d12 d14 bI;obtain⟨c3,z3,c4,k0,f4⟩:=HC4.out wb HT5.out;have hl6:=(HL4.out.still HT5.out).xK (i:=4) (u:= .int .i64 (max v1.start (N1:Int))) (v':={v1 with start:=max v1.start (N1:Int)}) rfl;have ht6:Turn (aJ F2 lb (.slice (some ⟨g2,0,none⟩) (r'.length+1) cap2) (m1'::r')) wb (wb.setCell ⟨lb,4,none⟩ (.int .i64 (max v1.start (N1:Int)))):=Turn.setCell (p:=⟨lb,4,none⟩) (Turn.refl _ wb) (.inl (by show lb∈_;exact ay.2 (.inl rfl))) _;have alE:=xe.out wb _ F2 _ A9 v1 _ (HL4.out.still HT5.out) ht6 (xe.out w4 wb F2 _ A9 v1 _ HL4.out (HT5.out.mono (by simp)) apW.out);have abI:(m1'::r').map SM.abs=(m1::r).map SM.abs:=by rw[List.map_cons,alD.out,HR'.out];rfl
     have alF:ig w (wb.setCell ⟨lb,4,none⟩ (.int .i64 (max v1.start (N1:Int)))) base d G A9 lb dir {v1 with start:=max v1.start (N1:Int)} ((m1::r).map SM.abs):=
      ⟨F2,_,m1'::r',hl6,abI,(HT4.out.same (HT5.out.mono (by simp))).trans ht6 (fun k hk=>HF4.out k hk),HF4.out⟩
     have ajq:=HST.out;rw[show((m1.abs.1:Nat):Int)=(N1:Int)by rw[HN1.out];rfl]at ajq;have ap4:=hide alF;have ap5:=hide alE;have ap6:=hide ajq;clear hl6 ht6 alF alE abI ajq;have hib:i≤1000:=by have:=Yp.out;omega
     go_wp2
     all_goals refine⟨⟨i+1,A9,{v1 with start:=max v1.start (N1:Int)},(m1::r).map SM.abs,by go_num,by have:=Yp.out;rw[List.length_map,List.length_cons];omega,⟨ap4.out,by simp⟩,⟨apR.out,apS.out⟩,ap5.out,ap6.out⟩,?_⟩
     all_goals (simp only[intOf];have:=Yp.out;omega)
    ·have hno:=rD w2 base d F2 A9 lb gv2 dir v1 ms2 hl2 c9 (HEG.out w2 aeu)
     have Qr:=hide hno;have aar:=LC.out _ _ _ _ (.fail Yq.out (by show(A1.remove (bJ dir m0.n)).1≠0;intro e;exact h0 (HC9.out.trans e)));have jK:=hide aar;have HN0:=hide h0;have HL2:=hide hl2;have HM2:=hide hm2;have acN:=hide aeu;have afd:=hide afc;rw[fZ h0];clear hno aar h0 hl2 hm2 aeu afc LC Yq c3 z3 k0 k1 h12;go_wp2_with fail
     refine Qr.out.mono ?_;rintro e w3 ⟨rfl,ajr⟩;have alG:=xe.out w2 w3 F2 gv2 A9 v1 ms2 HL2.out (by obtain⟨_,_,_,_,_,h,_⟩:=ajr;exact h) Rt.out;have ajs:=ajr.then acN.out afd.out;rw[HM2.out]at ajs;have ap7:=hide alG;have ap8:=hide ajs;clear alG ajr ajs Qr;go_wp2
     go_ret2
     have e1:(A1.remove (bJ dir m0.n)).1=c9:=HC9.out.symm;have e2:(A1.remove (bJ dir m0.n)).2=A9:=HA9.out.symm;have aar:=jK.out;have alH:qM gr dir A v ss c9 A9 (fF c9 v1) ((m0::m1::r).map SM.abs):=by
      rw[←e1,←e2];exact aar
     refine⟨c9,A9,_,_,alH,by rw[if_neg HN0.out,fZ HN0.out];rfl,ap8.out,ap7.out⟩
  |nil=>
   subst hgv;have abK:∀Z,Turn [] wr Z→Z.cell? ⟨lb,3,none⟩=some (.slice g0' 1 cap)∧lb<Z.heap.size:=fun Z hZ=>⟨(jI.still hZ).c3,lt_of_heap (jI.still hZ).box⟩
   have aar:=LC.out _ _ _ _ (.last (m:=m0.abs));have HC:=hide abK;have jK:=hide aar;have xP:=hide jI;have dO:=hide htw;have KQ:=hide hft;have aah:ss.length-([m0].map SM.abs).length=i:=by
    simp only[List.length_cons,List.length_nil]at hil;simp;omega
   have acO:=hide aah;have Yp:=hide hil;clear abK aar jI htw hft aah hil LC ajn;go_wp2
   refine jT [] (by kernel_rfl) rfl ?_;apply Lo.r0 1 rfl 0 (by intro u;conv=>lhs;whnf) rfl
   ·intro a w1 hR e0 K hK
    go_simp
    exact hK _ rfl
   apply Lo.r1 2 rfl 8 0 (fun _=>rfl) rfl (by kernel_rfl)
   ·intro a w1 hR e8 K hK
    go_simp
    exact hK _ rfl
   apply Lo.r1 3 rfl 9 1 (fun _=>rfl) rfl (by kernel_rfl)
   ·intro a w1 hR e9 K hK
    go_simp
    exact hK _ rfl
   apply Lo.r1 4 rfl 10 2 (fun _=>rfl) rfl (by kernel_rfl)
   ·intro a w1 hR e10 K hK
    obtain⟨c3,z3⟩:=HC.out w1 hR.dr;go_simp
    exact hK _ rfl
   apply Lo.r1 5 rfl 11 3 (fun _=>rfl) rfl (by kernel_rfl)
   ·intro a w1 hR e11 K hK
    go_simp
    exact hK _ rfl
   refine Lo.df 6 rfl rfl [4] (.bool (false)) (by kernel_rfl) (fun u w1 hR hF=>?_) (Turn.refl _) ?_
   ·obtain⟨h4, -⟩:=hF
    refine⟨rfl,fun a ha K hK=>?_⟩;have e12:=(ha 12).trans h4;clear ha h4;go_simp
    refine hK _ ?_;simp
   apply Lo.r1 7 rfl 13 5 (fun _=>rfl) rfl (by kernel_rfl)
   ·intro a w1 hR e13 K hK
    go_simp
    exact hK _ rfl
   refine Lo.pass 8 rfl rfl [6] (by kernel_rfl) (Turn.refl _) (fun u w1 hR hF=> .inl ⟨false,hF.1,rfl⟩) ?_;refine Lo.pass 9 rfl rfl [6] (by kernel_rfl) (Turn.refl _) (fun u w1 hR hF=> .inl ⟨false,hF.1,rfl⟩) ?_;refine Lo.pass 10 rfl rfl [6] (by kernel_rfl) (Turn.refl _) (fun u w1 hR hF=> .inl ⟨false,hF.1,rfl⟩) ?_;refine Lo.pass 11 rfl rfl [6] (by kernel_rfl) (Turn.refl _) (fun u w1 hR hF=> .inl ⟨false,hF.1,rfl⟩) ?_;refine Lo.pass 12 rfl rfl [6] (by kernel_rfl) (Turn.refl _) (fun u w1 hR hF=> .inl ⟨false,hF.1,rfl⟩) ?_;refine Lo.pass 13 rfl rfl [6] (by kernel_rfl) (Turn.refl _) (fun u w1 hR hF=> .inl ⟨false,hF.1,rfl⟩) ?_;refine Lo.pass 14 rfl rfl [6] (by kernel_rfl) (Turn.refl _) (fun u w1 hR hF=> .inl ⟨false,hF.1,rfl⟩) ?_;refine Lo.pass 15 rfl rfl [6] (by kernel_rfl) (Turn.refl _) (fun u w1 hR hF=> .inl ⟨false,hF.1,rfl⟩) ?_;refine Lo.pass 16 rfl rfl [6] (by kernel_rfl) (Turn.refl _) (fun u w1 hR hF=> .inl ⟨false,hF.1,rfl⟩) ?_;refine Lo.pass 17 rfl rfl [6] (by kernel_rfl) (Turn.refl _) (fun u w1 hR hF=> .inl ⟨false,hF.1,rfl⟩) ?_;refine Lo.pass 18 rfl rfl [6] (by kernel_rfl) (Turn.refl _) (fun u w1 hR hF=> .inl ⟨false,hF.1,rfl⟩) ?_;refine Lo.pass 19 rfl rfl [6] (by kernel_rfl) (Turn.refl _) (fun u w1 hR hF=> .inl ⟨false,hF.1,rfl⟩) ?_;refine Lo.pass 20 rfl rfl [6] (by kernel_rfl) (Turn.refl _) (fun u w1 hR hF=> .inl ⟨false,hF.1,rfl⟩) ?_;refine Lo.pass 21 rfl rfl [6] (by kernel_rfl) (Turn.refl _) (fun u w1 hR hF=> .inl ⟨false,hF.1,rfl⟩) ?_;apply Lo.r2 22 rfl 14 6 28 20 (fun _=>rfl) (fun _=>rfl) rfl rfl (by kernel_rfl)
   ·intro a w1 hR e14 e28 K hK
    go_simp
    exact hK _ rfl
   refine Lo.done [21] (fun u w1 bI hSd hF=>?_);clear hSd;obtain⟨f21, -⟩:=hF;have d21:u 21=_:=f21;clear f21;simp only[ax,Act.put,List.setIfInBounds_toArray,List.set_cons_succ,List.set_cons_zero,Nat.zero_add,Nat.reduceAdd,d21];have HT1:=hide bI.dr;clear d21 bI;go_wp2
   go_ret2
   refine⟨0,A1,v1,_,jK.out,by rw[←acO.out];rfl,⟨F1,_,_,xP.out.still HT1.out,rfl,dO.out.same (HT1.out.mono (by simp)),KQ.out⟩,xe.out wr w1 F1 _ A1 v1 _ xP.out (HT1.out.mono (by simp)) BR.out⟩
end Lg
end
section
set_option maxRecDepth 100000
attribute [local go_sem] Oper.semAt_some
open Dk (DA aj Parts dA aC bQ)
open Sg (aS aA dV Both Came ae flat Chain Scan)
namespace Lg
theorem P8{dir:ByteArray}{A A2:DA}{ss ss2:List (Nat×List Bt.aB)}{n lost:Nat}{c:Int}{w:World}{base d:Nat}{F:List Nat}(hd:aj w base d F A)(hn:n≤1099511627776)(h:Tj dir A ss n c A2 ss2 lost)(hk:∀p∈ss,p.1≤1099511627776∧p.2.length≤1000000):
 (∀p∈ss2,p.1≤1099511627776∧p.2.length≤1000000)∧ss2.length≤ss.length+1∧lost≤1048576∧(c≠0→lost=0):=by
 have hx:∀f xs,A.file (bJ dir n)=some f→Scan n f.bytes xs→xs.length≤1000000∧f.bytes.length≤1048576:=fun f xs hf hs=>by
  have h1:=Sg.oO hd hf;have h2:=JQ hs;have h3:=Sg.dw xs;exact⟨by omega,h1⟩
 rcases h with⟨-, -, -,rfl,rfl⟩|⟨f,xs,hf,hs,⟨-,h0, -,rfl,rfl⟩|⟨-, -, -, -,rfl,rfl⟩|⟨-, -,h0, -,rfl,rfl⟩⟩
 ·exact⟨hk,by omega,by omega,fun _=>rfl⟩
 ·refine⟨fun p hp=>?_,by simp,by omega,fun h=>absurd h0 h⟩
  rcases List.mem_append.1 hp with hp|hp
  ·exact hk p hp
  ·obtain rfl:=List.mem_singleton.1 hp
   exact⟨hn,(hx f xs hf hs).1⟩
 ·exact⟨hk,by omega,by omega,fun _=>rfl⟩
 ·refine⟨fun p hp=>?_,by simp,by have:=(hx f xs hf hs).2;omega,fun h=>absurd h0 h⟩
  rcases List.mem_append.1 hp with hp|hp
  ·exact hk p hp
  ·obtain rfl:=List.mem_singleton.1 hp
   exact⟨hn,(hx f xs hf hs).1⟩
theorem MB.gone{dir:ByteArray}{A0 A:DA}{L0 L:List (List UInt8)}{ss0 ss:List (Nat×List Bt.aB)}{t:Bool}{nm:List UInt8}(h:MB dir A0 L0 ss0 A t ss (nm::L))(hg:t=true∨¬pI dir nm∨∃n:Nat,n≤1099511627776∧nm=bJ dir n∧¬JJ ss n):
 ((A.remove nm).1=0→MB dir A0 L0 ss0 (A.remove nm).2 t ss L)∧((A.remove nm).1≠0→jr dir A0 false ss0 L0 (A.remove nm).1 (A.remove nm).2 ss):=
 ⟨fun h0 c A' ss' k=>h _ _ _ (.gone hg h0 k),fun h0=>h _ _ _ (.Ee hg h0)⟩
theorem MB.open{dir:ByteArray}{A0 A A2:DA}{L0 L:List (List UInt8)}{ss0 ss ss2:List (Nat×List Bt.aB)}{n lost:Nat}{c:Int}(hn:n≤1099511627776)(h:MB dir A0 L0 ss0 A false ss (bJ dir n::L))(ho:Tj dir A ss n c A2 ss2 lost):
 (c=0→MB dir A0 L0 ss0 A2 (decide (0<lost)) ss2 L)∧(c≠0→jr dir A0 false ss0 L0 c A2 ss2):=by
 rcases ho with⟨hf,rfl,rfl,rfl,rfl⟩|⟨f,xs,hf,hs,⟨hl,rfl,rfl,rfl,rfl⟩|⟨hl,hc,rfl,rfl,rfl,rfl⟩|⟨hl,hc,rfl,rfl,rfl,rfl⟩⟩
 ·exact⟨fun h0=>by simp at h0,fun _=>h _ _ _ (.lost hn rfl hf)⟩
 ·exact⟨fun _ c A' ss' k=>h _ _ _ (.whole hn rfl hf hs hl k),fun h0=>absurd rfl h0⟩
 ·exact⟨fun h0=>absurd h0 hc,fun _=>h _ _ _ (.JK hn rfl hf hs hl hc)⟩
 ·refine⟨fun _ c A' ss' k=>h _ _ _ (.cut hn rfl hf hs hl hc ?_),fun h0=>absurd rfl h0⟩
  rw[decide_eq_true (by omega)]at k;exact k
theorem uA(dir:ByteArray):∀(names:List (List UInt8)) (cs:List Nat) (x:List UInt8),x∈dU dir names cs→x∈names∨∃c∈cs,x=bJ dir c
 |[],cs,x,h=>by simp[dU]at h
 |nm::r,cs,x,h=>by
  unfold dU at h;cases hs:lS dir nm with
  |none=>
   rw[hs]at h;rcases List.mem_cons.1 h with rfl|h
   ·exact .inl (by simp)
   ·exact(uA dir r cs x h).imp (fun h=>by simp[h]) id
  |some n=>
   rw[hs]at h;cases cs with
   |nil=>
    rcases List.mem_cons.1 h with rfl|h
    ·exact .inl (by simp)
    ·exact(uA dir r [] x h).imp (fun h=>by simp[h]) id
   |cons c cs'=>
    rcases List.mem_cons.1 h with rfl|h
    ·exact .inr ⟨c,by simp,rfl⟩
    ·exact(uA dir r cs' x h).imp (fun h=>by simp[h]) (fun⟨c,hc,e⟩=>⟨c,by simp[hc],e⟩)
theorem Tn{dir:ByteArray}{n:Nat}(hn:n≤1099511627776)(hd:dir.size≤900):(bJ dir n).length≤1000:=by
 have h:=Sn.oG hn;rw[Ht];unfold Sn.iF Sn.pad;have e:dir.data.toList.length=dir.size:=by simp
 simp;simp at e;omega
theorem Dz(w:World)(base d:Nat)(F:List Nat)(A:DA)(lb:Nat)(gv:Value)(dir:ByteArray)(v:LV)(h:az w base d F A lb gv dir v [])(gG:dir.size≤900)(hv:∀Z,Turn (aJ F lb gv []) w Z→Sn.qA Z):
 Calls Tryz.prog 15 #[.pointer (some ⟨lb,0,none⟩)] w fun e w'=>∃c A' ss' cs,e= .returned (aC c)∧cs.Perm (aY dir (Dk.dN A (dir++⟨#[47]⟩:ByteArray).data.toList))∧cs.Pairwise (· ≤ ·)∧
  jr dir A false [] (dU dir (Dk.dN A (dir++⟨#[47]⟩:ByteArray).data.toList) cs) c A' ss'∧ig w w' base d (aJ F lb gv []) A' lb dir v ss'∧(ss'.length≤200∧∀p∈ss',p.1≤1099511627776∧p.2.length≤1000000):=by
 obtain⟨hnl,hsh⟩:=FV h.disk (dir++⟨#[47]⟩:ByteArray).data.toList;obtain⟨NS,hns⟩:∃NS,Dk.dN A (dir++⟨#[47]⟩:ByteArray).data.toList=NS:=⟨_,rfl⟩;have hfi:=P5 w base d F A lb gv dir v [] h gG (fun Z hZ=>hv Z (hZ.mono (by simp))) NS hns;rw[hns]at hnl hsh⊢;have hmx:maxLen=9223372036854775807:=by simp[maxLen]
 have H:=hide h;have HV:=hide hv;have HSH:=hide hsh;have RG:=hide hfi;clear h hns hv hsh hfi;go_enter Tryz.func15,Tryz.ntmps15
 go_wp2_with fail
 refine RG.out.mono ?_;rintro e w1 ⟨ov,cs,rfl,hcp,hcw,Pe,ht1⟩;obtain⟨L,hL⟩:∃L,L=dU dir NS cs:=⟨_,rfl⟩;have hll:L.length=NS.length:=by rw[hL,qL]
 have hsl:∀x∈L,x.length≤1000:=fun x hx=>by
  rw[hL]at hx;rcases uA dir NS cs x hx with h|⟨c,hc,rfl⟩
  ·have:=HSH.out x h;omega
  ·refine Tn ?_ gG
   have:=hcp.mem_iff.1 hc;unfold aY at this;obtain⟨nm', -,hq⟩:=List.mem_filterMap.1 this;exact(oL hq).1
 rw[←hL]at Pe;obtain⟨a1,c1,rfl,hlc,hcm⟩:=Pe.form;rw[hmx]at hcm;have Tq:=H.out.still ht1;have dI:=hide Pe;have HT1:=hide ht1;have P6:=hide hcp;have Qv:=hide hcw;have HL:=hide hL;have Ua:=hide hsl;have Z5:=hide Tq;have Z7:Hid (∀k∈(Value.slice a1 L.length c1).ownBlock,k∉aJ F lb gv []):=fun k hk=>by
  obtain⟨cs',e⟩:=Pe.kind k hk;exact Tq.o8 e (by decide) (by decide) (by decide) (by decide) (by decide) (by decide) (by decide)
 clear Pe ht1 hcp hcw hL hsl Tq RG;go_wp2
 go_loopw [3,13] (fun tv kv wr=>∃(k:Nat) (t:Bool) (A1:DA) (ss:List (Nat×List Bt.aB)),k≤L.length∧tv= .bool t∧kv= .int .i64 k∧(ig w1 wr base d (aJ F lb gv []) A1 lb dir v ss∧MB dir A L [] A1 t ss (L.drop k))∧ss.length≤k∧∀p∈ss,p.1≤1099511627776∧p.2.length≤1000000) (fun _ kv _=>L.length-(intOf kv).toNat)
 case atStart=>exact⟨0,false,A,[],Nat.zero_le _,rfl,rfl,⟨Z5.out.quiet (Turn.refl _ _),fun c A' ss' k=>by simpa using k⟩,Nat.le_refl _,by simp⟩
 case round=>
  obtain⟨k,t,A1,ss,hk,rfl,rfl,⟨hld,hct⟩,hsk,hsx⟩:=hrel;obtain⟨F2,gv2,ms2,hl2,hm2,ht2,hf2⟩:=hld;subst hm2;rw[List.length_map]at hsk;have HL2:=hide hl2;have HT2:=hide ht2;have HF2:=hide hf2;have LC:=hide hct;have PL:=hide hsx;clear hl2 ht2 hf2 hct hsx;by_cases hlt:k<L.length
  ·obtain⟨nm,hnm⟩:∃nm,nm=L[k]:=⟨_,rfl⟩
   have hdr:L.drop k=nm::L.drop (k+1):=by rw[hnm];exact List.drop_eq_getElem_cons hlt
   have aah:nm.length≤1000:=Ua.out nm (by rw[hnm];exact List.getElem_mem _);obtain⟨g,cap,e,hc, -⟩:=(dI.out.kept HT2.out (fun j hj=>Z7.out j hj)).at wZ (j:=k) hlt;rw[←hnm]at hc;simp only[Value.slice.injEq,true_and]at e;obtain⟨rfl,rfl⟩:=e;have k0:wr.cell? ⟨g,k,none⟩=some (.string ⟨nm.toArray⟩):=by simpa[PY]using hc 0 (by omega)
   have c1':=HL2.out.c1;have z1:=lt_of_heap HL2.out.box;have htw:Turn (aJ F lb gv []) w wr:=(HT1.out.mono (by simp)).trans HT2.out (fun k hk=> .inl hk);have hba:=Ei dir nm (by omega) aah wr (HV.out wr htw);have dO:=hide htw;have Aa:=hide hba;have hct:=LC.out;rw[hdr]at hct;have JR:=hide hct;clear hc hba hdr htw hct LC hnm;go_wp2_with fail
   refine Aa.out.mono ?_;rintro e w3 ⟨rfl,ht3⟩;have hl3:=HL2.out.still ht3;have c0:=hl3.c0;have z3:=lt_of_heap hl3.box;have HT3:=hide ht3;have HL3:=hide hl3;clear ht3 Aa k0 c1' z1 hl3;cases hs:lS dir nm with
   |none=>
    have zu:=JR.out.gone (.inr (.inl (x9 hs)));clear hs JR;have JS:=hide zu;clear zu;go_wp2_with fail
    refine(vM (HL2.out.still HT3.out) nm aah).mono ?_;rintro e w9 ⟨rfl,hd9⟩;have hd1:=hd9.then (HT2.out.same (HT3.out.mono (by simp))) (fun k hk=>(HF2.out k hk).imp_right id);obtain⟨hg0,hg1⟩:=JS.out;obtain⟨A9,hA9⟩:∃A9,A9=(A1.remove nm).2:=⟨_,rfl⟩;obtain⟨c9,hc9⟩:∃c9,c9=(A1.remove nm).1:=⟨_,rfl⟩;rw[←hA9,←hc9]at hg0 hg1;rw[←hA9]at hd1;rw[←hc9];have HD1:=hide hd1;have HG0:=hide hg0;have HG1:=hide hg1;clear hd9 hd1 hg0 hg1 hA9 hc9;by_cases h0:c9=0
    ·subst h0
     rw[show aC 0= .nilIface from rfl];have Ui:=hide (HG0.out rfl);clear HG0 HG1;go_wp2
     refine⟨⟨k+1,t,A9,_,by omega,rfl,by go_num,⟨HD1.out,Ui.out⟩,by rw[List.length_map];omega,PL.out⟩,?_⟩;simp only[intOf];omega
    ·have jK:=hide (HG1.out h0)
     rw[fZ h0];have HN0:=hide h0;clear h0 HG0 HG1;go_wp2
     go_ret
     refine⟨c9,A9,_,cs,by rw[fZ HN0.out];rfl,P6.out,Qv.out,by rw[←HL.out];exact jK.out,HD1.out.then (HT1.out.mono (by simp)) (fun k hk=> .inl hk),by rw[List.length_map];omega,PL.out⟩
   |some n=>
    obtain⟨hn1,hne⟩:=oL hs;have BU:=hide hne;clear hne;have hn0:¬(n:Int)<0:=by omega
    cases t with
    |true=>
     have zu:=JR.out.gone (.inl rfl);clear hs JR hn1;have JS:=hide zu;clear zu;go_wp2_with fail
     refine(vM (HL2.out.still HT3.out) nm aah).mono ?_;rintro e w9 ⟨rfl,hd9⟩;have hd1:=hd9.then (HT2.out.same (HT3.out.mono (by simp))) (fun k hk=>(HF2.out k hk).imp_right id);obtain⟨hg0,hg1⟩:=JS.out;obtain⟨A9,hA9⟩:∃A9,A9=(A1.remove nm).2:=⟨_,rfl⟩;obtain⟨c9,hc9⟩:∃c9,c9=(A1.remove nm).1:=⟨_,rfl⟩;rw[←hA9,←hc9]at hg0 hg1;rw[←hA9]at hd1;rw[←hc9];have HD1:=hide hd1;have HG0:=hide hg0;have HG1:=hide hg1;clear hd9 hd1 hg0 hg1 hA9 hc9;by_cases h0:c9=0
     ·subst h0
      rw[show aC 0= .nilIface from rfl];have Ui:=hide (HG0.out rfl);clear HG0 HG1;go_wp2
      refine⟨⟨k+1,true,A9,_,by omega,rfl,by go_num,⟨HD1.out,Ui.out⟩,by rw[List.length_map];omega,PL.out⟩,?_⟩;simp only[intOf];omega
     ·have jK:=hide (HG1.out h0)
      rw[fZ h0];have HN0:=hide h0;clear h0 HG0 HG1;go_wp2
      go_ret
      refine⟨c9,A9,_,cs,by rw[fZ HN0.out];rfl,P6.out,Qv.out,by rw[←HL.out];exact jK.out,HD1.out.then (HT1.out.mono (by simp)) (fun k hk=> .inl hk),by rw[List.length_map];omega,PL.out⟩
    |false=>
     have hfi:=fits_any w3 base d F2 A1 lb gv2 dir v ms2 HL3.out (by omega) (fun m hm=>(PL.out m.abs (List.mem_map_of_mem hm)).2) n;have OJ:=hide hfi;have hfb:=Tf (ms2.map SM.abs) n;obtain⟨b,hb⟩:∃b,b=P7 (ms2.map SM.abs) n:=⟨_,rfl⟩;rw[←hb]at OJ hfb;have WR:=hide hfb;clear hs hfi hfb hb;go_wp2_with fail
     refine OJ.out.mono ?_;rintro e w4 ⟨rfl,ht4⟩;have HT4:=hide (HT3.out.same ht4);have hl4:=HL3.out.still ht4;have c0:=hl4.c0;have z4:=lt_of_heap hl4.box;clear ht4 hl4 OJ;cases b with
     |false=>
      have zu:=JR.out.gone (.inr (.inr ⟨n,hn1,BU.out,fun h=>by have:=WR.out.2 h;simp at this⟩));clear WR JR;have JS:=hide zu;clear zu;go_wp2_with fail
      refine(vM (HL2.out.still HT4.out) nm aah).mono ?_;rintro e w9 ⟨rfl,hd9⟩;have hd1:=hd9.then (HT2.out.same (HT4.out.mono (by simp))) (fun k hk=>(HF2.out k hk).imp_right id);obtain⟨hg0,hg1⟩:=JS.out;obtain⟨A9,hA9⟩:∃A9,A9=(A1.remove nm).2:=⟨_,rfl⟩;obtain⟨c9,hc9⟩:∃c9,c9=(A1.remove nm).1:=⟨_,rfl⟩;rw[←hA9,←hc9]at hg0 hg1;rw[←hA9]at hd1;rw[←hc9];have HD1:=hide hd1;have HG0:=hide hg0;have HG1:=hide hg1;clear hd9 hd1 hg0 hg1 hA9 hc9;by_cases h0:c9=0
      ·subst h0
       rw[show aC 0= .nilIface from rfl];have Ui:=hide (HG0.out rfl);clear HG0 HG1;go_wp2
       refine⟨⟨k+1,false,A9,_,by omega,rfl,by go_num,⟨HD1.out,Ui.out⟩,by rw[List.length_map];omega,PL.out⟩,?_⟩;simp only[intOf];omega
      ·have jK:=hide (HG1.out h0)
       rw[fZ h0];have HN0:=hide h0;clear h0 HG0 HG1;go_wp2
       go_ret
       refine⟨c9,A9,_,cs,by rw[fZ HN0.out];rfl,P6.out,Qv.out,by rw[←HL.out];exact jK.out,HD1.out.then (HT1.out.mono (by simp)) (fun k hk=> .inl hk),by rw[List.length_map];omega,PL.out⟩
     |true=>
      have hne:=BU.out;clear BU;subst hne;have hop:=Tm w4 base d F2 A1 lb gv2 dir v ms2 (HL2.out.still HT4.out) (by omega) gG n hn1 (fun Z hZ=>(HV.out Z (dO.out.same ((HT4.out.same hZ).mono (by simp)))).tab);have Tt:=hide hop;clear hop WR;go_wp2_with fail
      refine Tt.out.mono ?_;rintro e w5 ⟨c9,A9,ss9,lost,rfl,ho,hd9⟩;obtain⟨hf1,hf2,hf3,hf4⟩:=P8 HL2.out.disk hn1 ho PL.out;obtain⟨hg0,hg1⟩:=JR.out.open hn1 ho;have hd1:=hd9.then (HT2.out.same (HT4.out.mono (by simp))) (fun k hk=>(HF2.out k hk).imp_right id);have HD1:=hide hd1;have HG0:=hide hg0;have HG1:=hide hg1;have HF1:=hide hf1;rw[List.length_map]at hf2;clear hd9 hd1 hg0 hg1 hf1 ho Tt JR;by_cases h0:c9=0
      ·subst h0
       rw[show aC 0= .nilIface from rfl];clear hf4;by_cases hlo:lost=0
       ·subst hlo
        have HG:=hide (HG0.out rfl);clear HG0 HG1;go_wp2
        refine⟨⟨k+1,false,A9,ss9,by omega,rfl,by go_num,⟨HD1.out,HG.out⟩,by omega,HF1.out⟩,?_⟩;simp only[intOf];omega
       ·have hl0:(lost:Int)>0:=by omega
        have hlp:0<lost:=by omega
        have hg:=HG0.out rfl;rw[decide_eq_true hlp]at hg;have HG:=hide hg;clear hg HG0 HG1;go_wp2
        refine⟨⟨k+1,true,A9,ss9,by omega,rfl,by go_num,⟨HD1.out,HG.out⟩,by omega,HF1.out⟩,?_⟩;simp only[intOf];omega
      ·have jK:=hide (HG1.out h0)
       rw[fZ h0];have HN0:=hide h0;clear h0 hf4 HG0 HG1;go_wp2
       go_ret
       refine⟨c9,A9,_,cs,by rw[fZ HN0.out];rfl,P6.out,Qv.out,by rw[←HL.out];exact jK.out,HD1.out.then (HT1.out.mono (by simp)) (fun k hk=> .inl hk),by omega,HF1.out⟩
  ·obtain rfl:k=L.length:=by omega
   have aar:jr dir A false [] L 0 A1 (ms2.map SM.abs):=LC.out _ _ _ (by rw[List.drop_length];exact .done);have jK:=hide aar;clear aar LC;go_wp2
   go_ret
   refine⟨0,A1,_,cs,rfl,P6.out,Qv.out,by rw[←HL.out];exact jK.out,⟨F2,gv2,ms2,HL2.out,rfl,?_,fun k hk=>?_⟩,by rw[List.length_map];omega,PL.out⟩
   ·exact(HT1.out.mono (by simp)).trans HT2.out (fun k hk=> .inl hk)
   ·exact(HF2.out k hk).imp_right (Nat.le_trans HT1.out.size)
def jw(dir:ByteArray)(A:DA)(st:Nat)(ss:List (Nat×List Bt.aB)):Int×DA×List (Nat×List Bt.aB):=if ss=[]then dX A dir st []else(0,A,ss)
def Ej(dir:ByteArray)(A:DA)(L:List (List UInt8))(st:Nat)(c:Int)(A3:DA)(ss:List (Nat×List Bt.aB)):Prop:=
 ∃c1 A1 ss1,jr dir A false [] L c1 A1 ss1∧((c1≠0∧c=c1∧A3=A1)∨(c1=0∧
  (((jw dir A1 st ss1).1≠0∧c=(jw dir A1 st ss1).1∧A3=(jw dir A1 st ss1).2.1)∨
   ((jw dir A1 st ss1).1=0∧ss=(jw dir A1 st ss1).2.2∧∃m,ss.getLast? =some m∧c=((jw dir A1 st ss1).2.1.sync (bJ dir m.1)).1∧A3=((jw dir A1 st ss1).2.1.sync (bJ dir m.1)).2))))
def yf(st:Nat)(ss:List (Nat×List Bt.aB))(nx:Int):Int:=min (max (st:Int) (((ss.map (·.1)).headD 0:Nat):Int)) nx
theorem ig.disk{w w':World}{base d lb:Nat}{F:List Nat}{G:List Nat}{A':DA}{dir:ByteArray}{v':LV}{ss':List (Nat×List Bt.aB)}(h:ig w w' base d G A' lb dir v' ss')(hF:∀k∈G,k∈F∨w.heap.size≤k)(hG:Turn F w w'):dA w w' base d F A':=by
 obtain⟨F',gv',ms',hl,hm,ht,hf⟩:=h;refine⟨F',hl.disk,hG,fun k hk=>?_⟩;rcases hf k (ay.2 (.inr (.inr (.inr hk))))with h|h
 ·exact hF k h
 ·exact .inr h
theorem FX(w:World)(base d:Nat)(F:List Nat)(A:DA)(hd:aj w base d F A)(dir:ByteArray)(gG:dir.size≤900)(mo st:Nat)(hm1:100≤mo)(hm2:mo≤1048576)(hs:st≤1099511627776)
 (hv:∀Z,Turn F w Z→Sn.qA Z):
 Calls Tryz.prog 7 #[.pointer (some ⟨d,0,none⟩), .string dir, .int .i64 (mo:Int), .int .i64 (st:Int)] w fun e w'=>∃cs c A3 ss,cs.Perm (aY dir (Dk.dN A (dir++⟨#[47]⟩:ByteArray).data.toList))∧cs.Pairwise (· ≤ ·)∧
  Ej dir A (dU dir (Dk.dN A (dir++⟨#[47]⟩:ByteArray).data.toList) cs) st c A3 ss∧
  ((c≠0∧e= .returned (.tuple #[.pointer none,aC c])∧dA w w' base d F A3)∨
   (c=0∧∃lb F' gv ms0 m,e= .returned (.tuple #[.pointer (some ⟨lb,0,none⟩), .nilIface])∧az w' base d F' A3 lb gv dir ⟨mo,yf st ss (ae m.n m.xs),ae m.n m.xs,false⟩ (ms0++[m])∧(ms0++[m]).map SM.abs=ss∧Turn F w w'∧w.heap.size≤lb∧∀k∈aJ F' lb gv (ms0++[m]),k∈F∨w.heap.size≤k)):=by
 have HD:=hide hd;have HV:=hide hv;have hbw:=Sg.jA hd;clear hd hv;go_enter Tryz.func7,Tryz.ntmps7
 go_wp2_with fail
 obtain⟨w0,hw0⟩:∃w0,w0=w.alloc (.cells (KZ d dir (.slice none 0 0) ⟨mo,0,0,false⟩) 58):=⟨_,rfl⟩;have ht0:Turn [] w w0:=by rw[hw0];exact(Turn.refl [] w).alloc _
 have hl0:az w0 base d F A w.heap.size (.slice none 0 0) dir ⟨mo,0,0,false⟩ []:=
  ⟨HD.out.kept ht0 (by simp),by rw[hw0];exact ai w _, .inl ⟨rfl,rfl⟩,hbw,by simp,List.Pairwise.nil⟩
 unfold KZ at hw0;simp only at hw0;rw[←hw0];have hG:∀k∈aJ F w.heap.size (.slice none 0 0) [],k∈F∨w.heap.size≤k:=fun k hk=>by
  rcases ay.1 hk with rfl|hk|⟨x,hx, -⟩|hk
  ·exact .inr (Nat.le_refl _)
  ·simp[Value.ownBlock]at hk
  ·simp at hx
  ·exact .inl hk
 have HGF:=hide hG;have HT0:=hide ht0;have hfi:=Dz w0 base d F A w.heap.size _ dir _ hl0 gG (fun Z hZ=>HV.out Z ((ht0.mono (by simp)).trans hZ hG));have RG:=hide hfi;clear hw0 ht0 hl0 hG hfi;refine RG.out.mono ?_;rintro e w1 ⟨c1,A1,ss1,cs,rfl,hcp,hcw,hfr,hld,adq,alI⟩;have P6:=hide hcp;have Qv:=hide hcw;have Uc:=hide hfr;have ht1:Turn F w w1:=(HT0.out.mono (by simp)).trans (by obtain⟨_,_,_,_,_,h,_⟩:=hld;exact h) HGF.out;obtain⟨F1,gv1,ms1,hl1,aev,ap9,hf1⟩:=hld;have alJ:∀k∈aJ F1 w.heap.size gv1 ms1,k∈F∨w.heap.size≤k:=fun k hk=>by
  rcases hf1 k hk with h|h
  ·exact HGF.out k h
  ·exact .inr (Nat.le_trans HT0.out.size h)
 have HT1:=hide ht1;have HL1:=hide hl1;have HF1:=hide alJ;have HM1:=hide aev;clear hcp hcw hfr hl1 ap9 hf1 alJ ht1 aev RG;by_cases h1:c1=0
 ·subst h1
  rw[show aC 0= .nilIface from rfl];obtain⟨g1,cap1,agS,asD,asE⟩:=HL1.out.row.form;have c3:=HL1.out.c3;have z3:=lt_of_heap HL1.out.box;rw[agS]at c3;have avh:=hide agS;have Z8:=hide alI;have avi:ms1.length≤200:=by
   have:=congrArg List.length HM1.out;rw[List.length_map]at this;omega
  clear agS alI;go_upto_if 44 with fail
  go_cut [12]from 45 (fun _ wz=>∃F2 gv2 ms0 m A2,(az wz base d F2 A2 w.heap.size gv2 dir ⟨mo,0,0,false⟩ (ms0++[m])∧jw dir A1 st ss1=(0,A2,(ms0++[m]).map SM.abs))∧(ms0.length≤300∧m.n≤1099511627776∧m.xs.length≤1000000)∧Turn F w wz∧∀k∈aJ F2 w.heap.size gv2 (ms0++[m]),k∈F∨w.heap.size≤k)
  case first=>
   by_cases aeh:ms1.length=0
   ·have hms:=List.eq_nil_of_length_eq_zero aeh
    subst hms;have hss:ss1=[]:=by rw[←HM1.out];rfl
    have Sv:=hide hss;have XA:=xM w1 base d F1 A1 w.heap.size gv1 dir _ [] HL1.out (by simp) (by omega) st hs (HV.out w1 HT1.out).tab;obtain⟨cb,hcb⟩:∃cb,cb=(dX A1 dir st []).1:=⟨_,rfl⟩;obtain⟨Ab,hAb⟩:∃Ab,Ab=(dX A1 dir st []).2.1:=⟨_,rfl⟩;obtain⟨sb,hsb⟩:∃sb,sb=(dX A1 dir st []).2.2:=⟨_,rfl⟩;rw[List.map_nil,←hcb,←hAb,←hsb]at XA;have VJ:=hide hcb;have HAB:=hide hAb;have YW:=hide hsb;have Z9:=hide XA;clear hss XA hcb hAb hsb aeh;go_wp2_with fail
    refine Z9.out.mono ?_;rintro e w2 ⟨rfl,F2,gv2,ms2,hl2,hm2,ht2,hf2⟩;have aeu:Turn F w w2:=HT1.out.trans ht2 HF1.out;have afc:∀k∈aJ F2 w.heap.size gv2 ms2,k∈F∨w.heap.size≤k:=fun k hk=>by
     rcases hf2 k hk with h|h
     ·exact HF1.out k h
     ·exact .inr (Nat.le_trans HT1.out.size h)
    have HL2:=hide hl2;have HM2:=hide hm2;have acN:=hide aeu;have afd:=hide afc;clear hl2 hm2 ht2 hf2 aeu afc Z9;have U8:jw dir A1 st ss1=dX A1 dir st []:=by unfold jw;rw[if_pos Sv.out]
    have Ub:=hide U8;clear U8;by_cases h2:cb=0
    ·subst h2
     rw[show aC 0= .nilIface from rfl];have hm2:=HM2.out;have e2:sb=[(st,[])]:=by
      rw[YW.out];unfold dX;simp only;rw[if_pos (by have:=VJ.out;unfold dX at this;exact this.symm)];rfl
     rw[e2]at hm2;obtain⟨ms20,m2,aqb,ab8,lL⟩:=dB (r:=[]) (by simpa using hm2);obtain rfl:=List.map_eq_nil_iff.1 ab8;subst aqb;have hmn:m2.n=st:=congrArg Prod.fst lL;have agM:m2.xs=[]:=congrArg Prod.snd lL;have hrel:az w2 base d F2 Ab w.heap.size gv2 dir ⟨mo,0,0,false⟩ ([]++[m2])∧jw dir A1 st ss1=(0,Ab,([]++[m2]).map SM.abs):=by
      refine⟨HL2.out,?_⟩;rw[Ub.out];refine Prod.ext VJ.out.symm (Prod.ext HAB.out.symm ?_);show(dX A1 dir st []).2.2=_;rw[←YW.out,←HM2.out]
     have XB:=hide hrel;have hb3:([]:List SM).length≤300∧m2.n≤1099511627776∧m2.xs.length≤1000000:=by rw[hmn,agM];exact⟨by simp,hs,by simp⟩
     have HB3:=hide hb3;clear hm2 e2 ab8 lL hmn agM hrel hb3;go_wp2
     go_meet
     case rel=>exact⟨F2,gv2,[],m2,Ab,XB.out,HB3.out,acN.out,afd.out⟩
    ·have HN2:=hide h2
     rw[fZ h2];clear h2;go_wp2
     go_ret2
     refine⟨cs,cb,Ab,[],P6.out,Qv.out,⟨0,A1,ss1,Uc.out, .inr ⟨rfl, .inl ?_⟩⟩, .inl ⟨HN2.out,by rw[fZ HN2.out];rfl,F2,HL2.out.disk,acN.out,fun k hk=>afd.out k (ay.2 (.inr (.inr (.inr hk))))⟩⟩;rw[Ub.out];exact⟨by rw[←VJ.out];exact HN2.out,VJ.out,HAB.out⟩
   ·rcases List.eq_nil_or_concat ms1 with e|⟨ms0,m,e⟩
    ·rw[e]at aeh;simp at aeh
    ·rw[List.concat_eq_append]at e
     have hrel:az w1 base d F1 A1 w.heap.size gv1 dir ⟨mo,0,0,false⟩ (ms0++[m])∧jw dir A1 st ss1=(0,A1,(ms0++[m]).map SM.abs):=by
      refine⟨by rw[←e];exact HL1.out,?_⟩;unfold jw;rw[if_neg (by rw[←HM1.out,e];simp),←HM1.out,e]
     have hb3:ms0.length≤300∧m.n≤1099511627776∧m.xs.length≤1000000:=by
      have h1:=Z8.out m.abs (by rw[←HM1.out,e];simp);have h2:=congrArg List.length e;rw[List.length_append,List.length_singleton]at h2;exact⟨by omega,h1.1,h1.2⟩
     have xh:∀k∈aJ F1 w.heap.size gv1 (ms0++[m]),k∈F∨w.heap.size≤k:=by rw[←e];exact HF1.out
     have XB:=hide hrel;have HB3:=hide hb3;have Xj:=hide xh;have hn0:¬((ms1.length:Int)=0):=by omega
     clear hrel hb3 xh e;go_wp2
     go_meet
     case rel=>exact⟨F1,gv1,ms0,m,A1,XB.out,HB3.out,HT1.out,Xj.out⟩
  case rest=>
   obtain⟨F2,gv2,ms0,m,A2,⟨hl2,U8⟩,⟨hb1,hb2,hb3⟩,ht2,hf2⟩:=hcut;have hsy:=ku wc base d F2 A2 w.heap.size gv2 dir _ ms0 m hl2 (by omega) (by omega) (Sg.ja hb2 (by omega));obtain⟨c3,hc3⟩:∃c3,c3=(A2.sync (Sn.nameB dir m.n).data.toList).1:=⟨_,rfl⟩;obtain⟨A3,hA3⟩:∃A3,A3=(A2.sync (Sn.nameB dir m.n).data.toList).2:=⟨_,rfl⟩;obtain⟨ss,hss⟩:∃ss,ss=(ms0++[m]).map SM.abs:=⟨_,rfl⟩;rw[←hc3,←hA3,←hss]at hsy;rw[←hss]at U8;have abo:ss.getLast? =some m.abs:=by rw[hss,List.map_append,List.map_singleton,List.getLast?_concat]
   have hof:∀q,(c3≠0→Ej dir A q st c3 A3 ss)∧(c3=0→Ej dir A q st 0 A3 ss)∨¬jr dir A false [] q 0 A1 ss1:=fun q=>by
    by_cases hq:jr dir A false [] q 0 A1 ss1
    ·have h0:Ej dir A q st c3 A3 ss:=⟨0,A1,ss1,hq, .inr ⟨rfl, .inr ⟨by rw[U8],by rw[U8],m.abs,abo,by rw[U8];exact hc3,by rw[U8];exact hA3⟩⟩⟩
     exact .inl ⟨fun _=>h0,fun h=>by rw[h]at h0;exact h0⟩
    ·exact .inr hq
   have VG:=hide hsy;have HOF:=hide ((hof _).resolve_right (fun h=>h Uc.out));have Sv:=hide hss;have HT2:=hide ht2;have HF2:=hide hf2;clear hsy hof hc3 hA3 hss U8 abo hl2 ht2 hf2 Uc Z8 HM1 HL1 HF1;go_wp2_with fail
   refine VG.out.mono ?_;rintro e w3 ⟨rfl,F3,gv3,ms3,hl3,hm3,ht3,hf3⟩;have alK:Turn F w w3:=HT2.out.trans ht3 HF2.out;have alL:∀k∈aJ F3 w.heap.size gv3 ms3,k∈F∨w.heap.size≤k:=fun k hk=>by
    rcases hf3 k hk with h|h
    ·exact HF2.out k h
    ·exact .inr (Nat.le_trans HT2.out.size h)
   have alM:=hide alK;have alN:=hide alL;have HL3:=hide hl3;have HM3:=hide hm3;clear ht3 hf3 alK alL hl3 VG;by_cases h3:c3=0
   ·subst h3
    rw[show aC 0= .nilIface from rfl];have aqd:=hide (HOF.out.2 rfl);clear HOF;have hl3:=HL3.out;rw[show jH 0 (⟨mo,0,0,false⟩:LV) (ae m.n m.xs)=⟨mo,0,ae m.n m.xs,false⟩from rfl]at hl3;rw[Sv.out,List.map_append,List.map_singleton]at hm3;obtain⟨ms30,m3,rfl,afY,L9⟩:=dB hm3;have hmn:m3.n=m.n:=congrArg Prod.fst L9;have ahP:m3.xs=m.xs:=congrArg Prod.snd L9;have avj:ms30.length=ms0.length:=by simpa using congrArg List.length afY
    have hen:=kD w3 base d F3 A3 w.heap.size gv3 dir _ ms30 m3 hl3 (by omega) (by rw[ahP];omega);rw[hmn,ahP]at hen;obtain⟨x,r,hxr⟩:∃x r,ms30++[m3]=x::r:=by
     cases ms30 with
     |nil=>exact⟨m3,[],rfl⟩
     |cons y t=>exact⟨y,t++[m3],rfl⟩
    have hlx:(ms30++[m3]).length=r.length+1:=by rw[hxr];rfl
    obtain⟨g3,cap3,alO,hcx, -⟩:=hl3.row.at fJ (j:=0) (by omega);have hx0:(ms30++[m3])[0]'(by omega)=x:=by simp[hxr]
    rw[hx0]at hcx;rw[hlx]at alO;subst alO;have c3':=hl3.c3;have z3:=lt_of_heap hl3.box;have c0:w3.cell? ⟨g3,0,none⟩=some (.pointer (some ⟨x.sb,0,none⟩)):=hcx 0 (by omega);have hba:=Sg.jP w3 base d x.sb x.sv _ x.n _ (hl3.jo x (by rw[hxr];simp));have hhd:((ss.map (·.1)).headD 0)=x.n:=by
     rw[Sv.out,List.map_append,List.map_singleton,←afY,←L9,←List.map_singleton (f:=SM.abs),←List.map_append,hxr];rfl
    obtain⟨nx,hnx⟩:∃nx,nx=ae m.n m.xs:=⟨_,rfl⟩;rw[←hnx]at hen hl3;have Ey:=hide hnx;have Lj:=hide hen;have Aa:=hide hba;have HHD:=hide hhd;have Yo:=hide hl3;have HMN:=hide hmn;have HMX:=hide ahP;have hr0:(0:Int)<(r.length:Int)+1:=by omega
    have avn:0<r.length+1:=by omega
    clear hcx hba hen hhd hnx hl3 afY L9 hmn ahP hm3 hx0 HL3;go_wp2_with fail
    refine Aa.out.mono ?_;rintro e w4 ⟨rfl,rfl⟩;go_wp2_with fail
    refine Lj.out.mono ?_;rintro e w4 ⟨rfl,ht4⟩;have hl4:=Yo.out.still ht4;have ajl:=lt_of_heap hl4.box;have c44:=hl4.c4;have f4:=hl4.fr 4;have HL4:=hide hl4;have HT4:=hide (alM.out.same (ht4.mono (by simp)));clear ht4 hl4 Aa Lj c3' c0 z3;go_wp2
    go_ret2
    refine⟨cs,0,A3,ss,P6.out,Qv.out,aqd.out, .inr ⟨rfl,w.heap.size,F3,_,ms30,m3,rfl,?_,HM3.out,HT4.out.setCell (.inr (Nat.le_refl _)) _,Nat.le_refl _,alN.out⟩⟩;rw[HMN.out,HMX.out,←Ey.out];unfold yf;rw[HHD.out];exact HL4.out.xK (i:=4) (u:= .int .i64 (min (max (st:Int) (x.n:Int)) nx)) (v':=⟨mo,min (max (st:Int) (x.n:Int)) nx,nx,false⟩) rfl
   ·have HN3:=hide h3
    rw[fZ h3];clear h3;go_wp2
    go_ret2
    exact⟨cs,c3,A3,ss,P6.out,Qv.out,HOF.out.1 HN3.out, .inl ⟨HN3.out,by rw[fZ HN3.out];rfl,F3,HL3.out.disk,alM.out,fun k hk=>alN.out k (ay.2 (.inr (.inr (.inr hk))))⟩⟩
 ·rw[fZ h1]
  have HN1:=hide h1;clear h1;go_wp2
  go_ret2
  refine⟨cs,c1,A1,[],P6.out,Qv.out,⟨c1,A1,ss1,Uc.out, .inl ⟨HN1.out,rfl,rfl⟩⟩, .inl ⟨HN1.out,by rw[fZ HN1.out];rfl,F1,HL1.out.disk,HT1.out,fun k hk=>HF1.out k (ay.2 (.inr (.inr (.inr hk))))⟩⟩
end Lg
end
section
set_option maxRecDepth 100000
attribute [local go_sem] Oper.semAt_some
open Dk (DA aj Parts dA aC bQ)
open Sg (aS aA dV Both Came ae flat Chain)
namespace Lg
def goF(v:LV)(ss:List (Nat×List Bt.aB))(b:Bool):Prop:=match ss with
 |_::q::_=>b=decide ((q.1:Int)≤v.start)
 |_=>True
def Em(lb B0:Nat)(w:World):Prop:=w.heap[B0]? =some (.cells #[.pointer (some ⟨lb,0,none⟩)] 30 (0,0))
theorem Em.kept{lb B0:Nat}{w w':World}{base d:Nat}{F:List Nat}{A:DA}{gv:Value}{dir:ByteArray}{v:LV}{ms:List SM}(hb:Em lb B0 w)(h:az w base d F A lb gv dir v ms)(ht:Turn (aJ F lb gv ms) w w'):Em lb B0 w':=
 ht.heap hb (h.o8 hb (by decide) (by decide) (by decide) (by decide) (by decide) (by decide) (by decide))
theorem P9(w:World)(base d:Nat)(F:List Nat)(A:DA)(lb:Nat)(gv:Value)(dir:ByteArray)(v:LV)(m0 m1:SM)(r:List SM)(h:az w base d F A lb gv dir v (m0::m1::r))(B0:Nat)(hb:Em lb B0 w):
 Calls Tryz.prog 44 #[.pointer (some ⟨m0.sb,0,none⟩), .pointer (some ⟨m1.sb,0,none⟩), .pointer (some ⟨B0,0,none⟩)] w fun e w'=>∃b,e= .returned (.bool b)∧goF v ((m0::m1::r).map SM.abs) b∧Turn [] w w':=by
 have hcs:∀Z,Turn [] w Z→Z.cell? ⟨B0,0,none⟩=some (.pointer (some ⟨lb,0,none⟩))∧B0<Z.heap.size∧Z.cell? ⟨lb,4,none⟩=some (.int .i64 v.start)∧lb<Z.heap.size:=fun Z hZ=>by
  have hl:=h.still hZ;have hbz:Em lb B0 Z:=hZ.heap hb (by simp);exact⟨by rw[cell_of hbz];rfl,lt_of_heap hbz,hl.c4,lt_of_heap hl.box⟩
 have hba:=fun(Z:World) (hZ:Turn [] w Z)=>Sg.jP Z base d m1.sb m1.sv _ m1.n _ ((h.still hZ).jo m1 (by simp))
 have HC:=hide hcs;have Aa:=hide hba;clear h hb hcs hba;go_enter Tryz.func44,Tryz.ntmps44
 go_wp2
 refine jT [] (by kernel_rfl) rfl ?_;apply Lo.r0 1 rfl 1 (by intro u;conv=>lhs;whnf) rfl
 ·intro a w1 hR e1 K hK
  go_simp
  exact hK _ rfl
 refine Lo.run 2 rfl rfl [0] (fun y w'=>y= .int .i64 (m1.n:Int)) (by kernel_rfl) (fun x w w' h hR=>?_) (fun _ _ h=>h) (fun u w1 hR hF=>?_) ?_
 ·exact h
 ·obtain⟨h0, -⟩:=hF
  refine⟨rfl,fun a ha K hK=>?_⟩;have e6:=(ha 6).trans h0;clear ha h0;go_simp
  refine(Aa.out w1 hR.dr).mono ?_;rintro e w5 ⟨rfl,rfl⟩;exact hK _ _ rfl (Turn.refl _ _)
 apply Lo.r0 3 rfl 2 (by intro u;conv=>lhs;whnf) rfl
 ·intro a w1 hR e2 K hK
  obtain⟨c0,z0, -, -⟩:=HC.out w1 hR.dr;go_simp
  exact hK _ rfl
 apply Lo.r1 4 rfl 8 2 (fun _=>rfl) rfl (by kernel_rfl)
 ·intro a w1 hR e8 K hK
  go_simp
  exact hK _ rfl
 apply Lo.r1 5 rfl 9 3 (fun _=>rfl) rfl (by kernel_rfl)
 ·intro a w1 hR e9 K hK
  go_simp
  exact hK _ rfl
 apply Lo.r1 6 rfl 10 4 (fun _=>rfl) rfl (by kernel_rfl)
 ·intro a w1 hR e10 K hK
  obtain⟨-, -,c4,z4⟩:=HC.out w1 hR.dr;go_simp
  exact hK _ rfl
 refine Lo.df 7 rfl rfl [1,5] (.bool (decide ((m1.n:Int)≤v.start))) (by kernel_rfl) (fun u w1 hR hF=>?_) (Turn.refl _) ?_
 ·obtain⟨h1,h5, -⟩:=hF
  refine⟨rfl,fun a ha K hK=>?_⟩;have e7:a.tmps.getD 7 undef=u 1:=ha 7;have e11:=(ha 11).trans h5;have h1:=(show(fun y w'=>y= .int .i64 (m1.n:Int)) (u 1) w1 from h1);dsimp only at h1;clear ha h5;go_simp
  exact hK _ rfl
 apply Lo.r1 8 rfl 12 6 (fun _=>rfl) rfl (by kernel_rfl)
 ·intro a w1 hR e12 K hK
  go_simp
  exact hK _ rfl
 refine Lo.done [7] (fun u w1 bI hSd hF=>?_);clear hSd;obtain⟨f7, -⟩:=hF;have d7:u 7=_:=f7;clear f7;simp only[ax,Act.put,List.setIfInBounds_toArray,List.set_cons_succ,List.set_cons_zero,Nat.zero_add,Nat.reduceAdd,d7];have HT:=hide bI.dr;clear bI d7;go_wp2
 go_ret
 exact⟨_,rfl,rfl,HT.out⟩
theorem JU(w:World)(base d:Nat)(F:List Nat)(A:DA)(lb:Nat)(gv:Value)(dir:ByteArray)(v:LV)(ms:List SM)(h:az w base d F A lb gv dir v ms)(hd:v.down=true)(x:Value):
 Calls Tryz.prog 22 #[.pointer (some ⟨lb,0,none⟩),x] w fun e w'=>e= .returned (bQ 6)∧Turn [] w w':=by
 have hl1:=h.still ((Turn.refl [] w).alloc (.cells #[.pointer (some ⟨lb,0,none⟩)] 30));have c6:=hl1.c6;rw[hd]at c6;have z6:=lt_of_heap hl1.box;clear h hd hl1;go_enter Tryz.func22,Tryz.ntmps22
 go_wp2
 go_ret
 exact⟨rfl,(Turn.refl _ _).alloc _⟩
theorem MC(w:World)(base d:Nat)(F:List Nat)(A:DA)(lb:Nat)(gv:Value)(dir:ByteArray)(v:LV)(ms0:List SM)(m:SM)(h:az w base d F A lb gv dir v (ms0++[m]))(gG:dir.size≤1000)(hok:sW A dir ((ms0++[m]).map SM.abs))(hnd:(((ms0++[m]).map SM.abs).map (·.1)).Nodup)(hd:v.down=false)(hx:m.xs.length≤1000000)
 (hg:∀Z,Turn (aJ F lb gv (ms0++[m])) w Z→As.iq Z)(MF:Nat)(hto:(MF:Int)≤ae m.n m.xs):
 Calls Tryz.prog 22 #[.pointer (some ⟨lb,0,none⟩), .int .i64 (MF:Int)] w fun e w'=>∃c A' v' ss',qM goF dir A {v with start:=max v.start (MF:Int)} ((ms0++[m]).map SM.abs) c A' v' ss'∧e= .returned (aC c)∧ig w w' base d (aJ F lb gv (ms0++[m])) A' lb dir v' ss':=by
 obtain⟨w1,hw1⟩:∃w1,w1=w.alloc (.cells #[.pointer (some ⟨lb,0,none⟩)] 30):=⟨_,rfl⟩;have t1:Turn [] w w1:=by rw[hw1];exact(Turn.refl _ _).alloc _
 have hb1:Em lb w.heap.size w1:=by rw[hw1];exact ai w _
 have hl1:=h.still t1;have qF:=hok.many;rw[List.length_map,List.length_append,List.length_singleton]at qF;have hen:=kD w1 base d F A lb gv dir v ms0 m hl1 (by omega) hx;have c6:=hl1.c6;rw[hd]at c6;have z6:=lt_of_heap hl1.box;have cb:w1.cell? ⟨w.heap.size,0,none⟩=some (.pointer (some ⟨lb,0,none⟩)):=by rw[cell_of hb1];rfl
 have zb:=lt_of_heap hb1;obtain⟨nx,hnx⟩:∃nx,nx=ae m.n m.xs:=⟨_,rfl⟩;rw[←hnx]at hen hto;have Lj:=hide hen;have HL1:=hide hl1;have HB1:=hide hb1;have HT1:=hide t1;have xq:=hide hok;have Yl:=hide hnd;have HG:=hide hg;have HW1:=hide hw1;have avo:¬nx<(MF:Int):=by omega
 rw[hw1]at c6 z6 cb zb;clear h hok hnd hg hd hx t1 hb1 hl1 hnx hen hw1;go_enter Tryz.func22,Tryz.ntmps22
 go_wp2_with fail
 rw[←HW1.out]at c6 z6 cb zb⊢;refine Lj.out.mono ?_;rintro e w2 ⟨rfl,ht2⟩;have hl2:=HL1.out.still ht2;have hb2:Em lb w.heap.size w2:=ht2.heap HB1.out (by simp);have hcs:∀Z,Turn [] w2 Z→Z.cell? ⟨w.heap.size,0,none⟩=some (.pointer (some ⟨lb,0,none⟩))∧w.heap.size<Z.heap.size∧Z.cell? ⟨lb,4,none⟩=some (.int .i64 v.start)∧lb<Z.heap.size∧Z.frozen? ⟨lb,4,none⟩=false:=fun Z hZ=>by
  have hl:=hl2.still hZ;have hbz:Em lb w.heap.size Z:=hZ.heap hb2 (by simp);exact⟨by rw[cell_of hbz];rfl,lt_of_heap hbz,hl.c4,lt_of_heap hl.box,hl.fr 4⟩
 have HC:=hide hcs;have HL2:=hide hl2;have HB2:=hide hb2;have HT2:=hide (HT1.out.same ht2);clear ht2 hl2 hb2 hcs Lj c6 z6 cb zb;go_wp2
 refine gU 9 [] (by kernel_rfl) rfl ?_;apply Lo.r0 1 rfl 2 (by intro u;conv=>lhs;whnf) rfl
 ·intro a w1 hR e2 K hK
  obtain⟨c0,z0, -, -⟩:=HC.out w1 hR.dr;go_simp
  exact hK _ rfl
 apply Lo.r0 2 rfl 2 (by intro u;conv=>lhs;whnf) rfl
 ·intro a w1 hR e2 K hK
  obtain⟨c0,z0, -, -⟩:=HC.out w1 hR.dr;go_simp
  exact hK _ rfl
 apply Lo.r1 3 rfl 22 1 (fun _=>rfl) rfl (by kernel_rfl)
 ·intro a w1 hR e22 K hK
  go_simp
  exact hK _ rfl
 apply Lo.r1 4 rfl 23 2 (fun _=>rfl) rfl (by kernel_rfl)
 ·intro a w1 hR e23 K hK
  go_simp
  exact hK _ rfl
 apply Lo.r1 5 rfl 24 3 (fun _=>rfl) rfl (by kernel_rfl)
 ·intro a w1 hR e24 K hK
  obtain⟨-, -,c4,z4, -⟩:=HC.out w1 hR.dr;go_simp
  exact hK _ rfl
 apply Lo.r0 6 rfl 1 (by intro u;conv=>lhs;whnf) rfl
 ·intro a w1 hR e1 K hK
  go_simp
  exact hK _ rfl
 refine Lo.df 7 rfl rfl [4,5] (.int .i64 (max v.start (MF:Int))) (by kernel_rfl) (fun u w1 hR hF=>?_) (Turn.refl _) ?_
 ·obtain⟨h4,h5, -⟩:=hF
  refine⟨rfl,fun a ha K hK=>?_⟩;have e25:=(ha 25).trans h4;have e26:=(ha 26).trans h5;clear ha h4 h5;go_simp
  exact hK _ rfl
 apply Lo.r1 8 rfl 21 0 (fun _=>rfl) rfl (by kernel_rfl)
 ·intro a w1 hR e21 K hK
  go_simp
  exact hK _ rfl
 apply Lo.r1 9 rfl 28 7 (fun _=>rfl) rfl (by kernel_rfl)
 ·intro a w1 hR e28 K hK
  go_simp
  exact hK _ rfl
 refine Lo.done [6,8] (fun u w1 bI hSd hF=>?_);clear hSd;obtain⟨f6,f8, -⟩:=hF;have d6:u 6=_:=f6;have d8:u 8=_:=f8;clear f6 f8;simp only[List.take_succ_cons,List.take_zero,List.drop_succ_cons,List.drop_zero,ax,Act.put,List.setIfInBounds_toArray,List.set_cons_succ,List.set_cons_zero,Nat.zero_add,Nat.reduceAdd,d6,d8];have HT3:=hide bI.dr;obtain⟨wa,rfl⟩:∃wa,wa=w1:=⟨_,rfl⟩;obtain⟨c0,z0,c4,z4,f4⟩:=HC.out wa HT3.out;clear d6 d8 bI;have hl3:=(HL2.out.still HT3.out).xK (i:=4) (u:= .int .i64 (max v.start (MF:Int))) (v':={v with start:=max v.start (MF:Int)}) rfl;have ht3:Turn (aJ F lb gv (ms0++[m])) wa (wa.setCell ⟨lb,4,none⟩ (.int .i64 (max v.start (MF:Int)))):=Turn.setCell (p:=⟨lb,4,none⟩) (Turn.refl _ wa) (.inl (by show lb∈_;exact ay.2 (.inl rfl))) _;have hb3:Em lb w.heap.size (wa.setCell ⟨lb,4,none⟩ (.int .i64 (max v.start (MF:Int)))):=Em.kept (HT3.out.heap HB2.out (by simp)) (HL2.out.still HT3.out) ht3;obtain⟨w4,hw4⟩:∃w4,w4=wa.setCell ⟨lb,4,none⟩ (.int .i64 (max v.start (MF:Int))):=⟨_,rfl⟩;rw[←hw4]at hl3 ht3 hb3;have ajt:Turn (aJ F lb gv (ms0++[m])) w w4:=((HT2.out.same HT3.out).mono (by simp)).same ht3;have hdr:=FW goF (Em lb w.heap.size) w4 base d F A lb gv dir _ (ms0++[m]) hl3 gG xq.out Yl.out (by simp) (fun Z hZ=>HG.out Z (ajt.trans hZ (fun k hk=> .inl hk))) hb3
  (fun Z Z' F gv A v ms h ht hb=>hb.kept h ht) 44 #[.pointer (some ⟨w.heap.size,0,none⟩)] (enters_of Tryz.func44 (by kernel_rfl) rfl)
  (fun Z F gv A v m0 m1 r h hok hb=>by simpa using P9 Z base d F A lb gv dir v m0 m1 r h w.heap.size hb)
 have c0':w4.cell? ⟨w.heap.size,0,none⟩=some (.pointer (some ⟨lb,0,none⟩)):=by rw[cell_of hb3];rfl
 have z0':=lt_of_heap hb3;have HDR:=hide hdr;have ajm:=hide ajt;have HW4:=hide hw4;rw[hw4]at c0' z0';clear hdr ajt hl3 ht3 hb3 hw4;go_wp2_with fail
 rw[←HW4.out];refine HDR.out.mono ?_;rintro e w5 ⟨c,A5,v5,ss5,agZ,rfl,ag0, -⟩;have ag1:=ag0.then ajm.out (fun k hk=> .inl hk);have aju:=hide agZ;have XC:=hide ag1;obtain⟨x,hx⟩:∃x:Int,x=(if c=0 then((((ms0++[m]).map SM.abs).length-ss5.length:Nat):Int)else 0):=⟨_,rfl⟩;rw[←hx];clear agZ ag0 ag1 HDR hx;go_wp2
 go_ret
 exact⟨c,A5,v5,ss5,by simpa using aju.out,rfl,XC.out⟩
theorem JV(w:World)(base d:Nat)(F:List Nat)(A:DA)(lb:Nat)(gv:Value)(dir:ByteArray)(v:LV)(ms:List SM)(h:az w base d F A lb gv dir v ms)(hd:v.down=true)(now ak bytes:Int):
 Calls Tryz.prog 23 #[.pointer (some ⟨lb,0,none⟩), .int .i64 now, .int .i64 ak, .int .i64 bytes] w fun e w'=>e= .returned (.tuple #[.int .i64 0,bQ 6])∧Turn [] w w':=by
 obtain⟨w4,hw4⟩:∃w4,w4=(((w.alloc (.cells #[.pointer (some ⟨lb,0,none⟩)] 30)).alloc (.cells #[.int .i64 now] 3)).alloc (.cells #[.int .i64 ak] 3)).alloc (.cells #[.int .i64 bytes] 3):=⟨_,rfl⟩;have ht4:Turn [] w w4:=by rw[hw4];exact((((Turn.refl [] w).alloc _).alloc _).alloc _).alloc _
 have hl4:=h.still ht4;have c6:=hl4.c6;have z6:=lt_of_heap hl4.box;rw[hd]at c6;have HW:=hide hw4;have HT:=hide ht4;rw[hw4]at c6 z6;clear h hd hl4 hw4 ht4;go_enter Tryz.func23,Tryz.ntmps23
 go_wp2
 go_ret2
 exact⟨rfl,by rw[←HW.out];exact HT.out⟩
theorem JW(w:World)(base d:Nat)(F:List Nat)(A:DA)(lb:Nat)(gv:Value)(dir:ByteArray)(v:LV)(ms:List SM)(h:az w base d F A lb gv dir v ms)(hne:ms≠[])(gG:dir.size≤1000)(hok:sW A dir (ms.map SM.abs))(hnd:((ms.map SM.abs).map (·.1)).Nodup)(hd:v.down=false)
 (hg:∀Z,Turn (aJ F lb gv ms) w Z→As.iq Z)(now ak bytes:Int):
 Calls Tryz.prog 23 #[.pointer (some ⟨lb,0,none⟩), .int .i64 now, .int .i64 ak, .int .i64 bytes] w fun e w'=>∃c A' v' ss' x,qM (fun _ _ _=>True) dir A v (ms.map SM.abs) c A' v' ss'∧e= .returned (.tuple #[.int .i64 x,aC c])∧ig w w' base d (aJ F lb gv ms) A' lb dir v' ss':=by
 obtain⟨w1,hw1⟩:∃w1,w1=w.alloc (.cells #[.pointer (some ⟨lb,0,none⟩)] 30):=⟨_,rfl⟩;obtain⟨w2,hw2⟩:∃w2,w2=w1.alloc (.cells #[.int .i64 now] 3):=⟨_,rfl⟩;obtain⟨w3,hw3⟩:∃w3,w3=w2.alloc (.cells #[.int .i64 ak] 3):=⟨_,rfl⟩;obtain⟨w4,hw4⟩:∃w4,w4=w3.alloc (.cells #[.int .i64 bytes] 3):=⟨_,rfl⟩;have t1:Turn [] w w1:=by rw[hw1];exact(Turn.refl _ _).alloc _
 have t2:Turn [] w1 w2:=by rw[hw2];exact(Turn.refl _ _).alloc _
 have t3:Turn [] w2 w3:=by rw[hw3];exact(Turn.refl _ _).alloc _
 have t4:Turn [] w3 w4:=by rw[hw4];exact(Turn.refl _ _).alloc _
 have s1:w1.heap.size=w.heap.size+1:=by rw[hw1];simp
 have s2:w2.heap.size=w.heap.size+1+1:=by rw[hw2];simp[s1]
 have s3:w3.heap.size=w.heap.size+1+1+1:=by rw[hw3];simp[s2]
 have b0:=((t2.same t3).same t4).heap (show w1.heap[w.heap.size]? =_ by rw[hw1];exact ai w _) (by simp)
 have b1:=(t3.same t4).heap (show w2.heap[w.heap.size+1]? =_ by rw[hw2,←s1];exact ai w1 _) (by simp)
 have b2:=t4.heap (show w3.heap[w.heap.size+1+1]? =_ by rw[hw3,←s2];exact ai w2 _) (by simp)
 have b3:w4.heap[w.heap.size+1+1+1]? =some (.cells #[.int .i64 bytes] 3 (0,0)):=by rw[hw4,←s3];exact ai w3 _
 have ht4:Turn [] w w4:=((t1.same t2).same t3).same t4;have hbx:DT w4 lb w.heap.size (w.heap.size+1) (w.heap.size+1+1) (w.heap.size+1+1+1) now ak bytes:=⟨b0,b1,b2,b3⟩;have hl4:=h.still ht4;have c6:=hl4.c6;have z6:=lt_of_heap hl4.box;rw[hd]at c6;have hdr:=FW (fun _ _ _=>True) (fun Z=>DT Z lb w.heap.size (w.heap.size+1) (w.heap.size+1+1) (w.heap.size+1+1+1) now ak bytes) w4 base d F A lb gv dir v ms hl4 gG hok hnd hne (fun Z hZ=>hg Z ((ht4.mono (by simp)).trans hZ (fun k hk=> .inl hk))) hbx
  (fun Z Z' F gv A v ms h ht hb=>hb.kept h ht) 45 #[.pointer (some ⟨w.heap.size+1+1,0,none⟩), .pointer (some ⟨w.heap.size+1,0,none⟩), .pointer (some ⟨w.heap.size+1+1+1,0,none⟩), .pointer (some ⟨w.heap.size,0,none⟩)] (enters_of Tryz.func45 (by kernel_rfl) rfl)
  (fun Z F gv A v m0 m1 r h hok hb=>by
    have:=SE Z base d F A lb gv dir v _ h hok _ _ _ _ now ak bytes hb m0 (by simp) (.pointer (some ⟨m1.sb,0,none⟩));have h2:=this.mono (R':=fun e w'=>∃b,e= .returned (.bool b)∧True∧Turn [] Z w') (by
     rintro e w' ⟨b,rfl,ht⟩;exact⟨b,rfl,trivial,ht⟩)
    simpa using h2)
 have HDR:=hide hdr;have HT4:=hide ht4;clear t1 t2 t3 t4 s1 s2 s3 b0 b1 b2 b3 ht4 hbx hl4 hdr h hok hnd hg hne hd;rw[hw4,hw3,hw2,hw1]at c6 z6;have HW:Hid (w4=(((w.alloc (.cells #[.pointer (some ⟨lb,0,none⟩)] 30)).alloc (.cells #[.int .i64 now] 3)).alloc (.cells #[.int .i64 ak] 3)).alloc (.cells #[.int .i64 bytes] 3)):=by show _=_;rw[hw4,hw3,hw2,hw1]
 clear hw1 hw2 hw3 hw4;go_enter Tryz.func23,Tryz.ntmps23
 go_wp2_with fail
 rw[←HW.out];refine HDR.out.mono ?_;rintro e w5 ⟨c,A5,v5,ss5,agZ,rfl,ag0, -⟩;have ag1:=ag0.then (HT4.out.mono (by simp)) (fun k hk=> .inl hk);have aju:=hide agZ;have XC:=hide ag1;obtain⟨x,hx⟩:∃x:Int,x=(if c=0 then(((ms.map SM.abs).length-ss5.length:Nat):Int)else 0):=⟨_,rfl⟩;rw[←hx];clear agZ ag0 ag1 HDR hx;go_wp2
 go_ret2
 exact⟨c,A5,v5,ss5,x,by simpa using aju.out,rfl,XC.out⟩
end Lg
end
section
open Dk (DA FA aH fO dm dF)
open Sg (Chain flat ae Scan)
namespace Lg
def jF(m:Nat×List Bt.aB)(js:Nat)(e:Int):Prop:=∃j,js≤j∧j≤m.2.length∧e=ae m.1 (m.2.take j)
section
variable {A:DA} {room:Nat} {dir:ByteArray} {X:List FA} {st n:Nat} {ss0:List (Nat×List Bt.aB)} {m:Nat×List Bt.aB} {js:Nat} {v:LV} {x:Bt.aB}
theorem eG.ok(h:eG A room dir X st n ss0 m js)(hl:(ss0++[m]).length≤1000):sW A dir (ss0++[m]):=by
 refine⟨h.qm.base,fun p hp=>?_,h.qm.chains,hl⟩;rcases List.mem_append.1 hp with hp|hp
 ·exact⟨jW dir p,h.disk.file (f:=jW dir p) (by simp;exact .inr (.inl ⟨p.1,p.2,hp,rfl⟩)),rfl⟩
 ·obtain rfl:=List.mem_singleton.1 hp
  exact⟨_,h.disk.file (f:=lg dir p [] (flat (p.2.take js)).length) (by simp),by simp[lg]⟩
theorem eG.nd(h:eG A room dir X st n ss0 m js):((ss0++[m]).map (·.1)).Nodup:=h.qm.Jn.imp (fun h=>Nat.ne_of_lt h)
theorem eG.same{B:DA}(h:eG A room dir X st n ss0 m js)(h1:B.room=A.room)(h2:B.files=A.files):eG B room dir X st n ss0 m js:=⟨h.disk.same h1 h2,h.qm,h.js⟩
theorem eG.sync(h:eG A room dir X st n ss0 m js)(hfl:A.fails=false):(A.sync (bJ dir m.1)).1=0∧eG (A.sync (bJ dir m.1)).2 room dir X st n ss0 m m.2.length∧(A.sync (bJ dir m.1)).2.limited=A.limited:=by
 obtain⟨h1,h2,h3⟩:=h.disk.sync hfl;refine⟨h1,⟨?_,h.qm,Nat.le_refl _⟩,h3⟩;have e:({lg dir m [] (flat (m.2.take js)).length with safe:=(lg dir m [] (flat (m.2.take js)).length).bytes.length}:FA)=lg dir m [] (flat (m.2.take m.2.length)).length:=by
  rw[List.take_length];simp[lg]
 rw[e]at h2;exact h2
theorem QM.put(h:QM st n ss0 m)(hx:Bt.aQ x=0)(hb:x.base=n){n':Nat}(hf:x.fin=n'):QM st n' ss0 (m.1,m.2++[x]):=by
 have hlt:=ru hx;have hnn:n<n':=by omega
 have hbl:af (ss0++[(m.1,m.2++[x])])=af (ss0++[m])++[x]:=by rw[aV,aV,List.append_assoc]
 refine⟨fun p hp=>?_,fun p hp=>?_,?_,?_,fun y hy=>?_,h.keys,by have:=h.le;simp only;omega,by have:=h.st;omega,by have:=h.Jn;rw[List.map_append]at this⊢;exact this,?_⟩
 ·rcases List.mem_append.1 hp with hp|hp
  ·exact h.base p (by simp[hp])
  ·obtain rfl:=List.mem_singleton.1 hp
   exact h.base m (by simp)
 ·rcases List.mem_append.1 hp with hp|hp
  ·exact h.chains p (by simp[hp])
  ·obtain rfl:=List.mem_singleton.1 hp
   exact Sg.kL (h.chains m (by simp)) hx (by rw[h.next,hb];exact Int.le_refl _)
 ·rw[hbl]
  exact Sg.kL h.chain hx (by rw[hb];exact uo (by have:=h.st;omega) h.lK)
 ·simp only
  rw[Sg.dG,hf]
 ·rw[hbl]at hy
  rcases List.mem_append.1 hy with hy|hy
  ·have:=h.lK y hy;omega
  ·obtain rfl:=List.mem_singleton.1 hy
   omega
 ·have:=h.fit
  rw[List.pairwise_append]at this⊢;refine⟨this.1,by simp,fun p hp q hq=>?_⟩;obtain rfl:=List.mem_singleton.1 hq;exact this.2.2 p hp m (by simp)
theorem QM.roll(h:QM st n ss0 m)(hn:n≤1099511627776)(hz:0<(flat m.2).length):QM st n (ss0++[m]) (n,[])∧m.1<n:=by
 have hmn:m.1<n:=by
  cases hm2:m.2 with
  |nil=>rw[hm2]at hz;simp[flat]at hz
  |cons y r=>
   have hc:=h.chains m (by simp);rw[hm2]at hc;have h3:=Sg.kM hc y (by simp);have h4:=h.lK y (by rw[aV,hm2];simp);omega
 have hbl:af (ss0++[m]++[(n,[])])=af (ss0++[m]):=by rw[aV,List.append_nil]
 have aan:∀p∈ss0++[m],p.1<n∧ae p.1 p.2≤n:=fun p hp=>by
  rcases List.mem_append.1 hp with hp|hp
  ·have h1:=h.keys p hp
   have h2:=h.fit;rw[List.pairwise_append]at h2;have h3:=h2.2.2 p hp m (by simp);exact⟨by omega,by omega⟩
  ·obtain rfl:=List.mem_singleton.1 hp
   exact⟨hmn,by rw[h.next];exact Int.le_refl _⟩
 refine⟨⟨fun p hp=>?_,fun p hp=>?_,?_,by simp[ae],?_,fun p hp=>(aan p hp).1,Nat.le_refl _,h.st,?_,?_⟩,hmn⟩
 ·rcases List.mem_append.1 hp with hp|hp
  ·exact h.base p hp
  ·obtain rfl:=List.mem_singleton.1 hp
   exact hn
 ·rcases List.mem_append.1 hp with hp|hp
  ·exact h.chains p hp
  ·obtain rfl:=List.mem_singleton.1 hp
   trivial
 ·rw[hbl];exact h.chain
 ·rw[hbl];exact h.lK
 ·rw[List.map_append,List.pairwise_append]
  refine⟨h.Jn,by simp,fun a ha b hb=>?_⟩;obtain rfl:b=n:=by simpa using hb
  obtain⟨p,hp,rfl⟩:=List.mem_map.1 ha;exact(aan p hp).1
 ·rw[List.pairwise_append]
  refine⟨h.fit,by simp,fun p hp q hq=>?_⟩;obtain rfl:=List.mem_singleton.1 hq;exact(aan p hp).2
theorem JX(p:Nat×List Bt.aB)(s:Nat):(lg dir p [] s).bytes.length=(flat p.2).length:=by simp[lg]
theorem FY(ss:List (Nat×List Bt.aB)):aH (ss.map (jW dir))=(flat (af ss)).length:=by
 rw[kQ];unfold Dk.aH;rw[List.map_map];rfl
theorem eG.used(h:eG A room dir X st n ss0 m js):aH (lg dir m [] (flat (m.2.take js)).length::(ss0.map (jW dir)++X))=(flat (af (ss0++[m]))).length+aH X:=by
 rw[jQ,FQ,FY,JX,aV,Sg.aP,List.length_append];omega
theorem eG.put(h:eG A room dir X st n ss0 m js)(hfl:A.fails=false)(hx:Bt.aQ x=0)(hb:x.base=n){n':Nat}(hf:x.fin=n')(hr:(flat (af (ss0++[m]))).length+aH X+(Bt.ah x).length≤room):
 (A.add (bJ dir m.1) (Bt.ah x)).1=0∧eG (A.add (bJ dir m.1) (Bt.ah x)).2 room dir X st n' ss0 (m.1,m.2++[x]) js∧(A.add (bJ dir m.1) (Bt.ah x)).2.limited=A.limited:=by
 obtain⟨h1,h2,h3⟩:=h.disk.add (bs:=Bt.ah x) hfl (by rw[h.used];exact hr);refine⟨h1,⟨?_,h.qm.put hx hb hf,by have:=h.js;simp;omega⟩,h3⟩;have e:({lg dir m [] (flat (m.2.take js)).length with bytes:=(lg dir m [] (flat (m.2.take js)).length).bytes++Bt.ah x}:FA)=lg dir (m.1,m.2++[x]) [] (flat ((m.2++[x]).take js)).length:=by
  unfold lg;simp only[List.append_nil];rw[Sg.aP,Sg.gB,List.take_append_of_le_length h.js]
 rw[e]at h2;exact h2
theorem eG.begin(h:eG A room dir X st n ss0 m m.2.length)(hfl:A.fails=false)(hn:n≤1099511627776)(hz:0<(flat m.2).length)(hok:Dk.nameB (Sn.nameB dir n)=true)(hl:ss0.length+X.length<150)(hX:∀f∈X,¬pI dir f.name):
 (A.make (Sn.nameB dir n)).1=0∧eG (A.make (Sn.nameB dir n)).2 room dir X st n (ss0++[m]) (n,[]) 0∧(A.make (Sn.nameB dir n)).2.limited=A.limited:=by
 obtain⟨hq,hmn⟩:=h.qm.roll hn hz;have hno:(Sn.nameB dir n).data.toList∉(lg dir m [] (flat (m.2.take m.2.length)).length::(ss0.map (jW dir)++X)).map (·.name):=by
  intro hc;rw[List.map_cons,List.map_append,List.map_map]at hc;rcases List.mem_cons.1 hc with hc|hc
  ·have:=fK hn (h.qm.base m (by simp)) hc
   omega
  rcases List.mem_append.1 hc with hc|hc
  ·obtain⟨p,hp,e⟩:=List.mem_map.1 hc
   have:=fK (h.qm.base p (by simp[hp])) hn e;have:=h.qm.keys p hp;omega
  ·obtain⟨f,hf,e⟩:=List.mem_map.1 hc
   exact hX f hf ⟨n,hn,e⟩
 obtain⟨h1,h2,h3⟩:=h.disk.make hfl hno hok (by simp;omega);refine⟨h1,⟨?_,hq,Nat.le_refl _⟩,h3⟩;have e1:lg dir m [] (flat (m.2.take m.2.length)).length=jW dir m:=by
  rw[List.take_length];simp[lg,jW]
 rw[e1]at h2;refine h2.perm ?_;have e2:(⟨(Sn.nameB dir n).data.toList,[],0⟩:FA)=lg dir (n,[]) [] (flat (([]:List Bt.aB).take 0)).length:=by simp[lg,flat,bJ]
 rw[e2,List.map_append,List.map_singleton,List.append_assoc];exact List.Perm.cons _ List.perm_middle.symm
end
def uO(v:LV)(m:Nat×List Bt.aB)(js:Nat):Prop:=∀e,jF m js e→v.safe≤e
theorem FZ{m:Nat×List Bt.aB}{x:Bt.aB}{js:Nat}{e:Int}(h:jF (m.1,m.2++[x]) js e):jF m js e∨e=x.fin:=by
 obtain⟨j,h1,h2,rfl⟩:=h;rw[List.length_append,List.length_singleton]at h2;rcases Nat.lt_or_ge m.2.length j with h3|h3
 ·right
  have:j=m.2.length+1:=by omega
  subst this;rw[List.take_of_length_le (by simp)];exact Sg.dG _ _ _
 ·left
  exact⟨j,h1,h3,by rw[List.take_append_of_le_length h3]⟩
theorem uB{n:Nat}{e:Int}(h:jF (n,[]) 0 e):e=n:=by
 obtain⟨j,h1,h2,rfl⟩:=h;simp[ae]
theorem qN{m:Nat×List Bt.aB}{e:Int}(h:jF m m.2.length e):e=ae m.1 m.2:=by
 obtain⟨j,h1,h2,rfl⟩:=h;have:j=m.2.length:=by omega
 subst this;rw[List.take_length]
theorem vN{m:Nat×List Bt.aB}{js:Nat}(h:js≤m.2.length):jF m js (ae m.1 m.2):=⟨m.2.length,h,Nat.le_refl _,by rw[List.take_length]⟩
theorem vO{m:Nat×List Bt.aB}{js js':Nat}(h:js≤js'){e:Int}(he:jF m js' e):jF m js e:=by
 obtain⟨j,h1,h2,h3⟩:=he;exact⟨j,by omega,h2,h3⟩
section
variable {A:DA} {room:Nat} {dir:ByteArray} {X:List FA} {st n:Nat} {ss0:List (Nat×List Bt.aB)} {m:Nat×List Bt.aB} {js:Nat} {v:LV} {x:Bt.aB}
theorem Tu(v:LV):fF 0 v=v:=by unfold fF;rw[if_neg (by omega)]
theorem rH(v:LV):fF 14 v={v with down:=true}:=by unfold fF;rw[if_pos rfl]
theorem eG.lput(h:eG A room dir X st n ss0 m js)(hx:Bt.aQ x=0)(hb:x.base=n){n':Nat}(hf:x.fin=n')(hr:(flat (af (ss0++[m]))).length+aH X+(Bt.ah x).length≤room)(v:LV):
 (A.fails=false∧∃A',oW A dir v ss0 m x=(0,A',v,ss0++[(m.1,m.2++[x])])∧eG A' room dir X st n' ss0 (m.1,m.2++[x]) js∧A'.limited=A.limited)∨
 (A.fails=true∧oW A dir v ss0 m x=(14,A,v,ss0++[m])):=by
 cases hfl:A.fails with
 |true=>
  refine .inr ⟨rfl,?_⟩;unfold oW;rw[LZ hfl];simp
 |false=>
  obtain⟨h1,h2,h3⟩:=h.put hfl hx hb hf hr;refine .inl ⟨rfl,_,?_,h2,h3⟩;unfold oW;rw[show(Sn.nameB dir m.1).data.toList=bJ dir m.1 from rfl,h1,if_pos rfl]
theorem eG.ladd(h:eG A room dir X st n ss0 m js)(hn:n≤1099511627776)(hX:∀f∈X,¬pI dir f.name)(hok:Dk.nameB (Sn.nameB dir n)=true)(hl:ss0.length+X.length<150)(rs:List Bt.Rec)(hx:Bt.aQ (cO n rs)=0)(hr:(flat (af (ss0++[m]))).length+aH X+(Bt.ah (cO n rs)).length≤room)(v:LV)(hsk:uO v m js):
 ∃c A' v' ss0' m' js',rX A dir v n ss0 m rs=(c,A',v',ss0'++[m'])∧(v'.start=v.start∧v'.most=v.most∧dH ss0' m'=dH ss0 m∧ss0'.length≤ss0.length+1∧uO v' m' js'∧v.safe≤v'.safe)∧
  ((c=0∧v'.down=v.down∧eG A' room dir X st (n+rs.length) ss0' m' js'∧af (ss0'++[m'])=af (ss0++[m])++[cO n rs]∧∀e,jF m' js' e→jF m js e∨e=n+rs.length)∨
   (c=14∧v'.down=true∧A.limited=true∧A'.limited=true∧eG A' room dir X st n ss0' m' js'∧af (ss0'++[m'])=af (ss0++[m])∧∀e,jF m' js' e→jF m js e)):=by
 have aar:(cO n rs).fin=(n+rs.length:Nat):=by show((n:Int)+rs.length)=_;omega
 have hnl:jF m js (n:Int):=by rw[←h.qm.next];exact vN h.js
 have hvn:v.safe≤(n:Int):=hsk _ hnl;have aa4:∀{B:DA} {ss1:List (Nat×List Bt.aB)} {m1:Nat×List Bt.aB} {j1:Nat} {u:LV},eG B room dir X st n ss1 m1 j1→af (ss1++[m1])=af (ss0++[m])→(∀e,jF m1 j1 e→jF m js e)→B.limited=A.limited→uO u m1 j1→(u.start=v.start∧u.most=v.most∧u.down=v.down∧v.safe≤u.safe∧u.safe≤(n:Int))→(dH ss1 m1=dH ss0 m∧ss1.length≤ss0.length+1)→
  ∃c A' v' ss0' m' js',((oW B dir u ss1 m1 (cO n rs)).1,(oW B dir u ss1 m1 (cO n rs)).2.1,fF (oW B dir u ss1 m1 (cO n rs)).1 (oW B dir u ss1 m1 (cO n rs)).2.2.1,(oW B dir u ss1 m1 (cO n rs)).2.2.2)=(c,A',v',ss0'++[m'])∧(v'.start=v.start∧v'.most=v.most∧dH ss0' m'=dH ss0 m∧ss0'.length≤ss0.length+1∧uO v' m' js'∧v.safe≤v'.safe)∧
  ((c=0∧v'.down=v.down∧eG A' room dir X st (n+rs.length) ss0' m' js'∧af (ss0'++[m'])=af (ss0++[m])++[cO n rs]∧∀e,jF m' js' e→jF m js e∨e=n+rs.length)∨
   (c=14∧v'.down=true∧A.limited=true∧A'.limited=true∧eG A' room dir X st n ss0' m' js'∧af (ss0'++[m'])=af (ss0++[m])∧∀e,jF m' js' e→jF m js e)):=by
  intro B ss1 m1 j1 u hk hb he ab5 hs hv hh;rcases hk.lput (x:=cO n rs) hx rfl aar (by rw[hb];exact hr) u with⟨hfl,A',e1,h2,h3⟩|⟨hfl,e1⟩
  ·rw[e1]
   refine⟨0,A',u,ss1,(m1.1,m1.2++[cO n rs]),j1,by rw[Tu],⟨hv.1,hv.2.1,by rw[←hh.1];cases ss1<;>rfl,hh.2,fun e h=>?_,hv.2.2.2.1⟩, .inl ⟨rfl,hv.2.2.1,h2,by rw[aV,←List.append_assoc,←aV,hb],fun e h=>?_⟩⟩
   ·rcases FZ h with h|rfl
    ·exact hs e h
    ·rw[aar]
     have:=hv.2.2.2.2;omega
   ·rcases FZ h with h|rfl
    ·exact .inl (he e h)
    ·rw[aar]
     exact .inr (by omega)
  ·rw[e1]
   refine⟨14,B,_,ss1,m1,j1,rfl,?_, .inr ⟨rfl,by simp only[rH],by rw[←ab5];exact cu hfl,cu hfl,hk,hb,he⟩⟩;rw[rH];exact⟨hv.1,hv.2.1,hh.1,hh.2,hs,hv.2.2.2.1⟩
 unfold rX qG;rw[if_neg (by rw[hx];simp)];by_cases hc:0<(flat m.2).length∧v.most<((flat m.2).length+(Bt.ah (cO n rs)).length:Nat)
 ·rw[if_pos hc]
  cases hfl:A.fails with
  |true=>
   have e:iJ A dir v n m (ss0++[m])=(14,A,v,ss0++[m]):=by
    unfold iJ;rw[show(Sn.nameB dir m.1).data.toList=bJ dir m.1 from rfl,Ci hfl];exact if_neg (by simp)
   rw[e,if_pos (by simp)];refine⟨14,A,_,ss0,m,js,rfl,?_, .inr ⟨rfl,by simp only[rH],cu hfl,cu hfl,h,rfl,fun e h=>h⟩⟩;rw[rH];exact⟨rfl,rfl,rfl,by omega,hsk,Int.le_refl _⟩
  |false=>
   obtain⟨h1,h2,h3⟩:=h.sync hfl;have e0:iJ A dir v n m (ss0++[m])=((dX (A.sync (bJ dir m.1)).2 dir n (ss0++[m])).1,(dX (A.sync (bJ dir m.1)).2 dir n (ss0++[m])).2.1,{v with safe:=(n:Int)},(dX (A.sync (bJ dir m.1)).2 dir n (ss0++[m])).2.2):=by
    unfold iJ;rw[show(Sn.nameB dir m.1).data.toList=bJ dir m.1 from rfl];exact if_pos h1
   have aqf:∀{u:LV},u.safe=(n:Int)→uO u m m.2.length:=fun {u} hu e he=>by
    rw[qN he,h.qm.next,hu];exact Int.le_refl _
   cases aer:(A.sync (bJ dir m.1)).2.fails with
   |true=>
    have e:iJ A dir v n m (ss0++[m])=(14,(A.sync (bJ dir m.1)).2,{v with safe:=(n:Int)},ss0++[m]):=by
     rw[e0];unfold dX;rw[N9 aer];rfl
    rw[e,if_pos (by simp)];refine⟨14,_,_,ss0,m,m.2.length,rfl,?_, .inr ⟨rfl,by simp only[rH],by rw[←h3];exact cu aer,cu aer,h2,rfl,fun e h'=>vO h.js h'⟩⟩;rw[rH];exact⟨rfl,rfl,rfl,by omega,aqf rfl,hvn⟩
   |false=>
    obtain⟨h4,h5,h6⟩:=h2.begin aer hn hc.1 hok hl hX;have e:iJ A dir v n m (ss0++[m])=(0,((A.sync (bJ dir m.1)).2.make (Sn.nameB dir n)).2,{v with safe:=(n:Int)},ss0++[m]++[(n,[])]):=by
     rw[e0];unfold dX;rw[h4];rfl
    rw[e,if_neg (by simp)];refine aa4 h5 (by rw[aV,List.append_nil]) (fun e he=>by rw[uB he];exact hnl) (h6.trans h3) (fun e he=>by rw[uB he];exact Int.le_refl _) ⟨rfl,rfl,rfl,hvn,Int.le_refl _⟩ ⟨by cases ss0<;>rfl,by simp⟩
 ·rw[if_neg hc]
  exact aa4 h rfl (fun e h=>h) rfl hsk ⟨rfl,rfl,rfl,Int.le_refl _,hvn⟩ ⟨rfl,by omega⟩
theorem eG.Tv(h:eG A room dir X st n ss0 m js)(v:LV)(hsk:uO v m js):
 (A.fails=false∧∃A',dS A dir v m=(0,A',{v with safe:=(n:Int)})∧eG A' room dir X st n ss0 m m.2.length∧A'.limited=A.limited)∨
 (A.fails=true∧dS A dir v m=(14,A,{v with down:=true})):=by
 unfold dS;simp only[show(Sn.nameB dir m.1).data.toList=bJ dir m.1 from rfl];cases hfl:A.fails with
 |true=>
  refine .inr ⟨rfl,?_⟩;rw[Ci hfl];simp only[rH];rfl
 |false=>
  obtain⟨h1,h2,h3⟩:=h.sync hfl;refine .inl ⟨rfl,_,?_,h2,h3⟩;rw[h1,Tu,h.qm.next];rfl
end
section
variable {A:DA} {room:Nat} {dir:ByteArray} {X:List FA} {n:Nat} {ss0 s1 s2:List (Nat×List Bt.aB)} {m p:Nat×List Bt.aB} {js:Nat} {v:LV}
theorem Tz:∀{xs:List Bt.aB} {b b':Int},Chain b xs→b'≤b→Chain b' xs
 |[],_,_,_,_=>trivial
 |x::r,b,b',h,hb=>⟨h.1,by have:=h.2.1;omega,h.2.2⟩
theorem QM.tail(h:QM 0 n (p::ss0) m):QM 0 n ss0 m:=by
 have hbl:af (p::ss0++[m])=p.2++af (ss0++[m]):=by rw[List.cons_append,gQ]
 refine⟨fun q hq=>h.base q (by rw[List.cons_append];exact List.mem_cons_of_mem _ hq),fun q hq=>h.chains q (by rw[List.cons_append];exact List.mem_cons_of_mem _ hq),?_,h.next,fun x hx=>h.lK x (by rw[hbl];exact List.mem_append_right _ hx),fun q hq=>h.keys q (by simp[hq]),h.le,Nat.zero_le _,?_,?_⟩
 ·have hc:=h.chain
  rw[hbl,Sg.dM]at hc;exact Tz hc.2 (Int.le_trans (by simp) (qJ hc.1))
 ·have:=h.Jn
  rw[List.cons_append,List.map_cons,List.pairwise_cons]at this;exact this.2
 ·have:=h.fit
  rw[List.cons_append,List.pairwise_cons]at this;exact this.2
theorem eG.less(h:eG A room dir X 0 n (p::ss0) m js)(hfl:A.fails=false):(A.remove (bJ dir p.1)).1=0∧eG (A.remove (bJ dir p.1)).2 room dir X 0 n ss0 m js∧(A.remove (bJ dir p.1)).2.limited=A.limited:=by
 have hd:FS A room (jW dir p::lg dir m [] (flat (m.2.take js)).length::(ss0.map (jW dir)++X)):=h.disk.perm (List.Perm.swap _ _ _);obtain⟨h1,h2,h3⟩:=hd.remove hfl;exact⟨h1,⟨h2,h.qm.tail,h.js⟩,h3⟩
theorem eG.aab{gr:LV→List (Nat×List Bt.aB)→Bool→Prop}{v':LV}{c:Int}{A':DA}{ss ss':List (Nat×List Bt.aB)}(h:qM gr dir A v ss c A' v' ss'):∀{ss0:List (Nat×List Bt.aB)},ss=ss0++[m]→eG A room dir X 0 n ss0 m js→
 ∃i,i≤ss0.length∧ss'=ss0.drop i++[m]∧eG A' room dir X 0 n (ss0.drop i) m js∧A'.limited=A.limited∧v'.most=v.most∧v'.safe=v.safe∧((c=0∧v'.down=v.down)∨(c=14∧v'.down=true∧A'.limited=true)):=by
 induction h with
 |last=>
  intro ss0 e hk;exact⟨0,Nat.zero_le _,e,hk,rfl,rfl,rfl, .inl ⟨rfl,rfl⟩⟩
 |stop h=>
  intro ss0 e hk;exact⟨0,Nat.zero_le _,e,hk,rfl,rfl,rfl, .inl ⟨rfl,rfl⟩⟩
 | @fail A v p q r hg h=>
   intro ss0 e hk;cases ss0 with
   |nil=>simp at e
   |cons p' t=>
    rw[List.cons_append,List.cons.injEq]at e;obtain⟨rfl,e⟩:=e;cases hfl:A.fails with
    |false=>exact absurd (hk.less hfl).1 h
    |true=>
     rw[jD hfl];refine⟨0,Nat.zero_le _,by rw[List.drop_zero,List.cons_append,e],hk,rfl,?_,?_, .inr ⟨rfl,?_,cu hfl⟩⟩<;>rw[rH]
 | @step A A' v v' p q r ss' c hg h k ih=>
   intro ss0 e hk;cases ss0 with
   |nil=>simp at e
   |cons p' t=>
    rw[List.cons_append,List.cons.injEq]at e;obtain⟨rfl,e⟩:=e;cases hfl:A.fails with
    |true=>
     rw[jD hfl]at h;simp at h
    |false=>
     obtain⟨h1,h2,h3⟩:=hk.less hfl;obtain⟨i,g1,g2,g3,g4,g5,g6,g7⟩:=ih e h2;exact⟨i+1,by simp;omega,g2,g3,g4.trans h3,g5,g6,g7⟩
theorem Oh{nm:List UInt8}{L:List FA}(b0:Int):∀(xs dn:List Bt.aB) (A:DA),FS A room (⟨nm,flat dn,0⟩::L)→aH L+(flat dn).length+(flat xs).length≤room→Chain (ae b0 dn) xs→
 (∃A',dC nm b0 A dn xs=(0,A',dn++xs)∧A'.limited=A.limited∧FS A' room (⟨nm,flat (dn++xs),0⟩::L))∨
 (∃A' dn',(dC nm b0 A dn xs).1=14∧(dC nm b0 A dn xs).2.1=A'∧A'.limited=A.limited∧A'.fails=true∧FS A' room (⟨nm,flat dn',0⟩::L)∧(flat dn').length≤(flat dn).length+(flat xs).length)
 |[],dn,A,hd,_,_=> .inl ⟨A,by simp[dC],rfl,by simpa using hd⟩
 |x::r,dn,A,hd,hr,hc=>by
  have hx:(flat (x::r)).length=(Bt.ah x).length+(flat r).length:=by simp[flat]
  have hun:dC nm b0 A dn (x::r)=if (A.add nm (Bt.ah x)).1≠0 then((A.add nm (Bt.ah x)).1,(A.add nm (Bt.ah x)).2,dn)else dC nm b0 (A.add nm (Bt.ah x)).2 (dn++[x]) r:=by
   conv=>lhs;unfold dC
   rw[if_neg (by have:=hc.1;simp[this]),if_neg (by have:=hc.2.1;omega)]
  cases hfl:A.fails with
  |true=>
   refine .inr ⟨A,dn,?_,?_,rfl,hfl,hd,by omega⟩
   ·rw[hun,LZ hfl];rfl
   ·rw[hun,LZ hfl];rfl
  |false=>
   obtain⟨h1,h2,h3⟩:=hd.add (bs:=Bt.ah x) hfl (by rw[jQ];simp only;omega);have h2':FS (A.add nm (Bt.ah x)).2 room (⟨nm,flat (dn++[x]),0⟩::L):=by
    rw[Sg.aP,Sg.gB];exact h2
   have hl:(flat (dn++[x])).length=(flat dn).length+(Bt.ah x).length:=by rw[Sg.aP,Sg.gB,List.length_append]
   have hc2:Chain (ae b0 (dn++[x])) r:=by rw[Sg.dG];exact hc.2.2
   have aqh:dC nm b0 A dn (x::r)=dC nm b0 (A.add nm (Bt.ah x)).2 (dn++[x]) r:=by
    rw[hun,if_neg (by simp;exact h1)]
   rw[aqh];rcases Oh b0 r (dn++[x]) _ h2' (by omega) hc2 with⟨A',k1,k2,k3⟩|⟨A',dn',k1,k2,k3,k4,k5,k6⟩
   ·exact .inl ⟨A',by rw[k1];simp,k2.trans h3,by simpa using k3⟩
   ·exact .inr ⟨A',dn',k1,k2,k3.trans h3,k4,k5,by omega⟩
theorem MG{L:List FA}{xs:List Bt.aB}(h:FS A room (jW dir p::L))(hc:Chain p.1 xs)(hno:(aN (Sn.nameB dir p.1)).data.toList∉(jW dir p::L).map (·.name))(hok:Dk.nameB (aN (Sn.nameB dir p.1))=true)(ac2:Dk.nameB (Sn.nameB dir p.1)=true)(hl:L.length<199)(hr:aH (jW dir p::L)+(flat xs).length≤room):
 ((aG A (Sn.nameB dir p.1) p.1 xs).1=0∧FS (aG A (Sn.nameB dir p.1) p.1 xs).2.1 room (jW dir (p.1,xs)::L)∧(aG A (Sn.nameB dir p.1) p.1 xs).2.1.limited=A.limited)∨
 ((aG A (Sn.nameB dir p.1) p.1 xs).1=14∧A.limited=true∧(aG A (Sn.nameB dir p.1) p.1 xs).2.1.limited=true∧∃J:List FA,J.length≤1∧(∀f∈J,f.name=(aN (Sn.nameB dir p.1)).data.toList∧f.bytes.length≤(flat xs).length)∧FS (aG A (Sn.nameB dir p.1) p.1 xs).2.1 room (J++jW dir p::L)):=by
 obtain⟨bf,hbf⟩:∃bf,bf=aN (Sn.nameB dir p.1):=⟨_,rfl⟩;obtain⟨nb,hnb⟩:∃nb,nb=bf.data.toList:=⟨_,rfl⟩;have hcl:oQ A nb=(0,A):=by
  unfold oQ Dk.DA.sizeOf;rw[h.N8 (by rw[hnb,hbf];exact hno)];rfl
 have UR:eQ A bf=A.make bf:=by
  unfold eQ;rw[←hnb,hcl,if_neg (by simp)]
 rw[←hbf]at hno hok⊢;rw[←hnb]at hno⊢;unfold aG;rw[←hbf,UR];cases hfl:A.fails with
 |true=>
  rw[N9 hfl,if_pos (by simp)];exact .inr ⟨rfl,cu hfl,cu hfl,[],by simp,by simp,h⟩
 |false=>
  obtain⟨a1,a2,a3⟩:=h.make hfl (s:=bf) (by rw[←hnb];exact hno) hok (by simp;omega);rw[if_neg (by simp[a1])];rw[←hnb]at a2⊢;obtain⟨A1,hA1⟩:∃B,B=(A.make bf).2:=⟨_,rfl⟩;rw[←hA1]at a2 a3⊢;rcases Oh (nm:=nb) (p.1:Int) xs [] A1 (by simpa[flat]using a2) (by simp only[flat,List.flatMap_nil,List.length_nil];simp only[flat]at hr;omega) (by simpa[ae]using hc)with⟨A2,k1,k2,k3⟩|⟨A2,dn,k1,k2,k3,k4,k5,k6⟩
  ·rw[List.nil_append]at k1 k3
   have NH:replaceS A1 nb (Sn.nameB dir p.1) p.1 xs=if (A2.sync nb).1≠0 then((A2.sync nb).1,(A2.sync nb).2,xs)else(((A2.sync nb).2.rename nb (Sn.nameB dir p.1)).1,((A2.sync nb).2.rename nb (Sn.nameB dir p.1)).2,xs):=by
    unfold replaceS;rw[k1,if_neg (by simp)]
   cases hf2:A2.fails with
   |true=>
    have e:replaceS A1 nb (Sn.nameB dir p.1) p.1 xs=(14,A2,xs):=by rw[NH,Ci hf2,if_pos (by simp)]
    rw[e,if_pos (by simp)];simp only;rw[jD hf2,if_pos (by simp)];refine .inr ⟨rfl,?_,cu hf2,[⟨nb,flat xs,0⟩],by simp,by simp,k3⟩;rw[←a3,←k2];exact cu hf2
   |false=>
    obtain⟨b1,b2,b3⟩:=k3.sync hf2;have e0:replaceS A1 nb (Sn.nameB dir p.1) p.1 xs=(((A2.sync nb).2.rename nb (Sn.nameB dir p.1)).1,((A2.sync nb).2.rename nb (Sn.nameB dir p.1)).2,xs):=by
     rw[NH,if_neg (by simp;exact b1)]
    obtain⟨A3,hA3⟩:∃B,B=(A2.sync nb).2:=⟨_,rfl⟩;simp only at b2 b3;rw[←hA3]at b2 b3 e0;cases hf3:A3.fails with
    |true=>
     rw[PU hf3]at e0;rw[e0,if_pos (by simp)];simp only;rw[jD hf3,if_pos (by simp)];refine .inr ⟨rfl,?_,cu hf3,[⟨nb,flat xs,(flat xs).length⟩],by simp,by simp,b2⟩;rw[←a3,←k2,←b3];exact cu hf3
    |false=>
     obtain⟨d1,d2,d3⟩:=FS.rename (g:=jW dir p) b2 hf3 ac2 rfl;simp only at d1 d2 d3;rw[e0,if_neg (by simp;exact d1)];exact .inl ⟨rfl,d2,d3.trans (b3.trans (k2.trans a3))⟩
  ·have hne:(dC nb p.1 A1 [] xs).1≠0:=by rw[k1];simp
   have e1:replaceS A1 nb (Sn.nameB dir p.1) p.1 xs=dC nb p.1 A1 [] xs:=by
    unfold replaceS;rw[if_pos hne]
   rw[e1,if_pos hne];simp only;rw[k2,jD k4,if_pos (by simp)];refine .inr ⟨rfl,?_,cu k4,[⟨nb,flat dn,0⟩],by simp,fun f hf=>?_,k5⟩
   ·rw[←a3,←k3]
    exact cu k4
   ·obtain rfl:=List.mem_singleton.1 hf
    exact⟨rfl,by simp[flat]at k6⊢;omega⟩
end
def dL(f:List UInt8→Int)(now ak:Int)(p:Nat×List Bt.aB):Nat×List Bt.aB:=(p.1,p.2.map (bn f now ak))
theorem qO(a b:List (Nat×List Bt.aB)):af (a++b)=af a++af b:=by unfold af;rw[List.flatMap_append]
theorem kS(xs ys:List Bt.aB):aK (xs++ys)=aK xs++aK ys:=by unfold aK;rw[List.flatMap_append]
section
variable {A:DA} {room:Nat} {dir:ByteArray} {X:List FA} {n:Nat} {ss0 s1 s2:List (Nat×List Bt.aB)} {m p:Nat×List Bt.aB} {js:Nat} {v:LV} {f:List UInt8→Int} {now ak:Int}
theorem QM.one{st:Nat}(h:QM st n (s1++p::s2) m)(f:List UInt8→Int)(now ak:Int):QM st n (s1++dL f now ak p::s2) m:=by
 have hb1:af (s1++p::s2++[m])=af s1++(p.2++af (s2++[m])):=by rw[List.append_assoc,qO,List.cons_append,gQ]
 have hb2:af (s1++dL f now ak p::s2++[m])=af s1++(p.2.map (bn f now ak)++af (s2++[m])):=by rw[List.append_assoc,qO,List.cons_append,gQ];rfl
 have hin:∀q∈s1++dL f now ak p::s2++[m],q=dL f now ak p∨q∈s1++p::s2++[m]:=by
  intro q hq;simp only[List.mem_append,List.mem_cons]at hq⊢;rcases hq with(h|h|h)|h
  ·exact .inr (.inl (.inl h))
  ·exact .inl h
  ·exact .inr (.inl (.inr (.inr h)))
  ·exact .inr (.inr h)
 have hp:p∈s1++p::s2++[m]:=by simp
 have abI:(s1++dL f now ak p::s2++[m]).map (·.1)=(s1++p::s2++[m]).map (·.1):=by simp[dL]
 refine⟨fun q hq=>?_,fun q hq=>?_,?_,h.next,fun x hx=>?_,fun q hq=>?_,h.le,h.st,by rw[abI];exact h.Jn,?_⟩
 ·rcases hin q hq with rfl|hq
  ·exact h.base p hp
  ·exact h.base q hq
 ·rcases hin q hq with rfl|hq
  ·exact iO f now ak (h.chains p hp)
  ·exact h.chains q hq
 ·have hc:=h.chain
  rw[hb1,Sg.dM,Sg.dM]at hc;rw[hb2,Sg.dM,Sg.dM,uy];exact⟨hc.1,iO f now ak hc.2.1,hc.2.2⟩
 ·have hf:=h.lK
  rw[hb1]at hf;rw[hb2]at hx;simp only[List.mem_append]at hx hf;rcases hx with hx|hx|hx
  ·exact hf x (.inl hx)
  ·obtain⟨y,hy,rfl⟩:=List.mem_map.1 hx
   exact hf y (.inr (.inl hy))
  ·exact hf x (.inr (.inr hx))
 ·rcases List.mem_append.1 hq with hq|hq
  ·exact h.keys q (by simp[hq])
  ·rcases List.mem_cons.1 hq with rfl|hq
   ·exact h.keys p (by simp)
   ·exact h.keys q (by simp[hq])
 ·have:=h.fit
  simp only[List.append_assoc,List.cons_append]at this⊢;rw[List.pairwise_append,List.pairwise_cons]at this⊢;refine⟨this.1,⟨fun q hq=>?_,this.2.1.2⟩,fun q hq r hr=>?_⟩
  ·show ae p.1 (p.2.map (bn f now ak))≤_
   rw[uy];exact this.2.1.1 q hq
  ·rcases List.mem_cons.1 hr with rfl|hr
   ·exact this.2.2 q hq p (by simp)
   ·exact this.2.2 q hq r (by simp[hr])
theorem MH(p:Nat×List Bt.aB)(h:Chain p.1 p.2):(flat (dL f now ak p).2).length≤(flat p.2).length:=qI f now ak h
theorem Hu{T:FA}(hT:T.name=bJ dir m.1)(hok:∀n,n≤1099511627776→Dk.nameB (aN (Sn.nameB dir n))=true∧Dk.nameB (Sn.nameB dir n)=true){hi:Nat}(hr:2*hi≤room):∀(ss s1:List (Nat×List Bt.aB)) (A:DA),QM 0 n (s1++ss) m→FS A room (T::(s1++ss).map (jW dir))→(s1++ss).length<190→aH (T::(s1++ss).map (jW dir))≤hi→
 ((bC dir f now ak A ss).1=0∧(bC dir f now ak A ss).2.2.2=ss.map (dL f now ak)∧QM 0 n (s1++ss.map (dL f now ak)) m∧FS (bC dir f now ak A ss).2.1 room (T::(s1++ss.map (dL f now ak)).map (jW dir))∧(bC dir f now ak A ss).2.1.limited=A.limited∧aH (T::(s1++ss.map (dL f now ak)).map (jW dir))≤hi)∨
 ((bC dir f now ak A ss).1=14∧A.limited=true∧(bC dir f now ak A ss).2.1.limited=true∧∃k J,k≤ss.length∧J.length≤1∧(∀g∈J,(¬pI dir g.name∧∃q∈ss,g.name=(aN (Sn.nameB dir q.1)).data.toList)∧g.bytes.length≤hi)∧(bC dir f now ak A ss).2.2.2=(ss.take k).map (dL f now ak)++ss.drop k∧QM 0 n (s1++((ss.take k).map (dL f now ak)++ss.drop k)) m∧
   FS (bC dir f now ak A ss).2.1 room (T::((s1++((ss.take k).map (dL f now ak)++ss.drop k)).map (jW dir)++J))∧aH (T::(s1++((ss.take k).map (dL f now ak)++ss.drop k)).map (jW dir))≤hi)
 |[],s1,A,hq,hd,_,hu=> .inl ⟨rfl,rfl,by simpa using hq,by simpa[bC]using hd,rfl,by simpa using hu⟩
 |p::r,s1,A,hq,hd,hl,hu=>by
  have hnb:=fun q:Nat×List Bt.aB=>fun e=>qH (Sn.nameB dir p.1) dir q.1 e
  by_cases h0:fU f now ak p.2=0
  ·have hst:dL f now ak p=p:=by unfold dL;rw[FO f now ak h0]
   have hun:bC dir f now ak A (p::r)=((bC dir f now ak A r).1,(bC dir f now ak A r).2.1,(bC dir f now ak A r).2.2.1,p::(bC dir f now ak A r).2.2.2):=by
    conv=>lhs;unfold bC
    rw[if_pos h0]
   rw[hun];rcases Hu hT hok hr r (s1++[p]) A (by simpa using hq) (by simpa using hd) (by simpa using hl) (by simpa using hu)with⟨k1,k2,k3,k4,k5,k6⟩|⟨k1,k2,k3,k,J,k4,k5,k6,k7,k8,k9,k10⟩
   ·refine .inl ⟨k1,by simp only;rw[k2,List.map_cons,hst],?_,?_,k5,?_⟩
    ·rw[List.map_cons,hst];simpa using k3
    ·rw[List.map_cons,hst];simpa using k4
    ·rw[List.map_cons,hst];simpa using k6
   ·refine .inr ⟨k1,k2,k3,k+1,J,by simp;omega,k5,fun g hg=>⟨⟨(k6 g hg).1.1,(k6 g hg).1.2.imp fun q hq=>⟨by simp[hq.1],hq.2⟩⟩,(k6 g hg).2⟩,?_,?_,?_,?_⟩
    ·simp only;rw[k7,List.take_succ_cons,List.map_cons,hst];rfl
    ·rw[List.take_succ_cons,List.map_cons,hst];simpa using k8
    ·rw[List.take_succ_cons,List.map_cons,hst];simpa using k9
    ·rw[List.take_succ_cons,List.map_cons,hst];simpa using k10
  ·have hpm:p∈s1++p::r++[m]:=by simp
   have hb:=hq.base p hpm;have hch:=hq.chains p hpm;have hsf:=MH (f:=f) (now:=now) (ak:=ak) p hch;have Ym:(flat p.2).length≤hi:=by
    have:aH (T::(s1++p::r).map (jW dir))=T.bytes.length+aH (s1.map (jW dir))+(flat p.2).length+aH (r.map (jW dir)):=by
     rw[jQ,List.map_append,FQ,List.map_cons,jQ];show _=T.bytes.length+_+(jW dir p).bytes.length+_;omega
    omega
   have ag2:(T::(s1++p::r).map (jW dir)).Perm (jW dir p::(T::(s1++r).map (jW dir))):=by
    rw[List.map_append,List.map_cons];refine(List.Perm.cons T List.perm_middle).trans ?_;rw[←List.map_append];exact List.Perm.swap _ _ _
   have hd1:=hd.perm ag2;have hno:(aN (Sn.nameB dir p.1)).data.toList∉(jW dir p::(T::(s1++r).map (jW dir))).map (·.name):=by
    intro hc;simp only[List.map_cons,List.mem_cons,List.mem_map]at hc;rcases hc with hc|hc|⟨g,⟨q,hq,rfl⟩,hc⟩
    ·exact hnb p hc
    ·rw[hT]at hc
     exact hnb m hc
    ·exact hnb q hc.symm
   have hus:aH (jW dir p::(T::(s1++r).map (jW dir)))≤hi:=by rw[←vI ag2];exact hu
   rcases MG (xs:=(dL f now ak p).2) hd1 (iO f now ak hch) hno (hok p.1 hb).1 (hok p.1 hb).2 (by simp at hl⊢;omega) (by omega)with⟨c0,c1,c2⟩|⟨c0,c1,c2,J,c3,c4,c5⟩
   ·have hun:bC dir f now ak A (p::r)=((bC dir f now ak (aG A (Sn.nameB dir p.1) p.1 (dL f now ak p).2).2.1 r).1,(bC dir f now ak (aG A (Sn.nameB dir p.1) p.1 (dL f now ak p).2).2.1 r).2.1,fU f now ak p.2+(bC dir f now ak (aG A (Sn.nameB dir p.1) p.1 (dL f now ak p).2).2.1 r).2.2.1,dL f now ak p::(bC dir f now ak (aG A (Sn.nameB dir p.1) p.1 (dL f now ak p).2).2.1 r).2.2.2):=by
     conv=>lhs;unfold bC
     rw[if_neg h0,if_neg (by exact fun hc=>hc c0)];rfl
    rw[hun];have ag3:(jW dir (p.1,(dL f now ak p).2)::(T::(s1++r).map (jW dir))).Perm (T::(s1++[dL f now ak p]++r).map (jW dir)):=by
     rw[List.append_assoc,List.map_append,List.map_append,List.map_append];refine(List.Perm.swap _ _ _).trans (List.Perm.cons T ?_);exact List.perm_middle.symm
    have hu2:aH (T::(s1++[dL f now ak p]++r).map (jW dir))≤hi:=by
     rw[←vI ag3,jQ];rw[jQ]at hus;have:(jW dir (p.1,(dL f now ak p).2)).bytes.length≤(jW dir p).bytes.length:=hsf
     omega
    rcases Hu hT hok hr r (s1++[dL f now ak p]) _ (by simpa using hq.one f now ak) (c1.perm ag3) (by simp at hl⊢;omega) hu2 with⟨k1,k2,k3,k4,k5,k6⟩|⟨k1,k2,k3,k,J,k4,k5,k6,k7,k8,k9,k10⟩
    ·refine .inl ⟨k1,by simp only;rw[k2,List.map_cons],by rw[List.map_cons];simpa using k3,by rw[List.map_cons];simpa using k4,k5.trans c2,by rw[List.map_cons];simpa using k6⟩
    ·refine .inr ⟨k1,c2▸k2,k3,k+1,J,by simp;omega,k5,fun g hg=>⟨⟨(k6 g hg).1.1,(k6 g hg).1.2.imp fun q hq=>⟨by simp[hq.1],hq.2⟩⟩,(k6 g hg).2⟩,?_,?_,?_,?_⟩
     ·simp only;rw[k7,List.take_succ_cons,List.map_cons];rfl
     ·rw[List.take_succ_cons,List.map_cons];simpa using k8
     ·rw[List.take_succ_cons,List.map_cons];simpa using k9
     ·rw[List.take_succ_cons,List.map_cons];simpa using k10
   ·have hun:bC dir f now ak A (p::r)=((aG A (Sn.nameB dir p.1) p.1 (dL f now ak p).2).1,(aG A (Sn.nameB dir p.1) p.1 (dL f now ak p).2).2.1,0,p::r):=by
     conv=>lhs;unfold bC
     rw[if_neg h0,if_pos (by show(aG A (Sn.nameB dir p.1) p.1 (dL f now ak p).2).1≠0;rw[c0];simp)];rfl
    rw[hun];refine .inr ⟨c0,c1,c2,0,J,Nat.zero_le _,c3,fun g hg=>⟨⟨?_,p,by simp,(c4 g hg).1⟩,by have:=(c4 g hg).2;omega⟩,rfl,by simpa using hq,?_,by simpa using hu⟩
    ·rintro⟨i,hi,e⟩
     rw[(c4 g hg).1]at e;exact qH (Sn.nameB dir p.1) dir i e
    ·refine c5.perm ?_
     rw[List.take_zero,List.map_nil,List.nil_append,List.drop_zero];refine(List.Perm.append_left J ag2.symm).trans ?_;exact List.perm_append_comm
theorem eG.aac(h:eG A room dir [] 0 n ss0 m js)(hok:∀n,n≤1099511627776→Dk.nameB (aN (Sn.nameB dir n))=true∧Dk.nameB (Sn.nameB dir n)=true)(hl:ss0.length<190){hi:Nat}(hf:(flat (af (ss0++[m]))).length≤hi)(hr:2*hi≤room)(v:LV)(hsk:uO v m js)(hfl:f=dQ (aK (af (ss0++[m])))):
 ∃g c A' v' k X' js',k≤ss0.length∧CompactS A dir v ss0 m now ak=(g,c,A',v',(ss0.take k).map (dL f now ak)++ss0.drop k++[m])∧eG A' room dir X' 0 n ((ss0.take k).map (dL f now ak)++ss0.drop k) m js'∧uO v' m js'∧js≤js'∧v'.start=v.start∧v'.most=v.most∧v.safe≤v'.safe∧(flat (af ((ss0.take k).map (dL f now ak)++ss0.drop k++[m]))).length≤hi∧
  ((c=0∧v'.down=v.down∧k=ss0.length∧X'=[])∨(c=14∧v'.down=true∧A'.limited=true∧X'.length≤1∧∀g∈X',(¬pI dir g.name∧∃q∈ss0,g.name=(aN (Sn.nameB dir q.1)).data.toList)∧g.bytes.length≤hi)):=by
 have hvn:v.safe≤(n:Int):=hsk _ (by rw[←h.qm.next];exact vN h.js);rcases h.Tv v hsk with⟨hfs,A1,e1,h1,h2⟩|⟨hfs,e1⟩
 ·have hd1:FS A1 room (lg dir m [] (flat (m.2.take m.2.length)).length::ss0.map (jW dir)):=by simpa using h1.disk
  have hu1:aH (lg dir m [] (flat (m.2.take m.2.length)).length::ss0.map (jW dir))≤hi:=by
   have:=h1.used;rw[List.append_nil]at this;rw[this];simpa[aH]using hf
  have alQ:uO {v with safe:=(n:Int)} m m.2.length:=fun e he=>by
   rw[qN he,h.qm.next];exact Int.le_refl _
  have hun:CompactS A dir v ss0 m now ak=((bC dir f now ak A1 ss0).2.2.1,(bC dir f now ak A1 ss0).1,(bC dir f now ak A1 ss0).2.1,fF (bC dir f now ak A1 ss0).1 {v with safe:=(n:Int)},(bC dir f now ak A1 ss0).2.2.2++[m]):=by
   unfold CompactS;rw[e1,if_neg (by simp),←hfl]
  have hul:∀(ss:List (Nat×List Bt.aB)) (s:Nat),aH (lg dir m [] s::ss.map (jW dir))=(flat (af (ss++[m]))).length:=fun ss s=>by
   rw[jQ,FY,JX,aV,Sg.aP,List.length_append];omega
  rcases Hu (f:=f) (now:=now) (ak:=ak) (T:=lg dir m [] (flat (m.2.take m.2.length)).length) rfl hok hr ss0 [] A1 (by simpa using h1.qm) (by simpa using hd1) (by simpa using hl) (by simpa using hu1)with⟨k1,k2,k3,k4,k5,k6⟩|⟨k1,k2,k3,k,J,k4,k5,k6,k7,k8,k9,k10⟩
  ·refine⟨(bC dir f now ak A1 ss0).2.2.1,0,(bC dir f now ak A1 ss0).2.1,{v with safe:=(n:Int)},ss0.length,[],m.2.length,Nat.le_refl _,?_,⟨?_,?_,Nat.le_refl _⟩,alQ,h.js,rfl,rfl,hvn,?_, .inl ⟨rfl,rfl,rfl,rfl⟩⟩
   ·rw[hun,k1,k2,Tu,List.take_length,List.drop_length,List.append_nil]
   ·rw[List.take_length,List.drop_length,List.append_nil,List.append_nil]
    simpa using k4
   ·rw[List.take_length,List.drop_length,List.append_nil]
    simpa using k3
   ·rw[List.take_length,List.drop_length,List.append_nil,←hul _ (flat (m.2.take m.2.length)).length]
    simpa using k6
  ·refine⟨(bC dir f now ak A1 ss0).2.2.1,14,(bC dir f now ak A1 ss0).2.1,{v with safe:=(n:Int),down:=true},k,J,m.2.length,k4,?_,⟨?_,?_,Nat.le_refl _⟩,alQ,h.js,rfl,rfl,hvn,?_, .inr ⟨rfl,rfl,k3,k5,k6⟩⟩
   ·rw[hun,k1,k7,rH]
   ·simpa using k9
   ·simpa using k8
   ·rw[←hul _ (flat (m.2.take m.2.length)).length]
    simpa using k10
 ·have hun:CompactS A dir v ss0 m now ak=(0,14,A,{v with down:=true},ss0++[m]):=by
   unfold CompactS;rw[e1,if_pos (by simp)]
  refine⟨0,14,A,{v with down:=true},0,[],js,Nat.zero_le _,by rw[hun];simp,by simpa using h,hsk,Nat.le_refl _,rfl,rfl,Int.le_refl _,by simpa using hf, .inr ⟨rfl,rfl,cu hfs,by simp,by simp⟩⟩
end
end Lg
end
section
open Dk (DA FA aH)
namespace Lg
theorem F7(X s:List UInt8):Lib.trimSuffix (X++s) s=X:=by
 unfold Lib.trimSuffix;rw[if_pos (by unfold Lib.hasSuffix;simp)];simp
theorem MI(n:Nat)(hn:n≤1099511627776):Dk.nameB (aN (Sn.nameB aX n))=true:=by
 have h:=oU n hn;unfold Dk.nameB at h⊢;simp only[Bool.and_eq_true,decide_eq_true_eq]at h⊢;obtain⟨h1,h2,h3⟩:=h;have e1:(aN (Sn.nameB aX n)).data.toList=(Lib.trimSuffix (Sn.nameB aX n).data.toList [46,108,111,103])++[46,110,101,119]:=by
  unfold aN;simp[ByteArray.data_append]
 have e2:(Sn.nameB aX n).data.toList=(aX.data.toList++[47]++Sn.pad (Lib.decDigits n))++[46,108,111,103]:=by
  unfold Sn.nameB Sn.iF;simp
 have e3:Lib.trimSuffix (Sn.nameB aX n).data.toList [46,108,111,103]=aX.data.toList++[47]++Sn.pad (Lib.decDigits n):=by
  rw[e2];exact F7 _ _
 have hsz:(aN (Sn.nameB aX n)).size=(Sn.nameB aX n).size:=by
  rw[Lib.size_eq,Lib.size_eq,e1,e3,e2];simp
 refine⟨?_,by omega,by omega⟩;unfold Dk.allB at h1⊢;rw[e2,List.all_append]at h1;rw[e1,e3,List.all_append];simp only[Bool.and_eq_true]at h1⊢;exact⟨h1.1,by decide⟩
end Lg
end
section
open Dk (DA FA aH fO dm dF)
open Sg (Chain flat ae Scan)
namespace Lg
def Qa(dir:ByteArray)(X:List FA):Prop:=∀f∈X,¬pI dir f.name∧Dk.kR (dir++⟨#[47]⟩:ByteArray).data.toList f.name=true
theorem TA(X:List UInt8)(dir:ByteArray):Dk.kR (dir++⟨#[47]⟩:ByteArray).data.toList (dir.data.toList++[47]++X)=true:=by
 unfold Dk.kR;have:(dir++⟨#[47]⟩:ByteArray).data.toList=dir.data.toList++[47]:=by simp[ByteArray.data_append]
 rw[this,List.isPrefixOf_iff_prefix];exact List.prefix_append _ _
theorem Oi(dir:ByteArray)(n:Nat):Dk.kR (dir++⟨#[47]⟩:ByteArray).data.toList (bJ dir n)=true:=by
 rw[Ht];unfold Sn.iF;rw[List.append_assoc];exact TA _ _
theorem MJ(dir:ByteArray)(n:Nat):Dk.kR (dir++⟨#[47]⟩:ByteArray).data.toList (aN (Sn.nameB dir n)).data.toList=true:=by
 have e1:(aN (Sn.nameB dir n)).data.toList=(Lib.trimSuffix (Sn.nameB dir n).data.toList [46,108,111,103])++[46,110,101,119]:=by
  unfold aN;simp[ByteArray.data_append]
 have e2:(Sn.nameB dir n).data.toList=(dir.data.toList++[47]++Sn.pad (Lib.decDigits n))++[46,108,111,103]:=by
  unfold Sn.nameB Sn.iF;simp
 rw[e1,e2,F7,List.append_assoc];exact TA _ _
theorem vP{dir:ByteArray}{X:List FA}:∀(names:List (List UInt8)) (cs:List Nat) (ss:List (Nat×List Bt.aB)),cs=ss.map (·.1)→(aY dir names).length=ss.length→(∀nm∈names,lS dir nm=none→∃f∈X,f.name=nm)→
 ∃J,Inter dir (dU dir names cs) ss J∧J.map (·.name)=names.filter (fun nm=>(lS dir nm).isNone)∧∀f∈J,f∈X
 |[],cs,ss,hc,hl,hX=>by
  have:ss=[]:=List.eq_nil_of_length_eq_zero (by simpa[aY]using hl.symm)
  subst this;exact⟨[], .nil,rfl,by simp⟩
 |nm::r,cs,ss,hc,hl,hX=>by
  cases hs:lS dir nm with
  |none=>
   have hb:aY dir (nm::r)=aY dir r:=by unfold aY;simp[List.filterMap_cons,hs]
   obtain⟨J,h1,h2,h3⟩:=vP r cs ss hc (by rw[←hb];exact hl) (fun x hx=>hX x (by simp[hx]));obtain⟨f,hf,rfl⟩:=hX nm (by simp) hs;refine⟨f::J,?_,?_,fun g hg=>?_⟩
   ·have:dU dir (f.name::r) cs=f.name::dU dir r cs:=by simp[dU,hs]
    rw[this];exact .qK f (x9 hs) h1
   ·rw[List.map_cons,h2,List.filter_cons,if_pos (by rw[hs];rfl)]
   ·rcases List.mem_cons.1 hg with rfl|hg
    ·exact hf
    ·exact h3 g hg
  |some n=>
   have hb:aY dir (nm::r)=n::aY dir r:=by unfold aY;simp[List.filterMap_cons,hs]
   rw[hb]at hl;cases ss with
   |nil=>simp at hl
   |cons p t=>
    subst hc;obtain⟨J,h1,h2,h3⟩:=vP r (t.map (·.1)) t rfl (by simpa using hl) (fun x hx=>hX x (by simp[hx]));refine⟨J,?_,?_,h3⟩
    ·have:dU dir (nm::r) ((p::t).map (·.1))=bJ dir p.1::dU dir r (t.map (·.1)):=by simp[dU,hs]
     rw[this];exact .jh p h1
    ·rw[h2,List.filter_cons,if_neg (by rw[hs];simp)]
section
variable {A A3:DA} {room:Nat} {dir:ByteArray} {X:List FA} {n:Nat} {ss0 ss:List (Nat×List Bt.aB)} {m:Nat×List Bt.aB} {tail:List UInt8} {cs:List Nat} {c:Int}
theorem MK(hb:∀p∈ss,p.1≤1099511627776):aY dir (ss.map (fun p=>bJ dir p.1))=ss.map (·.1):=by
 induction ss with
 |nil=>rfl
 |cons p r ih=>
  unfold aY at ih⊢;rw[List.map_cons,List.filterMap_cons,Eh (hb p (by simp)),ih (fun q hq=>hb q (by simp[hq]))];rfl
theorem ML(h:Qa dir X):aY dir (X.map (·.name))=[]:=by
 unfold aY;rw[List.filterMap_eq_nil_iff];intro x hx;obtain⟨f,hf,rfl⟩:=List.mem_map.1 hx;exact Oc (h f hf).1
theorem JI.opened(h:JI A room dir X 0 n ss0 m tail)(hX:Qa dir X){st:Nat}(hcs:cs.Perm (aY dir (Dk.dN A (dir++⟨#[47]⟩:ByteArray).data.toList)))(hs:cs.Pairwise (· ≤ ·))(ho:Ej dir A (dU dir (Dk.dN A (dir++⟨#[47]⟩:ByteArray).data.toList) cs) st c A3 ss):
 (c=0∧ss=ss0++[m]∧eG A3 room dir [] 0 n ss0 m m.2.length∧A3.limited=A.limited)∨
 (c=14∧A.limited=true∧A3.limited=true∧∃X' tail',(∀f∈X',f∈X)∧JI A3 room dir X' 0 n ss0 m tail'):=by
 obtain⟨NS,hNS⟩:∃NS,NS=Dk.dN A (dir++⟨#[47]⟩:ByteArray).data.toList:=⟨_,rfl⟩;rw[←hNS]at hcs ho;have hnm:NS.Perm ((ss0++[m]).map (fun p=>bJ dir p.1)++X.map (·.name)):=by
  have h1:NS.Perm ((A.files.map (·.name)).filter (Dk.kR (dir++⟨#[47]⟩:ByteArray).data.toList)):=by
   rw[hNS];unfold Dk.dN Dk.aT;exact(List.mergeSort_perm _ _).filter _
  have h2:=(h.disk.names.filter (Dk.kR (dir++⟨#[47]⟩:ByteArray).data.toList));refine(h1.trans h2).trans ?_;rw[List.filter_eq_self.2]
  ·rw[List.map_cons,List.map_append,List.map_map,List.map_append,List.map_singleton,List.append_assoc]
   exact List.perm_middle.symm
  ·intro x hx
   simp only[List.map_cons,List.map_append,List.mem_cons,List.mem_append,List.mem_map]at hx;rcases hx with rfl|⟨q,⟨p,hp,rfl⟩,rfl⟩|⟨f,hf,rfl⟩
   ·exact Oi dir m.1
   ·exact Oi dir p.1
   ·exact(hX f hf).2
 have hbs:(aY dir NS).Perm ((ss0++[m]).map (·.1)):=by
  have h1:(aY dir NS).Perm (aY dir ((ss0++[m]).map (fun p=>bJ dir p.1)++X.map (·.name))):=hnm.filterMap _;have h2:aY dir ((ss0++[m]).map (fun p=>bJ dir p.1)++X.map (·.name))=(ss0++[m]).map (·.1):=by
   have h3:aY dir ((ss0++[m]).map (fun p=>bJ dir p.1)++X.map (·.name))=aY dir ((ss0++[m]).map (fun p=>bJ dir p.1))++aY dir (X.map (·.name)):=by unfold aY;rw[List.filterMap_append]
   rw[h3,MK h.qm.base,ML hX,List.append_nil]
  rw[h2]at h1;exact h1
 have hce:cs=(ss0++[m]).map (·.1):=(hcs.trans hbs).eq_of_pairwise (fun a b _ _ h1 h2=>Nat.le_antisymm h1 h2) hs (h.qm.Jn.imp Nat.le_of_lt);have aad:(X.map (·.name)).Nodup:=by
  have:=h.disk.nd;rw[List.map_cons,List.map_append,List.nodup_cons,List.nodup_append]at this;exact this.2.2.1
 have aqj:NS.Nodup:=by
  rw[hnm.nodup_iff];have hq:(((ss0++[m]).map (fun p=>bJ dir p.1))++X.map (·.name)).Perm ((lg dir m tail ((flat m.2).length+tail.length)::(ss0.map (jW dir)++X)).map (·.name)):=by
   have e3:(lg dir m tail ((flat m.2).length+tail.length)::(ss0.map (jW dir)++X)).map (·.name)=bJ dir m.1::(ss0.map (fun p=>bJ dir p.1)++X.map (·.name)):=by
    rw[List.map_cons,List.map_append,List.map_map];rfl
   rw[e3,List.map_append,List.map_singleton,List.append_assoc];exact List.perm_middle
  exact hq.nodup_iff.2 h.disk.nd
 obtain⟨J,hJ1,hJ2,hJ3⟩:=vP (X:=X) NS cs (ss0++[m]) hce (by rw[hbs.length_eq,List.length_map]) (fun nm hn hs'=>by
  rw[hnm.mem_iff]at hn;rcases List.mem_append.1 hn with hn|hn
  ·obtain⟨p,hp,rfl⟩:=List.mem_map.1 hn
   rw[Eh (h.qm.base p hp)]at hs';simp at hs'
  ·obtain⟨f,hf,rfl⟩:=List.mem_map.1 hn
   exact⟨f,hf,rfl⟩)
 have hJX:J.Perm X:=by
  have hJn:(J.map (·.name)).Nodup:=by rw[hJ2];exact aqj.filter _
  have VS:∀{l:List FA},(l.map (·.name)).Nodup→l.Nodup:=fun {l} hl=>by
   unfold List.Nodup at hl⊢;rw[List.pairwise_map]at hl;exact hl.imp (fun hne e=>hne (by rw[e]))
  rw[List.perm_ext_iff_of_nodup (VS hJn) (VS aad)];intro f;refine⟨hJ3 f,fun hf=>?_⟩;have h1:f.name∈J.map (·.name):=by
   rw[hJ2,List.mem_filter];refine⟨hnm.mem_iff.2 (List.mem_append_right _ (List.mem_map_of_mem hf)),?_⟩;rw[Oc (hX f hf).1];rfl
  obtain⟨g,hg,e⟩:=List.mem_map.1 h1;have:g=f:=by
   have hu:=aad;unfold List.Nodup at hu;rw[List.pairwise_map]at hu;have hgX:=hJ3 g hg;by_cases e2:g=f
   ·exact e2
   ·exfalso
    obtain⟨i,hi,rfl⟩:=List.mem_iff_getElem.1 hgX;obtain⟨j,hj,rfl⟩:=List.mem_iff_getElem.1 hf;rcases Nat.lt_trichotomy i j with hij|hij|hij
    ·exact List.pairwise_iff_getElem.1 hu i j hi hj hij e
    ·subst hij;exact e2 rfl
    ·exact List.pairwise_iff_getElem.1 hu j i hj hi hij e.symm
  rw[←this];exact hg
 have hdJ:FS A room (lg dir m tail ((flat m.2).length+tail.length)::((([]:List (Nat×List Bt.aB))++ss0).map (jW dir)++(J++[]))):=by
  rw[List.append_nil,List.nil_append];exact h.disk.perm (List.Perm.cons _ (List.Perm.append_left _ hJX.symm))
 obtain⟨c1,A1,ss1,hf,aew⟩:=ho;rcases xX hJ1 (by simpa using h.qm) hdJ h.scan hf with⟨h0,h1,h2,h3⟩|⟨h0,h1,h2,J',tail',h3,h4,h5⟩
 ·rcases aew with⟨hne, -, -⟩|⟨-,aew⟩
  ·exact absurd h0 hne
  simp only[List.nil_append]at h1;have hb0:jw dir A1 st ss1=(0,A1,ss1):=by
   unfold jw;rw[if_neg (by rw[h1];simp)]
  rw[hb0]at aew;rcases aew with⟨hne, -, -⟩|⟨-,he,m',hl,hc,hA⟩
  ·exact absurd rfl hne
  simp only at he hc hA;rw[he,h1]at hl;have hm:m=m':=by simpa using hl
  subst hm;simp only[List.nil_append,List.append_nil]at h2;cases hfl:A1.fails with
  |true=>
   rw[Ci hfl]at hc hA;simp only at hc hA;subst hc;subst hA;have ab5:=cu hfl;refine .inr ⟨rfl,by rw[←h3];exact ab5,ab5,[],[],by simp,⟨?_,h.qm,?_⟩⟩
   ·simpa using h2
   ·rw[List.append_nil]
    exact Sg.uV (h.qm.chains m (by simp))
  |false=>
   obtain⟨g1,g2,g3⟩:=h2.sync hfl;rw[show(lg dir m [] (flat m.2).length).name=bJ dir m.1 from rfl]at g1 g2 g3;rw[g1]at hc;subst hc;rw[←hA]at g2 g3;refine .inl ⟨rfl,he.trans h1,⟨?_,h.qm,Nat.le_refl _⟩,g3.trans h3⟩;rw[List.take_length,List.append_nil];simpa[lg]using g2
 ·rcases aew with⟨-,rfl,rfl⟩|⟨hz, -⟩
  ·refine .inr ⟨h0,h1,h2,J',tail',fun f hf=>hJ3 f (h3 f hf),⟨by simpa using h5,h.qm,?_⟩⟩
   rcases h4 with rfl|rfl
   ·exact h.scan
   ·rw[List.append_nil]
    exact Sg.uV (h.qm.chains m (by simp))
  ·omega
end
end Lg
end
end Go.Proofs.YtficbckncieabaaGreatDoor
