/- Lemmas of the claim, part d of 14. -/
import Derived.Test.YtmjpdhpmjmgmaaaGreatDoorMc
import Derived.Test.YtmjpdhpmjmgmaaaGreatDoorProg
import Derived.Test.YtmjpdhpmjmgmaaaGreatDoorMb
import Derived.WalkKit
import Derived.WalkLawsBesides
import Derived.Laws.BitsAllLaws
import Derived.Test.YtmjpdhpmjmgmaaaGreatDoorMa
namespace Go.Proofs.YtmjpdhpmjmgmaaaGreatDoor
section
open Go.RowKit Go.Maps
set_option maxRecDepth 100000
set_option linter.unusedSimpArgs false
set_option linter.unusedVariables false
theorem Grew.box{W w:World}{base:Nat}{v v':Value}{b:List UInt8}(h:Grew W w base v v' b){k:Nat}{cs:Array Value}{t:TypeId}(hk:W.heap[k]? =some (.cells cs t (0,0))) (hn:∀x∈v.ownBlock,x≠k):w.heap[k]? =some (.cells cs t (0,0)):=
 h.2.1.heap hk (fun hm=>hn k (by simpa using hm) rfl)
theorem Grew.still{W w w2:World}{base:Nat}{v v':Value}{b:List UInt8}(h:Grew W w base v v' b)(k:Turn [] w w2):Grew W w2 base v v' b:=
 ⟨h.1.kept k (by simp),h.2.1.trans k (by simp),h.2.2⟩
theorem Grew.refl{W:World}{base:Nat}{v:Value}{b:List UInt8}(h:bC W 5 base v b):Grew W W base v v b:=⟨h,Turn.refl _ _,fun k hk=> .inl hk⟩
theorem NT{w:World}{k:Nat}{r:Bt.Rec}(h:w.heap[k]? =some (.cells #[.int .i64 r.off, .int .i64 r.time, .bool r.keyed, .string ⟨r.key.toArray⟩, .bool r.gone, .string ⟨r.value.toArray⟩] 47 (0,0))):
 w.cell? ⟨k,0,none⟩=some (.int .i64 r.off)∧w.cell? ⟨k,1,none⟩=some (.int .i64 r.time)∧w.cell? ⟨k,2,none⟩=some (.bool r.keyed)∧w.cell? ⟨k,3,none⟩=some (.string ⟨r.key.toArray⟩)∧w.cell? ⟨k,4,none⟩=some (.bool r.gone)∧w.cell? ⟨k,5,none⟩=some (.string ⟨r.value.toArray⟩):=
 ⟨by simpa using cell_of h 0,by simpa using cell_of h 1,by simpa using cell_of h 2,by simpa using cell_of h 3,by simpa using cell_of h 4,by simpa using cell_of h 5⟩
theorem vk{s:List UInt8}(h:s.length≤600):(Bt.mO s).length≤s.length+6:=by
 unfold Bt.mO;have:=Nu.eu (show s.length≤1099511627776 by omega);simp;omega
theorem EY(r:Bt.Rec):Bt.mark r≤3:=by unfold Bt.mark;split<;>split<;>omega
structure EZ(r:Bt.Rec)(b:Int):Prop where
 lo:b≤r.off
 hi:r.off-b≤1099511627776
 b0:0≤b
 bT:b≤1099511627776
 t0:0≤r.time
 tT:r.time≤1099511627776
 key:r.key.length≤60
 value:r.value.length≤500
theorem PK{r:Bt.Rec}{b:Int}(h:EZ r b):(Bt.ni b r).length≤600:=by
 obtain⟨h1,h2,h3,h4,h5,h6,h7,h8⟩:=h;have a1:=Nu.eu (show(r.off-b).toNat≤1099511627776 by omega);have a2:=Nu.eu (show r.time.toNat≤1099511627776 by omega);have a3:=Nu.eu (show Bt.mark r≤1099511627776 by have:=EY r;omega);have a4:=vk (show r.key.length≤600 by omega);have a5:=vk (show r.value.length≤600 by omega);unfold Bt.ni;simp only[List.length_append];split<;>split<;>simp<;>omega
set_option maxHeartbeats 2000000 in
theorem Dy(w:World)(base:Nat)(v:Value)(bs:List UInt8)(hrow:bC w 5 base v bs)(hbase:base≤w.heap.size)(r:Bt.Rec)(b:Int)(hfit:EZ r b)(hl:bs.length≤900000):
 Calls Tryz.prog 269 #[v,ny r, .int .i64 b] w fun e w'=>∃v',e= .returned v'∧Grew w w' base v v' (bs++Bt.ni b r):=by
 have HF:=hide hfit;obtain⟨h1,h2,h3,h4,h5,h6,h7,h8⟩:=hfit;have hlt:∀x∈v.ownBlock,x≠w.heap.size:=fun x hx=>by have:=(hrow.lt x hx).2;omega
 have E5:=hide hlt;clear hlt;obtain⟨n0,hsub⟩:∃n0:Nat,r.off-b=n0:=⟨(r.off-b).toNat,by omega⟩;obtain⟨n1,PL⟩:∃n1:Nat,r.time=n1:=⟨r.time.toNat,by omega⟩;have HB:Hid (Bt.ni b r=Nu.put n0++Nu.put n1++Nu.put (Bt.mark r)++(if r.keyed then Bt.mO r.key else [])++(if r.gone then []else Bt.mO r.value)):=by
  show _=_;unfold Bt.ni;rw[hsub,PL];simp
 have HG0:Hid (Grew (w.alloc (.cells #[.int .i64 r.off, .int .i64 r.time, .bool r.keyed, .string ⟨r.key.toArray⟩, .bool r.gone, .string ⟨r.value.toArray⟩] 47)) (w.alloc (.cells #[.int .i64 r.off, .int .i64 r.time, .bool r.keyed, .string ⟨r.key.toArray⟩, .bool r.gone, .string ⟨r.value.toArray⟩] 47)) base v v bs):=
  Grew.refl (hrow.kept ((Turn.refl [] w).alloc _) (by simp))
 have box:∀wi vi bi,Grew (w.alloc (.cells #[.int .i64 r.off, .int .i64 r.time, .bool r.keyed, .string ⟨r.key.toArray⟩, .bool r.gone, .string ⟨r.value.toArray⟩] 47)) wi base v vi bi→w.heap.size<wi.heap.size∧
  (wi.cell? ⟨w.heap.size,0,none⟩=some (.int .i64 r.off)∧wi.cell? ⟨w.heap.size,1,none⟩=some (.int .i64 r.time)∧wi.cell? ⟨w.heap.size,2,none⟩=some (.bool r.keyed)∧wi.cell? ⟨w.heap.size,3,none⟩=some (.string ⟨r.key.toArray⟩)∧wi.cell? ⟨w.heap.size,4,none⟩=some (.bool r.gone)∧wi.cell? ⟨w.heap.size,5,none⟩=some (.string ⟨r.value.toArray⟩)):=
  fun wi vi bi hg=>⟨by have:=hg.2.1.size;simp at this;omega,NT (hg.box (ae w _) E5.out)⟩
 have BOX:=hide box;clear box hrow;have l0:=Nu.eu (show n0≤1099511627776 by omega);have l1:=Nu.eu (show n1≤1099511627776 by omega);have l2:=Nu.eu (show Bt.mark r≤1099511627776 by have:=EY r;omega);have l3:=vk (show r.key.length≤600 by omega);have l4:=EY r;have o1: -9223372036854775808≤r.off:=by omega
 have o2:r.off≤9223372036854775807:=by omega
 simp only[ny,gQ];have hn1:n1≤1099511627776:=by omega
 have Gq:=hide PL;clear PL;go_enter Tryz.func269,Tryz.ntmps269
 go_wp2_with fail
 refine(put_any _ base v bs HG0.out.1 (by simp;omega) n0 (by omega) (by omega)).mono ?_;rintro e w1 ⟨v1,rfl,hr1,ht1,ho1⟩;have HG1:=hide (HG0.out.trans ⟨hr1,ht1,ho1⟩);clear hr1 ht1 ho1;obtain⟨z1,c0,c1,c2,c3,c4,c5⟩:=BOX.out _ _ _ HG1.out;go_wp2_with fail
 rw[Gq.out];refine(put_any _ base v1 _ HG1.out.1 (by omega) n1 (by omega) (by simp;omega)).mono ?_;rintro e w2 ⟨v2,rfl,hr2,ht2,ho2⟩;have HG2:=hide (HG1.out.trans ⟨hr2,ht2,ho2⟩);clear hr2 ht2 ho2 c0 c1 c2 c3 c4 c5 z1;obtain⟨z1,c0,c1,c2,c3,c4,c5⟩:=BOX.out _ _ _ HG2.out;go_wp2_with fail
 refine(NS _ r).mono ?_;rintro e w3 ⟨rfl,ht3⟩;have HG3:=hide (HG2.out.still ht3);clear ht3 c0 c1 c2 c3 c4 c5 z1;obtain⟨z1,c0,c1,c2,c3,c4,c5⟩:=BOX.out _ _ _ HG3.out;go_wp2_with fail
 refine(put_any _ base v2 _ HG3.out.1 (by omega) (Bt.mark r) (by omega) (by simp;omega)).mono ?_;rintro e w4 ⟨v4,rfl,hr4,ht4,ho4⟩;have HG4:=hide (HG3.out.trans ⟨hr4,ht4,ho4⟩);clear hr4 ht4 ho4 c0 c1 c2 c3 c4 c5 z1;obtain⟨z1,c0,c1,c2,c3,c4,c5⟩:=BOX.out _ _ _ HG4.out;have fin:∀wi vi bi,Grew (w.alloc (.cells #[.int .i64 r.off, .int .i64 r.time, .bool r.keyed, .string ⟨r.key.toArray⟩, .bool r.gone, .string ⟨r.value.toArray⟩] 47)) wi base v vi bi→bi=bs++Bt.ni b r→Grew w wi base v vi (bs++Bt.ni b r):=
  fun wi vi bi h e=>e▸Grew.pre ((Turn.refl [] w).alloc _) h
 have FIN:=hide fin;clear fin;obtain⟨kd,hkd⟩:∃kd,r.keyed=kd:=⟨_,rfl⟩;obtain⟨gn,hgn⟩:∃gn,r.gone=gn:=⟨_,rfl⟩;rw[hkd]at c2;rw[hgn]at c4;have HB2:Hid (Bt.ni b r=Nu.put n0++Nu.put n1++Nu.put (Bt.mark r)++(if kd then Bt.mO r.key else [])++(if gn then []else Bt.mO r.value)):=by
  show _=_;rw[HB.out,hkd,hgn]
 have HKD:=hide hkd;have L9:=hide hgn;clear hkd hgn HB;cases kd with
 |true=>
  go_wp2_with fail
  refine(qm _ base v4 _ HG4.out.1 (by omega) r.key (by omega) (by simp;omega)).mono ?_;rintro e w5 ⟨v5,rfl,hg5⟩;have HG5:=hide (HG4.out.trans hg5);clear hg5 c0 c1 c2 c3 c4 c5 z1;obtain⟨z1,c0,c1,c2,c3,c4,c5⟩:=BOX.out _ _ _ HG5.out;rw[L9.out]at c4;cases gn with
  |true=>
   go_wp2
   go_ret
   exact⟨_,rfl,FIN.out _ _ _ HG5.out (by rw[HB2.out];simp)⟩
  |false=>
   go_wp2_with fail
   refine(qm _ base v5 _ HG5.out.1 (by omega) r.value (by omega) (by simp;omega)).mono ?_;rintro e w6 ⟨v6,rfl,hg6⟩;have HG6:=hide (HG5.out.trans hg6);clear hg6 c0 c1 c2 c3 c4 c5 z1;go_wp2
   go_ret
   exact⟨_,rfl,FIN.out _ _ _ HG6.out (by rw[HB2.out];simp)⟩
 |false=>
  cases gn with
  |true=>
   go_wp2
   go_ret
   exact⟨_,rfl,FIN.out _ _ _ HG4.out (by rw[HB2.out];simp)⟩
  |false=>
   go_wp2_with fail
   refine(qm _ base v4 _ HG4.out.1 (by omega) r.value (by omega) (by simp;omega)).mono ?_;rintro e w6 ⟨v6,rfl,hg6⟩;have HG6:=hide (HG4.out.trans hg6);clear hg6 c0 c1 c2 c3 c4 c5 z1;go_wp2
   go_ret
   exact⟨_,rfl,FIN.out _ _ _ HG6.out (by rw[HB2.out];simp)⟩
theorem Hf{hi base:Int}:∀(rs:List Bt.Rec) (lo:Int),base≤lo→Bt.bK rs lo hi=0→∀r∈rs,base≤r.off∧r.off<hi∧r.key.length≤60∧r.value.length≤500∧0≤r.time∧r.time≤1099511627776
 |[],_,_,_,r,hr=>by simp at hr
 |x::rs,lo,hb,h,r,hr=>by
  have h1:Bt.dW x lo hi=0:=by
   unfold Bt.bK at h;split at h
   ·assumption
   ·exact h
  have h2:Bt.bK rs (x.off+1) hi=0:=by
   unfold Bt.bK at h;rwa [if_pos h1]at h
  have hk:=Bt.jV h1;rcases List.mem_cons.1 hr with rfl|hr
  ·exact⟨by omega,hk.2.1,hk.2.2.2.2.1,hk.2.2.2.2.2.1,hk.2.2.2.2.2.2.1,hk.2.2.2.2.2.2.2⟩
  ·exact Hf rs (x.off+1) (by omega) h2 r hr
theorem Mc{x:Bt.aX}(h:Bt.chk x=0):∀r∈x.recs,EZ r x.base:=by
 intro r hr;obtain⟨h1,h2,h3,h4,h5,h6⟩:=Bt.l7 h;obtain⟨a,b,c,d,e,f⟩:=Hf x.recs x.base (Int.le_refl _) h6 r hr;exact⟨a,by omega,h1,by omega,e,f,c,d⟩
theorem JL{b:Int}{rs:List Bt.Rec}{k:Nat}(hk:k<rs.length):Bt.iw b (rs.take (k+1))=Bt.iw b (rs.take k)++Bt.ni b rs[k]:=by
 unfold Bt.iw;rw[List.take_succ_eq_append_getElem hk];simp only[List.flatMap_append,List.flatMap_cons,List.flatMap_nil,List.append_nil]
theorem lQ{b:Int}:∀(rs:List Bt.Rec),(∀r∈rs,EZ r b)→(Bt.iw b rs).length≤600*rs.length
 |[],_=>by simp[Bt.iw]
 |r::rs,h=>by
  have h1:=PK (h r (by simp));have h2:=lQ rs (fun x hx=>h x (by simp[hx]));simp only[Bt.iw,List.flatMap_cons,List.length_append,List.length_cons]at h2⊢;omega
set_option maxHeartbeats 2000000 in
theorem Hg(w:World)(base:Nat)(v sv:Value)(bs:List UInt8)(hrow:bC w 5 base v bs)(hbase:base≤w.heap.size)(x:Bt.aX)(hx:bn w sv x.recs)(hd:x.recs≠[]→∀k∈sv.ownBlock,k∉v.ownBlock)(hc:Bt.chk x=0)(hl:bs.length≤100):
 Calls Tryz.prog 227 #[v, .agg #[.int .i64 x.base, .int .i64 x.fin,sv]] w fun e w'=>∃v',e= .returned v'∧Grew w w' base v v' (bs++Bt.body x):=by
 have hfit:=Mc hc;obtain⟨h1,h2,h3,h4,h5,h6⟩:=Bt.l7 hc;obtain⟨xb,xf,recs⟩:=x;simp only at h1 h2 h3 h4 h5 h6 hx hfit hd⊢;obtain⟨a,c,rfl,hlc,hcm,hn0,hp⟩:=hx.form;have hmx:maxLen=9223372036854775807:=by simp[maxLen]
 rw[hmx]at hcm;have Tu:=hide hfit;have HX:=hide hx;have HD:=hide hd;have hlt:∀x∈v.ownBlock,x≠w.heap.size:=fun x hx=>by have:=(hrow.lt x hx).2;omega
 have E5:=hide hlt;obtain⟨n0,hnb⟩:∃n0:Nat,xb=n0:=⟨xb.toNat,by omega⟩;subst hnb;obtain⟨n1,hsub⟩:∃n1:Nat,xf-(n0:Int)=n1:=⟨(xf-n0).toNat,by omega⟩;have HB:Hid (Bt.body ⟨(n0:Int),xf,recs⟩=Nu.put n0++Nu.put n1++Nu.put recs.length++Bt.iw n0 recs):=by
  show _=_;unfold Bt.body;simp only[hsub];simp
 have HG0:Hid (Grew (w.alloc (.cells #[.int .i64 (n0:Int), .int .i64 xf, .slice a recs.length c] 215)) (w.alloc (.cells #[.int .i64 (n0:Int), .int .i64 xf, .slice a recs.length c] 215)) base v v bs):=
  Grew.refl (hrow.kept ((Turn.refl [] w).alloc _) (by simp))
 have box:∀wi vi bi,Grew (w.alloc (.cells #[.int .i64 (n0:Int), .int .i64 xf, .slice a recs.length c] 215)) wi base v vi bi→w.heap.size<wi.heap.size∧
  wi.cell? ⟨w.heap.size,0,none⟩=some (.int .i64 (n0:Int))∧wi.cell? ⟨w.heap.size,1,none⟩=some (.int .i64 xf)∧wi.cell? ⟨w.heap.size,2,none⟩=some (.slice a recs.length c):=by
  intro wi vi bi hg;have hb:=hg.box (ae w _) E5.out;exact⟨by have:=hg.2.1.size;simp at this;omega,by simpa using cell_of hb 0,by simpa using cell_of hb 1,by simpa using cell_of hb 2⟩
 have BOX:=hide box;have PM:∀wi vi bi,Grew (w.alloc (.cells #[.int .i64 (n0:Int), .int .i64 xf, .slice a recs.length c] 215)) wi base v vi bi→bn wi (.slice a recs.length c) recs:=by
  intro wi vi bi hg;exact(HX.out.still ((Turn.refl [] w).alloc _)).kept' hg.2.1 (fun h0 k hk hm=>HD.out h0 k hk (by simpa using hm))
 have aac:=hide PM;clear box hrow hx hd hlt hfit PM hn0;have l0:=Nu.eu (show n0≤1099511627776 by omega);have l1:=Nu.eu (show n1≤1099511627776 by omega);have l2:=Nu.eu (show recs.length≤1099511627776 by omega);go_enter Tryz.func227,Tryz.ntmps227
 go_wp2_with fail
 refine(put_any _ base v bs HG0.out.1 (by simp;omega) n0 (by omega) (by omega)).mono ?_;rintro e w1 ⟨v1,rfl,hr1,ht1,ho1⟩;have HG1:=hide (HG0.out.trans ⟨hr1,ht1,ho1⟩);clear hr1 ht1 ho1;obtain⟨z1,c0,c1,c2⟩:=BOX.out _ _ _ HG1.out;go_wp2_with fail
 refine(put_any _ base v1 _ HG1.out.1 (by omega) n1 (by omega) (by simp;omega)).mono ?_;rintro e w2 ⟨v2,rfl,hr2,ht2,ho2⟩;have HG2:=hide (HG1.out.trans ⟨hr2,ht2,ho2⟩);clear hr2 ht2 ho2 c0 c1 c2 z1;obtain⟨z1,c0,c1,c2⟩:=BOX.out _ _ _ HG2.out;go_wp2_with fail
 refine(put_any _ base v2 _ HG2.out.1 (by omega) recs.length (by omega) (by simp;omega)).mono ?_;rintro e w3 ⟨v3,rfl,hr3,ht3,ho3⟩;have HG3:=hide (HG2.out.trans ⟨hr3,ht3,ho3⟩);clear hr3 ht3 ho3 c0 c1 c2 z1;obtain⟨z1,c0,c1,c2⟩:=BOX.out _ _ _ HG3.out;go_wp2
 go_loopw [0,26] (fun s i wr=>∃k:Nat,k≤recs.length∧i= .int .i64 k∧Grew (w.alloc (.cells #[.int .i64 (n0:Int), .int .i64 xf, .slice a recs.length c] 215)) wr base v s (bs++Nu.put n0++Nu.put n1++Nu.put recs.length++Bt.iw n0 (recs.take k))) (fun _ i _=>recs.length-(intOf i).toNat)
 case atStart=>exact⟨0,Nat.zero_le _,rfl,by simpa[Bt.iw]using HG3.out⟩
 case round=>
  obtain⟨k,hk,rfl,hg⟩:=hrel;have HG:=hide hg;clear hg c0 c1 c2 z1;obtain⟨z1,c0,c1,c2⟩:=BOX.out _ _ _ HG.out;by_cases hlt:k<recs.length
  ·obtain⟨p,rfl⟩:=hp k hlt
   obtain⟨g0,g1,g2,g3,g4,g5⟩:=(aac.out _ _ _ HG.out).six hlt;have hf:=Tu.out recs[k] (List.getElem_mem _);have HF:=hide hf;have HS:=hide (JL (b:=(n0:Int)) hlt);have hln:=lQ (b:=(n0:Int)) (recs.take k) (fun r hr=>Tu.out r (List.mem_of_mem_take hr));have hln2:(recs.take k).length≤k:=List.length_take_le _ _;clear hp hf;obtain⟨r,hr⟩:∃r,r=recs[k]:=⟨_,rfl⟩;rw[←hr]at g0 g1 g2 g3 g4 g5 HS HF;clear hr;go_wp2_with fail
   refine(Dy _ base _ _ (HG.out.1.kept ((Turn.refl [] _).alloc _) (by simp)) (by simp;omega) r n0 HF.out (by simp only[List.length_append];omega)).mono ?_;rintro e w4 ⟨v4,rfl,hg4⟩;have HG4:=hide (HG.out.trans (Grew.pre ((Turn.refl [] _).alloc _) hg4));clear hg4 c0 c1 c2 z1 g0 g1 g2 g3 g4 g5;obtain⟨z1,c0,c1,c2⟩:=BOX.out _ _ _ HG4.out;go_wp2
   refine⟨⟨k+1,by omega,by go_num,?_⟩,?_⟩
   ·rw[HS.out,←List.append_assoc];exact HG4.out
   ·simp only[intOf];omega
  ·have hlast:recs.take k=recs:=List.take_of_length_le (by omega)
   have HL:=hide hlast;clear hlast;go_wp2
   go_ret
   refine⟨_,rfl,Grew.pre ((Turn.refl [] w).alloc (.cells #[.int .i64 (n0:Int), .int .i64 xf, .slice a recs.length c] 215)) ?_⟩;have:=HG.out;rw[HL.out]at this;rw[HB.out];simpa[List.append_assoc]using this
end
namespace As
def pG(n:Int):Value:=if n=0 then .nilIface else .iface 38 (.int .i64 n)
end As
section
open Go.RowKit Go.Maps
set_option maxRecDepth 100000
set_option linter.unusedSimpArgs false
set_option linter.unusedVariables false
set_option maxHeartbeats 2000000 in
theorem BG(w:World)(r:Bt.Rec)(ok:jD r)(lo hi:Int):
 Calls Tryz.prog 267 #[ny r, .int .i64 lo, .int .i64 hi] w fun e w'=>e= .returned (As.pG (Bt.dW r lo hi))∧Turn [] w w':=by
 obtain⟨off,time,keyed,key,gone,value⟩:=r;obtain⟨o1,o2,t1,t2,k1,v1⟩:=ok;simp only at o1 o2 t1 t2 k1 v1;simp only[ny,gQ];by_cases h1:off<lo
 ·have hz:Bt.dW ⟨off,time,keyed,key,gone,value⟩ lo hi=1:=by unfold Bt.dW;rw[if_pos (.inl h1)]
  rw[hz];clear hz;go_enter Tryz.func267,Tryz.ntmps267
  go_wp2
  go_ret
  exact⟨rfl,(Turn.refl _ _).alloc _⟩
 by_cases h2:hi≤off
 ·have hz:Bt.dW ⟨off,time,keyed,key,gone,value⟩ lo hi=1:=by unfold Bt.dW;rw[if_pos (.inr (.inl h2))]
  rw[hz];clear hz;go_enter Tryz.func267,Tryz.ntmps267
  go_wp2
  go_ret
  exact⟨rfl,(Turn.refl _ _).alloc _⟩
 by_cases h3:keyed=false∧key≠[]
 ·have hz:Bt.dW ⟨off,time,keyed,key,gone,value⟩ lo hi=1:=by unfold Bt.dW;rw[if_pos (.inr (.inr (.inl h3)))]
  rw[hz];clear hz;obtain⟨rfl,h3⟩:=h3;have h3':key.isEmpty=false:=by simpa using h3
  go_enter Tryz.func267,Tryz.ntmps267
  go_wp2
  go_ret
  exact⟨rfl,(Turn.refl _ _).alloc _⟩
 have hk:keyed=true∨(keyed=false∧key=[]):=by
  cases keyed
  ·exact .inr ⟨rfl,Classical.byContradiction fun h=>h3 ⟨rfl,h⟩⟩
  ·exact .inl rfl
 by_cases h4:gone=true∧value≠[]
 ·have hz:Bt.dW ⟨off,time,keyed,key,gone,value⟩ lo hi=1:=by unfold Bt.dW;rw[if_pos (.inr (.inr (.inr h4)))]
  rw[hz];clear hz h3;obtain⟨rfl,h4⟩:=h4;have h4':value.isEmpty=false:=by simpa using h4
  rcases hk with rfl|⟨rfl,rfl⟩
  all_goals
   go_enter Tryz.func267,Tryz.ntmps267
   go_wp2
   go_ret
   exact⟨rfl,(Turn.refl _ _).alloc _⟩
 have hg:gone=false∨(gone=true∧value=[]):=by
  cases gone
  ·exact .inl rfl
  ·exact .inr ⟨rfl,Classical.byContradiction fun h=>h4 ⟨rfl,h⟩⟩
 have hz:Bt.dW ⟨off,time,keyed,key,gone,value⟩ lo hi=if 60<key.length∨500<value.length then 4 else if time<0∨1099511627776<time then 2 else 0:=by
  unfold Bt.dW;rw[if_neg];simp only[h1,h2,h3,h4,or_self,not_false_eq_true]
 rw[hz];clear hz h3 h4;by_cases h5:60<key.length
 ·rw[if_pos (.inl h5)]
  rcases hk with rfl|⟨rfl,rfl⟩
  rotate_left
  ·simp at h5
  rcases hg with rfl|⟨rfl,rfl⟩
  all_goals
   go_enter Tryz.func267,Tryz.ntmps267
   go_wp2
   go_ret
   exact⟨rfl,(Turn.refl _ _).alloc _⟩
 by_cases h6:500<value.length
 ·rw[if_pos (.inr h6)]
  rcases hg with rfl|⟨rfl,rfl⟩
  rotate_left
  ·simp at h6
  rcases hk with rfl|⟨rfl,rfl⟩
  all_goals
   go_enter Tryz.func267,Tryz.ntmps267
   go_wp2
   go_ret
   exact⟨rfl,(Turn.refl _ _).alloc _⟩
 rw[if_neg (by omega)];by_cases h7:time<0
 ·rw[if_pos (.inl h7)]
  rcases hk with rfl|⟨rfl,rfl⟩<;>rcases hg with rfl|⟨rfl,rfl⟩
  all_goals
   go_enter Tryz.func267,Tryz.ntmps267
   go_wp2
   go_ret
   exact⟨rfl,(Turn.refl _ _).alloc _⟩
 by_cases h8:1099511627776<time
 ·rw[if_pos (.inr h8)]
  rcases hk with rfl|⟨rfl,rfl⟩<;>rcases hg with rfl|⟨rfl,rfl⟩
  all_goals
   go_enter Tryz.func267,Tryz.ntmps267
   go_wp2
   go_ret
   exact⟨rfl,(Turn.refl _ _).alloc _⟩
 rw[if_neg (by omega)];rcases hk with rfl|⟨rfl,rfl⟩<;>rcases hg with rfl|⟨rfl,rfl⟩
 all_goals
  go_enter Tryz.func267,Tryz.ntmps267
  go_wp2
  go_ret
  exact⟨rfl,(Turn.refl _ _).alloc _⟩
theorem E8{rs:List Bt.Rec}{k:Nat}(hk:k<rs.length)(lo hi:Int):Bt.bK (rs.drop k) lo hi=if Bt.dW rs[k] lo hi=0 then Bt.bK (rs.drop (k+1)) (rs[k].off+1) hi else Bt.dW rs[k] lo hi:=by
 rw[List.drop_eq_getElem_cons hk];rfl
set_option maxHeartbeats 1000000 in
theorem Tv(w:World)(v:Value)(x:Bt.aX)(hx:wS w v x):
 Calls Tryz.prog 226 #[v] w fun e w'=>e= .returned (As.pG (Bt.chk x))∧Turn [] w w':=by
 obtain⟨sv,rfl,hr,b1,b2,f1,f2⟩:=hx;obtain⟨base,fin,recs⟩:=x;simp only at hr b1 b2 f1 f2;obtain⟨a,c,rfl,hlc,hcm,hn0,hp⟩:=hr.form;have hmx:maxLen=9223372036854775807:=by simp[maxLen]
 rw[hmx]at hcm;by_cases h1:base<0
 ·have hz:Bt.chk ⟨base,fin,recs⟩=2:=by unfold Bt.chk;rw[if_pos (.inl h1)]
  rw[hz];clear hz hr;go_enter Tryz.func226,Tryz.ntmps226
  go_wp2
  go_ret
  exact⟨rfl,(Turn.refl _ _).alloc _⟩
 by_cases h2:1099511627776<fin
 ·have hz:Bt.chk ⟨base,fin,recs⟩=2:=by unfold Bt.chk;rw[if_pos (.inr h2)]
  rw[hz];clear hz hr;go_enter Tryz.func226,Tryz.ntmps226
  go_wp2
  go_ret
  exact⟨rfl,(Turn.refl _ _).alloc _⟩
 by_cases h3:fin≤base
 ·have hz:Bt.chk ⟨base,fin,recs⟩=1:=by unfold Bt.chk;rw[if_neg (by simp only;omega),if_pos h3]
  rw[hz];clear hz hr;go_enter Tryz.func226,Tryz.ntmps226
  go_wp2
  go_ret
  exact⟨rfl,(Turn.refl _ _).alloc _⟩
 by_cases h4:50<recs.length
 ·have hz:Bt.chk ⟨base,fin,recs⟩=4:=by unfold Bt.chk;rw[if_neg (by simp only;omega),if_neg h3,if_pos (.inl h4)]
  rw[hz];clear hz hr;go_enter Tryz.func226,Tryz.ntmps226
  go_wp2
  go_ret
  exact⟨rfl,(Turn.refl _ _).alloc _⟩
 by_cases h5:50<fin-base
 ·have hz:Bt.chk ⟨base,fin,recs⟩=4:=by unfold Bt.chk;rw[if_neg (by simp only;omega),if_neg h3,if_pos (.inr h5)]
  rw[hz];clear hz hr;go_enter Tryz.func226,Tryz.ntmps226
  go_wp2
  go_ret
  exact⟨rfl,(Turn.refl _ _).alloc _⟩
 have hz:Bt.chk ⟨base,fin,recs⟩=Bt.bK recs base fin:=by unfold Bt.chk;rw[if_neg (by simp only;omega),if_neg h3,if_neg (by simp only;omega)]
 have HZ:=hide hz;have HR:Hid (bn w (.slice a recs.length c) recs):=hr;clear hz hr;go_enter Tryz.func226,Tryz.ntmps226
 go_wp2
 go_loopw [3,40] (fun l i wr=>∃(k:Nat) (lo:Int),k≤recs.length∧i= .int .i64 k∧l= .int .i64 lo∧Bt.bK recs base fin=Bt.bK (recs.drop k) lo fin∧lo≤fin∧Turn [] (w.alloc (.cells #[.int .i64 base, .int .i64 fin, .slice a recs.length c] 215)) wr) (fun _ i _=>recs.length-(intOf i).toNat)
 case atStart=>exact⟨0,base,Nat.zero_le _,rfl,rfl,rfl,by omega,Turn.refl _ _⟩
 case round=>
  obtain⟨k,lo,hk,rfl,rfl,he,hlo,ht⟩:=hrel;have HE:=hide he;have HT:=hide ht;clear he ht;have ht1:w.heap.size<wr.heap.size:=by have:=HT.out.size;simp at this;omega
  have hb0:wr.heap[w.heap.size]? =some (.cells #[.int .i64 base, .int .i64 fin, .slice a recs.length c] 215 (0,0)):=HT.out.heap (ae w _) (by simp)
  have c0:=cell_of hb0 0;have c1:=cell_of hb0 1;have c2:=cell_of hb0 2;simp at c0 c1 c2;by_cases hlt:k<recs.length
  ·obtain⟨p,rfl⟩:=hp k hlt
   have ok:=HR.out.ok hlt;obtain⟨g0,g1,g2,g3,g4,g5⟩:=((HR.out.still ((Turn.refl [] w).alloc _)).still HT.out).six hlt;have HS:=hide (E8 hlt lo fin);have HO:=hide ok;clear hp hn0 ok;obtain⟨r,hr⟩:∃r,r=recs[k]:=⟨_,rfl⟩;rw[←hr]at g0 g1 g2 g3 g4 g5 HS HO;have o1:=HO.out.off1;have o2:=HO.out.off2;have HR1:Hid (r=recs[k]):=hr;clear hr;obtain⟨ec,hec⟩:∃ec,ec=Bt.dW r lo fin:=⟨_,rfl⟩;have XG:=hide hec;clear hec;have aft:∀w2,Turn [] (wr.alloc (.cells #[.int .i64 r.off, .int .i64 r.time, .bool r.keyed, .string ⟨r.key.toArray⟩, .bool r.gone, .string ⟨r.value.toArray⟩] 47)) w2→
    Turn [] (w.alloc (.cells #[.int .i64 base, .int .i64 fin, .slice (some p) recs.length c] 215)) w2∧w2.cell? ⟨wr.heap.size,0,none⟩=some (.int .i64 r.off):=by
    intro w2 h;have hb1:=h.heap (ae wr _) (by simp);have:=cell_of hb1 0;exact⟨HT.out.same (((Turn.refl [] wr).alloc _).same h),by simpa using this⟩
   have AFT:=hide aft;clear aft;by_cases h0:ec=0
   ·have hof:lo≤r.off∧r.off<fin:=by
     have:=Bt.jV (XG.out.symm.trans h0);exact⟨this.1,this.2.1⟩
    have HS2:Hid (Bt.bK (recs.drop k) lo fin=Bt.bK (recs.drop (k+1)) (r.off+1) fin):=by
     show _=_;rw[HS.out,if_pos (XG.out.symm.trans h0)]
    subst h0;go_wp2_with fail
    refine(BG _ r HO.out lo fin).mono ?_;rintro e w2 ⟨rfl,ht2⟩;rw[←XG.out];obtain⟨ht3,hc3⟩:=AFT.out w2 ht2;have HT3:=hide ht3;clear ht3 ht2 c0 c1 c2 g0 g1 g2 g3 g4 g5;simp only[As.pG,if_true];go_wp2
    refine⟨⟨k+1,r.off+1,by omega,by go_num,?_,?_,by omega,HT3.out⟩,?_⟩
    ·rfl
    ·rw[HE.out,HS2.out]
    ·simp only[intOf];omega
   ·have HS2:Hid (Bt.bK (recs.drop k) lo fin=ec):=by
     show _=_;rw[HS.out,if_neg (fun h=>h0 (XG.out.trans h)),XG.out]
    go_wp2_with fail
    refine(BG _ r HO.out lo fin).mono ?_;rintro e w2 ⟨rfl,ht2⟩;rw[←XG.out];obtain⟨ht3,hc3⟩:=AFT.out w2 ht2;have HT3:=hide ht3;clear ht3 ht2 c0 c1 c2 g0 g1 g2 g3 g4 g5;simp only[As.pG,h0,if_false];go_wp2
    go_ret
    refine⟨?_,((Turn.refl [] w).alloc _).same HT3.out⟩;rw[HZ.out,HE.out,HS2.out];simp only[As.pG,h0,if_false];rfl
  ·have HL:Hid (recs.drop k=[]):=by show _=_;rw[List.drop_eq_nil_iff];omega
   go_wp2
   go_ret
   refine⟨?_,((Turn.refl [] w).alloc _).same HT.out⟩;rw[HZ.out,HE.out,HL.out];rfl
theorem Tz(s:Nat)(h:s<4294967296):bits .xor .u32 IntKind.u32.max (s:Int)=((4294967295-s:Nat):Int):=by
 rw[show IntKind.u32.max=((4294967295:Nat):Int)by decide,u32_xor_nat _ _ (by omega) h];congr 1
 apply Nat.eq_of_testBit_eq;intro i;have h1:=Nat.testBit_two_pow_sub_one 32 i;have h2:=Nat.testBit_two_pow_sub_succ (n:=32) (x:=s) (by simpa using h) i;rw[show 2^32-(s+1)=4294967295-s by omega]at h2;rw[show(2^32-1:Nat)=4294967295 by decide]at h1;rw[Nat.testBit_xor,h1,h2];by_cases hi:i<32
 ·simp[hi]
 ·simp[hi,Cr.Tn h (by omega:32≤i)]
theorem PN(s:Nat)(h:s<4294967296):bits .xor .u32 ((s:Int)/2) (3988292384*bits .and .u32 (s:Int) 1%4294967296)=((Cr.step s:Nat):Int):=by
 have h1:=u32_and_nat s 1 h (by omega);rw[nat_mask1]at h1;simp only[Int.natCast_one]at h1;rw[h1,show(s:Int)/2=((s/2:Nat):Int)by omega,show(3988292384*((s%2:Nat):Int)%4294967296)=((3988292384*(s%2):Nat):Int)by omega,u32_xor_nat _ _ (by omega) (by omega)];rfl
set_option maxHeartbeats 400000 in
theorem sum_any(w:World)(v:Value)(bs:List UInt8)(hx:SliceAt w v (bs.map aj))(hl:bs.length≤9223372036854775806):
 Calls Tryz.prog 229 #[v] w fun e w'=>e= .returned (.int .i64 (Cr.sum bs))∧w=w':=by
 obtain⟨a,c,rfl,hc⟩:=hx.form;clear hx;simp only[List.length_map];go_enter Tryz.func229,Tryz.ntmps229
 go_wp2
 go_loop [3,8] (fun s i=>∃k:Nat,k≤bs.length∧i= .int .i64 k∧s= .int .u32 (Cr.crc (bs.take k))) (fun _ i=>bs.length-(intOf i).toNat)
 case atStart=>exact⟨0,Nat.zero_le _,rfl,rfl⟩
 case round=>
  obtain⟨k,hk,rfl,rfl⟩:=hrel;by_cases hlt:k<bs.length
  ·obtain⟨p,rfl,hcell⟩:=hc k _ (VG bs k hlt)
   have hb8:=bs[k].toNat_lt;have hs:=Cr.uZ (bs.take k);have HS:Hid (Cr.crc (bs.take (k+1))=Cr.byte (Cr.crc (bs.take k)) bs[k]):=by show _=_;rw[take_snoc bs k hlt,Cr.Pq]
   clear hc;go_wp2
   have hxx:=Cr.ES hs bs[k];go_loop [3,16] (fun s i=>∃j:Nat,j≤8∧i= .int .i64 j∧s= .int .u32 (Cr.steps j (Cr.crc (bs.take k)^^^bs[k].toNat))) (fun _ i=>8-(intOf i).toNat)
   case atStart=>exact⟨0,Nat.zero_le _,rfl,by rw[u32_xor_nat _ _ hs (by omega)];rfl⟩
   case round=>
    obtain⟨j,hj,rfl,rfl⟩:=hrel;have hsj:=Cr.nN hxx j;by_cases hlj:j<8
    ·go_wp2
     go_round
     case rel=>exact⟨j+1,by omega,by go_num,by rw[PN _ hsj];rfl⟩
     case measure=>simp[intOf];omega
    ·obtain rfl:j=8:=by omega
     go_wp2
     go_round
     case rel=>exact⟨k+1,by omega,by go_num,by rw[HS.out];rfl⟩
     case measure=>simp[intOf];omega
  ·go_wp2
   have hlast:bs.take k=bs:=List.take_of_length_le (by omega);rw[hlast]at*;go_ret
   exact⟨oD (by rw[Tz _ (Cr.uZ bs),IntWalk.wrap64_in _ (by have:=Cr.uZ bs;omega)];rfl),rfl⟩
def Hl(cur:Array Value)(o n:Nat):Array Value:=
 (((cur.setIfInBounds o (.int .u8 (n/16777216%256:Nat))).setIfInBounds (o+1) (.int .u8 (n/65536%256:Nat))).setIfInBounds (o+2) (.int .u8 (n/256%256:Nat))).setIfInBounds (o+3) (.int .u8 (n%256:Nat))
set_option maxHeartbeats 1000000 in
theorem xm(w:World)(g o:Nat)(cur:Array Value)(hg:w.heap[g]? =some (.cells cur 5 (0,0))) (ho:o+4≤cur.size) (l c n:Nat) (hl:4≤l) (hlm:l≤1000000) (hn:n<4294967296):
 Calls Tryz.prog 228 #[.slice (some ⟨g,o,none⟩) l c, .int .i64 n] w fun e w'=>e= .returned (.tuple #[])∧Turn [g] w w'∧w'.heap[g]? =some (.cells (Hl cur o n) 5 (0,0)):=by
 have c0:w.cell? ⟨g,o,none⟩=some (cur[o]'(by omega)):=by rw[cell_of hg];simp
 have c1:w.cell? ⟨g,o+1,none⟩=some (cur[o+1]'(by omega)):=by rw[cell_of hg];simp
 have c2:w.cell? ⟨g,o+2,none⟩=some (cur[o+2]'(by omega)):=by rw[cell_of hg];simp
 have c3:w.cell? ⟨g,o+3,none⟩=some (cur[o+3]'(by omega)):=by rw[cell_of hg];simp
 have fz:∀i,w.frozen? ⟨g,i,none⟩=false:=fun i=>af hg i
 have f0:=fz o;have f1:=fz (o+1);have f2:=fz (o+2);have f3:=fz (o+3);clear fz;have HG:=hide hg;clear hg;go_enter Tryz.func228,Tryz.ntmps228
 go_wp2
 go_end0
 have e0:(n:Int)/16777216=((n/16777216%256:Nat):Int):=by omega
 have e1:(n:Int)/65536%256=((n/65536%256:Nat):Int):=by omega
 have e2:(n:Int)/256%256=((n/256%256:Nat):Int):=by omega
 have e3:(n:Int)%256=((n%256:Nat):Int):=by omega
 refine⟨rfl,((((Turn.refl _ _).setCell (.inl (by simp)) _).setCell (.inl (by simp)) _).setCell (.inl (by simp)) _).setCell (.inl (by simp)) _,?_⟩;rw[e0,e1,e2,e3];exact heap_set (heap_set (heap_set (heap_set HG.out o _) (o+1) _) (o+2) _) (o+3) _
theorem Hm{n:Nat}:(Bt.four n).map aj=[.int .u8 (n/16777216%256:Nat), .int .u8 (n/65536%256:Nat), .int .u8 (n/256%256:Nat), .int .u8 (n%256:Nat)]:=by
 simp only[Bt.four,List.map_cons,List.map_nil,aj];have a0:(UInt8.ofNat (n/16777216%256)).toNat=n/16777216%256:=by simp
 have a1:(UInt8.ofNat (n/65536%256)).toNat=n/65536%256:=by simp
 have a2:(UInt8.ofNat (n/256%256)).toNat=n/256%256:=by simp
 have a3:(UInt8.ofNat (n%256)).toNat=n%256:=by simp
 rw[a0,a1,a2,a3]
theorem vw(cur:Array Value)(o n:Nat):(Hl cur o n).size=cur.size:=by simp[Hl]
theorem VO{cur:Array Value}{n L:Nat}{a b c d:UInt8}{post:List UInt8}(hL:L=post.length+4)(h:cur.toList.take L=(a::b::c::d::post).map aj):(Hl cur 0 n).toList.take L=(Bt.four n++post).map aj:=by
 rw[List.map_append,Hm];have e:=List.take_append_drop L cur.toList;rw[h]at e;unfold Hl;simp only[Array.toList_setIfInBounds];rw[←e];simp only[List.map_cons,List.cons_append,List.set_cons_zero,List.set_cons_succ,Nat.zero_add];subst hL;simp
theorem VP{cur:Array Value}{n L:Nat}{p q r s a b c d:UInt8}{post:List UInt8}(hL:L=post.length+8)(h:cur.toList.take L=(p::q::r::s::a::b::c::d::post).map aj):(Hl cur 4 n).toList.take L=(p::q::r::s::(Bt.four n++post)).map aj:=by
 rw[List.map_cons,List.map_cons,List.map_cons,List.map_cons,List.map_append,Hm];have e:=List.take_append_drop L cur.toList;rw[h]at e;unfold Hl;simp only[Array.toList_setIfInBounds];rw[←e];simp only[List.map_cons,List.cons_append,List.set_cons_zero,List.set_cons_succ,Nat.zero_add];subst hL;simp
theorem mk8(w:World):(Instr.makeSlice 97 (.int .i64 8) (.int .i64 8)).run Tryz.prog w= .ok (.slice (some ⟨w.heap.size,0,none⟩) 8 8) (w.alloc (.cells #[.int .u8 0, .int .u8 0, .int .u8 0, .int .u8 0, .int .u8 0, .int .u8 0, .int .u8 0, .int .u8 0] 5)):=by kernel_rfl
theorem PO{x:Bt.aX}(h:Bt.chk x=0):(Bt.body x).length≤30018:=by
 have hf:=Mc h;obtain⟨h1,h2,h3,h4,h5,h6⟩:=Bt.l7 h;have a0:=Nu.eu (show x.base.toNat≤1099511627776 by omega);have a1:=Nu.eu (show(x.fin-x.base).toNat≤1099511627776 by omega);have a2:=Nu.eu (show x.recs.length≤1099511627776 by omega);have a3:=lQ x.recs hf;unfold Bt.body;simp only[List.length_append];omega
theorem uw(x:Bt.aX):3≤(Bt.body x).length:=by
 have a0:=Nu.put_pos x.base.toNat;have a1:=Nu.put_pos (x.fin-x.base).toNat;have a2:=Nu.put_pos x.recs.length;unfold Bt.body;simp only[List.length_append];omega
theorem row_drop{w:World}{g:Nat}{cur:Array Value}{t:TypeId}{bs:List UInt8}(hg:w.heap[g]? =some (.cells cur t (0,0))) (ht:cur.toList.take bs.length=bs.map aj) (o c:Nat):SliceAt w (.slice (some ⟨g,o,none⟩) (bs.length-o) c) ((bs.drop o).map aj):=by
 refine .inr ⟨⟨g,o,none⟩,c,by simp,fun j u hu=>?_⟩;have e:(⟨g,o,none⟩:Addr).add j=⟨g,o+j,none⟩:=by
  rw[←addr_add g o,add_add,addr_add]
 rw[e,cell_of hg];have hj:o+j<bs.length:=by
  have:=(List.getElem?_eq_some_iff.1 hu).1;simp at this;omega
 have h1:(bs.map aj)[o+j]? =some u:=by
  rw[←hu];simp
 rw[←ht,List.getElem?_take_of_lt hj]at h1;simpa using h1
def encR(x:Bt.aX):List UInt8:=if Bt.aO x=0 then Bt.aj x else []
set_option maxHeartbeats 2000000 in
theorem Fa(w:World)(v:Value)(x:Bt.aX)(hx:wS w v x):
 Calls Tryz.prog 185 #[v] w fun e w'=>∃v',e= .returned (.tuple #[v',As.pG (Bt.aO x)])∧Turn [] w w'∧bC w' 5 w.heap.size v' (encR x):=by
 have HX:=hide hx;obtain⟨sv,rfl,hr,b1,b2,f1,f2⟩:=hx;have HR:=hide hr;obtain⟨a,c,rfl,hlc,hcm,hn0,hp⟩:=hr.form;have hmx:maxLen=9223372036854775807:=by simp[maxLen]
 rw[hmx]at hcm;have bat:∀Z,Turn [] w Z→wS Z (.agg #[.int .i64 x.base, .int .i64 x.fin, .slice a x.recs.length c]) x:=by
  intro Z hZ;obtain⟨sv,e,hr,r⟩:=HX.out;exact⟨sv,e,hr.still hZ,r⟩
 have BAT:=hide bat;have cells:∀Z,Turn [] (w.alloc (.cells #[.int .i64 x.base, .int .i64 x.fin, .slice a x.recs.length c] 215)) Z→w.heap.size<Z.heap.size∧
  Z.cell? ⟨w.heap.size,0,none⟩=some (.int .i64 x.base)∧Z.cell? ⟨w.heap.size,1,none⟩=some (.int .i64 x.fin)∧Z.cell? ⟨w.heap.size,2,none⟩=some (.slice a x.recs.length c):=by
  intro Z hZ;have hb:=hZ.heap (ae w _) (by simp);exact⟨by have:=hZ.size;simp at this;omega,by simpa using cell_of hb 0,by simpa using cell_of hb 1,by simpa using cell_of hb 2⟩
 have CELLS:=hide cells;clear hr hp hn0 bat cells;have hmk:=mk8;obtain⟨ce,hce⟩:∃ce,ce=Bt.chk x:=⟨_,rfl⟩;have Ec:=hide hce;clear hce;go_enter Tryz.func185,Tryz.ntmps185
 go_wp2_with fail
 refine(Tv _ _ x (BAT.out _ ((Turn.refl [] w).alloc _))).mono ?_;rintro e wa ⟨rfl,ht1⟩;rw[←Ec.out];have HT1:=hide ht1;clear ht1;obtain⟨z1,c0,c1,c2⟩:=CELLS.out _ HT1.out;by_cases h0:ce=0
 ·subst h0
  simp only[As.pG,if_true];go_wp2
  refine aB 2 (Turn []) (by kernel_rfl) (by kernel_rfl) (by kernel_rfl) (by kernel_rfl) (by kernel_rfl) (Nat.le_of_ble_eq_true rfl) rfl (Turn.refl _) (fun _ _ _ h k=>h.same k) ?_;refine Lo.run 1 rfl rfl [] (fun y w'=>∃g,wa.heap.size≤g∧y= .slice (some ⟨g,0,none⟩) 8 8∧w'.heap[g]? =some (.cells #[.int .u8 0, .int .u8 0, .int .u8 0, .int .u8 0, .int .u8 0, .int .u8 0, .int .u8 0, .int .u8 0] 5 (0,0))) (by kernel_rfl) (fun x w w' h hR=>?_) (fun _ _ h=>h) (fun u w1 hR hF=>?_) ?_
  ·obtain⟨g,e1,e2,e3⟩:=h;exact⟨g,e1,e2,hR.heap e3 (by simp)⟩
  ·clear hF
   refine⟨rfl,fun a ha K hK=>?_⟩;clear ha;go_simp
   exact hK _ _ ⟨_,((Turn.refl [] _).drew.same hR).size,rfl,ae _ _⟩ ((Turn.refl _ _).alloc _)
  apply Lo.ag 2 rfl rfl [] (by kernel_rfl) (Turn.refl _);apply Exists.intro;apply And.intro
  ·intro u w1 hR hF
   clear hF;refine⟨rfl,fun a ha K hK=>?_⟩;have e1:=ha 1;conv at e1=>rhs;whnf
   clear ha;obtain⟨z1,c0,c1,c2⟩:=CELLS.out _ (HT1.out.drew.same hR);go_simp
   refine hK _ ?_;rfl
  refine Lo.done [0,1] (fun u w1 bP hSd hF=>?_);clear hSd;obtain⟨f0,f1, -⟩:=hF;have d0:=(show(fun y w'=>∃g,wa.heap.size≤g∧y= .slice (some ⟨g,0,none⟩) 8 8∧w'.heap[g]? =some (.cells #[.int .u8 0, .int .u8 0, .int .u8 0, .int .u8 0, .int .u8 0, .int .u8 0, .int .u8 0, .int .u8 0] 5 (0,0))) (u 0) w1 from f0)
  dsimp only at d0;have d1:u 1=_:=f1;clear f0 f1;simp only[List.take_succ_cons,List.take_zero,List.drop_succ_cons,List.drop_zero,ax,Act.put,List.setIfInBounds_toArray,List.set_cons_succ,List.set_cons_zero,Nat.zero_add,Nat.reduceAdd,d1];obtain⟨g,hge,hgv,hgb⟩:=d0;rw[hgv];clear hgv;have hrow0:bC w1 5 w.heap.size (.slice (some ⟨g,0,none⟩) 8 8) [0,0,0,0,0,0,0,0]:=
   .inr ⟨g,8,_,rfl,by omega,hgb,Nat.le_refl _,Nat.le_refl _,by rw[hmx];omega,rfl⟩
  have HR0:=hide hrow0;have htw:Turn [] w w1:=((Turn.refl [] w).alloc _).same (HT1.out.drew.same bP);have dJ:=hide htw;have hdj:x.recs≠[]→∀k∈(Value.slice a x.recs.length c).ownBlock,k∉(Value.slice (some ⟨g,0,none⟩) 8 8).ownBlock:=by
   intro h0 k hk hm;have h1:=HR.out.lt h0 k hk;simp[Value.ownBlock]at hm;omega
  have HDJ:=hide hdj;have hs1:=htw.size;clear hrow0 htw hdj hgb bP c0 c1 c2;go_wp2_with fail
  refine(Hg _ w.heap.size _ _ [0,0,0,0,0,0,0,0] HR0.out (by omega) x (HR.out.still dJ.out) HDJ.out Ec.out.symm (by simp)).mono ?_;rintro e w2 ⟨v2,rfl,hg2⟩;obtain⟨hr2,ht2,ho2⟩:=hg2;have htn:Turn [] w w2:=dJ.out.trans ht2 (fun k hk=> .inr (by simp[Value.ownBlock]at hk;omega));rcases hr2 with⟨-,hnil⟩|⟨g2,cap,cur,hv2,hb2,hh2,hcl,hcs,hcx,htk⟩
  ·simp at hnil
  have hbl:=PO Ec.out.symm;obtain⟨L,hL⟩:∃L,L=([0,0,0,0,0,0,0,0]++Bt.body x).length:=⟨_,rfl⟩;rw[←hL]at hv2 hcl htk;have hL8:L=(Bt.body x).length+8:=by rw[hL];simp
  rw[hmx]at hcx;have HH2:=hide hh2;have TA:=hide htk;have HTN:=hide htn;have HL:=hide hL;have hL6:8≤L∧L≤30026:=by omega
  have HL8:=hide hL8;subst hv2;clear hh2 htk htn hL hL8 ht2 ho2;have hew:Bt.aO x=if 6000<L then 4 else 0:=by
   unfold Bt.aO;rw[if_pos Ec.out.symm,←HL8.out]
  have HEW:=hide hew;clear hew hbl;by_cases hbig:6000<L
  ·have he:Bt.aO x=4:=by rw[HEW.out,if_pos hbig]
   have HE:=hide he;clear he;go_wp2
   go_ret2
   refine⟨_,by rw[HE.out];rfl,HTN.out,?_⟩;unfold encR;rw[HE.out];exact .inl ⟨rfl,rfl⟩
  ·have he:Bt.aO x=0:=by rw[HEW.out,if_neg hbig]
   have HE:=hide he;clear he;go_wp2_with fail
   refine(xm _ g2 0 cur HH2.out (by omega) L cap L (by omega) (by omega) (by omega)).mono ?_;rintro e w3 ⟨rfl,ht3,hh3⟩;have htn3:Turn [] w w3:=HTN.out.trans ht3 (fun k hk=> .inr (by simp at hk;omega));have htk3:=VO (n:=L) (L:=L) (a:=0) (b:=0) (c:=0) (d:=0) (post:=[0,0,0,0]++Bt.body x) (by have:=HL8.out;simp;omega) TA.out;have HH3:=hide hh3;have aad:=hide htn3;have X8:=hide htk3;clear ht3 hh3 htn3 htk3;have hbp:=uw x;have hs4:∀w,(Instr.slice 97 (.slice (some ⟨g2,0,none⟩) L cap) (some (.int .i64 4)) none none).run Tryz.prog w= .ok (.slice (some ⟨g2,4,none⟩) (L-4) (cap-4)) w:=by
    intro w;have h:=ug (some ⟨g2,0,none⟩) L cap 4 (by omega) w;have h1:¬cap=4:=by omega
    simpa[oH,h1,addr_add]using h
   have hs8:∀w,(Instr.slice 97 (.slice (some ⟨g2,0,none⟩) L cap) (some (.int .i64 8)) none none).run Tryz.prog w= .ok (.slice (some ⟨g2,8,none⟩) (L-8) (cap-8)) w:=by
    intro w;have h:=ug (some ⟨g2,0,none⟩) L cap 8 (by omega) w;have h1:¬cap=8:=by have:=HL8.out;omega
    simpa[oH,h1,addr_add]using h
   have hsm:SliceAt w3.drew (.slice (some ⟨g2,8,none⟩) (L-8) (cap-8)) ((Bt.body x).map aj):=by
    have hlen4:(Bt.four L++([0,0,0,0]++Bt.body x)).length=L:=by have:=HL8.out;simp[Bt.uj];omega
    have h:=row_drop (bs:=Bt.four L++([0,0,0,0]++Bt.body x)) HH3.out (by rw[hlen4];exact X8.out) 8 (cap-8);rw[hlen4]at h;exact h.kept ((Turn.refl [] _).drew) (by simp)
   have HSM:=hide hsm;clear hsm;go_wp2
   refine aB 5 (fun a b=>a=b) (by kernel_rfl) (by kernel_rfl) (by kernel_rfl) (by kernel_rfl) (by kernel_rfl) (Nat.le_of_ble_eq_true rfl) rfl (fun _=>rfl) (fun _ _ _ h k=>h.trans k) ?_;apply Lo.ag 1 rfl rfl [] (by kernel_rfl) (fun _=>rfl);apply Exists.intro;apply And.intro
   ·intro u w1 hR hF
    clear hF;subst hR;refine⟨rfl,fun a ha K hK=>?_⟩;have e5:=ha 5;conv at e5=>rhs;whnf
    clear ha;go_simp
    refine hK _ ?_;rfl
   apply Lo.ag 2 rfl rfl [0] (by kernel_rfl) (fun _=>rfl);apply Exists.intro;apply And.intro
   ·intro u w1 hR hF
    obtain⟨h0, -⟩:=hF;subst hR;refine⟨rfl,fun a ha K hK=>?_⟩;have e22:=(ha 22).trans h0;clear ha h0;go_simp
    refine hK _ ?_;rfl
   apply Lo.ag 3 rfl rfl [] (by kernel_rfl) (fun _=>rfl);apply Exists.intro;apply And.intro
   ·intro u w1 hR hF
    clear hF;subst hR;refine⟨rfl,fun a ha K hK=>?_⟩;have e5:=ha 5;conv at e5=>rhs;whnf
    clear ha;go_simp
    refine hK _ ?_;rfl
   apply Lo.ag 4 rfl rfl [2] (by kernel_rfl) (fun _=>rfl);apply Exists.intro;apply And.intro
   ·intro u w1 hR hF
    obtain⟨h2, -⟩:=hF;subst hR;refine⟨rfl,fun a ha K hK=>?_⟩;have e24:=(ha 24).trans h2;clear ha h2;go_simp
    refine hK _ ?_;rfl
   refine Lo.run 5 rfl rfl [3] (fun y _=>y= .int .i64 (Cr.sum (Bt.body x):Nat)) (by kernel_rfl) (fun x w w' h hR=>?_) (fun _ _ h=>h) (fun u w1 hR hF=>?_) ?_
   ·exact h
   ·obtain⟨h3, -⟩:=hF
    subst hR;refine⟨rfl,fun a ha K hK=>?_⟩;have e25:=(ha 25).trans h3;clear ha h3;go_simp
    refine(sum_any _ _ (Bt.body x) HSM.out (by have:=HL8.out;omega)).mono ?_;rintro e w4 ⟨rfl,rfl⟩;exact hK _ _ rfl rfl
   refine Lo.done [1,4] (fun u w1 bP hSd hF=>?_);clear hSd;obtain⟨f1,f4, -⟩:=hF;subst bP;have d1:u 1=_:=f1;have d4:=(show(fun y _=>y= .int .i64 (Cr.sum (Bt.body x):Nat)) (u 4) w1 from f4);dsimp only at d4;clear f1 f4;simp only[List.take_succ_cons,List.take_zero,List.drop_succ_cons,List.drop_zero,ax,Act.put,List.setIfInBounds_toArray,List.set_cons_succ,List.set_cons_zero,Nat.zero_add,Nat.reduceAdd,d1];rw[d4];clear d1 d4 hs4 hs8;have hcrc:=Cr.uZ (Bt.body x);go_wp2_with fail
   refine(xm w3.drew g2 4 (Hl cur 0 L) HH3.out (by rw[vw];omega) (L-4) (cap-4) (Cr.sum (Bt.body x)) (by omega) (by omega) (by unfold Cr.sum;omega)).mono ?_;rintro e w4 ⟨rfl,ht4,hh4⟩;have htn4:Turn [] w w4:=aad.out.drew.trans ht4 (fun k hk=> .inr (by simp at hk;omega));have htk4:=VP (n:=Cr.sum (Bt.body x)) (L:=L) (post:=Bt.body x) HL8.out (by simpa[Bt.four]using X8.out);have HH4:=hide hh4;have HTN4:=hide htn4;have VQ:=hide htk4;clear ht4 hh4 htn4 htk4;go_wp2
   go_ret2
   refine⟨_,by rw[HE.out];rfl,HTN4.out,?_⟩;unfold encR;rw[HE.out,if_pos rfl];have hel:=Bt.gK x;have hlL:L=(Bt.aj x).length:=by rw[hel];exact HL8.out
   refine .inr ⟨g2,cap,_,by rw[←hlL];rfl,hb2,HH4.out,by rw[←hlL];exact hcl,by rw[vw,vw];exact hcs,by rw[hmx];omega,?_⟩;rw[←hlL,VQ.out];unfold Bt.aj;rw[←HL8.out];simp[Bt.four]
 ·simp only[As.pG,h0,if_false]
  go_wp2
  go_ret2
  have he:Bt.aO x=ce:=by unfold Bt.aO;rw[←Ec.out,if_neg h0]
  refine⟨_,by rw[he];simp only[As.pG,h0,if_false];rfl,((Turn.refl [] w).alloc _).same HT1.out,?_⟩;unfold encR;rw[he,if_neg h0];exact .inl ⟨rfl,rfl⟩
def jM:Bt.aX:=⟨0,0,[]⟩
def Ho(b:List UInt8):List UInt8:=(b.take (Bt.eX b)).drop 8
def ZG(b:List UInt8)(x:Bt.aX):Prop:=Bt.aO x=0∧Bt.aj x=b.take (Bt.eX b)
instance (b:List UInt8)(x:Bt.aX):Decidable (ZG b x):=by unfold ZG;exact inferInstance
def dec(b:List UInt8):Bt.aX×Nat×Int:=
 if b.length<8 then(jM,0,12)else if Bt.eX b<11∨6000<Bt.eX b then(jM,0,3)else if b.length<Bt.eX b then(jM,0,12)else if ZG b (Bt.oK (Ho b))then(Bt.oK (Ho b),Bt.eX b,0)else(jM,0,3)
theorem NU(w:World)(v x:Value)(a b:List UInt8)(hv:BytesAt w v a)(hx:BytesAt w x b):
 Calls Tryz.prog 283 #[v,x] w fun e w'=>e= .returned (.bool (a==b))∧w=w':=by
 have h1:=hv.conv;have h2:=hx.conv;clear hv hx;go_enter Tryz.func283,Tryz.ntmps283
 go_wp2
 go_ret
 exact⟨rfl,rfl⟩
theorem TB(l:List UInt8)(hl:l.length≤1000000):0≤(Bt.oK l).base∧(Bt.oK l).base≤1099511627776∧0≤(Bt.oK l).fin∧(Bt.oK l).fin≤2199023255552∧∀r∈(Bt.oK l).recs,jD r:=by
 have g0:=fG l;have g1:=fG (Bt.num l).2;have g2:=fG (Bt.num (Bt.num l).2).2;unfold Bt.oK;simp only;exact⟨by omega,by omega,by omega,by omega,Ha _ (by omega) (by omega) _ _ (by omega)⟩
set_option maxHeartbeats 4000000 in
theorem TC(w:World)(v:Value)(b:List UInt8)(hx:BytesAt w v b)(hl:b.length≤9223372036854775807):
 Calls Tryz.prog 259 #[v] w fun e w'=>∃sv,e= .returned (.tuple #[.agg #[.int .i64 (dec b).1.base, .int .i64 (dec b).1.fin,sv], .int .i64 (dec b).2.1,As.pG (dec b).2.2])∧fB w' w.heap.size sv (dec b).1.recs∧(∀r∈(dec b).1.recs,jD r)∧Turn [] w w':=by
 have HX:=hide hx;obtain⟨a,c,rfl,hlc,hcm,hc⟩:=hx.form;have hmx:maxLen=9223372036854775807:=by simp[maxLen]
 rw[hmx]at hcm;clear hx hc;have nil0:∀Z,bn Z (.slice none 0 0) []:=fun Z=>⟨none,0,rfl,Nat.le_refl _,Nat.zero_le _,fun _=>rfl,fun j hj=>absurd hj (Nat.not_lt_zero _)⟩
 have NIL:=hide nil0;clear nil0;by_cases h8:b.length<8
 ·have hd:dec b=(jM,0,12):=by unfold dec;rw[if_pos h8]
  rw[hd];clear hd;go_enter Tryz.func259,Tryz.ntmps259
  go_wp2
  have hld:=iI (ae w (.cells #[.int .i64 0, .int .i64 0, .slice none 0 0] 215));refine bodyPost_ret (v:= .tuple #[.agg #[.int .i64 0, .int .i64 0, .slice none 0 0], .int .i64 0, .iface 38 (.int .i64 12)]) (by simp[results,Tryz.results259,asAddr,hld,Result.andThen]) rfl ?_;exact⟨_,rfl, .inl ⟨rfl,rfl⟩,fun r hr=>absurd hr (by simp[jM]),(Turn.refl [] w).alloc _⟩
 obtain⟨n,hn⟩:∃n,Bt.eX b=n:=⟨_,rfl⟩;have HN:=hide hn;by_cases hs:n<11
 ·have hd:dec b=(jM,0,3):=by unfold dec;rw[if_neg h8,if_pos (.inl (by omega))]
  rw[hd];clear hd;go_enter Tryz.func259,Tryz.ntmps259
  go_wp2_with fail
  refine(uq _ _ b (HX.out.still ((Turn.refl [] w).alloc _)) (by omega)).mono ?_;rintro e w1 ⟨rfl,rfl⟩;rw[HN.out];go_wp2
  have hld:=iI (w:=(w.alloc (.cells #[.int .i64 0, .int .i64 0, .slice none 0 0] 215)).drew) (ae w (.cells #[.int .i64 0, .int .i64 0, .slice none 0 0] 215));refine bodyPost_ret (v:= .tuple #[.agg #[.int .i64 0, .int .i64 0, .slice none 0 0], .int .i64 0, .iface 38 (.int .i64 3)]) (by simp[results,Tryz.results259,asAddr,hld,Result.andThen]) rfl ?_;exact⟨_,rfl, .inl ⟨rfl,rfl⟩,fun r hr=>absurd hr (by simp[jM]),((Turn.refl [] w).alloc _).drew⟩
 by_cases hg:6000<n
 ·have hd:dec b=(jM,0,3):=by unfold dec;rw[if_neg h8,if_pos (.inr (by omega))]
  rw[hd];clear hd;go_enter Tryz.func259,Tryz.ntmps259
  go_wp2_with fail
  refine(uq _ _ b (HX.out.still ((Turn.refl [] w).alloc _)) (by omega)).mono ?_;rintro e w1 ⟨rfl,rfl⟩;rw[HN.out];go_wp2
  have hld:=iI (w:=(w.alloc (.cells #[.int .i64 0, .int .i64 0, .slice none 0 0] 215)).drew) (ae w (.cells #[.int .i64 0, .int .i64 0, .slice none 0 0] 215));refine bodyPost_ret (v:= .tuple #[.agg #[.int .i64 0, .int .i64 0, .slice none 0 0], .int .i64 0, .iface 38 (.int .i64 3)]) (by simp[results,Tryz.results259,asAddr,hld,Result.andThen]) rfl ?_;exact⟨_,rfl, .inl ⟨rfl,rfl⟩,fun r hr=>absurd hr (by simp[jM]),((Turn.refl [] w).alloc _).drew⟩
 by_cases hsh:b.length<n
 ·have hd:dec b=(jM,0,12):=by unfold dec;rw[if_neg h8,if_neg (by omega),if_pos (by omega)]
  rw[hd];clear hd;go_enter Tryz.func259,Tryz.ntmps259
  go_wp2_with fail
  refine(uq _ _ b (HX.out.still ((Turn.refl [] w).alloc _)) (by omega)).mono ?_;rintro e w1 ⟨rfl,rfl⟩;rw[HN.out];go_wp2
  have hld:=iI (w:=(w.alloc (.cells #[.int .i64 0, .int .i64 0, .slice none 0 0] 215)).drew) (ae w (.cells #[.int .i64 0, .int .i64 0, .slice none 0 0] 215));refine bodyPost_ret (v:= .tuple #[.agg #[.int .i64 0, .int .i64 0, .slice none 0 0], .int .i64 0, .iface 38 (.int .i64 12)]) (by simp[results,Tryz.results259,asAddr,hld,Result.andThen]) rfl ?_;exact⟨_,rfl, .inl ⟨rfl,rfl⟩,fun r hr=>absurd hr (by simp[jM]),((Turn.refl [] w).alloc _).drew⟩
 have hmid:Ho b=(b.take n).drop 8:=by unfold Ho;rw[hn]
 have hml:((b.take n).drop 8).length=n-8:=by simp;omega
 have hsl:∀w,(Instr.slice 97 (.slice a b.length c) (some (.int .i64 8)) (some (.int .i64 (n:Int))) none).run Tryz.prog w= .ok (.slice (oH a 8 c) (n-8) (c-8)) w:=fun w=>by simpa using @GU a b.length c 8 n (by omega) (by omega) w
 have hst:∀w,(Instr.slice 97 (.slice a b.length c) none (some (.int .i64 (n:Int))) none).run Tryz.prog w= .ok (.slice a n c) w:=fun w=> @JE a b.length c n (by omega) w
 have htk:BytesAt w (.slice a n c) (b.take n):=HX.out.take (by omega);have TA:=hide htk;have hbm:∀Z,Turn [] w Z→BytesAt Z (.slice (oH a 8 c) (n-8) (c-8)) ((b.take n).drop 8):=by
  intro Z hZ;have h1:(b.take n).length=n:=by simp;omega
  have h2:=BytesAt.drop (n:=8) (by rw[h1];exact htk) (by omega:8≤(b.take n).length);rw[h1]at h2;exact h2.still hZ
 have HBM:=hide hbm;have hown:∀k∈(Value.slice (oH a 8 c) (n-8) (c-8)).ownBlock,k<w.heap.size:=fun k hk=>
  HX.out.lt (fun e=>by rw[e]at h8;simp at h8) k (BF (l':=b.length) k hk)
 have HOWN:=hide hown;obtain⟨x,hxx⟩:∃x,x=Bt.oK ((b.take n).drop 8):=⟨_,rfl⟩;obtain⟨k1,k2,k3,k4,k5⟩:=TB ((b.take n).drop 8) (by omega);rw[←hxx]at k1 k2 k3 k4 k5;have HK5:=hide k5;have HXX:=hide hxx;have HD:Hid (dec b=if ZG b x then(x,n,0)else(jM,0,3)):=by
  show _=_;unfold dec;rw[if_neg h8,if_neg (by omega),if_neg (by omega),hmid,←hxx,hn]
 have X9:=hide hml;clear hmid htk hbm hown hxx k5 hn hml;go_enter Tryz.func259,Tryz.ntmps259
 go_wp2_with fail
 refine(uq _ _ b (HX.out.still ((Turn.refl [] w).alloc _)) (by omega)).mono ?_;rintro e w1 ⟨rfl,rfl⟩;rw[HN.out];go_wp2_with fail
 have hrd:fJ ((w.alloc (.cells #[.int .i64 0, .int .i64 0, .slice none 0 0] 215)).alloc (.cells #[.slice (oH a 8 c) (n-8) (c-8)] 349)).drew (w.heap.size+1) w.heap.size ((b.take n).drop 8):=by
  refine⟨_,?_,HBM.out _ (((Turn.refl [] w).alloc _).alloc _).drew,fun _=>HOWN.out⟩;have:=ae (w.alloc (.cells #[.int .i64 0, .int .i64 0, .slice none 0 0] 215)) (.cells #[.slice (oH a 8 c) (n-8) (c-8)] 349);rwa [World.size_alloc]at this
 refine(NQ _ (w.heap.size+1) w.heap.size _ hrd (by omega) (by rw[X9.out];omega)).mono ?_;rintro e w3 ⟨sv,rfl,hrow3,ht3⟩;rw[←HXX.out]at hrow3⊢;obtain⟨sa,sn,sc,hsv⟩:=hrow3.oN;subst hsv;have htw3:Turn [] w w3:=((((Turn.refl [] w).alloc _).alloc _).drew).trans ht3 (fun k hk=> .inr (by simp at hk;omega));have hy3:w3.heap[w.heap.size]? =some (.cells #[.int .i64 0, .int .i64 0, .slice none 0 0] 215 (0,0)):=ht3.heap (((Turn.refl [] (w.alloc (.cells #[.int .i64 0, .int .i64 0, .slice none 0 0] 215))).alloc (.cells #[.slice (oH a 8 c) (n-8) (c-8)] 349)).drew.heap (ae w _) (by simp)) (by simp)
 have hsz3:w.heap.size+1<w3.heap.size:=by have:=ht3.size;simp at this;omega
 have hrs:bn w3 (.slice sa sn sc) x.recs:=hrow3.recs HK5.out;have hrl:∀k∈(Value.slice sa sn sc).ownBlock,w.heap.size+1≤k:=fun k hk=>by have:=(hrow3.lt k hk).1;simp at this;omega
 have PQ:fB w3 w.heap.size (.slice sa sn sc) x.recs:=by
  rcases hrow3 with h|⟨g,cap,cur,e,hb,r⟩
  ·exact .inl h
  ·exact .inr ⟨g,cap,cur,e,by simp at hb;omega,r⟩
 have E5:=hide hrl;have hall:∀Q,Turn [] (w3.alloc (.cells #[.int .i64 x.base, .int .i64 x.fin, .slice sa sn sc] 215)) Q→(w.heap.size+1<Q.heap.size∧w3.heap.size<Q.heap.size)∧
  (Q.cell? ⟨w3.heap.size,0,none⟩=some (.int .i64 x.base)∧Q.cell? ⟨w3.heap.size,1,none⟩=some (.int .i64 x.fin)∧Q.cell? ⟨w3.heap.size,2,none⟩=some (.slice sa sn sc))∧
  Q.heap[w.heap.size]? =some (.cells #[.int .i64 0, .int .i64 0, .slice none 0 0] 215 (0,0))∧wS Q (.agg #[.int .i64 x.base, .int .i64 x.fin, .slice sa sn sc]) x∧Turn [] w Q∧fB Q w.heap.size (.slice sa sn sc) x.recs:=by
  intro Q hQ;have hq:=hQ.heap (ae w3 _) (by simp);have hs:=hQ.size;simp at hs;have ht:Turn [] w3 Q:=((Turn.refl [] w3).alloc _).same hQ;exact⟨⟨by omega,by omega⟩,⟨by simpa using cell_of hq 0,by simpa using cell_of hq 1,by simpa using cell_of hq 2⟩,ht.heap hy3 (by simp),⟨_,rfl,hrs.still ht,by omega,by omega,by omega,by omega⟩,htw3.same ht,PQ.kept ht (by simp)⟩
 have Fb:=hide hall;clear hrd hrow3 PQ ht3 htw3 hy3 hrs hall hrl;go_wp2_with fail
 refine(Fa _ _ x (Fb.out _ (Turn.refl _ _)).2.2.2.1).mono ?_;rintro e w4 ⟨v4,rfl,ht4,hr4⟩;have HT4:=hide ht4;have HR4:=hide hr4.bytes;clear ht4 hr4;obtain⟨⟨z1,z2⟩,⟨c0,c1,c2⟩,hy4, -, -⟩:=Fb.out _ HT4.out;have y0:w4.cell? ⟨w.heap.size,0,none⟩=some (.int .i64 0):=by simpa using cell_of hy4 0
 have y1:w4.cell? ⟨w.heap.size,1,none⟩=some (.int .i64 0):=by simpa using cell_of hy4 1
 have y2:w4.cell? ⟨w.heap.size,2,none⟩=some (.slice none 0 0):=by simpa using cell_of hy4 2
 have q0:w4.frozen? ⟨w.heap.size,0,none⟩=false:=af hy4 0;have q1:w4.frozen? ⟨w.heap.size,1,none⟩=false:=af hy4 1;have q2:w4.frozen? ⟨w.heap.size,2,none⟩=false:=af hy4 2;have HY4:=hide hy4;clear hy4;have hfin:∀(p q:Int) (s:Value),Turn [] w (((w4.setCell ⟨w.heap.size,0,none⟩ (.int .i64 p)).setCell ⟨w.heap.size,1,none⟩ (.int .i64 q)).setCell ⟨w.heap.size,2,none⟩ s)∧Turn [w.heap.size] w4 (((w4.setCell ⟨w.heap.size,0,none⟩ (.int .i64 p)).setCell ⟨w.heap.size,1,none⟩ (.int .i64 q)).setCell ⟨w.heap.size,2,none⟩ s)∧
  (((w4.setCell ⟨w.heap.size,0,none⟩ (.int .i64 p)).setCell ⟨w.heap.size,1,none⟩ (.int .i64 q)).setCell ⟨w.heap.size,2,none⟩ s).heap[w.heap.size]? =some (.cells #[.int .i64 p, .int .i64 q,s] 215 (0,0)):=by
  intro p q s;have ht:Turn [w.heap.size] w4 (((w4.setCell ⟨w.heap.size,0,none⟩ (.int .i64 p)).setCell ⟨w.heap.size,1,none⟩ (.int .i64 q)).setCell ⟨w.heap.size,2,none⟩ s):=(((Turn.refl _ _).setCell (.inl (by simp)) _).setCell (.inl (by simp)) _).setCell (.inl (by simp)) _;exact⟨(Fb.out _ HT4.out).2.2.2.2.1.trans ht (fun k hk=> .inr (by simp at hk;omega)),ht,by simpa using heap_set (heap_set (heap_set HY4.out 0 (.int .i64 p)) 1 (.int .i64 q)) 2 s⟩
 have lK:=hide hfin;clear hfin;obtain⟨er,her⟩:∃er,Bt.aO x=er:=⟨_,rfl⟩;rw[her];have HER:=hide her;clear her;by_cases h0:er=0
 ·subst h0
  have hrb:encR x=Bt.aj x:=by unfold encR;rw[if_pos HER.out]
  have h4:=HR4.out;rw[hrb]at h4;have H4:=hide h4;have htk4:=TA.out.still (Fb.out _ HT4.out).2.2.2.2.1;have VQ:=hide htk4;clear hrb h4 htk4;simp only[As.pG,if_true];go_wp2_with fail
  refine(NU _ _ _ (Bt.aj x) (b.take n) H4.out VQ.out).mono ?_;rintro e w5 ⟨rfl,rfl⟩;by_cases heq:Bt.aj x=b.take n
  ·have hbq:(Bt.aj x==b.take n)=true:=by simpa using heq
   have TD:Hid (dec b=(x,n,0)):=by show _=_;rw[HD.out,if_pos ⟨HER.out,by rw[HN.out];exact heq⟩]
   rw[hbq];clear heq hbq;go_wp2
   have hf:=lK.out x.base x.fin (.slice sa sn sc);have hld:=iI hf.2.2;refine bodyPost_ret (v:= .tuple #[.agg #[.int .i64 x.base, .int .i64 x.fin, .slice sa sn sc], .int .i64 n, .nilIface]) (by simp[results,Tryz.results259,asAddr,hld,Result.andThen]) rfl ?_;rw[TD.out];refine⟨.slice sa sn sc,rfl,(Fb.out _ HT4.out).2.2.2.2.2.kept hf.2.1 (fun k hk hm=>?_),HK5.out,hf.1⟩;have:=E5.out k hk;simp at hm;omega
  ·have hbq:(Bt.aj x==b.take n)=false:=by simpa using heq
   have TD:Hid (dec b=(jM,0,3)):=by show _=_;rw[HD.out,if_neg (fun h=>heq (by have:=h.2;rwa [HN.out]at this))]
   rw[hbq];clear heq hbq;go_wp2
   have hf:=lK.out 0 0 (.slice none 0 0);have hld:=iI hf.2.2;refine bodyPost_ret (v:= .tuple #[.agg #[.int .i64 0, .int .i64 0, .slice none 0 0], .int .i64 0, .iface 38 (.int .i64 3)]) (by simp[results,Tryz.results259,asAddr,hld,Result.andThen]) rfl ?_;rw[TD.out];exact⟨_,rfl, .inl ⟨rfl,rfl⟩,fun r hr=>absurd hr (by simp[jM]),hf.1⟩
 ·simp only[As.pG,h0,if_false]
  have TD:Hid (dec b=(jM,0,3)):=by show _=_;rw[HD.out,if_neg (fun h=>h0 (HER.out.symm.trans h.1))]
  go_wp2
  have hf:=lK.out 0 0 (.slice none 0 0);have hld:=iI hf.2.2;refine bodyPost_ret (v:= .tuple #[.agg #[.int .i64 0, .int .i64 0, .slice none 0 0], .int .i64 0, .iface 38 (.int .i64 3)]) (by simp[results,Tryz.results259,asAddr,hld,Result.andThen]) rfl ?_;rw[TD.out];exact⟨_,rfl, .inl ⟨rfl,rfl⟩,fun r hr=>absurd hr (by simp[jM]),hf.1⟩
theorem vz(x:Int)(n:Nat)(hn:0<n)(hn2:n≤1099511627776)(w:World):Calls Tryz.prog 9 #[.int .i64 x, .int .i64 n] w fun e w'=>(∃p:Nat,p<n∧e= .returned (.int .i64 p))∧w=w':=by
 have hw:IntKind.u64.wrap (n:Int)=(n:Int):=by simp[IntKind.wrap,IntKind.bits,IntKind.signed];omega
 have h0:0≤IntKind.u64.wrap x:=by simp[IntKind.wrap,IntKind.bits,IntKind.signed];omega
 have hz:¬((n:Int)=0):=by omega
 go_enter Tryz.func9,Tryz.ntmps9
 go_wp2
 go_ret
 obtain⟨m,hm⟩:=Int.eq_ofNat_of_zero_le h0;refine⟨⟨m%n,Nat.mod_lt _ hn,?_⟩,rfl⟩;rw[hm];refine congrArg (fun z=>Ending.returned (.int .i64 z)) ?_;have hlt:=Nat.mod_lt m hn;have:(m:Int)%n=((m%n:Nat):Int):=by omega
 rw[this];unfold wrap64;omega
def kH(b:Int)(rs:List Bt.Rec):List Bt.Rec:=rs.zipIdx.map fun p=>{p.1 with off:=b+p.2}
theorem JM(b:Int)(rs:List Bt.Rec){k:Nat}(hk:k<rs.length):kH b (rs.take (k+1))=kH b (rs.take k)++[{rs[k]with off:=b+k}]:=by
 have:rs.take (k+1)=rs.take k++[rs[k]]:=by simp
 unfold kH;rw[this,List.zipIdx_append,List.map_append];simp[Nat.min_eq_left (Nat.le_of_lt hk)]
theorem qR(b:Int)(rs:List Bt.Rec):(kH b rs).length=rs.length:=by simp[kH]
theorem PR(b:Int)(rs:List Bt.Rec)(h:∀r∈rs,jD r)(hb:0≤b)(hb2:b≤1099511627776)(hl:rs.length≤1000000):∀r∈kH b rs,jD r:=by
 intro r hr;unfold kH at hr;obtain⟨⟨q,i⟩,hq,rfl⟩:=List.mem_map.1 hr;obtain⟨h1,h2⟩:=List.mem_zipIdx' hq;obtain⟨o1,o2,t1,t2,k1,v1⟩:=h q (List.mem_iff_getElem.2 ⟨i,h1,h2.symm⟩);exact⟨by simp only;omega,by simp only;omega,t1,t2,k1,v1⟩
def eG(b:Int)(rs:List Bt.Rec):Bt.aX:=⟨b,b+rs.length,kH b rs⟩
structure Dz(w0 w:World)(X:Nat)(b f:Int)(sv:Value)(rs:List Bt.Rec):Prop where
 hx:X=w0.heap.size+1
 x:w.heap[X]? =some (.cells #[.int .i64 b, .int .i64 f,sv] 215 (0,0))
 y:w.heap[w0.heap.size]? =some (.cells #[.int .i64 0, .int .i64 0, .slice none 0 0] 215 (0,0))
 row:fB w (X+1) sv rs
 turn:Turn [] w0 w
theorem Dz.still{w0 w w':World}{X:Nat}{b f:Int}{sv:Value}{rs:List Bt.Rec}(h:Dz w0 w X b f sv rs)(ht:Turn [] w w'):Dz w0 w' X b f sv rs:=
 ⟨h.hx,ht.heap h.x (by simp),ht.heap h.y (by simp),h.row.kept ht (by simp),h.turn.same ht⟩
theorem Dz.X4{w0 w w2:World}{X:Nat}{b f:Int}{sv s2:Value}{rs r2:List Bt.Rec}(h:Dz w0 w X b f sv rs)(h1:fB w2 (X+1) s2 r2)(h2:Turn sv.ownBlock.toList w w2):Dz w0 (w2.setCell ⟨X,2,none⟩ s2) X b f s2 r2:=by
 have hx:=h.hx;have ht:Turn [X] w2 (w2.setCell ⟨X,2,none⟩ s2):=(Turn.refl _ _).setCell (.inl (by simp)) _;have own:∀k∈sv.ownBlock.toList,X+1≤k:=fun k hk=>(h.row.lt k (by simpa using hk)).1
 have hx2:w2.heap[X]? =some (.cells #[.int .i64 b, .int .i64 f,sv] 215 (0,0)):=h2.heap h.x (fun hm=>by have:=own X hm;omega)
 have hy2:=h2.heap h.y (fun hm=>by have:=own _ hm;omega);refine⟨hx,by simpa using heap_set hx2 2 s2,ht.heap hy2 (by simp;omega),h1.kept ht (fun k hk=>by have:=(h1.lt k hk).1;simp;omega),?_⟩;exact(h.turn.trans h2 (fun k hk=> .inr (by have:=own k hk;omega))).trans ht (fun k hk=> .inr (by simp at hk;omega))
theorem Dz.cells{w0 w:World}{X:Nat}{b f:Int}{sv:Value}{rs:List Bt.Rec}(h:Dz w0 w X b f sv rs):
 (w.cell? ⟨X,0,none⟩=some (.int .i64 b)∧w.cell? ⟨X,1,none⟩=some (.int .i64 f)∧w.cell? ⟨X,2,none⟩=some sv)∧
 (w.frozen? ⟨X,0,none⟩=false∧w.frozen? ⟨X,1,none⟩=false∧w.frozen? ⟨X,2,none⟩=false)∧
 (w.cell? ⟨w0.heap.size,0,none⟩=some (.int .i64 0)∧w.cell? ⟨w0.heap.size,1,none⟩=some (.int .i64 0)∧w.cell? ⟨w0.heap.size,2,none⟩=some (.slice none 0 0))∧
 (w.frozen? ⟨w0.heap.size,0,none⟩=false∧w.frozen? ⟨w0.heap.size,1,none⟩=false∧w.frozen? ⟨w0.heap.size,2,none⟩=false)∧X<w.heap.size∧w0.heap.size<w.heap.size:=
 ⟨⟨by simpa using cell_of h.x 0,by simpa using cell_of h.x 1,by simpa using cell_of h.x 2⟩,⟨af h.x 0,af h.x 1,af h.x 2⟩,
  ⟨by simpa using cell_of h.y 0,by simpa using cell_of h.y 1,by simpa using cell_of h.y 2⟩,⟨af h.y 0,af h.y 1,af h.y 2⟩,lt_of_heap h.x,lt_of_heap h.y⟩
theorem Dz.fin{w0 w:World}{X:Nat}{b f:Int}{sv:Value}{rs:List Bt.Rec}(h:Dz w0 w X b f sv rs):
 (loadVar 215 ⟨w0.heap.size,0,none⟩).run Tryz.prog (((w.setCell ⟨w0.heap.size,0,none⟩ (.int .i64 b)).setCell ⟨w0.heap.size,1,none⟩ (.int .i64 f)).setCell ⟨w0.heap.size,2,none⟩ sv)= .ok (.agg #[.int .i64 b, .int .i64 f,sv]) (((w.setCell ⟨w0.heap.size,0,none⟩ (.int .i64 b)).setCell ⟨w0.heap.size,1,none⟩ (.int .i64 f)).setCell ⟨w0.heap.size,2,none⟩ sv)∧
 fB (((w.setCell ⟨w0.heap.size,0,none⟩ (.int .i64 b)).setCell ⟨w0.heap.size,1,none⟩ (.int .i64 f)).setCell ⟨w0.heap.size,2,none⟩ sv) (w0.heap.size+2) sv rs∧Turn [] w0 (((w.setCell ⟨w0.heap.size,0,none⟩ (.int .i64 b)).setCell ⟨w0.heap.size,1,none⟩ (.int .i64 f)).setCell ⟨w0.heap.size,2,none⟩ sv):=by
 have hx:=h.hx;have hy:=heap_set (heap_set (heap_set h.y 0 (.int .i64 b)) 1 (.int .i64 f)) 2 sv;have ht:Turn [w0.heap.size] w (((w.setCell ⟨w0.heap.size,0,none⟩ (.int .i64 b)).setCell ⟨w0.heap.size,1,none⟩ (.int .i64 f)).setCell ⟨w0.heap.size,2,none⟩ sv):=
  (((Turn.refl _ _).setCell (.inl (by simp)) _).setCell (.inl (by simp)) _).setCell (.inl (by simp)) _
 refine⟨iI (by simpa using hy),?_,h.turn.trans ht (fun k hk=> .inr (by simp at hk;omega))⟩;rcases h.row.kept ht (fun k hk=>by have:=(h.row.lt k hk).1;simp;omega)with h|⟨g,cap,cur,e,hb,r⟩
 ·exact .inl h
 ·exact .inr ⟨g,cap,cur,e,by omega,r⟩
end
section
open Go.RowKit Go.Maps
set_option maxRecDepth 100000
set_option linter.unusedSimpArgs false
set_option linter.unusedVariables false
attribute [local go_sem] Oper.semAt_some
theorem bn.src{w:World}{v:Value}{rs:List Bt.Rec}(h:bn w v rs):Ti recC w v rs:=by
 obtain⟨a,c,rfl,h1,h2,h3,h4⟩:=h;cases a with
 |none=>
  have hc:=h3 rfl;have h0:rs=[]:=List.eq_nil_of_length_eq_zero (by omega);subst h0;subst hc;exact .inl ⟨rfl,rfl⟩
 |some p=>
  refine .inr ⟨p,c,rfl,fun J u hu=>?_⟩;have hJ:J<rs.length*6:=by have:=(List.getElem?_eq_some_iff.1 hu).1;rwa [bV (n:=6) eF]at this
  have hj:J/6<rs.length:=by omega
  have e:J=J/6*6+J%6:=by omega
  rw[e,Bj (n:=6) eF rs (J/6) (J%6) hj (by omega)]at hu;obtain⟨-,p',hp,hc⟩:=h4 (J/6) hj;obtain rfl:=Option.some.inj hp;have:=hc (J%6) u hu;rw[add_add]at this;rw[←e]at this;exact this
theorem PS(w:World)(base:Nat)(v sx:Value)(xs ys:List Bt.Rec)(hrow:aH 47 6 recC w base v xs)(hx:Ti recC w sx ys)(hlen:xs.length+ys.length≤1000000)(hbase:base≤w.heap.size):
 ∃v' w',(Builtin.append_ #[33,33] 33 #[v,sx]).run Tryz.prog w= .ok v' w'∧aH 47 6 recC w' base v' (xs++ys)∧Turn v.ownBlock.toList w w'∧(∀j∈v'.ownBlock,j∈v.ownBlock∨w.heap.size≤j):=by
 obtain⟨i,z,hi,hz,hzs,hs,hb⟩:=wZ;exact ng (P:=Tryz.prog) 33 33 Tryz.underlying33 i z hi hz hzs hs (by omega) eF (fun x u hu=>by simp[recC,gQ]at hu;rcases hu with rfl|rfl|rfl|rfl|rfl|rfl<;>rfl) w base v sx xs ys hrow hx hlen hbase
set_option maxHeartbeats 2000000 in
theorem NV(w:World)(v:Value)(rs:List Bt.Rec)(h:bn w v rs)(hl:rs.length≤1000000):
 Calls Tryz.prog 184 #[v] w fun e w'=>∃sv,e= .returned sv∧aH 47 6 recC w' w.heap.size sv rs∧Turn [] w w':=by
 have hq:∀(w:World) (a:Option Addr) (n c:Nat),(binOp .eql 33 (.slice a n c) (.slice none 0 0)).run Tryz.prog w= .ok (.bool a.isNone) w:=fun w a n c=>Go.Lib.run_eql_slice_nil w _ _ a n c 0 0 Tryz.underlying33
 have HS:=hide h;obtain⟨a,c,rfl,h1,h2,h3,h4⟩:=h;cases a with
 |none=>
  have hc:=h3 rfl;have h0:rs=[]:=List.eq_nil_of_length_eq_zero (by omega);subst h0;subst hc;clear h1 h2 h3 h4;go_enter Tryz.func184,Tryz.ntmps184
  go_wp2
  go_ret
  exact⟨_,rfl, .inl ⟨rfl,rfl⟩,Turn.refl _ _⟩
 |some p=>
  have ht:Turn [] w (w.alloc (.cells #[] 47)):=(Turn.refl [] w).alloc _;obtain⟨v7,w7,hr7,hrow7,ht7,hown7⟩:=PS (w.alloc (.cells #[] 47)) w.heap.size (.slice (some ⟨w.heap.size,0,none⟩) 0 0) (.slice (some p) rs.length c) [] rs (.inr ⟨w.heap.size,0, #[],rfl,Nat.le_refl _,ae w _,by simp,by simp,by simp,by simp⟩) (HS.out.still ht).src (by simp;omega) (by simp);rw[List.nil_append]at hrow7;have HR7:=hide hr7;have iZ:=hide hrow7;have HT7:=hide (ht.trans ht7 (by simp[Value.ownBlock]));clear h1 h2 h3 h4 ht hr7 hrow7 ht7 hown7;go_enter Tryz.func184,Tryz.ntmps184
  go_wp2_with (at_builtin;go_must (refine fA rfl rfl rfl rfl HR7.out ?_))
  go_ret
  exact⟨_,rfl,iZ.out,HT7.out⟩
end
end Go.Proofs.YtmjpdhpmjmgmaaaGreatDoor
section
namespace Go.Proofs.YtmjpdhpmjmgmaaaGreatDoor.Cr
set_option linter.unusedSimpArgs false
set_option linter.unusedVariables false
theorem xr{a b c:Nat}(h:c^^^a=c^^^b):a=b:=by
 have:=congrArg (c^^^ ·) h;simpa[←Nat.xor_assoc]using this
theorem xl{a b c:Nat}(h:a^^^c=b^^^c):a=b:=xr (c:=c) (by rwa [Nat.xor_comm c,Nat.xor_comm c])
theorem BH{s:Nat}(h:s<4294967296):(step s).testBit 31=decide (s%2=1):=by
 unfold step;rw[Nat.testBit_xor];have h1:(s/2).testBit 31=false:=Nat.testBit_lt_two_pow (by omega);rw[h1];have:s%2=0∨s%2=1:=by omega
 rcases this with e|e<;>rw[e]<;>decide
theorem PT{s t:Nat}(hs:s<4294967296)(ht:t<4294967296)(h:step s=step t):s=t:=by
 have h1:s%2=t%2:=by
  have:=(BH hs).symm.trans ((congrArg (fun x=>Nat.testBit x 31) h).trans (BH ht));have:=decide_eq_decide.1 this;omega
 have h2:s/2=t/2:=by
  unfold step at h;rw[h1]at h;exact xl h
 omega
theorem Ed{s t:Nat}(hs:s<4294967296)(ht:t<4294967296):∀n,steps n s=steps n t→s=t
 |0,h=>h
 |n+1,h=>Ed hs ht n (PT (nN hs n) (nN ht n) h)
theorem PU{s t:Nat}(hs:s<4294967296)(ht:t<4294967296){c d:UInt8}(h:byte s c=byte t d):s^^^c.toNat=t^^^d.toNat:=Ed (ES hs c) (ES ht d) 8 h
theorem sum_lt(bs:List UInt8):sum bs<4294967296:=by unfold sum;omega
end Go.Proofs.YtmjpdhpmjmgmaaaGreatDoor.Cr
namespace Go.Proofs.YtmjpdhpmjmgmaaaGreatDoor.Bt
open Go.Proofs.YtmjpdhpmjmgmaaaGreatDoor
set_option linter.unusedSimpArgs false
set_option linter.unusedVariables false
theorem PV{a b:Nat}(ha:a<4294967296)(hb:b<4294967296)(h:four a=four b):a=b:=by
 have h1:=sN ha [];rw[h,sN hb]at h1;exact h1.symm
theorem eY{x:aX}(h:aO x=0):chk x=0∧(body x).length+8≤6000:=by
 unfold aO at h;split at h
 ·rename_i hc
  split at h
  ·omega
  ·exact⟨hc,by omega⟩
 ·exact absurd h ‹_›
end Go.Proofs.YtmjpdhpmjmgmaaaGreatDoor.Bt
end
namespace Go.Proofs.YtmjpdhpmjmgmaaaGreatDoor
section
set_option maxRecDepth 100000
set_option linter.unusedSimpArgs false
set_option linter.unusedVariables false
theorem lS{x:Bt.aX}(h:Bt.aO x=0)(more:List UInt8):Bt.eX (Bt.aj x++more)=(Bt.aj x).length:=by
 obtain⟨hc,hl⟩:=Bt.eY h;have hlx:=Bt.gK x;rw[hlx];unfold Bt.aj;rw[List.append_assoc,List.append_assoc];exact Bt.sN (by omega) _
theorem Md{x:Bt.aX}(h:Bt.aO x=0)(more:List UInt8):dec (Bt.aj x++more)=(x,(Bt.aj x).length,0):=by
 obtain⟨hc,hl⟩:=Bt.eY h;have hlx:=Bt.gK x;have hb:=uw x;have hf:=lS h more;have ht:(Bt.aj x++more).take (Bt.aj x).length=Bt.aj x:=by simp
 have hm:Ho (Bt.aj x++more)=Bt.body x:=by unfold Ho;rw[hf,ht,Bt.qP]
 unfold dec;rw[hm,Bt.DV hc,hf,List.length_append];generalize (Bt.aj x).length=L at*
 rw[if_neg (by omega),if_neg (by omega),if_neg (by omega),if_pos ⟨h,by rw[hf,ht]⟩]
theorem nP{x:Bt.aX}(h:Bt.aO x=0){k:Nat}(hk:k<(Bt.aj x).length):dec ((Bt.aj x).take k)=(jM,0,12):=by
 obtain⟨hc,hl⟩:=Bt.eY h;have hlx:=Bt.gK x;have hb:=uw x;have hf:=lS h [];rw[List.append_nil]at hf;have hkl:((Bt.aj x).take k).length=k:=by rw[List.length_take];exact Nat.min_eq_left (Nat.le_of_lt hk)
 unfold dec;rw[hkl];by_cases h8:k<8
 ·rw[if_pos h8]
 ·have hf':Bt.eX ((Bt.aj x).take k)=(Bt.aj x).length:=by
   rw[←hf];unfold Bt.eX;simp only[List.getD_eq_getElem?_getD,List.getElem?_take];rw[if_pos (by omega),if_pos (by omega),if_pos (by omega),if_pos (by omega)]
  rw[hf'];generalize (Bt.aj x).length=L at*
  rw[if_neg h8,if_neg (by omega),if_pos hk]
end
section
set_option linter.unusedSimpArgs false
set_option linter.unusedVariables false
namespace Cr
theorem PW(a b:Nat):step (a^^^b)=step a^^^step b:=by
 have h1:(a^^^b)/2=a/2^^^b/2:=by
  apply Nat.eq_of_testBit_eq;intro i;simp[Nat.testBit_div_two]
 have h2:(a^^^b)%2=(a%2+b%2)%2:=by
  have hx:=Nat.testBit_xor a b 0;simp only[Nat.testBit_zero]at hx;have ha:a%2=0∨a%2=1:=by omega
  have hb:b%2=0∨b%2=1:=by omega
  have hc:(a^^^b)%2=0∨(a^^^b)%2=1:=by omega
  rcases ha with ha|ha<;>rcases hb with hb|hb<;>rcases hc with hc|hc<;>simp_all
 unfold step;rw[h1,h2];have ha:a%2=0∨a%2=1:=by omega
 have hb:b%2=0∨b%2=1:=by omega
 rcases ha with ha|ha<;>rcases hb with hb|hb<;>rw[ha,hb]
 ·simp
 ·simp[Nat.xor_assoc]
 ·simp only[Nat.mul_one,Nat.mul_zero,Nat.xor_zero,Nat.reduceMod,Nat.reduceAdd]
  rw[Nat.xor_assoc,Nat.xor_assoc,Nat.xor_comm (b/2)]
 ·simp only[Nat.mul_one,Nat.mul_zero,Nat.xor_zero,Nat.reduceMod,Nat.reduceAdd]
  rw[Nat.xor_assoc,Nat.xor_comm (b/2),←Nat.xor_assoc 3988292384,Nat.xor_self,Nat.zero_xor]
theorem Ee(a b:Nat):∀n,steps n (a^^^b)=steps n a^^^steps n b
 |0=>rfl
 |n+1=>by rw[steps,Ee a b n,PW];rfl
theorem JO{s:Nat}(h:s<4294967296)(h2:step s<2147483648):s=2*step s:=by
 have h3:(step s).testBit 31=false:=Nat.testBit_lt_two_pow (by omega);rw[BH h]at h3;have h4:s%2=0:=by
  have:=of_decide_eq_false h3;omega
 unfold step;rw[h4];simp;omega
theorem qo{s:Nat}(h:s<4294967296):∀(n k:Nat),k+n≤32→steps n s<2^k→s=2^n*steps n s
 |0,_,_,_=>by simp[steps]
 |n+1,k,hk,hs=>by
  have hs':step (steps n s)<2^k:=hs;have hp:2^k≤2^31:=Nat.pow_le_pow_right (by omega) (by omega);have h1:=JO (nN h n) (by omega);have h2:steps n s<2^(k+1):=by rw[Nat.pow_succ];omega
  have h3:=qo h n (k+1) (by omega) h2;show s=2^(n+1)*step (steps n s);rw[Nat.pow_succ,Nat.mul_assoc,←h1];exact h3
theorem Hq{s t:Nat}(a b:UInt8):byte s a^^^byte t b=steps 8 ((s^^^t)^^^(a.toNat^^^b.toNat)):=by
 unfold byte;rw[←Ee];congr 1
 rw[Nat.xor_assoc,Nat.xor_assoc];congr 1
 rw[←Nat.xor_assoc,Nat.xor_comm a.toNat t,Nat.xor_assoc]
theorem xor_zero{a b:Nat}(h:a^^^b=0):a=b:=by
 have:=congrArg (· ^^^b) h;simpa[Nat.xor_assoc]using this
theorem Ya{s:Nat}(hs:s<4294967296){a1 a2 a3 b1 b2 b3:UInt8}(h:[a1,a2,a3].foldl byte s=[b1,b2,b3].foldl byte s):a1=b1∧a2=b2∧a3=b3:=by
 simp only[List.foldl_cons,List.foldl_nil]at h;have x8:∀a b:UInt8,a.toNat^^^b.toNat<256:=fun a b=>Nat.xor_lt_two_pow (n:=8) a.toNat_lt b.toNat_lt
 have same:∀{a b:UInt8},a.toNat^^^b.toNat=0→a=b:=fun h=>UInt8.toNat_inj.1 (xor_zero h)
 have lx:∀{a b:Nat},a<4294967296→b<4294967296→a^^^b<4294967296:=fun ha hb=>Nat.xor_lt_two_pow (n:=32) ha hb
 obtain⟨s1,h1⟩:∃x,x=byte s a1:=⟨_,rfl⟩;obtain⟨t1,k1⟩:∃x,x=byte s b1:=⟨_,rfl⟩;obtain⟨s2,h2⟩:∃x,x=byte s1 a2:=⟨_,rfl⟩;obtain⟨t2,k2⟩:∃x,x=byte t1 b2:=⟨_,rfl⟩;have ls1:s1<4294967296:=by rw[h1];exact uh hs _
 have lt1:t1<4294967296:=by rw[k1];exact uh hs _
 have ls2:s2<4294967296:=by rw[h2];exact uh ls1 _
 have lt2:t2<4294967296:=by rw[k2];exact uh lt1 _
 rw[←h1,←k1,←h2,←k2]at h;have e3:s2^^^t2=a3.toNat^^^b3.toNat:=by
  have:=PU ls2 lt2 h;have h5:(s2^^^a3.toNat)^^^(t2^^^a3.toNat)=(t2^^^b3.toNat)^^^(t2^^^a3.toNat):=by rw[this]
  have l5:s2^^^a3.toNat^^^(t2^^^a3.toNat)=s2^^^t2:=by
   rw[Nat.xor_comm t2,Nat.xor_assoc,←Nat.xor_assoc a3.toNat,Nat.xor_self,Nat.zero_xor]
  have r5:t2^^^b3.toNat^^^(t2^^^a3.toNat)=a3.toNat^^^b3.toNat:=by
   rw[Nat.xor_comm t2 b3.toNat,Nat.xor_assoc,←Nat.xor_assoc t2,Nat.xor_self,Nat.zero_xor,Nat.xor_comm]
  rw[l5,r5]at h5;exact h5
 have d2:s2^^^t2=steps 8 ((s1^^^t1)^^^(a2.toNat^^^b2.toNat)):=by rw[h2,k2];exact Hq _ _
 have d1:s1^^^t1=steps 8 (a1.toNat^^^b1.toNat):=by rw[h1,k1,Hq,Nat.xor_self,Nat.zero_xor]
 have x1:=x8 a1 b1;have x2:=x8 a2 b2;have x3:=x8 a3 b3;have q2:=qo (lx (lx ls1 lt1) (Nat.lt_trans x2 (by omega))) 8 8 (by omega) (by rw[←d2,e3];exact x3);rw[←d2,e3]at q2;have w1:s1^^^t1<65536:=by
  have e:s1^^^t1=(2^8*(a3.toNat^^^b3.toNat))^^^(a2.toNat^^^b2.toNat):=by rw[←q2,Nat.xor_assoc (s1^^^t1),Nat.xor_self,Nat.xor_zero]
  rw[e];exact Nat.xor_lt_two_pow (n:=16) (by omega) (by omega)
 have q1:=qo (Nat.lt_trans x1 (by omega)) 8 16 (by omega) (by rw[←d1];exact w1);rw[←d1]at q1;have z1:s1^^^t1=0:=by omega
 have z0:a1.toNat^^^b1.toNat=0:=by rw[q1,z1]
 rw[z1,Nat.zero_xor]at q2;have z3:a3.toNat^^^b3.toNat=0:=by omega
 have z2:a2.toNat^^^b2.toNat=0:=by rw[q2,z3]
 exact⟨same z0,same z2,same z3⟩
theorem sum3(pre:List UInt8){a1 a2 a3 b1 b2 b3:UInt8}(h:sum (pre++[a1,a2,a3])=sum (pre++[b1,b2,b3])):[a1,a2,a3]=[b1,b2,b3]:=by
 have h1:=uZ (pre++[a1,a2,a3]);have h2:=uZ (pre++[b1,b2,b3]);have h3:crc (pre++[a1,a2,a3])=crc (pre++[b1,b2,b3]):=by unfold sum at h;omega
 unfold crc at h3;rw[List.foldl_append,List.foldl_append]at h3;obtain⟨rfl,rfl,rfl⟩:=Ya (LQ pre _ (by omega)) h3;rfl
end Cr
end
section
set_option linter.unusedSimpArgs false
set_option linter.unusedVariables false
open Go.Proofs.YtmjpdhpmjmgmaaaGreatDoor
namespace Sg
def flat(xs:List Bt.aX):List UInt8:=xs.flatMap Bt.aj
def aA(b:Int)(xs:List Bt.aX):Int:=match xs.getLast? with
 |some x=>x.fin
 |none=>b
def Chain:Int→List Bt.aX→Prop
 |_,[]=>True
 |nx,x::r=>Bt.aO x=0∧nx≤x.base∧Chain x.fin r
theorem qp(b:Int)(x:Bt.aX)(r:List Bt.aX):aA b (x::r)=aA x.fin r:=by
 unfold aA;cases r with
 |nil=>rfl
 |cons y s=>rw[List.getLast?_cons_cons];cases h:(y::s).getLast? with
  |none=>simp at h
  |some z=>rfl
theorem qw(b:Int)(xs:List Bt.aX)(x:Bt.aX):aA b (xs++[x])=x.fin:=by simp[aA]
theorem oO:∀(xs ys:List Bt.aX) (b:Int),Chain b (xs++ys)↔Chain b xs∧Chain (aA b xs) ys
 |[],ys,b=>by simp[Chain,aA]
 |x::r,ys,b=>by
  rw[List.cons_append,qp];show _∧_∧Chain x.fin (r++ys)↔(_∧_∧Chain x.fin r)∧_;rw[oO r ys x.fin];constructor
  ·rintro⟨a,b,c,d⟩;exact⟨⟨a,b,c⟩,d⟩
  ·rintro⟨⟨a,b,c⟩,d⟩;exact⟨a,b,c,d⟩
theorem oP{b:Int}{xs:List Bt.aX}{x:Bt.aX}(h:Chain b xs)(hx:Bt.aO x=0)(hb:aA b xs≤x.base):Chain b (xs++[x]):=
 (oO xs [x] b).2 ⟨h,hx,hb,trivial⟩
theorem Chain.take{b:Int}{xs:List Bt.aX}(h:Chain b xs)(n:Nat):Chain b (xs.take n):=by
 rw[←List.take_append_drop n xs]at h;exact((oO _ _ _).1 h).1
theorem Chain.mem:∀{xs:List Bt.aX} {b:Int},Chain b xs→∀x∈xs,Bt.aO x=0
 |x::r,b,h,y,hy=>by
  rcases List.mem_cons.1 hy with rfl|hy
  ·exact h.1
  ·exact Chain.mem h.2.2 y hy
theorem bZ(xs ys:List Bt.aX):flat (xs++ys)=flat xs++flat ys:=by simp[flat]
theorem kK(x:Bt.aX):flat [x]=Bt.aj x:=by simp[flat]
theorem nR(x:Bt.aX):11≤(Bt.aj x).length:=by have:=uw x;have:=Bt.gK x;omega
theorem gU(xs:List Bt.aX):11*xs.length≤(flat xs).length:=by
 induction xs with
 |nil=>simp[flat]
 |cons x r ih=>
  have:flat (x::r)=Bt.aj x++flat r:=by simp[flat]
  have:=nR x;simp[*];omega
theorem PX{b:List UInt8}(h:(dec b).2.2=0):Bt.aO (dec b).1=0∧(dec b).2.1=(Bt.aj (dec b).1).length∧b=Bt.aj (dec b).1++b.drop (dec b).2.1:=by
 unfold dec at h;split at h
 ·simp at h
 split at h
 ·simp at h
 split at h
 ·simp at h
 rename_i h1 h2 h3
 split at h
 ·rename_i h4
  have e:dec b=(Bt.oK (Ho b),Bt.eX b,0):=by
   unfold dec;rw[if_neg h1,if_neg h2,if_neg h3,if_pos h4]
  rw[e];have hl:(Bt.aj (Bt.oK (Ho b))).length=Bt.eX b:=by rw[h4.2,List.length_take];omega
  exact⟨h4.1,hl.symm,by show b=_++b.drop (Bt.eX b);rw[h4.2,List.take_append_drop]⟩
 ·simp at h
inductive Scan:Int→List UInt8→List Bt.aX→Prop
 |stop {nx:Int} {b:List UInt8} (h:¬((dec b).2.2=0∧nx≤(dec b).1.base)):Scan nx b []
 |step {nx:Int} {b:List UInt8} {xs:List Bt.aX} (h:(dec b).2.2=0) (h2:nx≤(dec b).1.base) (k:Scan (dec b).1.fin (b.drop (dec b).2.1) xs):Scan nx b ((dec b).1::xs)
theorem Ef:∀{xs:List Bt.aX} {nx:Int} {r:List UInt8},Chain nx xs→¬((dec r).2.2=0∧aA nx xs≤(dec r).1.base)→Scan nx (flat xs++r) xs
 |[],nx,r,_,h=> .stop (by simpa[flat,aA]using h)
 |x::xs,nx,r,hc,h=>by
  have e:flat (x::xs)++r=Bt.aj x++(flat xs++r):=by simp[flat]
  rw[e];have hd:=Md hc.1 (flat xs++r);have h1:(dec (Bt.aj x++(flat xs++r))).1=x:=by rw[hd]
  have h2:(dec (Bt.aj x++(flat xs++r))).2.1=(Bt.aj x).length:=by rw[hd]
  have h3:(dec (Bt.aj x++(flat xs++r))).2.2=0:=by rw[hd]
  have k:=Ef (xs:=xs) (nx:=x.fin) (r:=r) hc.2.2 (by rw[qp]at h;exact h);have:=Scan.step (xs:=xs) h3 (by rw[h1];exact hc.2.1) (by rw[h1,h2];simpa using k);rw[h1]at this;exact this
theorem Me{r:List UInt8}(h:r.length<8):(dec r).2.2≠0:=by unfold dec;rw[if_pos h];simp
theorem oQ{l:List UInt8}{k:Nat}(h:4≤k):Bt.eX (l.take k)=Bt.eX l:=by
 unfold Bt.eX;simp only[List.getD_eq_getElem?_getD,List.getElem?_take];rw[if_pos (by omega),if_pos (by omega),if_pos (by omega),if_pos (by omega)]
theorem Yb{α:Type}{l:List α}(h:l.length=3):∃a b c,l=[a,b,c]:=by
 match l,h with
 |[a,b,c],_=>exact⟨a,b,c,rfl⟩
theorem PY{x:Bt.aX}(h:Bt.aO x=0){r:List UInt8}(hp:r.take ((Bt.aj x).length-3)=(Bt.aj x).take ((Bt.aj x).length-3))(h0:(dec r).2.2=0):r.take (Bt.aj x).length=Bt.aj x:=by
 obtain⟨hy,hl,hr⟩:=PX h0;obtain⟨y,hyd⟩:∃y,y=(dec r).1:=⟨_,rfl⟩;rw[←hyd]at hy hl hr;have hL:=nR x;have hL2:=nR y;have fx:=lS h [];have fy:=lS hy (r.drop (dec r).2.1);rw[←hr]at fy;rw[List.append_nil]at fx;have e4:Bt.eX r=Bt.eX (Bt.aj x):=by
  rw[←oQ (l:=r) (k:=(Bt.aj x).length-3) (by omega),hp,oQ (by omega)]
 have hll:(Bt.aj y).length=(Bt.aj x).length:=by omega
 have hrt:r.take (Bt.aj x).length=Bt.aj y:=by
  conv=>lhs;rw[hr]
  rw[←hll];simp
 rw[hrt];have ht:(Bt.aj y).take ((Bt.aj x).length-3)=(Bt.aj x).take ((Bt.aj x).length-3):=by
  rw[←hrt,List.take_take,Nat.min_eq_left (by omega),hp]
 have hx8:((Bt.aj x).drop 4).take 4=Bt.four (Cr.sum (Bt.body x)):=by simp[Bt.aj,Bt.four]
 have hy8:((Bt.aj y).drop 4).take 4=Bt.four (Cr.sum (Bt.body y)):=by simp[Bt.aj,Bt.four]
 have e8:((Bt.aj y).drop 4).take 4=((Bt.aj x).drop 4).take 4:=by
  have:=congrArg (fun l=>(l.drop 4).take 4) ht;simp only[List.drop_take,List.take_take]at this;rwa [Nat.min_eq_left (by omega)]at this
 rw[hx8,hy8]at e8;have es:=Bt.PV (Cr.sum_lt _) (Cr.sum_lt _) e8;have hbx:=Bt.qP x;have hby:=Bt.qP y;obtain⟨a1,a2,a3,ha⟩:=Yb (l:=(Bt.aj x).drop ((Bt.aj x).length-3)) (by rw[List.length_drop];omega);obtain⟨b1,b2,b3,hb⟩:=Yb (l:=(Bt.aj y).drop ((Bt.aj x).length-3)) (by rw[List.length_drop];omega);have sx:Bt.aj x=(Bt.aj x).take ((Bt.aj x).length-3)++[a1,a2,a3]:=by rw[←ha,List.take_append_drop]
 have sy:Bt.aj y=(Bt.aj x).take ((Bt.aj x).length-3)++[b1,b2,b3]:=by rw[←hb,←ht,List.take_append_drop]
 obtain⟨p,hpd⟩:∃p,p=(Bt.aj x).take ((Bt.aj x).length-3):=⟨_,rfl⟩;have hpl:p.length=(Bt.aj x).length-3:=by rw[hpd,List.length_take];omega
 rw[←hpd]at sx sy;have dx:Bt.body x=p.drop 8++[a1,a2,a3]:=by
  have:=congrArg (List.drop 8) sx;rw[List.drop_append_of_le_length (by omega),hbx]at this;exact this
 have dy:Bt.body y=p.drop 8++[b1,b2,b3]:=by
  have:=congrArg (List.drop 8) sy;rw[List.drop_append_of_le_length (by omega),hby]at this;exact this
 rw[dx,dy]at es;have:=Cr.sum3 _ es;rw[sx,sy,this]
theorem TE{x:Bt.aX}(h:Bt.aO x=0){c:Nat}(hc:c<(Bt.aj x).length){more:List UInt8}(hm:more.length≤3)(hn:((Bt.aj x).take c++more).take (Bt.aj x).length≠Bt.aj x):(dec ((Bt.aj x).take c++more)).2.2≠0:=by
 intro h0;have hL:=nR x;have hlt:((Bt.aj x).take c).length=c:=by rw[List.length_take];omega
 by_cases h3:(Bt.aj x).length-3≤c
 ·refine hn (PY h ?_ h0)
  rw[List.take_append_of_le_length (by omega),List.take_take,Nat.min_eq_left h3]
 ·obtain⟨hy,hl,hr⟩:=PX h0
  have fy:=lS hy (((Bt.aj x).take c++more).drop (dec ((Bt.aj x).take c++more)).2.1);rw[←hr]at fy;have hlen:=congrArg List.length hr;rw[List.length_append,List.length_append,hlt]at hlen;have hy2:=nR (dec ((Bt.aj x).take c++more)).1;have fx:=lS h [];rw[List.append_nil]at fx;have e4:Bt.eX ((Bt.aj x).take c++more)=Bt.eX (Bt.aj x):=by
   have:Bt.eX (((Bt.aj x).take c++more).take c)=Bt.eX ((Bt.aj x).take c):=by rw[List.take_append_of_le_length (by omega),List.take_take,Nat.min_self]
   rw[oQ (by omega),oQ (by omega)]at this;exact this
  omega
def Yc(was is:List UInt8)(xs:List Bt.aX)(j:Nat):Prop:=(flat (xs.take j)).length≤is.length∧is.take (flat (xs.take j)).length=was.take (flat (xs.take j)).length
theorem Eg(xs:List Bt.aX)(j:Nat):(flat xs).take (flat (xs.take j)).length=flat (xs.take j):=by
 have e:flat xs=flat (xs.take j)++flat (xs.drop j):=by rw[←bZ,List.take_append_drop]
 rw[e,List.take_left]
theorem torn{b:Int}{xs:List Bt.aX}(hc:Chain b xs){k:Nat}(hk:k≤(flat xs).length){more:List UInt8}(hm:more.length≤3){n:Nat}(hn:n≤xs.length)(hP:Yc (flat xs) ((flat xs).take k++more) xs n)
 (hE:n=xs.length∨¬Yc (flat xs) ((flat xs).take k++more) xs (n+1)):Scan b ((flat xs).take k++more) (xs.take n):=by
 obtain⟨h1,h2⟩:=hP;obtain⟨is,his⟩:∃l,l=(flat xs).take k++more:=⟨_,rfl⟩;rw[←his]at h1 h2 hE⊢;rw[Eg]at h2;have hlen:is.length=k+more.length:=by rw[his,List.length_append,List.length_take];omega
 have hs:is=flat (xs.take n)++is.drop (flat (xs.take n)).length:=by conv=>lhs;rw[←List.take_append_drop (flat (xs.take n)).length is,h2]
 rw[hs];refine Ef (hc.take n) (fun e=>?_);revert e
 rintro⟨e, -⟩;revert e
 have hrl:(is.drop (flat (xs.take n)).length).length=is.length-(flat (xs.take n)).length:=List.length_drop;rcases Nat.lt_or_ge n xs.length with hlt|hge
 ·have hE':=hE.resolve_left (by omega)
  have hsplit:flat xs=flat (xs.take n)++(Bt.aj xs[n]++flat (xs.drop (n+1))):=by
   have e:flat xs=flat (xs.take n)++flat (xs.drop n):=by rw[←bZ,List.take_append_drop]
   rw[e,List.drop_eq_getElem_cons hlt];rfl
  have htk1:flat (xs.take (n+1))=flat (xs.take n)++Bt.aj xs[n]:=by
   rw[List.take_succ_eq_append_getElem hlt,bZ,kK]
  by_cases hkn:k≤(flat (xs.take n)).length
  ·exact Me (by omega)
  ·obtain⟨c,hcd⟩:∃c,k=(flat (xs.take n)).length+c:=⟨k-(flat (xs.take n)).length,by omega⟩
   have htake:(flat xs).take k=flat (xs.take n)++(Bt.aj xs[n]++flat (xs.drop (n+1))).take c:=by
    conv=>lhs;rw[hsplit,hcd]
    rw[List.take_append,List.take_of_length_le (by omega)];congr 2
    omega
   by_cases hcB:(Bt.aj xs[n]).length≤c
   ·exfalso
    refine hE' ⟨by rw[htk1,List.length_append];omega,?_⟩;rw[his,List.take_append_of_le_length (by rw[List.length_take,htk1,List.length_append];omega),List.take_take,Nat.min_eq_left (by rw[htk1,List.length_append];omega)]
   ·have hr:is.drop (flat (xs.take n)).length=(Bt.aj xs[n]).take c++more:=by
     rw[his,htake,List.append_assoc,List.drop_left,List.take_append_of_le_length (by omega)]
    rw[hr];refine TE (hc.mem _ (List.getElem_mem hlt)) (by omega) hm (fun e=>hE' ?_);rw[←hr]at e;have e2:is.take (flat (xs.take (n+1))).length=flat (xs.take (n+1)):=by
     rw[htk1,List.length_append];conv=>lhs;rw[hs]
     rw[List.take_append,List.take_of_length_le (by omega),Nat.add_sub_cancel_left,e]
    refine⟨?_,by rw[e2,Eg]⟩;have:=congrArg List.length e2;rw[List.length_take]at this;omega
 ·have:n=xs.length:=by omega
  subst this;rw[List.take_length]at*;exact Me (by omega)
structure Pl where
 «at»:Nat
 size:Nat
 sum:Nat
 fin:Int
 latest:Int
def MB(l:Int)(rs:List Bt.Rec):Int:=rs.foldl (fun m r=>max m r.time) l
def nS(l:Int)(xs:List Bt.aX):Int:=xs.foldl (fun m x=>MB m x.recs) l
def kL(a:Nat)(l:Int):List Bt.aX→List Pl
 |[]=>[]
 |x::r=>⟨a,(Bt.aj x).length,Cr.sum (Bt.aj x),x.fin,MB l x.recs⟩::kL (a+(Bt.aj x).length) (MB l x.recs) r
theorem qU:∀(xs:List Bt.aX) (a:Nat) (l:Int),(kL a l xs).length=xs.length
 |[],_,_=>rfl
 |x::r,a,l=>by simp[kL,qU r]
theorem BI:∀(xs:List Bt.aX) (a:Nat) (l:Int) (x:Bt.aX),kL a l (xs++[x])=kL a l xs++[⟨a+(flat xs).length,(Bt.aj x).length,Cr.sum (Bt.aj x),x.fin,MB (nS l xs) x.recs⟩]
 |[],a,l,x=>by simp[kL,flat,nS]
 |y::r,a,l,x=>by
  rw[List.cons_append,kL,kL,BI r,List.cons_append];have:(flat (y::r)).length=(Bt.aj y).length+(flat r).length:=by simp[flat]
  rw[this,Nat.add_assoc];rfl
theorem JP(l:Int)(xs:List Bt.aX)(x:Bt.aX):nS l (xs++[x])=MB (nS l xs) x.recs:=by simp[nS]
theorem PZ(xs:List Bt.aX){k:Nat}(hk:k<xs.length):(kL 0 (-1) xs)[k]? =some ⟨(flat (xs.take k)).length,(Bt.aj xs[k]).length,Cr.sum (Bt.aj xs[k]),xs[k].fin,nS (-1) (xs.take (k+1))⟩:=by
 have aux:∀(xs:List Bt.aX) (k:Nat) (hk:k<xs.length) (a:Nat) (l:Int),(kL a l xs)[k]? =some ⟨a+(flat (xs.take k)).length,(Bt.aj xs[k]).length,Cr.sum (Bt.aj xs[k]),xs[k].fin,nS l (xs.take (k+1))⟩:=by
  intro xs;induction xs with
  |nil=>intro k hk;simp at hk
  |cons x r ih=>
   intro k hk a l;cases k with
   |zero=>simp[kL,flat,nS]
   |succ k=>
    have hk':k<r.length:=by simpa using hk
    rw[kL,List.getElem?_cons_succ,ih k hk'];have:(flat ((x::r).take (k+1))).length=(Bt.aj x).length+(flat (r.take k)).length:=by simp[flat]
    rw[this,Nat.add_assoc];simp[nS]
 have:=aux xs k hk 0 (-1);rw[Nat.zero_add]at this;exact this
end Sg
end
section
open Go.RowKit Go.Maps
set_option maxRecDepth 100000
set_option linter.unusedSimpArgs false
set_option linter.unusedVariables false
attribute [local go_sem] Oper.semAt_some
namespace Sg
def BJ(p:Pl):List Value:=[.int .i64 p.at, .int .i64 p.size, .int .i64 p.sum, .int .i64 p.fin, .int .i64 p.latest]
theorem uy:∀p,(BJ p).length=5:=fun _=>rfl
def xU(p:Pl):Value:= .agg (BJ p).toArray
def P5:Pl:=⟨0,0,0,0,0⟩
structure bu(w:World)(base d sb:Nat)(sv:Value)(file:ByteArray)(b0:Int)(ps:List Pl):Prop where
 box:w.heap[sb]? =some (.cells #[.pointer (some ⟨d,0,none⟩), .string file, .int .i64 b0,sv] 209 (0,0))
 row:aH 253 5 BJ w base sv ps
 low:base≤sb
def bJ(sb:Nat)(sv:Value):List Nat:=sb::sv.ownBlock.toList
section
variable {w w':World} {base d sb:Nat} {sv:Value} {file:ByteArray} {b0:Int} {ps:List Pl}
theorem bu.kept{S:List Nat}(h:bu w base d sb sv file b0 ps)(ht:Turn S w w')(hn:∀k∈bJ sb sv,k∉S):bu w' base d sb sv file b0 ps:=
 ⟨ht.heap h.box (hn sb (by simp[bJ])),h.row.kept ht (fun k hk=>hn k (by simp[bJ];exact .inr (by simpa using hk))),h.low⟩
theorem bu.still(h:bu w base d sb sv file b0 ps)(ht:Turn [] w w'):bu w' base d sb sv file b0 ps:=h.kept ht (by simp)
theorem bu.lt(h:bu w base d sb sv file b0 ps):∀k∈bJ sb sv,base≤k∧k<w.heap.size:=by
 intro k hk;simp only[bJ,List.mem_cons,Option.mem_toList]at hk;rcases hk with rfl|hk
 ·exact⟨h.low,lt_of_heap h.box⟩
 ·exact h.row.lt k hk
theorem bu.c0(h:bu w base d sb sv file b0 ps):w.cell? ⟨sb,0,none⟩=some (.pointer (some ⟨d,0,none⟩)):=by rw[cell_of h.box];rfl
theorem bu.c1(h:bu w base d sb sv file b0 ps):w.cell? ⟨sb,1,none⟩=some (.string file):=by rw[cell_of h.box];rfl
theorem bu.c2(h:bu w base d sb sv file b0 ps):w.cell? ⟨sb,2,none⟩=some (.int .i64 b0):=by rw[cell_of h.box];rfl
theorem bu.c3(h:bu w base d sb sv file b0 ps):w.cell? ⟨sb,3,none⟩=some sv:=by rw[cell_of h.box];rfl
theorem bu.fr(h:bu w base d sb sv file b0 ps)(i:Nat):w.frozen? ⟨sb,i,none⟩=false:=af h.box i
end
theorem P6(w:World):(sizeOf 253).run Tryz.prog w= .ok 5 w:=by kernel_rfl
theorem Yd(w:World):(isAgg 253).run Tryz.prog w= .ok true w:=by kernel_rfl
theorem MC{w:World}{a:Addr}{p:Pl}(h:∀i,i<5→w.cell? (a.add i)=(BJ p)[i]?):(loadVar 253 a).run Tryz.prog w= .ok (xU p) w:=by
 have c0:w.cell? (a.add 0)=some (.int .i64 p.at):=h 0 (by omega);have c1:w.cell? (a.add 1)=some (.int .i64 p.size):=h 1 (by omega);have c2:w.cell? (a.add 2)=some (.int .i64 p.sum):=h 2 (by omega);have c3:w.cell? (a.add 3)=some (.int .i64 p.fin):=h 3 (by omega);have c4:w.cell? (a.add 4)=some (.int .i64 p.latest):=h 4 (by omega);simp[loadVar,Yd,P6,Result.andThen,loadCells,loadCellsFrom,xU,BJ,c0,c1,c2,c3,c4]
theorem BK{w:World}{Y:Nat}{p:Pl}(h:w.heap[Y]? =some (.cells (BJ p).toArray 253 (0,0))):(loadVar 253 ⟨Y,0,none⟩).run Tryz.prog w= .ok (xU p) w:=by
 refine MC fun i hi=>?_
 rw[addr_add,cell_of h];simp
theorem MF{w:World}{base:Nat}{sv:Value}{ps:List Pl}(h:aH 253 5 BJ w base sv ps){j:Nat}(hj:j<ps.length):
 ∃g cap,sv= .slice (some ⟨g,0,none⟩) ps.length cap∧(loadVar 253 ⟨g,j*5,none⟩).run Tryz.prog w= .ok (xU ps[j]) w:=by
 obtain⟨g,cap,e,hc,_⟩:=h.at uy hj;refine⟨g,cap,e,MC fun i hi=>?_⟩;have:(⟨g,j*5,none⟩:Addr).add i=⟨g,j*5+i,none⟩:=by unfold Addr.add;split<;>simp_all
 rw[this];exact hc i hi
def BL(w:World)(X:Nat)(p:Pl):World:=((((w.setCell ⟨X,0,none⟩ (.int .i64 p.at)).setCell ⟨X,1,none⟩ (.int .i64 p.size)).setCell ⟨X,2,none⟩ (.int .i64 p.sum)).setCell ⟨X,3,none⟩ (.int .i64 p.fin)).setCell ⟨X,4,none⟩ (.int .i64 p.latest)
theorem VR{w:World}{X:Nat}{a0 a1 a2 a3 a4:Value}(h:w.heap[X]? =some (.cells #[a0,a1,a2,a3,a4] 253 (0,0))) (p:Pl):
 (loadVar 253 ⟨X,0,none⟩).run Tryz.prog (BL w X p)= .ok (xU p) (BL w X p)∧(BL w X p).heap[X]? =some (.cells (BJ p).toArray 253 (0,0))∧Turn [X] w (BL w X p):=by
 have hy:(BL w X p).heap[X]? =some (.cells (BJ p).toArray 253 (0,0)):=by
  have:=heap_set (heap_set (heap_set (heap_set (heap_set h 0 (.int .i64 p.at)) 1 (.int .i64 p.size)) 2 (.int .i64 p.sum)) 3 (.int .i64 p.fin)) 4 (.int .i64 p.latest);simpa[BL,BJ]using this
 exact⟨BK hy,hy,(((((Turn.refl [X] w).setCell (.inl (by simp)) _).setCell (.inl (by simp)) _).setCell (.inl (by simp)) _).setCell (.inl (by simp)) _).setCell (.inl (by simp)) _⟩
set_option maxHeartbeats 2000000 in
theorem last_none(w:World)(base d sb:Nat)(sv:Value)(file:ByteArray)(b0:Int)(h:bu w base d sb sv file b0 []):
 Calls Tryz.prog 177 #[.pointer (some ⟨sb,0,none⟩)] w fun e w'=>e= .returned (.tuple #[xU P5, .bool false])∧Turn [] w w':=by
 obtain⟨a,c,hsv, -, -⟩:=h.row.form;subst hsv;have c3:=h.c3;simp only[List.length_nil]at c3;have hlt:=lt_of_heap h.box;clear h;go_enter Tryz.func177,Tryz.ntmps177
 go_wp2
 have hld:(loadVar 253 ⟨w.heap.size,0,none⟩).run Tryz.prog (w.alloc (.cells #[.int .i64 0, .int .i64 0, .int .i64 0, .int .i64 0, .int .i64 0] 253))= .ok (xU P5) (w.alloc (.cells #[.int .i64 0, .int .i64 0, .int .i64 0, .int .i64 0, .int .i64 0] 253)):=BK (p:=P5) (ae w _);refine bodyPost_ret (v:= .tuple #[xU P5, .bool false]) ?_ rfl ⟨rfl,(Turn.refl [] w).alloc _⟩;simp[results,Tryz.results177,asAddr,hld,Result.andThen]
set_option maxHeartbeats 2000000 in
theorem NW(w:World)(base d sb:Nat)(sv:Value)(file:ByteArray)(b0:Int)(ps:List Pl)(p:Pl)(h:bu w base d sb sv file b0 (ps++[p]))(hl:ps.length≤1000000):
 Calls Tryz.prog 177 #[.pointer (some ⟨sb,0,none⟩)] w fun e w'=>e= .returned (.tuple #[xU p, .bool true])∧Turn [] w w':=by
 obtain⟨g,cap,hsv,hld⟩:=MF h.row (j:=ps.length) (by simp);subst hsv;have c3:=h.c3;simp only[List.length_append,List.length_singleton]at c3;have hlt:=lt_of_heap h.box;have HS:=hide h;clear h hld;go_enter Tryz.func177,Tryz.ntmps177
 go_wp2
 obtain⟨wr,hwr⟩:∃wr,wr=w.alloc (.cells #[.int .i64 0, .int .i64 0, .int .i64 0, .int .i64 0, .int .i64 0] 253):=⟨_,rfl⟩;rw[←hwr];have hX:wr.heap[w.heap.size]? =some (.cells #[.int .i64 0, .int .i64 0, .int .i64 0, .int .i64 0, .int .i64 0] 253 (0,0)):=by rw[hwr];exact ae w _
 have HT:Hid (Turn [] w wr):=by rw[hwr];exact(Turn.refl [] w).alloc _
 have hXs:w.heap.size<wr.heap.size:=lt_of_heap hX;have HX:=hide hX;clear hwr hX c3;refine aB 12 (Turn []) (by kernel_rfl) (by kernel_rfl) (by kernel_rfl) (by kernel_rfl) (by kernel_rfl) (Nat.le_of_ble_eq_true rfl) rfl (Turn.refl _) (fun _ _ _ h k=>h.same k) ?_;apply Lo.ag 1 rfl rfl [] (by kernel_rfl) (Turn.refl _);apply Exists.intro;apply And.intro
 ·intro u w1 hR hF
  clear hF;refine⟨rfl,fun a ha K hK=>?_⟩;have e0:=ha 0;conv at e0=>rhs;whnf
  clear ha;go_simp
  refine hK _ ?_;rfl
 apply Lo.ag 2 rfl rfl [0] (by kernel_rfl) (Turn.refl _);apply Exists.intro;apply And.intro
 ·intro u w1 hR hF
  obtain⟨h0, -⟩:=hF;refine⟨rfl,fun a ha K hK=>?_⟩;have e11:=(ha 11).trans h0;clear ha h0;go_simp
  refine hK _ ?_;rfl
 apply Lo.ag 3 rfl rfl [1] (by kernel_rfl) (Turn.refl _);apply Exists.intro;apply And.intro
 ·intro u w1 hR hF
  obtain⟨h1, -⟩:=hF;refine⟨rfl,fun a ha K hK=>?_⟩;have e12:=(ha 12).trans h1;clear ha h1;go_simp
  refine hK _ ?_;rfl
 apply Lo.ag 4 rfl rfl [2] (by kernel_rfl) (Turn.refl _);apply Exists.intro;apply And.intro
 ·intro u w1 hR hF
  obtain⟨h2, -⟩:=hF;refine⟨rfl,fun a ha K hK=>?_⟩;have e13:=(ha 13).trans h2;clear ha h2;have c3:=(HS.out.still (HT.out.same ((Turn.refl [] wr).drew.same hR))).c3;simp only[List.length_append,List.length_singleton]at c3;go_simp
  refine hK _ ?_;rfl
 apply Lo.ag 5 rfl rfl [] (by kernel_rfl) (Turn.refl _);apply Exists.intro;apply And.intro
 ·intro u w1 hR hF
  clear hF;refine⟨rfl,fun a ha K hK=>?_⟩;have e0:=ha 0;conv at e0=>rhs;whnf
  clear ha;go_simp
  refine hK _ ?_;rfl
 apply Lo.ag 6 rfl rfl [4] (by kernel_rfl) (Turn.refl _);apply Exists.intro;apply And.intro
 ·intro u w1 hR hF
  obtain⟨h4, -⟩:=hF;refine⟨rfl,fun a ha K hK=>?_⟩;have e15:=(ha 15).trans h4;clear ha h4;go_simp
  refine hK _ ?_;rfl
 apply Lo.ag 7 rfl rfl [5] (by kernel_rfl) (Turn.refl _);apply Exists.intro;apply And.intro
 ·intro u w1 hR hF
  obtain⟨h5, -⟩:=hF;refine⟨rfl,fun a ha K hK=>?_⟩;have e16:=(ha 16).trans h5;clear ha h5;go_simp
  refine hK _ ?_;rfl
 apply Lo.ag 8 rfl rfl [6] (by kernel_rfl) (Turn.refl _);apply Exists.intro;apply And.intro
 ·intro u w1 hR hF
  obtain⟨h6, -⟩:=hF;refine⟨rfl,fun a ha K hK=>?_⟩;have e17:=(ha 17).trans h6;clear ha h6;have c3:=(HS.out.still (HT.out.same ((Turn.refl [] wr).drew.same hR))).c3;simp only[List.length_append,List.length_singleton]at c3;go_simp
  refine hK _ ?_;rfl
 apply Lo.ag 9 rfl rfl [7] (by kernel_rfl) (Turn.refl _);apply Exists.intro;apply And.intro
 ·intro u w1 hR hF
  obtain⟨h7, -⟩:=hF;refine⟨rfl,fun a ha K hK=>?_⟩;have e18:=(ha 18).trans h7;clear ha h7;go_simp
  refine hK _ ?_;rfl
 refine Lo.aJ 10 rfl rfl [8] (.int .i64 (ps.length:Int)) (by kernel_rfl) (fun u w1 hR hF=>?_) (Turn.refl _) ?_
 ·obtain⟨h8, -⟩:=hF
  refine⟨rfl,fun a ha K hK=>?_⟩;have e19:=(ha 19).trans h8;clear ha h8;go_simp
  refine hK _ ?_;rw[IntWalk.i64_left,IntWalk.wrap64_in _ (by omega)]
 refine Lo.aJ 11 rfl rfl [3,9] (.pointer (some ⟨g,ps.length*5,none⟩)) (by kernel_rfl) (fun u w1 hR hF=>?_) (Turn.refl _) ?_
 ·obtain⟨h3,h9, -⟩:=hF
  refine⟨rfl,fun a ha K hK=>?_⟩;have e14:=(ha 14).trans h3;have e20:=(ha 20).trans h9;clear ha h3 h9;have h10:(ps.length:Int)<ps.length+1:=by omega
  go_simp
  refine hK _ ?_;rfl
 refine Lo.aJ 12 rfl rfl [10] (xU p) (by kernel_rfl) (fun u w1 hR hF=>?_) (Turn.refl _) ?_
 ·obtain⟨h10, -⟩:=hF
  refine⟨rfl,fun a ha K hK=>?_⟩;have e21:=(ha 21).trans h10;clear ha h10;have hc:∀i,i<5→w1.cell? ⟨g,ps.length*5+i,none⟩=(BJ p)[i]? :=by
   obtain⟨g',cap',e,hc,_⟩:=(HS.out.still (HT.out.same ((Turn.refl [] wr).drew.same hR))).row.at uy (j:=ps.length) (by simp);simp at e;obtain⟨rfl,rfl⟩:=e;simpa using hc
  have k0:w1.cell? ⟨g,ps.length*5,none⟩=some (.int .i64 p.at):=hc 0 (by omega);have k1:w1.cell? ⟨g,ps.length*5+1,none⟩=some (.int .i64 p.size):=hc 1 (by omega);have k2:w1.cell? ⟨g,ps.length*5+2,none⟩=some (.int .i64 p.sum):=hc 2 (by omega);have k3:w1.cell? ⟨g,ps.length*5+3,none⟩=some (.int .i64 p.fin):=hc 3 (by omega);have k4:w1.cell? ⟨g,ps.length*5+4,none⟩=some (.int .i64 p.latest):=hc 4 (by omega);clear hc;go_simp
  refine hK _ ?_;rfl
 refine Lo.done [11] (fun u w1 bP hSd hF=>?_);clear hSd;obtain⟨f11, -⟩:=hF;have d11:u 11=_:=f11;clear f11;simp only[List.take_succ_cons,List.take_zero,List.drop_succ_cons,List.drop_zero,ax,Act.put,List.setIfInBounds_toArray,List.set_cons_succ,List.set_cons_zero,Nat.zero_add,Nat.reduceAdd,d11];have ht1:Turn [] w w1:=HT.out.same ((Turn.refl [] wr).drew.same bP);have hY:=bP.heap (show wr.drew.heap[w.heap.size]? =_ from HX.out) (by simp)
 have hXw:=lt_of_heap hY;have y0:w1.cell? ⟨w.heap.size,0,none⟩=some (.int .i64 0):=by simpa using cell_of hY 0
 have y1:w1.cell? ⟨w.heap.size,1,none⟩=some (.int .i64 0):=by simpa using cell_of hY 1
 have y2:w1.cell? ⟨w.heap.size,2,none⟩=some (.int .i64 0):=by simpa using cell_of hY 2
 have y3:w1.cell? ⟨w.heap.size,3,none⟩=some (.int .i64 0):=by simpa using cell_of hY 3
 have y4:w1.cell? ⟨w.heap.size,4,none⟩=some (.int .i64 0):=by simpa using cell_of hY 4
 have q0:w1.frozen? ⟨w.heap.size,0,none⟩=false:=af hY 0;have q1:w1.frozen? ⟨w.heap.size,1,none⟩=false:=af hY 1;have q2:w1.frozen? ⟨w.heap.size,2,none⟩=false:=af hY 2;have q3:w1.frozen? ⟨w.heap.size,3,none⟩=false:=af hY 3;have q4:w1.frozen? ⟨w.heap.size,4,none⟩=false:=af hY 4;have HY:=hide hY;have HT1:=hide ht1;clear hY ht1 bP hXs;clear d11;rw[show xU p= .agg #[.int .i64 p.at, .int .i64 p.size, .int .i64 p.sum, .int .i64 p.fin, .int .i64 p.latest]from rfl];go_wp2
 obtain⟨hld, -,ht2⟩:=VR HY.out p;unfold BL at hld ht2;refine bodyPost_ret (v:= .tuple #[xU p, .bool true]) (by simp[results,Tryz.results177,asAddr,hld,Result.andThen]) rfl ⟨rfl,HT1.out.trans ht2 (fun k hk=> .inr (by simp at hk;omega))⟩
def lastOf(ps:List Pl):Pl:=ps.getLast?.getD P5
theorem last_any(w:World)(base d sb:Nat)(sv:Value)(file:ByteArray)(b0:Int)(ps:List Pl)(h:bu w base d sb sv file b0 ps)(hl:ps.length≤1000000):
 Calls Tryz.prog 177 #[.pointer (some ⟨sb,0,none⟩)] w fun e w'=>e= .returned (.tuple #[xU (lastOf ps), .bool !ps.isEmpty])∧Turn [] w w':=by
 rcases List.eq_nil_or_concat ps with rfl|⟨qs,p,rfl⟩
 ·exact last_none w base d sb sv file b0 h
 ·rw[List.concat_eq_append]at h hl⊢
  have:=NW w base d sb sv file b0 qs p h (by simp at hl;omega);have e1:lastOf (qs++[p])=p:=by simp[lastOf]
  have e2:(!(qs++[p]).isEmpty)=true:=by simp
  rw[e1,e2];exact this
def qx(b0:Int)(ps:List Pl):Int:=if ps.isEmpty then b0 else(lastOf ps).fin
def nT(ps:List Pl):Nat:=(lastOf ps).at+(lastOf ps).size
def iC(ps:List Pl):Int:=if ps.isEmpty then-1 else(lastOf ps).latest
set_option maxHeartbeats 1000000 in
theorem next_any(w:World)(base d sb:Nat)(sv:Value)(file:ByteArray)(b0:Int)(ps:List Pl)(h:bu w base d sb sv file b0 ps)(hl:ps.length≤1000000):
 Calls Tryz.prog 133 #[.pointer (some ⟨sb,0,none⟩)] w fun e w'=>e= .returned (.int .i64 (qx b0 ps))∧Turn [] w w':=by
 have HS:=hide h;have hlt:=lt_of_heap h.box;have hla:=last_any w base d sb sv file b0 ps h hl;unfold xU BJ at hla;cases hb:ps.isEmpty with
 |true=>
  have HN:Hid (qx b0 ps=b0):=by show _=_;simp[qx,hb]
  rw[hb]at hla;clear h hb;go_enter Tryz.func133,Tryz.ntmps133
  go_wp2_with fail
  refine hla.mono ?_;rintro e w1 ⟨rfl,ht1⟩;have c2:=(HS.out.still ht1).c2;have hlt1:=lt_of_heap (HS.out.still ht1).box;have HT1:=hide ht1;clear ht1 hla;go_wp2
  go_ret
  exact⟨oD HN.out.symm,HT1.out.alloc _⟩
 |false=>
  have HN:Hid (qx b0 ps=(lastOf ps).fin):=by show _=_;simp[qx,hb]
  rw[hb]at hla;clear h hb;go_enter Tryz.func133,Tryz.ntmps133
  go_wp2_with fail
  refine hla.mono ?_;rintro e w1 ⟨rfl,ht1⟩;have HT1:=hide ht1;clear ht1 hla;go_wp2
  go_ret
  exact⟨oD HN.out.symm,HT1.out.alloc _⟩
set_option maxHeartbeats 1000000 in
theorem JQ(w:World)(base d sb:Nat)(sv:Value)(file:ByteArray)(b0:Int)(ps:List Pl)(h:bu w base d sb sv file b0 ps)(hl:ps.length≤1000000):
 Calls Tryz.prog 270 #[.pointer (some ⟨sb,0,none⟩)] w fun e w'=>e= .returned (.int .i64 (iC ps))∧Turn [] w w':=by
 have HS:=hide h;have hlt:=lt_of_heap h.box;have hla:=last_any w base d sb sv file b0 ps h hl;unfold xU BJ at hla;cases hb:ps.isEmpty with
 |true=>
  have HN:Hid (iC ps= -1):=by show _=_;simp[iC,hb]
  rw[hb]at hla;clear h hb;go_enter Tryz.func270,Tryz.ntmps270
  go_wp2_with fail
  refine hla.mono ?_;rintro e w1 ⟨rfl,ht1⟩;have HT1:=hide ht1;clear ht1 hla;go_wp2
  go_ret
  exact⟨oD HN.out.symm,HT1.out.alloc _⟩
 |false=>
  have HN:Hid (iC ps=(lastOf ps).latest):=by show _=_;simp[iC,hb]
  rw[hb]at hla;clear h hb;go_enter Tryz.func270,Tryz.ntmps270
  go_wp2_with fail
  refine hla.mono ?_;rintro e w1 ⟨rfl,ht1⟩;have HT1:=hide ht1;clear ht1 hla;go_wp2
  go_ret
  exact⟨oD HN.out.symm,HT1.out.alloc _⟩
set_option maxHeartbeats 1000000 in
theorem size_any(w:World)(base d sb:Nat)(sv:Value)(file:ByteArray)(b0:Int)(ps:List Pl)(h:bu w base d sb sv file b0 ps)(hl:ps.length≤1000000)(hs:nT ps≤1099511627776):
 Calls Tryz.prog 186 #[.pointer (some ⟨sb,0,none⟩)] w fun e w'=>e= .returned (.int .i64 (nT ps))∧Turn [] w w':=by
 have hla:=last_any w base d sb sv file b0 ps h hl;unfold xU BJ at hla;unfold nT at hs⊢;clear h;go_enter Tryz.func186,Tryz.ntmps186
 go_wp2_with fail
 refine hla.mono ?_;rintro e w1 ⟨rfl,ht1⟩;have HT1:=hide ht1;clear ht1 hla;go_wp2
 go_ret
 exact⟨oD (by omega),HT1.out.alloc _⟩
theorem JR(w:World)(base d sb:Nat)(sv:Value)(file:ByteArray)(b0:Int)(ps:List Pl)(h:bu w base d sb sv file b0 ps):
 Calls Tryz.prog 89 #[.pointer (some ⟨sb,0,none⟩)] w fun e w'=>e= .returned (.int .i64 b0)∧w=w':=by
 have c2:=h.c2;clear h;go_enter Tryz.func89,Tryz.ntmps89
 go_wp2
 go_ret
 exact⟨rfl,rfl⟩
theorem sS(xs:List Bt.aX)(x:Bt.aX):lastOf (kL 0 (-1) (xs++[x]))=⟨(flat xs).length,(Bt.aj x).length,Cr.sum (Bt.aj x),x.fin,nS (-1) (xs++[x])⟩:=by
 unfold lastOf;rw[BI,List.getLast?_concat,Nat.zero_add,JP];rfl
theorem Eh(xs:List Bt.aX):(kL 0 (-1) xs).isEmpty=xs.isEmpty:=by cases xs<;>rfl
theorem Ei(b0:Int)(xs:List Bt.aX):qx b0 (kL 0 (-1) xs)=aA b0 xs:=by
 rcases List.eq_nil_or_concat xs with rfl|⟨ys,x,rfl⟩
 ·rfl
 ·rw[List.concat_eq_append];unfold qx;rw[Eh,sS,qw];simp
theorem qV(xs:List Bt.aX):nT (kL 0 (-1) xs)=(flat xs).length:=by
 rcases List.eq_nil_or_concat xs with rfl|⟨ys,x,rfl⟩
 ·rfl
 ·rw[List.concat_eq_append];unfold nT;rw[sS,bZ,List.length_append,kK]
theorem Hr(xs:List Bt.aX):iC (kL 0 (-1) xs)=nS (-1) xs:=by
 rcases List.eq_nil_or_concat xs with rfl|⟨ys,x,rfl⟩
 ·rfl
 ·rw[List.concat_eq_append];unfold iC;rw[Eh,sS];simp
end Sg
end
end Go.Proofs.YtmjpdhpmjmgmaaaGreatDoor
