/- Lemmas of the claim, part n of 14. -/
import Derived.Test.YtmjpdhpmjmgmaaaGreatDoorMm
import Derived.Deep.CutBlock
import Derived.Deep.DeepCutAuto
import Derived.Test.YtmjpdhpmjmgmaaaGreatDoorRows
import Derived.Test.YtmjpdhpmjmgmaaaGreatDoorMe
import Derived.Test.YtmjpdhpmjmgmaaaGreatDoorMf
import Derived.LaidSub
import Derived.MakeChecks
import Derived.LaidHandle
import Derived.Stop.LaidErr
import Derived.Lib.LaidTab
namespace Go.Proofs.YtmjpdhpmjmgmaaaGreatDoor
set_option maxRecDepth 100000
set_option linter.unusedSimpArgs false
set_option linter.unusedVariables false
section
open Go.RowKit Go.Maps
attribute [local go_sem] Oper.semAt_some
open Lg
open Wh (IR Dq)
namespace Br
theorem nO.still{w w':World}{base d sb mo:Nat}{eU bytes:Int}{F:List Nat}{room b mb:Nat}{WF:List Nat}(h:nO w base d sb mo eU bytes F room b mb WF)(ht:Turn [] w w'):nO w' base d sb mo eU bytes F room b mb WF:=
 ⟨h.bare.still ht,h.dL.kept ht (by simp),h.map.still ht,h.low,h.sw,h.sm,h.wm⟩
theorem SB(k:Nat)(l:List Wo):(opens k l).length≤l.length:=by
 induction l generalizing k with
 |nil=>simp[opens]
 |cons o t ih=>
  unfold opens;have:=ih (k+1);split<;>simp<;>omega
theorem Lu{W w:World}{b ab nb:Nat}{pv:Value}{ps:List Int}{av:Value}{all:List Wo}{q:List Wq}{vals:List (List UInt8)}{now i base:Nat}{outs:List Ot}{ks:List Nat}{ov:Value}(hL:ik W w b ab nb pv ps av all q vals now now i)(ho:bU w base ov outs)(hlen:outs.length≤1000)(hck:sH all now outs ks)(hal:all.length≤1000):
 Calls Tryz.prog 8 #[ov, .pointer (some ⟨ab,0,none⟩), .pointer (some ⟨nb,0,none⟩)] w fun e w'=>e= .returned (.bool true)∧ik W w' b ab nb pv ps av (fK ks 0 all) q vals now now i:=by
 refine(check_any w base _ ov outs ab nb av all now ks ho hL.box hL.uP hL.row hck hlen hal).mono ?_;rintro e w' ⟨rfl,hr,ht⟩;have hk:∀k∈av.ownBlock.toList,∃cs fr,w.heap[k]? =some (.cells cs 45 fr):=fun k hk=>by
  obtain⟨cs,e⟩:=hL.row.kind k (by simpa using hk);exact⟨cs,_,e⟩
 refine⟨rfl,hL.Dn ht (fun k hm=>by obtain⟨cs,fr,e⟩:=hk k hm;exact⟨cs,_,fr,e, .inr (.inr rfl)⟩),hL.rise,hL.stay,ht.heap hL.box (fun hm=>?_),hr,ht.heap hL.uP (fun hm=>?_),hL.puts.kept ht (fun k hk2 hm=>?_),hL.Sz,hL.DL,hL.DN,hL.turn.trans ht (fun k hk2=> .inr (hL.row.lt k (by simpa using hk2)).1)⟩
 ·obtain⟨cs,fr,e⟩:=hk _ hm
  exact Lg.ai e hL.box (by decide) rfl
 ·obtain⟨cs,fr,e⟩:=hk _ hm
  exact Lg.ai e hL.uP (by decide) rfl
 ·obtain⟨cs,fr,e⟩:=hk _ hm
  obtain⟨cs2,e2⟩:=hL.puts.kind k hk2;exact Lg.ai e e2 (by decide) rfl
theorem ik.start{W w w2:World}{d sb:Nat}{SF WF:List Nat}{mb b:Nat}(h:dG w W.heap.size d sb 100000 b SF WF mb 0 0 [] [])(hW:Turn [] W w)(ht:Turn [] w w2){ab nb:Nat}(ha:w2.heap[ab]? =some (.cells #[.slice none 0 0] 36 (0,0))) (hn:w2.heap[nb]? =some (.cells #[.int .i64 0] 3 (0,0))) (h1:w.heap.size≤ab) (h2:w.heap.size≤nb):ik W w2 b ab nb (.slice none 0 0) [] (.slice none 0 0) [] [] [] 0 0 0:=by
 have hz:=hW.size;exact⟨⟨d,sb,SF,WF,mb,0,h.still ht,Nat.le_refl _,by simp⟩,List.Pairwise.nil,by simp,ha, .inl ⟨rfl,rfl⟩,hn, .inl ⟨rfl,rfl⟩,by simp[Value.ownBlock],by omega,by omega,hW.same ht⟩
set_option maxHeartbeats 16000000 in
theorem XM(W:World)(v1:Value)(rs:List Xy)(h1:Dj W v1 rs)(hv:Sn.dA W)(hg:As.lM W):
 Calls Tryz.prog 3 #[v1] W fun e w'=>e= .returned (.bool true)∧Below W.heap.size W w':=by
 obtain⟨a1,c1,rfl,hlc1,hcm1⟩:=(show ∃a c,v1= .slice a rs.length c∧rs.length≤c∧c≤maxLen from by obtain⟨a,c,h,h2,h3, -⟩:=h1;exact⟨a,c,h,h2,h3⟩);have hmx:maxLen=9223372036854775807:=by simp[maxLen]
 rw[hmx]at hcm1;have H1:=hide h1;have HV:Hid (∀Z,Turn [] W Z→Sn.dA Z∧As.lM Z):=fun Z hZ=>⟨hv.below hZ.nil,hg.below hZ.nil⟩
 clear h1 hv hg;by_cases hl:60<(rs.length:Int)
 ·go_enter Tryz.func3,Tryz.ntmps3
  go_wp2
  go_ret
  exact⟨rfl,Below.refl _ _⟩
 go_enter Tryz.func3,Tryz.ntmps3
 go_wp2_with fail
 have hso:=xO W 100000 (by omega) (by omega);refine hso.mono ?_;rintro e w1 ⟨sb,d,F,rfl,hbare,hlo,ht1⟩;have hs1:=ht1.size;have HB1:=hide hbare;have Xq:=hide hlo;have HT1:=hide ht1;clear hbare hlo ht1 hso;go_wp2_with fail
 refine(Nr w1 sb W.heap.size (by omega)).mono ?_;rintro e w2 ⟨b,mb,WF,rfl,hwh,hmp,hmb,hbb,hwm,hwf,ht2⟩;have hfr:=Jf HB1.out (by omega) hwh hmp hmb hwm hwf ht2;have hs2:=ht2.size;have HT2:=hide (HT1.out.same ht2);have U5:=hide hfr;clear hwh hmp hmb hbb hwm hwf ht2 hfr HB1;go_wp2_with fail
 refine(Sr w2 (fun Z hZ=>HV.out Z (HT2.out.same hZ))).mono ?_;rintro e w3 ⟨rfl,ht3⟩;have HT3:=hide (HT2.out.same ht3);have Zq:=hide (U5.out.still ht3);clear ht3 U5 HT2;go_wp2_with fail
 refine(EK Zq.out (fun Z hZ=>(HV.out Z (HT3.out.trans hZ (fun k hk=> .inr (Xq.out k (List.mem_cons_of_mem _ hk))))).1) 0).mono ?_;rintro e w4 ⟨ov0,SF,rfl,hh4,ht4,hf4⟩;have HH4:=hide hh4;have HT4:Hid (Turn [] W w4):=HT3.out.trans ht4 (fun k hk=> .inr (Xq.out k hk));clear hh4 ht4 hf4 Zq HT3 HT1 Xq hs1 hs2;go_wp2
 have hL0:=ik.start HH4.out HT4.out (((Turn.refl [] w4).alloc (.cells #[.slice none 0 0] 36)).alloc (.cells #[.int .i64 0] 3)) (ab:=w4.heap.size) (nb:=w4.heap.size+1) (((Turn.refl [] _).alloc _).heap (ae w4 _) (by simp)) (by rw[←World.size_alloc w4 (.cells #[.slice none 0 0] 36)];exact ae _ _) (Nat.le_refl _) (Nat.le_succ _);have HL0:=hide hL0;clear hL0;obtain⟨ab,hab⟩:∃ab,ab=w4.heap.size:=⟨_,rfl⟩;obtain⟨nb,hnb⟩:∃nb,nb=w4.heap.size+1:=⟨_,rfl⟩;rw[←hnb,←hab]at HL0;rw[←hnb,←hab];clear hab hnb;go_loopw [6,7,9,11] (fun bv cv pv iv wr=>∃(i:Nat) (vals:List (List UInt8)) (q:List Wq) (all:List Wo) (av:Value) (now:Nat),i≤rs.length∧iv= .int .i64 i∧bv= .int .i64 (dZ vals:Nat)∧cv= .int .i64 (vals.length:Nat)∧ik W wr b ab nb pv (mM vals) av all q vals now now i∧opens 0 all=q.map keyOf∧vals.length≤i∧all.length≤i∧now≤40*i) (fun _ _ _ iv _=>rs.length-(intOf iv).toNat)
 case atStart=>exact⟨0,[],[],[],_,0,Nat.zero_le _,rfl,rfl,rfl,HL0.out,rfl,Nat.le_refl _,Nat.le_refl _,Nat.le_refl _⟩
 case round=>
  obtain⟨i,vals,q,all,av,now,hi,rfl,rfl,rfl,hL,hop,hvl,hal,hno⟩:=hrel;have HL:=hide hL;have Vg:=hide hop;have hsum:=KG (vs:=vals) (fun v hv=>by obtain⟨d,sb,SF,WF,mb,came,hh, -⟩:=hL.house;exact hh.store.few.2 v hv);clear hL hop HL0;by_cases hlt:i<rs.length
  ·obtain⟨p,rfl,hok,g0,g1,g2,g3⟩:=(H1.out.kept HL.out.turn (by simp)).four hlt
   obtain⟨x,hx⟩:∃x,x=rs[i]:=⟨_,rfl⟩;rw[←hx]at hok g0 g1 g2 g3;have IC:=hide hok;clear hx hok;go_upto_block 2 with fail
   obtain⟨w5,hw5⟩:∃w5,w5=wr.alloc (.cells #[.int .i64 x.what, .int .i64 x.least, .int .i64 x.wait, .string ⟨x.value.toArray⟩] 50):=⟨_,rfl⟩;refine Df hw5 ?_;have hbx:w5.heap[wr.heap.size]? =some (.cells #[.int .i64 x.what, .int .i64 x.least, .int .i64 x.wait, .string ⟨x.value.toArray⟩] 50 (0,0)):=by rw[hw5];exact ae wr _
   have hL5:ik W w5 b ab nb u9 (mM vals) av all q vals now now i:=HL.out.still (by rw[hw5];exact(Turn.refl [] wr).alloc _);obtain⟨la,lc,rfl,hpc1,hpc2⟩:=hL5.puts.form;rw[lX]at*;have HL5:=hide hL5;have Gs:=hide hbx;have hi60:i<60:=by omega
   have E5:=hide hlt;clear hw5 hL5 hbx g0 g1 g2 g3 HL hlt;obtain⟨X,hX⟩:∃X,X=wr.heap.size:=⟨_,rfl⟩;rw[←hX]at Gs;rw[←hX];clear hX;go_cut [6,7,9,13,14,15,16,17]from 57 to 133 (fun e6 e7 e9 e13 e14 e15 e16 e17 wx=>∃(vals':List (List UInt8)) (q':List Wq) (all':List Wo) (av':Value) (now':Nat),e6= .int .i64 (dZ vals':Nat)∧e7= .int .i64 (vals'.length:Nat)∧ik W wx b ab nb e9 (mM vals') av' all' q' vals' now' now' (i+1)∧opens 0 all'=q'.map keyOf∧vals'.length≤i+1∧all'.length≤i+1∧now'≤40*(i+1))
   case first=>
    have hk:=cell_of Gs.out;have b0:w5.cell? ⟨X,0,none⟩=some (.int .i64 x.what):=by rw[hk];rfl
    have b1:w5.cell? ⟨X,1,none⟩=some (.int .i64 x.least):=by rw[hk];rfl
    have b2:w5.cell? ⟨X,2,none⟩=some (.int .i64 x.wait):=by rw[hk];rfl
    have b3:w5.cell? ⟨X,3,none⟩=some (.string ⟨x.value.toArray⟩):=by rw[hk];rfl
    have hvb:=IC.out.value;have hzX:=lt_of_heap Gs.out;clear hk;by_cases q0:x.what=0
    ·have e0:(x.what==0)=true:=by simp[q0]
     have HQ:=hide q0;clear q0;by_cases hv5:500<(x.value.length:Int)
     ·go_wp2
      go_ret
      exact⟨rfl,HL5.out.turn.nil⟩
     obtain⟨wA,hwA⟩:∃wA,wA=w5.alloc (.cells #[.int .i64 (dZ vals:Nat)] 3):=⟨_,rfl⟩;have hTA:Turn [] w5 wA:=by rw[hwA];exact(Turn.refl [] w5).alloc _
     have hbW:=HL5.out.turn.size;obtain⟨v7,w7,hr7,hrow7,ht7,hown7⟩:=Wh.Vm wA W.heap.size (.slice la vals.length lc) (mM vals) (dZ vals:Nat) w5.heap.size (HL5.out.puts.still hTA) (by rw[hwA];exact ae w5 _) (by rw[lX];omega) (by have:=hTA.size;omega);have hL7:=(HL5.out.still hTA).Zo hrow7 ht7 hown7;rw[←Ls vals x.value]at hL7;obtain⟨a7,c7,hv7, -, -⟩:=hL7.puts.form;rw[lX,List.length_append,List.length_singleton]at hv7;subst hv7;have hbx7:=ht7.heap (hTA.heap Gs.out (by simp)) (fun hm=>by
      obtain⟨cs,e⟩:=(HL5.out.puts.still hTA).kind X (by simpa using hm);exact Lg.ai e (hTA.heap Gs.out (by simp)) (by decide) rfl)
     have b3':w7.cell? ⟨X,3,none⟩=some (.string ⟨x.value.toArray⟩):=by rw[cell_of hbx7];rfl
     have hT8:Turn [] w7 (w7.alloc (.cells (recC (fU 0 x.value)).toArray 47)):=(Turn.refl [] w7).alloc _;have hpm:=UU (hL7.still hT8) Vg.out (by omega) (by omega) (by omega) (x:=x.value) (by omega) (some ⟨w7.heap.size,0,none⟩) 1 (Ns (ae w7 _) (Nv (by omega))) (fun k hk=>by simp[Value.ownBlock]at hk;subst hk;simp) HV.out;have HPM:=hide hpm;have hbx8:=hT8.heap hbx7 (by simp);have XB:=hide hbx8;have HR7:=hide hr7;rw[hwA]at HR7;clear hwA hTA hr7 hrow7 ht7 hown7 hL7 hpm hT8 hbx7 hbx8;go_wp2_with (first|(at_builtin;go_must (refine Sn.dY rfl rfl rfl rfl HR7.out ?_))|fail)
     refine HPM.out.mono ?_;rintro e w9 ⟨ov,rfl,hmid,hkeep⟩;have b3:w9.cell? ⟨X,3,none⟩=some (.string ⟨x.value.toArray⟩):=by rw[cell_of (hkeep _ _ _ XB.out)];rfl
     have hzX9:=lt_of_heap (hkeep _ _ _ XB.out);have Jl:=hide hmid;have hsv:dZ (vals++[x.value])=dZ vals+x.value.length:=by rw[mW];simp[dZ]
     clear hmid hkeep b0 b1 b2 b3' XB HPM HR7;go_wp2_with fail
     refine(wG Jl.out (by omega)).mono ?_;rintro e w10 ⟨rfl,q',all',hL',hop',hal'⟩;have lK:Hid (∃(vals':List (List UInt8)) (q':List Wq) (all':List Wo) (av':Value) (now':Nat),Value.int .i64 ((dZ vals:Int)+(x.value.length:Int))= .int .i64 (dZ vals':Nat)∧Value.int .i64 ((vals.length:Int)+1)= .int .i64 (vals'.length:Nat)∧ik W w10 b ab nb (.slice a7 (vals.length+1) c7) (mM vals') av' all' q' vals' now' now' (i+1)∧opens 0 all'=q'.map keyOf∧vals'.length≤i+1∧all'.length≤i+1∧now'≤40*(i+1)):=
      ⟨vals++[x.value],q',all',av,now,by rw[hsv];simp,by simp,hL'.up,hop',by simp;omega,by omega,by omega⟩
     clear hL' hop' hal' hsv Jl b3;go_wp2
     go_meet
     exact lK.out
    by_cases q1:x.what=1
    ·have e0:(x.what==0)=false:=by simp[q1]
     have e1:(x.what==1)=true:=by simp[q1]
     have HQ:=hide q1;clear q0 q1;have XC:w5.cell? ⟨nb,0,none⟩=some (.int .i64 (now:Nat)):=by rw[cell_of HL5.out.uP];rfl
     have XD:=lt_of_heap HL5.out.uP;go_wp2_with fail
     refine(vz x.least 600 (by omega) (by omega) _).mono ?_;rintro e w6 ⟨⟨le,hle,rfl⟩,rfl⟩;go_wp2_with fail
     refine(vz x.wait 50 (by omega) (by omega) _).mono ?_;rintro e w6 ⟨⟨wa,CV,rfl⟩,rfl⟩;go_upto_region 33 with fail
     obtain⟨w6,hw6⟩:∃w6,w6=w5.alloc (.cells #[.int .i64 (le:Int), .int .i64 ((now:Int)+(wa:Int)), .int .i64 (vals.length:Int), .bool false] 45):=⟨_,rfl⟩;refine Df hw6 ?_;have hT6:Turn [] w5 w6:=by rw[hw6];exact(Turn.refl [] w5).alloc _
     have hL6:=HL5.out.still hT6;have hwb:w6.heap[w5.heap.size]? =some (.cells (Vr ⟨le,now+wa,vals.length,false⟩).toArray 45 (0,0)):=by
      have e:=ae w5 (.cells #[.int .i64 (le:Int), .int .i64 ((now:Int)+(wa:Int)), .int .i64 (vals.length:Int), .bool false] 45);rw[←hw6]at e;rw[e];simp[Vr]
     obtain⟨Y,hY⟩:∃Y,Y=w5.heap.size:=⟨_,rfl⟩;rw[←hY]at hwb;rw[←hY];have HY:=hide hY;clear hY;have hal6:=hL6.row;obtain⟨va,vc,rfl,hvc1,hvc2⟩:=hal6.form;have hck:=cell_of hwb;have y0:w6.cell? ⟨Y,0,none⟩=some (.int .i64 (le:Int)):=by rw[hck];rfl
     have y1:w6.cell? ⟨Y,1,none⟩=some (.int .i64 ((now:Int)+(wa:Int))):=by rw[hck];simp[Vr]
     have y2:w6.cell? ⟨Y,2,none⟩=some (.int .i64 (vals.length:Int)):=by rw[hck];rfl
     have y3:w6.cell? ⟨Y,3,none⟩=some (.bool false):=by rw[hck];rfl
     have hab:w6.cell? ⟨ab,0,none⟩=some (.slice va all.length vc):=by rw[cell_of hL6.box];rfl
     have habz:=lt_of_heap hL6.box;have habf:w6.frozen? ⟨ab,0,none⟩=false:=af hL6.box 0;obtain⟨wB,hwB⟩:∃wB,wB=w6.alloc (.cells #[.int .i64 (le:Int), .int .i64 ((now:Int)+(wa:Int)), .int .i64 (vals.length:Int), .bool false] 45):=⟨_,rfl⟩;have hTB:Turn [] w6 wB:=by rw[hwB];exact(Turn.refl [] w6).alloc _
     have hwz:=HL5.out.turn.size;have hz6:=hT6.size;have hzB:=hTB.size;obtain⟨v8,w8,hr8,hrow8,ht8,hown8⟩:=Xr wB W.heap.size (.slice va all.length vc) all ⟨le,now+wa,vals.length,false⟩ w6.heap.size (hL6.row.still hTB) (by
      have e:=ae w6 (.cells #[.int .i64 (le:Int), .int .i64 ((now:Int)+(wa:Int)), .int .i64 (vals.length:Int), .bool false] 45);rw[←hwB]at e;rw[e];simp[Vr]) (by omega) (by omega)
     have hL9:=(hL6.still hTB).KR hrow8 ht8;obtain⟨a8,c8,hv8, -, -⟩:=hrow8.form;rw[List.length_append,List.length_singleton]at hv8;subst hv8;have hwl:∀k∈(Value.slice va all.length vc).ownBlock.toList,k<Y:=fun k hk=>by
      have:=(HL5.out.row.lt k (by simpa using hk)).2;have:=HY.out;omega
     have hwb8:=ht8.heap (hTB.heap hwb (by simp)) (fun hm=>Nat.lt_irrefl _ (hwl _ hm));have hbx8:=ht8.heap ((hL6.still hTB).box) (fun hm=>by
      obtain⟨cs,e⟩:=(hL6.still hTB).row.kind ab (by simpa using hm);exact Lg.ai e (hL6.still hTB).box (by decide) rfl)
     have hnaY:ab≠Y:=fun e=>by
      have:=lt_of_heap HL5.out.box;have:=HY.out;omega
     have hT9:Turn [ab] w8 (w8.setCell ⟨ab,0,none⟩ (.slice a8 (all.length+1) c8)):=(Turn.refl [ab] w8).setCell (.inl (by simp)) _;have hwb9:=hT9.heap hwb8 (fun hm=>hnaY (List.mem_singleton.1 hm).symm);have hab8:w8.cell? ⟨ab,0,none⟩=some (.slice va all.length vc):=by rw[cell_of hbx8];rfl
     have Zr:w8.frozen? ⟨ab,0,none⟩=false:=af hbx8 0;have Zt:=lt_of_heap hbx8;have HL9:=hide hL9;have Zu:=hide hwb9;have HR8:=hide hr8;rw[hwB]at HR8;clear hw6 b0 b1 b2 b3 XC XD hck hwB hTB hr8 hrow8 ht8 hown8 hL9 hwl hwb8 hbx8 hT9 hwb9 hL6 hal6 hT6 hwb hz6 hzB;go_upto_region 34 with(first|(at_builtin;go_must (refine Sn.dY rfl rfl rfl rfl HR8.out ?_))|fail)
     obtain⟨w9,hw9⟩:∃w9,w9=w8.setCell ⟨ab,0,none⟩ (.slice a8 (all.length+1) c8):=⟨_,rfl⟩;refine Df hw9 ?_;rw[←hw9]at HL9 Zu;clear hw9;have y0:w9.cell? ⟨Y,0,none⟩=some (.int .i64 (le:Int)):=by rw[cell_of Zu.out];rfl
     have hab9:w9.cell? ⟨ab,0,none⟩=some (.slice a8 (all.length+1) c8):=by rw[cell_of HL9.out.box];rfl
     clear hab hab8 Zr Zt y1 y2 y3 habf habz;go_wp2_with fail
     refine(OV HL9.out Vg.out (by omega) (by omega) (by omega) (by omega) (by omega) _ (by simp)).mono ?_;rintro e w10 ⟨ov,rfl,hmid⟩;have Jl:=hide hmid;clear hmid hab9 y0;go_wp2_with fail
     refine(wG Jl.out (by simp;omega)).mono ?_;rintro e w11 ⟨rfl,q',all',hL',hop',hal'⟩;have lK:Hid (∃(vals':List (List UInt8)) (q':List Wq) (all':List Wo) (av':Value) (now':Nat),Value.int .i64 (dZ vals:Nat)= .int .i64 (dZ vals':Nat)∧Value.int .i64 (vals.length:Nat)= .int .i64 (vals'.length:Nat)∧ik W w11 b ab nb (.slice la vals.length lc) (mM vals') av' all' q' vals' now' now' (i+1)∧opens 0 all'=q'.map keyOf∧vals'.length≤i+1∧all'.length≤i+1∧now'≤40*(i+1)):=
      ⟨vals,q',all',_,now,rfl,rfl,hL',hop',by omega,by rw[hal'];simp;omega,by omega⟩
     clear hL' hop' hal' Jl;go_wp2
     go_meet
     exact lK.out
    ·have e0:(x.what==0)=false:=by simp[q0]
     have e1:(x.what==1)=false:=by simp[q1]
     have HQ:=hide q0;have HQ1:=hide q1;clear q0 q1;have XC:w5.cell? ⟨nb,0,none⟩=some (.int .i64 (now:Nat)):=by rw[cell_of HL5.out.uP];rfl
     have XD:=lt_of_heap HL5.out.uP;have hnbf:w5.frozen? ⟨nb,0,none⟩=false:=af HL5.out.uP 0;go_upto_region 16 with fail
     go_cut []from 57 to 61 (fun wx=>∃t:Nat,now≤t∧t≤now+40∧ik W wx b ab nb (.slice la vals.length lc) (mM vals) av all q vals now t i)
     case first=>
      go_region_with (go_at_call 9;refine(vz x.wait 40 (by omega) (by omega) _).mono ?_;rintro e w9 ⟨⟨pk,hpk,rfl⟩,rfl⟩)
      all_goals
       go_wp2_with fail
       go_meet
       have hwr:IntKind.i64.wrap ((now:Int)+(pk:Int))=((now+pk:Nat):Int):=by simp[IntKind.wrap,IntKind.bits,IntKind.signed];omega
       rw[hwr];exact⟨now+pk,by omega,by omega,(HL5.out.FY (now+pk)).still ((Turn.refl [] _).drew)⟩
     case rest=>
      obtain⟨t,ht1,ht2,hLt⟩:=hcut;have hnbt:wc.cell? ⟨nb,0,none⟩=some (.int .i64 (t:Nat)):=by rw[cell_of hLt.uP];rfl
      have E5:=hide hLt;clear hLt XC XD hnbf b0 b1 b2 b3;go_wp2_with fail
      refine(Jk E5.out Vg.out (by omega) (by omega) (by omega) (by omega)).mono ?_;rintro e w9 ⟨ov,rfl,base,outs,ks,g1,g2,g3,g4,g5⟩;have Jl:Hid (UT W w9 b ab nb (.slice la vals.length lc) (mM vals) av all vals t i ov):=⟨base,outs,ks,_,g1,g2,g3,g4,g5⟩;clear g1 g2 g3 g4 g5 hnbt;go_wp2_with fail
      refine(wG Jl.out (by omega)).mono ?_;rintro e w11 ⟨rfl,q',all',hL',hop',hal'⟩;have lK:Hid (∃(vals':List (List UInt8)) (q':List Wq) (all':List Wo) (av':Value) (now':Nat),Value.int .i64 (dZ vals:Nat)= .int .i64 (dZ vals':Nat)∧Value.int .i64 (vals.length:Nat)= .int .i64 (vals'.length:Nat)∧ik W w11 b ab nb (.slice la vals.length lc) (mM vals') av' all' q' vals' now' now' (i+1)∧opens 0 all'=q'.map keyOf∧vals'.length≤i+1∧all'.length≤i+1∧now'≤40*(i+1)):=
       ⟨vals,q',all',_,t,rfl,rfl,hL'.up,hop',by omega,by omega,by omega⟩
      clear hL' hop' hal' Jl;go_wp2
      go_meet
      exact lK.out
   case rest=>
    obtain⟨vals',q',all',av',now',rfl,rfl,hL',hop',hv',ha',hn'⟩:=hcut;have HL6:=hide hL';have UW:=hide hop';clear hL' hop';obtain⟨va2,vc2,rfl,hv1,hv2⟩:=HL6.out.row.form;obtain⟨pa2,pc2,rfl,hp1,hp2⟩:=HL6.out.puts.form;rw[lX]at*;rw[hmx]at hv2 hp2;have hab0:wc.cell? ⟨ab,0,none⟩=some (.slice va2 all'.length vc2):=by rw[cell_of HL6.out.box];rfl
    have hnb0:wc.cell? ⟨nb,0,none⟩=some (.int .i64 (now':Nat)):=by rw[cell_of HL6.out.uP];rfl
    have HAB:=hide hab0;have rH:=hide hnb0;have hsl:=KG (vs:=vals') (fun v hv=>by obtain⟨d,sb,SF,WF,mb,came,hh, -⟩:=HL6.out.house;exact hh.store.few.2 v hv);clear hab0 hnb0;go_wp2
    go_loopw [18,19] (fun sv kv w2=>∃k:Nat,k≤all'.length∧kv= .int .i64 k∧sv= .int .i64 ((opens 0 (all'.take k)).length:Nat)∧Turn [] wc w2) (fun _ kv _=>all'.length-(intOf kv).toNat)
    case atStart=>exact⟨0,Nat.zero_le _,rfl,rfl,Turn.refl _ _⟩
    case round=>
     obtain⟨k,hk,rfl,rfl,AX⟩:=hrel;have Gq:=hide AX;have hab0:=(World.cell?_of_block (w:=wc) (AX.block _ (World.block_lt_of_cell? _ _ HAB.out) (by simp))).trans HAB.out;have hnb0:=(World.cell?_of_block (w:=wc) (AX.block _ (World.block_lt_of_cell? _ _ rH.out) (by simp))).trans rH.out;by_cases hkt:k<all'.length
     ·have hL:=HL6.out.still AX
      obtain⟨ga,UN,e,hc, -⟩:=hL.row.at rF (j:=k) hkt;simp only[Value.slice.injEq,true_and]at e;obtain⟨rfl,rfl⟩:=e;have hop0:=tJ 0 (all'.take k) all'[k];rw[←List.take_succ_eq_append_getElem hkt]at hop0;have hat:=Dh 0 all' k hkt;obtain⟨o,ho⟩:∃o,o=all'[k]:=⟨_,rfl⟩;rw[←ho]at hop0 hc hat;have c0:wr.cell? ⟨ga,k*4,none⟩=some (.int .i64 (o.least:Int)):=hc 0 (by omega);have c1:wr.cell? ⟨ga,k*4+1,none⟩=some (.int .i64 (o.due:Int)):=hc 1 (by omega);have c2:wr.cell? ⟨ga,k*4+2,none⟩=some (.int .i64 (o.Gn:Int)):=hc 2 (by omega);have c3:wr.cell? ⟨ga,k*4+3,none⟩=some (.bool o.told):=hc 3 (by omega);clear hc ho AX;cases hto:o.told with
      |true=>
       rw[hto]at c3 hop0;have hn:(opens 0 (all'.take (k+1))).length=(opens 0 (all'.take k)).length:=by rw[hop0];simp
       have HN:=hide hn;clear hn hop0 hat hL;go_wp2
       exact⟨⟨k+1,by omega,by go_num,by rw[HN.out],Gq.out⟩,by simp only[intOf];omega⟩
      |false=>
       rw[hto]at c3 hop0;have hn:(opens 0 (all'.take (k+1))).length=(opens 0 (all'.take k)).length+1:=by rw[hop0];simp
       have hmem:=hat hto;rw[UW.out]at hmem;obtain⟨y,hy,he⟩:=List.mem_map.1 hmem;obtain⟨s1,s2,s3,s4,s5⟩:=HL6.out.stay y hy;have e1:y.least=o.least:=congrArg (fun p=>p.2.least) he;have e2:y.due=o.due:=congrArg (fun p=>p.2.due) he;have e3:y.off=o.Gn:=congrArg (fun p=>p.2.Gn) he;rw[e1]at s3;rw[e3]at s2;rw[e2]at s4 s5;have hsv:=Lt vals' o.Gn;have hlt:dZ (vals'.drop o.Gn)<o.least:=by
        unfold dm at s1;rw[Bool.and_eq_true,decide_eq_true_eq,decide_eq_true_eq,e1,e3]at s1;exact s1.2
       have hol:=rG UW.out;have hcn:(opens 0 (all'.take k)).length≤60:=by
        have:=SB 0 (all'.take k);rw[List.length_take]at this;omega
       have HN:=hide hn;clear hn hop0 hat hmem hy he e1 e2 e3 s1;by_cases hfr:o.Gn<vals'.length
       ·obtain⟨gp,capp,e,hcp, -⟩:=hL.puts.at Wh.gG (j:=o.Gn) (by rw[lX];exact hfr)
        rw[lX]at e;simp only[Value.slice.injEq,true_and]at e;obtain⟨rfl,rfl⟩:=e;have c4:wr.cell? ⟨gp,o.Gn,none⟩=some (.int .i64 (dZ (vals'.take o.Gn):Nat)):=by
         have:=hcp 0 (by omega);rw[Nat.mul_one,Nat.add_zero]at this;rw[this];simp[mM,Dq]
        clear hcp hL;go_wp2
        refine aF (fun a b=>a=b) (by kernel_rfl) (by kernel_rfl) (by kernel_rfl) (by kernel_rfl) rfl (fun _=>rfl) (fun _ _ _ h k=>h.trans k) ?_;apply Lo.ag 1 rfl rfl [] (by kernel_rfl) (fun _=>rfl);apply Exists.intro;apply And.intro
        ·intro u w1 hR hF
         clear hF;subst hR;refine⟨rfl,fun a ha K hK=>?_⟩;have e5:=ha 5;conv at e5=>rhs;whnf
         clear ha;go_simp
         refine hK _ ?_;rfl
        apply Lo.ag 2 rfl rfl [] (by kernel_rfl) (fun _=>rfl);apply Exists.intro;apply And.intro
        ·intro u w1 hR hF
         clear hF;subst hR;refine⟨rfl,fun a ha K hK=>?_⟩;have e19:=ha 19;conv at e19=>rhs;whnf
         clear ha;go_simp
         refine hK _ ?_;rfl
        refine Lo.aJ 3 rfl rfl [0,1] (.pointer (some ⟨ga,k*4,none⟩)) (by kernel_rfl) (fun u w1 hR hF=>?_) (fun _=>rfl) ?_
        ·obtain⟨h0,h1, -⟩:=hF
         subst hR;refine⟨rfl,fun a ha K hK=>?_⟩;have e164:=(ha 164).trans h0;have e165:=(ha 165).trans h1;clear ha h0 h1;go_simp
         refine hK _ ?_;rfl
        refine Lo.aJ 4 rfl rfl [2] (.pointer (some ⟨ga,k*4+1,none⟩)) (by kernel_rfl) (fun u w1 hR hF=>?_) (fun _=>rfl) ?_
        ·obtain⟨h2, -⟩:=hF
         subst hR;refine⟨rfl,fun a ha K hK=>?_⟩;have e166:=(ha 166).trans h2;clear ha h2;go_simp
         refine hK _ ?_;rfl
        apply Lo.ag 5 rfl rfl [3] (by kernel_rfl) (fun _=>rfl);apply Exists.intro;apply And.intro
        ·intro u w1 hR hF
         obtain⟨h3, -⟩:=hF;subst hR;refine⟨rfl,fun a ha K hK=>?_⟩;have e167:=(ha 167).trans h3;clear ha h3;go_simp
         refine hK _ ?_;rfl
        apply Lo.ag 6 rfl rfl [] (by kernel_rfl) (fun _=>rfl);apply Exists.intro;apply And.intro
        ·intro u w1 hR hF
         clear hF;subst hR;refine⟨rfl,fun a ha K hK=>?_⟩;have e8:=ha 8;conv at e8=>rhs;whnf
         clear ha;go_simp
         refine hK _ ?_;rfl
        refine Lo.aJ 7 rfl rfl [4,5] (.bool (decide (o.due≤now'))) (by kernel_rfl) (fun u w1 hR hF=>?_) (fun _=>rfl) ?_
        ·obtain⟨h4,h5, -⟩:=hF
         subst hR;refine⟨rfl,fun a ha K hK=>?_⟩;have e168:=(ha 168).trans h4;have e169:=(ha 169).trans h5;clear ha h4 h5;go_simp
         refine hK _ ?_;rfl
        apply Lo.ag 8 rfl rfl [6] (by kernel_rfl) (fun _=>rfl);apply Exists.intro;apply And.intro
        ·intro u w1 hR hF
         obtain⟨h6, -⟩:=hF;subst hR;refine⟨rfl,fun a ha K hK=>?_⟩;have e170:=(ha 170).trans h6;clear ha h6;go_simp
         refine hK _ ?_;rfl
        apply Lo.cond 9 rfl rfl [7] (by kernel_rfl) (fun _=>rfl) ((decide (o.due≤now'))==true);apply Exists.intro;refine And.intro ?_ (And.intro ?_ ?_)
        ·intro u w1 hR hF hc
         exact aU (want:=true) hF.1 hc
        ·intro u w1 hR hF hc
         obtain⟨h7, -⟩:=hF;subst hR;refine⟨aT (want:=true) h7 hc,fun a ha K hK=>?_⟩;have hc1:=hc;have e8:=ha 8;conv at e8=>rhs;whnf
         clear ha h7;clear hc hc1;go_simp
         refine hK _ ?_;rfl
        apply Lo.cond 10 rfl rfl [7,8] (by kernel_rfl) (fun _=>rfl) ((decide (o.due≤now'))==true);refine Exists.intro (.bool (decide (0<now'))) ?_;refine And.intro ?_ (And.intro ?_ ?_)
        ·intro u w1 hR hF hc
         exact aU (want:=true) hF.1 hc
        ·intro u w1 hR hF hc
         obtain⟨h7,h8, -⟩:=hF;subst hR;refine⟨aT (want:=true) h7 hc,fun a ha K hK=>?_⟩;have hc1:=hc;have e172:a.tmps.getD 172 undef=bif ((decide (o.due≤now'))==true)then _ else undef:=(ha 172).trans h8
         rw[hc1,cond_true]at e172;clear ha h7 h8;clear hc hc1;go_simp
         refine hK _ ?_;rfl
        refine Lo.aJ 11 rfl rfl [7,9] (.bool ((decide (o.due≤now'))&&(decide (0<now')))) (by kernel_rfl) (fun u w1 hR hF=>?_) (fun _=>rfl) ?_
        ·obtain⟨h7,h9, -⟩:=hF
         subst hR;refine⟨rfl,fun a ha K hK=>?_⟩;have e171:=(ha 171).trans h7;have e173:a.tmps.getD 173 undef=bif ((decide (o.due≤now'))==true)then .bool (decide (0<now'))else undef:=(ha 173).trans h9
         clear ha h7 h9;rcases Bool.eq_false_or_eq_true (decide (o.due≤now'))with hT|hT
         all_goals
          simp only[hT,Bool.and_true,Bool.true_and,Bool.and_false,Bool.not_true,Bool.not_false,Bool.true_beq,Bool.false_beq,beq_self_eq_true,cond_true,cond_false]at e171 e173;have UO:=hide hT;clear hT;go_simp
          refine hK _ ?_;simp only[UO.out,Bool.true_or,Bool.false_or,Bool.true_and,Bool.false_and]
        apply Lo.ag 12 rfl rfl [10] (by kernel_rfl) (fun _=>rfl);apply Exists.intro;apply And.intro
        ·intro u w1 hR hF
         obtain⟨h10, -⟩:=hF;subst hR;refine⟨rfl,fun a ha K hK=>?_⟩;have e174:=(ha 174).trans h10;clear ha h10;go_simp
         refine hK _ ?_;rfl
        apply Lo.cond 13 rfl rfl [11] (by kernel_rfl) (fun _=>rfl) (((decide (o.due≤now'))&&(decide (0<now')))==false);apply Exists.intro;refine And.intro ?_ (And.intro ?_ ?_)
        ·intro u w1 hR hF hc
         exact aU (want:=false) hF.1 hc
        ·intro u w1 hR hF hc
         obtain⟨h11, -⟩:=hF;subst hR;refine⟨aT (want:=false) h11 hc,fun a ha K hK=>?_⟩;have hc1:=hc;have e6:=ha 6;conv at e6=>rhs;whnf
         clear ha h11;clear hc hc1;go_simp
         refine hK _ ?_;rfl
        apply Lo.cond 14 rfl rfl [11] (by kernel_rfl) (fun _=>rfl) (((decide (o.due≤now'))&&(decide (0<now')))==false);apply Exists.intro;refine And.intro ?_ (And.intro ?_ ?_)
        ·intro u w1 hR hF hc
         exact aU (want:=false) hF.1 hc
        ·intro u w1 hR hF hc
         obtain⟨h11, -⟩:=hF;subst hR;refine⟨aT (want:=false) h11 hc,fun a ha K hK=>?_⟩;have hc1:=hc;have e20:=ha 20;conv at e20=>rhs;whnf
         clear ha h11;clear hc hc1;go_simp
         refine hK _ ?_;rfl
        apply Lo.cond 15 rfl rfl [11,12,13] (by kernel_rfl) (fun _=>rfl) (((decide (o.due≤now'))&&(decide (0<now')))==false);refine Exists.intro (.int .i64 ((dZ (vals'.drop o.Gn):Nat):Int)) ?_;refine And.intro ?_ (And.intro ?_ ?_)
        ·intro u w1 hR hF hc
         exact aU (want:=false) hF.1 hc
        ·intro u w1 hR hF hc
         obtain⟨h11,h12,h13, -⟩:=hF;subst hR;refine⟨aT (want:=false) h11 hc,fun a ha K hK=>?_⟩;have hc1:=hc;have e176:a.tmps.getD 176 undef=bif (((decide (o.due≤now'))&&(decide (0<now')))==false)then _ else undef:=(ha 176).trans h12
         rw[hc1,cond_true]at e176;have e177:a.tmps.getD 177 undef=bif (((decide (o.due≤now'))&&(decide (0<now')))==false)then _ else undef:=(ha 177).trans h13
         rw[hc1,cond_true]at e177;clear ha h11 h12 h13;clear hc hc1;go_simp
         refine hK _ ?_;first|rfl|(rw[IntWalk.i64_left,IntWalk.wrap64_in _ (by omega)];congr 1;omega)|(congr 1;omega)|(simp[IntKind.wrap,IntKind.bits,IntKind.signed];omega)
        apply Lo.cond 16 rfl rfl [11] (by kernel_rfl) (fun _=>rfl) (((decide (o.due≤now'))&&(decide (0<now')))==false);apply Exists.intro;refine And.intro ?_ (And.intro ?_ ?_)
        ·intro u w1 hR hF hc
         exact aU (want:=false) hF.1 hc
        ·intro u w1 hR hF hc
         obtain⟨h11, -⟩:=hF;subst hR;refine⟨aT (want:=false) h11 hc,fun a ha K hK=>?_⟩;have hc1:=hc;have e5:=ha 5;conv at e5=>rhs;whnf
         clear ha h11;clear hc hc1;go_simp
         refine hK _ ?_;rfl
        apply Lo.cond 17 rfl rfl [11] (by kernel_rfl) (fun _=>rfl) (((decide (o.due≤now'))&&(decide (0<now')))==false);apply Exists.intro;refine And.intro ?_ (And.intro ?_ ?_)
        ·intro u w1 hR hF hc
         exact aU (want:=false) hF.1 hc
        ·intro u w1 hR hF hc
         obtain⟨h11, -⟩:=hF;subst hR;refine⟨aT (want:=false) h11 hc,fun a ha K hK=>?_⟩;have hc1:=hc;have e19:=ha 19;conv at e19=>rhs;whnf
         clear ha h11;clear hc hc1;go_simp
         refine hK _ ?_;rfl
        apply Lo.cond 18 rfl rfl [11,15,16] (by kernel_rfl) (fun _=>rfl) (((decide (o.due≤now'))&&(decide (0<now')))==false);refine Exists.intro (.pointer (some ⟨ga,k*4,none⟩)) ?_;refine And.intro ?_ (And.intro ?_ ?_)
        ·intro u w1 hR hF hc
         exact aU (want:=false) hF.1 hc
        ·intro u w1 hR hF hc
         obtain⟨h11,h15,h16, -⟩:=hF;subst hR;refine⟨aT (want:=false) h11 hc,fun a ha K hK=>?_⟩;have hc1:=hc;have e179:a.tmps.getD 179 undef=bif (((decide (o.due≤now'))&&(decide (0<now')))==false)then _ else undef:=(ha 179).trans h15
         rw[hc1,cond_true]at e179;have e180:a.tmps.getD 180 undef=bif (((decide (o.due≤now'))&&(decide (0<now')))==false)then _ else undef:=(ha 180).trans h16
         rw[hc1,cond_true]at e180;clear ha h11 h15 h16;clear hc hc1;go_simp
         refine hK _ ?_;rfl
        apply Lo.cond 19 rfl rfl [11,17] (by kernel_rfl) (fun _=>rfl) (((decide (o.due≤now'))&&(decide (0<now')))==false);refine Exists.intro (.pointer (some ⟨ga,k*4,none⟩)) ?_;refine And.intro ?_ (And.intro ?_ ?_)
        ·intro u w1 hR hF hc
         exact aU (want:=false) hF.1 hc
        ·intro u w1 hR hF hc
         obtain⟨h11,h17, -⟩:=hF;subst hR;refine⟨aT (want:=false) h11 hc,fun a ha K hK=>?_⟩;have hc1:=hc;have e181:a.tmps.getD 181 undef=bif (((decide (o.due≤now'))&&(decide (0<now')))==false)then _ else undef:=(ha 181).trans h17
         rw[hc1,cond_true]at e181;clear ha h11 h17;clear hc hc1;go_simp
         refine hK _ ?_;rfl
        apply Lo.cond 20 rfl rfl [11,18] (by kernel_rfl) (fun _=>rfl) (((decide (o.due≤now'))&&(decide (0<now')))==false);apply Exists.intro;refine And.intro ?_ (And.intro ?_ ?_)
        ·intro u w1 hR hF hc
         exact aU (want:=false) hF.1 hc
        ·intro u w1 hR hF hc
         obtain⟨h11,h18, -⟩:=hF;subst hR;refine⟨aT (want:=false) h11 hc,fun a ha K hK=>?_⟩;have hc1:=hc;have e182:a.tmps.getD 182 undef=bif (((decide (o.due≤now'))&&(decide (0<now')))==false)then _ else undef:=(ha 182).trans h18
         rw[hc1,cond_true]at e182;clear ha h11 h18;clear hc hc1;go_simp
         refine hK _ ?_;rfl
        apply Lo.cond 21 rfl rfl [11,19] (by kernel_rfl) (fun _=>rfl) (((decide (o.due≤now'))&&(decide (0<now')))==false);refine Exists.intro (.int .i64 ((o.least+600:Nat):Int)) ?_;refine And.intro ?_ (And.intro ?_ ?_)
        ·intro u w1 hR hF hc
         exact aU (want:=false) hF.1 hc
        ·intro u w1 hR hF hc
         obtain⟨h11,h19, -⟩:=hF;subst hR;refine⟨aT (want:=false) h11 hc,fun a ha K hK=>?_⟩;have hc1:=hc;have e183:a.tmps.getD 183 undef=bif (((decide (o.due≤now'))&&(decide (0<now')))==false)then _ else undef:=(ha 183).trans h19
         rw[hc1,cond_true]at e183;clear ha h11 h19;clear hc hc1;go_simp
         refine hK _ ?_;first|rfl|(rw[IntWalk.i64_left,IntWalk.wrap64_in _ (by omega)];congr 1;omega)|(congr 1;omega)|(simp[IntKind.wrap,IntKind.bits,IntKind.signed];omega)
        apply Lo.cond 22 rfl rfl [11,14,20] (by kernel_rfl) (fun _=>rfl) (((decide (o.due≤now'))&&(decide (0<now')))==false);refine Exists.intro (.bool (decide (o.least+600≤dZ (vals'.drop o.Gn)))) ?_;refine And.intro ?_ (And.intro ?_ ?_)
        ·intro u w1 hR hF hc
         exact aU (want:=false) hF.1 hc
        ·intro u w1 hR hF hc
         obtain⟨h11,h14,h20, -⟩:=hF;subst hR;refine⟨aT (want:=false) h11 hc,fun a ha K hK=>?_⟩;have hc1:=hc;have e178:a.tmps.getD 178 undef=bif (((decide (o.due≤now'))&&(decide (0<now')))==false)then _ else undef:=(ha 178).trans h14
         rw[hc1,cond_true]at e178;have e184:a.tmps.getD 184 undef=bif (((decide (o.due≤now'))&&(decide (0<now')))==false)then _ else undef:=(ha 184).trans h20
         rw[hc1,cond_true]at e184;clear ha h11 h14 h20;clear hc hc1;go_simp
         refine hK _ ?_;exact congrArg Value.bool (decide_eq_decide.2 (by omega))
        refine Lo.aJ 23 rfl rfl [11,21] (.bool (((decide (o.due≤now'))&&(decide (0<now')))||(decide (o.least+600≤dZ (vals'.drop o.Gn))))) (by kernel_rfl) (fun u w1 hR hF=>?_) (fun _=>rfl) ?_
        ·obtain⟨h11,h21, -⟩:=hF
         subst hR;refine⟨rfl,fun a ha K hK=>?_⟩;have e175:=(ha 175).trans h11;have e185:a.tmps.getD 185 undef=bif (((decide (o.due≤now'))&&(decide (0<now')))==false)then .bool (decide (o.least+600≤dZ (vals'.drop o.Gn)))else undef:=(ha 185).trans h21
         clear ha h11 h21;rcases Bool.eq_false_or_eq_true ((decide (o.due≤now'))&&(decide (0<now')))with hT|hT
         all_goals
          simp only[hT,Bool.and_true,Bool.true_and,Bool.and_false,Bool.not_true,Bool.not_false,Bool.true_beq,Bool.false_beq,beq_self_eq_true,cond_true,cond_false]at e175 e185;have UO:=hide hT;clear hT;go_simp
          refine hK _ ?_;simp only[UO.out,Bool.true_or,Bool.false_or,Bool.true_and,Bool.false_and]
        refine Lo.done [22] (fun u w1 bP hSd hF=>?_);clear hSd;obtain⟨f22, -⟩:=hF;subst bP;have d22:u 22=_:=f22;clear f22;simp only[ax,Act.put,List.setIfInBounds_toArray,List.set_cons_succ,List.set_cons_zero,Nat.zero_add,Nat.reduceAdd,d22];clear c0 c1 c2 c3 d22;go_wp2
        all_goals first|exact⟨⟨k+1,by omega,by go_num,by rw[HN.out];go_num,Gq.out.drew⟩,by simp only[intOf];omega⟩|(exfalso;omega)
       ·obtain⟨DD,hDD⟩:∃DD:Nat,DD=0:=⟨0,rfl⟩
        have TD:=hide hDD;clear hL hDD;go_wp2
        refine aF (fun a b=>a=b) (by kernel_rfl) (by kernel_rfl) (by kernel_rfl) (by kernel_rfl) rfl (fun _=>rfl) (fun _ _ _ h k=>h.trans k) ?_;apply Lo.ag 1 rfl rfl [] (by kernel_rfl) (fun _=>rfl);apply Exists.intro;apply And.intro
        ·intro u w1 hR hF
         clear hF;subst hR;refine⟨rfl,fun a ha K hK=>?_⟩;have e5:=ha 5;conv at e5=>rhs;whnf
         clear ha;go_simp
         refine hK _ ?_;rfl
        apply Lo.ag 2 rfl rfl [] (by kernel_rfl) (fun _=>rfl);apply Exists.intro;apply And.intro
        ·intro u w1 hR hF
         clear hF;subst hR;refine⟨rfl,fun a ha K hK=>?_⟩;have e19:=ha 19;conv at e19=>rhs;whnf
         clear ha;go_simp
         refine hK _ ?_;rfl
        refine Lo.aJ 3 rfl rfl [0,1] (.pointer (some ⟨ga,k*4,none⟩)) (by kernel_rfl) (fun u w1 hR hF=>?_) (fun _=>rfl) ?_
        ·obtain⟨h0,h1, -⟩:=hF
         subst hR;refine⟨rfl,fun a ha K hK=>?_⟩;have e164:=(ha 164).trans h0;have e165:=(ha 165).trans h1;clear ha h0 h1;go_simp
         refine hK _ ?_;rfl
        refine Lo.aJ 4 rfl rfl [2] (.pointer (some ⟨ga,k*4+1,none⟩)) (by kernel_rfl) (fun u w1 hR hF=>?_) (fun _=>rfl) ?_
        ·obtain⟨h2, -⟩:=hF
         subst hR;refine⟨rfl,fun a ha K hK=>?_⟩;have e166:=(ha 166).trans h2;clear ha h2;go_simp
         refine hK _ ?_;rfl
        apply Lo.ag 5 rfl rfl [3] (by kernel_rfl) (fun _=>rfl);apply Exists.intro;apply And.intro
        ·intro u w1 hR hF
         obtain⟨h3, -⟩:=hF;subst hR;refine⟨rfl,fun a ha K hK=>?_⟩;have e167:=(ha 167).trans h3;clear ha h3;go_simp
         refine hK _ ?_;rfl
        apply Lo.ag 6 rfl rfl [] (by kernel_rfl) (fun _=>rfl);apply Exists.intro;apply And.intro
        ·intro u w1 hR hF
         clear hF;subst hR;refine⟨rfl,fun a ha K hK=>?_⟩;have e8:=ha 8;conv at e8=>rhs;whnf
         clear ha;go_simp
         refine hK _ ?_;rfl
        refine Lo.aJ 7 rfl rfl [4,5] (.bool (decide (o.due≤now'))) (by kernel_rfl) (fun u w1 hR hF=>?_) (fun _=>rfl) ?_
        ·obtain⟨h4,h5, -⟩:=hF
         subst hR;refine⟨rfl,fun a ha K hK=>?_⟩;have e168:=(ha 168).trans h4;have e169:=(ha 169).trans h5;clear ha h4 h5;go_simp
         refine hK _ ?_;rfl
        apply Lo.ag 8 rfl rfl [6] (by kernel_rfl) (fun _=>rfl);apply Exists.intro;apply And.intro
        ·intro u w1 hR hF
         obtain⟨h6, -⟩:=hF;subst hR;refine⟨rfl,fun a ha K hK=>?_⟩;have e170:=(ha 170).trans h6;clear ha h6;go_simp
         refine hK _ ?_;rfl
        apply Lo.cond 9 rfl rfl [7] (by kernel_rfl) (fun _=>rfl) ((decide (o.due≤now'))==true);apply Exists.intro;refine And.intro ?_ (And.intro ?_ ?_)
        ·intro u w1 hR hF hc
         exact aU (want:=true) hF.1 hc
        ·intro u w1 hR hF hc
         obtain⟨h7, -⟩:=hF;subst hR;refine⟨aT (want:=true) h7 hc,fun a ha K hK=>?_⟩;have hc1:=hc;have e8:=ha 8;conv at e8=>rhs;whnf
         clear ha h7;clear hc hc1;go_simp
         refine hK _ ?_;rfl
        apply Lo.cond 10 rfl rfl [7,8] (by kernel_rfl) (fun _=>rfl) ((decide (o.due≤now'))==true);refine Exists.intro (.bool (decide (0<now'))) ?_;refine And.intro ?_ (And.intro ?_ ?_)
        ·intro u w1 hR hF hc
         exact aU (want:=true) hF.1 hc
        ·intro u w1 hR hF hc
         obtain⟨h7,h8, -⟩:=hF;subst hR;refine⟨aT (want:=true) h7 hc,fun a ha K hK=>?_⟩;have hc1:=hc;have e172:a.tmps.getD 172 undef=bif ((decide (o.due≤now'))==true)then _ else undef:=(ha 172).trans h8
         rw[hc1,cond_true]at e172;clear ha h7 h8;clear hc hc1;go_simp
         refine hK _ ?_;rfl
        refine Lo.aJ 11 rfl rfl [7,9] (.bool ((decide (o.due≤now'))&&(decide (0<now')))) (by kernel_rfl) (fun u w1 hR hF=>?_) (fun _=>rfl) ?_
        ·obtain⟨h7,h9, -⟩:=hF
         subst hR;refine⟨rfl,fun a ha K hK=>?_⟩;have e171:=(ha 171).trans h7;have e173:a.tmps.getD 173 undef=bif ((decide (o.due≤now'))==true)then .bool (decide (0<now'))else undef:=(ha 173).trans h9
         clear ha h7 h9;rcases Bool.eq_false_or_eq_true (decide (o.due≤now'))with hT|hT
         all_goals
          simp only[hT,Bool.and_true,Bool.true_and,Bool.and_false,Bool.not_true,Bool.not_false,Bool.true_beq,Bool.false_beq,beq_self_eq_true,cond_true,cond_false]at e171 e173;have UO:=hide hT;clear hT;go_simp
          refine hK _ ?_;simp only[UO.out,Bool.true_or,Bool.false_or,Bool.true_and,Bool.false_and]
        apply Lo.ag 12 rfl rfl [10] (by kernel_rfl) (fun _=>rfl);apply Exists.intro;apply And.intro
        ·intro u w1 hR hF
         obtain⟨h10, -⟩:=hF;subst hR;refine⟨rfl,fun a ha K hK=>?_⟩;have e174:=(ha 174).trans h10;clear ha h10;go_simp
         refine hK _ ?_;rfl
        apply Lo.cond 13 rfl rfl [11] (by kernel_rfl) (fun _=>rfl) (((decide (o.due≤now'))&&(decide (0<now')))==false);apply Exists.intro;refine And.intro ?_ (And.intro ?_ ?_)
        ·intro u w1 hR hF hc
         exact aU (want:=false) hF.1 hc
        ·intro u w1 hR hF hc
         obtain⟨h11, -⟩:=hF;subst hR;refine⟨aT (want:=false) h11 hc,fun a ha K hK=>?_⟩;have hc1:=hc;have e6:=ha 6;conv at e6=>rhs;whnf
         clear ha h11;clear hc hc1;go_simp
         refine hK _ ?_;rfl
        apply Lo.cond 14 rfl rfl [11] (by kernel_rfl) (fun _=>rfl) (((decide (o.due≤now'))&&(decide (0<now')))==false);apply Exists.intro;refine And.intro ?_ (And.intro ?_ ?_)
        ·intro u w1 hR hF hc
         exact aU (want:=false) hF.1 hc
        ·intro u w1 hR hF hc
         obtain⟨h11, -⟩:=hF;subst hR;refine⟨aT (want:=false) h11 hc,fun a ha K hK=>?_⟩;have hc1:=hc;have e20:=ha 20;conv at e20=>rhs;whnf
         clear ha h11;clear hc hc1;go_simp
         refine hK _ ?_;rfl
        apply Lo.cond 15 rfl rfl [11,12,13] (by kernel_rfl) (fun _=>rfl) (((decide (o.due≤now'))&&(decide (0<now')))==false);refine Exists.intro (.int .i64 ((DD:Nat):Int)) ?_;refine And.intro ?_ (And.intro ?_ ?_)
        ·intro u w1 hR hF hc
         exact aU (want:=false) hF.1 hc
        ·intro u w1 hR hF hc
         obtain⟨h11,h12,h13, -⟩:=hF;subst hR;refine⟨aT (want:=false) h11 hc,fun a ha K hK=>?_⟩;have hc1:=hc;have e176:a.tmps.getD 176 undef=bif (((decide (o.due≤now'))&&(decide (0<now')))==false)then _ else undef:=(ha 176).trans h12
         rw[hc1,cond_true]at e176;have e177:a.tmps.getD 177 undef=bif (((decide (o.due≤now'))&&(decide (0<now')))==false)then _ else undef:=(ha 177).trans h13
         rw[hc1,cond_true]at e177;clear ha h11 h12 h13;clear hc hc1;go_simp
         refine hK _ ?_;first|(rw[TD.out];rfl)|(rw[IntWalk.i64_left,IntWalk.wrap64_in _ (by omega)];congr 1;omega)|(congr 1;omega)|(simp[IntKind.wrap,IntKind.bits,IntKind.signed];omega)
        apply Lo.cond 16 rfl rfl [11] (by kernel_rfl) (fun _=>rfl) (((decide (o.due≤now'))&&(decide (0<now')))==false);apply Exists.intro;refine And.intro ?_ (And.intro ?_ ?_)
        ·intro u w1 hR hF hc
         exact aU (want:=false) hF.1 hc
        ·intro u w1 hR hF hc
         obtain⟨h11, -⟩:=hF;subst hR;refine⟨aT (want:=false) h11 hc,fun a ha K hK=>?_⟩;have hc1:=hc;have e5:=ha 5;conv at e5=>rhs;whnf
         clear ha h11;clear hc hc1;go_simp
         refine hK _ ?_;rfl
        apply Lo.cond 17 rfl rfl [11] (by kernel_rfl) (fun _=>rfl) (((decide (o.due≤now'))&&(decide (0<now')))==false);apply Exists.intro;refine And.intro ?_ (And.intro ?_ ?_)
        ·intro u w1 hR hF hc
         exact aU (want:=false) hF.1 hc
        ·intro u w1 hR hF hc
         obtain⟨h11, -⟩:=hF;subst hR;refine⟨aT (want:=false) h11 hc,fun a ha K hK=>?_⟩;have hc1:=hc;have e19:=ha 19;conv at e19=>rhs;whnf
         clear ha h11;clear hc hc1;go_simp
         refine hK _ ?_;rfl
        apply Lo.cond 18 rfl rfl [11,15,16] (by kernel_rfl) (fun _=>rfl) (((decide (o.due≤now'))&&(decide (0<now')))==false);refine Exists.intro (.pointer (some ⟨ga,k*4,none⟩)) ?_;refine And.intro ?_ (And.intro ?_ ?_)
        ·intro u w1 hR hF hc
         exact aU (want:=false) hF.1 hc
        ·intro u w1 hR hF hc
         obtain⟨h11,h15,h16, -⟩:=hF;subst hR;refine⟨aT (want:=false) h11 hc,fun a ha K hK=>?_⟩;have hc1:=hc;have e179:a.tmps.getD 179 undef=bif (((decide (o.due≤now'))&&(decide (0<now')))==false)then _ else undef:=(ha 179).trans h15
         rw[hc1,cond_true]at e179;have e180:a.tmps.getD 180 undef=bif (((decide (o.due≤now'))&&(decide (0<now')))==false)then _ else undef:=(ha 180).trans h16
         rw[hc1,cond_true]at e180;clear ha h11 h15 h16;clear hc hc1;go_simp
         refine hK _ ?_;rfl
        apply Lo.cond 19 rfl rfl [11,17] (by kernel_rfl) (fun _=>rfl) (((decide (o.due≤now'))&&(decide (0<now')))==false);refine Exists.intro (.pointer (some ⟨ga,k*4,none⟩)) ?_;refine And.intro ?_ (And.intro ?_ ?_)
        ·intro u w1 hR hF hc
         exact aU (want:=false) hF.1 hc
        ·intro u w1 hR hF hc
         obtain⟨h11,h17, -⟩:=hF;subst hR;refine⟨aT (want:=false) h11 hc,fun a ha K hK=>?_⟩;have hc1:=hc;have e181:a.tmps.getD 181 undef=bif (((decide (o.due≤now'))&&(decide (0<now')))==false)then _ else undef:=(ha 181).trans h17
         rw[hc1,cond_true]at e181;clear ha h11 h17;clear hc hc1;go_simp
         refine hK _ ?_;rfl
        apply Lo.cond 20 rfl rfl [11,18] (by kernel_rfl) (fun _=>rfl) (((decide (o.due≤now'))&&(decide (0<now')))==false);apply Exists.intro;refine And.intro ?_ (And.intro ?_ ?_)
        ·intro u w1 hR hF hc
         exact aU (want:=false) hF.1 hc
        ·intro u w1 hR hF hc
         obtain⟨h11,h18, -⟩:=hF;subst hR;refine⟨aT (want:=false) h11 hc,fun a ha K hK=>?_⟩;have hc1:=hc;have e182:a.tmps.getD 182 undef=bif (((decide (o.due≤now'))&&(decide (0<now')))==false)then _ else undef:=(ha 182).trans h18
         rw[hc1,cond_true]at e182;clear ha h11 h18;clear hc hc1;go_simp
         refine hK _ ?_;rfl
        apply Lo.cond 21 rfl rfl [11,19] (by kernel_rfl) (fun _=>rfl) (((decide (o.due≤now'))&&(decide (0<now')))==false);refine Exists.intro (.int .i64 ((o.least+600:Nat):Int)) ?_;refine And.intro ?_ (And.intro ?_ ?_)
        ·intro u w1 hR hF hc
         exact aU (want:=false) hF.1 hc
        ·intro u w1 hR hF hc
         obtain⟨h11,h19, -⟩:=hF;subst hR;refine⟨aT (want:=false) h11 hc,fun a ha K hK=>?_⟩;have hc1:=hc;have e183:a.tmps.getD 183 undef=bif (((decide (o.due≤now'))&&(decide (0<now')))==false)then _ else undef:=(ha 183).trans h19
         rw[hc1,cond_true]at e183;clear ha h11 h19;clear hc hc1;go_simp
         refine hK _ ?_;first|rfl|(rw[IntWalk.i64_left,IntWalk.wrap64_in _ (by omega)];congr 1;omega)|(congr 1;omega)|(simp[IntKind.wrap,IntKind.bits,IntKind.signed];omega)
        apply Lo.cond 22 rfl rfl [11,14,20] (by kernel_rfl) (fun _=>rfl) (((decide (o.due≤now'))&&(decide (0<now')))==false);refine Exists.intro (.bool (decide (o.least+600≤DD))) ?_;refine And.intro ?_ (And.intro ?_ ?_)
        ·intro u w1 hR hF hc
         exact aU (want:=false) hF.1 hc
        ·intro u w1 hR hF hc
         obtain⟨h11,h14,h20, -⟩:=hF;subst hR;refine⟨aT (want:=false) h11 hc,fun a ha K hK=>?_⟩;have hc1:=hc;have e178:a.tmps.getD 178 undef=bif (((decide (o.due≤now'))&&(decide (0<now')))==false)then _ else undef:=(ha 178).trans h14
         rw[hc1,cond_true]at e178;have e184:a.tmps.getD 184 undef=bif (((decide (o.due≤now'))&&(decide (0<now')))==false)then _ else undef:=(ha 184).trans h20
         rw[hc1,cond_true]at e184;clear ha h11 h14 h20;clear hc hc1;go_simp
         refine hK _ ?_;exact congrArg Value.bool (decide_eq_decide.2 (by omega))
        refine Lo.aJ 23 rfl rfl [11,21] (.bool (((decide (o.due≤now'))&&(decide (0<now')))||(decide (o.least+600≤DD)))) (by kernel_rfl) (fun u w1 hR hF=>?_) (fun _=>rfl) ?_
        ·obtain⟨h11,h21, -⟩:=hF
         subst hR;refine⟨rfl,fun a ha K hK=>?_⟩;have e175:=(ha 175).trans h11;have e185:a.tmps.getD 185 undef=bif (((decide (o.due≤now'))&&(decide (0<now')))==false)then .bool (decide (o.least+600≤DD))else undef:=(ha 185).trans h21
         clear ha h11 h21;rcases Bool.eq_false_or_eq_true ((decide (o.due≤now'))&&(decide (0<now')))with hT|hT
         all_goals
          simp only[hT,Bool.and_true,Bool.true_and,Bool.and_false,Bool.not_true,Bool.not_false,Bool.true_beq,Bool.false_beq,beq_self_eq_true,cond_true,cond_false]at e175 e185;have UO:=hide hT;clear hT;go_simp
          refine hK _ ?_;simp only[UO.out,Bool.true_or,Bool.false_or,Bool.true_and,Bool.false_and]
        refine Lo.done [22] (fun u w1 bP hSd hF=>?_);clear hSd;obtain⟨f22, -⟩:=hF;subst bP;have d22:u 22=_:=f22;clear f22;simp only[ax,Act.put,List.setIfInBounds_toArray,List.set_cons_succ,List.set_cons_zero,Nat.zero_add,Nat.reduceAdd,d22];clear c0 c1 c2 c3 d22;have hDD:=TD.out;clear TD;go_wp2
        all_goals first|exact⟨⟨k+1,by omega,by go_num,by rw[HN.out];go_num,Gq.out.drew⟩,by simp only[intOf];omega⟩|(exfalso;omega)
     ·obtain rfl:k=all'.length:=by omega
      rw[List.take_length]at*;have Uf:(opens 0 all').length=q'.length:=by rw[UW.out,List.length_map]
      rw[Uf];clear Uf;obtain⟨d5,sb5,SF5,WF5,mb5,came5,hh5, -, -⟩:=HL6.out.house;have HH5:=hide (hh5.still AX);have hL7:=HL6.out.still AX;have HL7:=hide hL7;clear hh5 AX hL7;go_wp2_with fail
      refine(EJ _ _ _ _ _ _ _ _ _ _ _ _ _ HH5.out).mono ?_;rintro e w12 ⟨rfl,rfl⟩;go_wp2
      exact⟨⟨i+1,vals',q',all',_,now',by have:=E5.out;omega,by go_num,rfl,rfl,HL7.out,UW.out,hv',ha',hn'⟩,by simp only[intOf];have:=E5.out;omega⟩
  ·obtain rfl:i=rs.length:=by omega
   clear hlt;have hnb0:wr.cell? ⟨nb,0,none⟩=some (.int .i64 (now:Nat)):=by rw[cell_of HL.out.uP];rfl
   go_wp2_with fail
   refine(Jk (t:=now+1000) HL.out Vg.out (by omega) (by omega) (by omega) (by omega)).mono ?_;rintro e w9 ⟨ov,rfl,base,outs,ks,g1,g2,g3,g4,g5⟩;have hq0:q.filter (fun x=> !pR (now+1000) x)=[]:=by
    rw[List.filter_eq_nil_iff];intro y hy;have:=(HL.out.stay y hy).2.2.2.1;simp only[pR,Bool.not_eq_true',decide_eq_false_iff_not];omega
   rw[hq0]at g1 g5;have hout:∀k cs T fr,w9.heap[k]? =some (.cells cs T fr)→T≠3→k∉[nb]:=fun k cs T fr e hne hm=>Lg.ai e g1.uP hne (List.mem_singleton.1 hm)
   have ht9:Turn [nb] w9 (w9.setCell ⟨nb,0,none⟩ (.int .i64 ((now+1000:Nat):Int))):=(Turn.refl [nb] w9).setCell (.inl (by simp)) _;have hck:=Lu (g1.FY (now+1000)) (g2.kept ht9 (fun k cs fr e=>hout k cs _ fr e (by decide)) (fun k cs fr e=>hout k cs _ fr e (by decide))) g3 g4 (by omega);rw[show((now+1000:Nat):Int)=(now:Int)+1000 from by omega]at hck;have Vt:=hide hck;have hnb9:w9.cell? ⟨nb,0,none⟩=some (.int .i64 (now:Nat)):=by rw[cell_of g1.uP];rfl
   have Zv:=lt_of_heap g1.uP;have Zw:w9.frozen? ⟨nb,0,none⟩=false:=af g1.uP 0;have HG5:=hide g5;clear hnb0 g1 g2 g3 g4 g5 hq0 hout ht9 hck;go_wp2_with fail
   refine Vt.out.mono ?_;rintro e w10 ⟨rfl,hL10⟩;have HL10:=hide hL10;obtain⟨d5,sb5,SF5,WF5,mb5,came5,hh5, -, -⟩:=hL10.house;have HH5:=hide hh5;clear hL10 hh5 hnb9 Zv Zw Vt;go_wp2_with fail
   refine(EJ _ _ _ _ _ _ _ _ _ _ _ _ _ HH5.out).mono ?_;rintro e w11 ⟨rfl,rfl⟩;have hal:=dP ks 0 all;obtain⟨al,hal2⟩:∃al,al=fK ks 0 all:=⟨_,rfl⟩;rw[←hal2]at hal HL10 HG5;clear hal2;obtain⟨va2,vc2,rfl,hv1,hv2⟩:=HL10.out.row.form;rw[hmx]at hv2;have hab0:w10.cell? ⟨ab,0,none⟩=some (.slice va2 al.length vc2):=by rw[cell_of HL10.out.box];rfl
   have HAB:=hide hab0;clear hab0;go_wp2
   go_loopw [22] (fun kv w2=>∃k:Nat,k≤al.length∧kv= .int .i64 k∧Turn [] w10 w2) (fun kv _=>al.length-(intOf kv).toNat)
   case atStart=>exact⟨0,Nat.zero_le _,rfl,by first|exact Turn.refl _ _|exact(Turn.refl _ _).drew⟩
   case round=>
    obtain⟨k,hk,rfl,AX⟩:=hrel;have Gq:=hide AX;have hab0:=(World.cell?_of_block (w:=w10) (AX.block _ (World.block_lt_of_cell? _ _ HAB.out) (by simp))).trans HAB.out;by_cases hkt:k<al.length
    ·obtain⟨ga,UN,e,hc, -⟩:=(HL10.out.still AX).row.at rF (j:=k) hkt
     simp only[Value.slice.injEq,true_and]at e;obtain⟨rfl,rfl⟩:=e;have hto:al[k].told=true:=by
      cases ht:al[k].told with
      |true=>rfl
      |false=>
       have:=Dh 0 al k hkt ht;rw[HG5.out]at this;simp at this
     have c3:wr.cell? ⟨ga,k*4+3,none⟩=some (.bool true):=by rw[hc 3 (by omega),←hto];rfl
     clear hc hto AX;go_wp2
     exact⟨⟨k+1,by omega,by go_num,Gq.out⟩,by simp only[intOf];omega⟩
    ·obtain rfl:k=al.length:=by omega
     clear AX;go_wp2
     go_ret
     exact⟨rfl,(HL10.out.turn.same Gq.out).nil⟩
end Br
end
section
open Go.RowKit
namespace Lv
theorem gTab:Tryz.prog.globalNamed "internal/strconv.uint64pow10" =some ((Tryz.prog.globalNamed "internal/strconv.uint64pow10").getD 0):=by kernel_rfl
theorem Zx:(Tryz.prog.globals[(Tryz.prog.globalNamed "internal/strconv.uint64pow10").getD 0]?).map (·.type)=some 328:=by kernel_rfl
theorem cTab:Tryz.prog.cellsOf 328=20:=by kernel_rfl
theorem cU64:Tryz.prog.cellsOf 279=1:=by kernel_rfl
theorem gRng:Tryz.prog.globalNamed "strconv.ErrRange" =some ((Tryz.prog.globalNamed "strconv.ErrRange").getD 0):=by kernel_rfl
theorem Zy:(Tryz.prog.globals[(Tryz.prog.globalNamed "strconv.ErrRange").getD 0]?).map (·.type)=some 25:=by kernel_rfl
theorem gSyn:Tryz.prog.globalNamed "strconv.ErrSyntax" =some ((Tryz.prog.globalNamed "strconv.ErrSyntax").getD 0):=by kernel_rfl
theorem Zz:(Tryz.prog.globals[(Tryz.prog.globalNamed "strconv.ErrSyntax").getD 0]?).map (·.type)=some 25:=by kernel_rfl
theorem SC: "*" ++ "errors.errorString" = "*errors.errorString" :=by decide
theorem Vx(u:TypeId)(h:Tryz.prog.typeName? 3 u=some "*errors.errorString"):u=313:=
 typeName_ptr_named (nm:= "errors.errorString") (by rw[SC];kernel_rfl) (by kernel_rfl) (by decide) u (by rw[SC];exact h)
theorem cES:Tryz.prog.cellsOf 315=1:=by kernel_rfl
theorem cStr:Tryz.prog.cellsOf 9=1:=by kernel_rfl
theorem ZA:(Rows.laid_internal_strconv_uint64pow10:DataW Unit)=Lib.tabData .u64 Lib.pow10Tab:=by kernel_rfl
theorem et:Tryz.prog.globalNamed "errors.errorType" =some 0:=by kernel_rfl
theorem rt:(Tryz.prog.cutTypes.find? (·.1== "internal/reflectlite.rtype")).map (·.2)=some 224:=by kernel_rfl
theorem oneRow:((List.range Tryz.prog.types.size).filter fun t=>Tryz.prog.rowNamed t [101,114,114,111,114])=[25]:=by kernel_rfl
def ZB(W:World):Prop:=Sn.Qa W∧As.lM W
def only(n:String)(l:List (String×DataW Unit)):List (String×DataW Unit):=l.filter (fun x=>x.1==n)
theorem ZT{l:List (String×DataW Unit)}(hs:only "strconv.ErrSyntax" l=[("strconv.ErrSyntax",Rows.laid_strconv_ErrSyntax)])(hr:only "strconv.ErrRange" l=[("strconv.ErrRange",Rows.laid_strconv_ErrRange)])
 (ht:only "internal/strconv.uint64pow10" l=[("internal/strconv.uint64pow10",Rows.laid_internal_strconv_uint64pow10)])(he:only "errors.errorType" l=[("errors.errorType",Rows.laid_errors_errorType)]){W:World}(h0:laidMetH Tryz.prog l W):ZB W:=by
 have h1:laidMetH Tryz.prog (only "strconv.ErrSyntax" l) W:=laidMetH.filter _ h0;have h2:laidMetH Tryz.prog (only "strconv.ErrRange" l) W:=laidMetH.filter _ h0;have h3:laidMetH Tryz.prog (only "internal/strconv.uint64pow10" l) W:=laidMetH.filter _ h0;have h4:laidMetH Tryz.prog (only "errors.errorType" l) W:=laidMetH.filter _ h0;rw[hs,MakeChecks.laidMetH_plain _ _ _ (by kernel_rfl)]at h1;rw[hr,MakeChecks.laidMetH_plain _ _ _ (by kernel_rfl)]at h2;rw[ht,MakeChecks.laidMetH_plain _ _ _ (by kernel_rfl),ZA]at h3;rw[he]at h4;have h5:laidMet Tryz.prog [] W∧handlesMet Tryz.prog [("errors.errorType",Rows.laid_errors_errorType)] W:=h4;obtain⟨a,s,e, -⟩:=laid_sentinel h2 gRng Zy Tryz.underlying25 Vx Tryz.underlying313 Tryz.underlying315 rfl rfl Tryz.underlying9 cES cStr;obtain⟨a',s',e', -⟩:=laid_sentinel h1 gSyn Zz Tryz.underlying25 Vx Tryz.underlying313 Tryz.underlying315 rfl rfl Tryz.underlying9 cES cStr;obtain⟨name,u,ty,e1,e2,e3,e4,e5⟩:=h5.2 _ (List.mem_singleton.2 rfl);have en:name=[101,114,114,111,114]:=(Option.some.inj e1).symm;subst en;obtain rfl:=Option.some.inj (rt.symm.trans e2);have hm:ty∈(List.range Tryz.prog.types.size).filter fun t=>Tryz.prog.rowNamed t [101,114,114,111,114]:=List.mem_filter.2 ⟨List.mem_range.2 e3,e4⟩
 rw[oneRow]at hm;obtain rfl:=List.mem_singleton.1 hm;have hd:typeHandle Tryz.prog 25= .pointer (some ⟨9,25,none⟩):=by kernel_rfl
 rw[hd]at e5;exact⟨⟨Lib.tabIs_of_head gTab Zx Tryz.underlying328 Tryz.underlying279 cU64 cTab h3,⟨_,_,e'⟩,⟨_,_,e⟩⟩,by simpa[As.lM]using World.var?_cell et e5 0⟩
end Lv
end
end Go.Proofs.YtmjpdhpmjmgmaaaGreatDoor
