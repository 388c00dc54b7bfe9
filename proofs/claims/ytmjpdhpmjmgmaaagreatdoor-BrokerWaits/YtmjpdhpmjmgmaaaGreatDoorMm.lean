/- Lemmas of the claim, part m of 14. -/
import Derived.Test.YtmjpdhpmjmgmaaaGreatDoorMl
import Derived.Test.YtmjpdhpmjmgmaaaGreatDoorMb
import Derived.Deep.DeepCutAuto
import Derived.Test.YtmjpdhpmjmgmaaaGreatDoorMg
import Derived.Test.YtmjpdhpmjmgmaaaGreatDoorMd
namespace Go.Proofs.YtmjpdhpmjmgmaaaGreatDoor
open Go.RowKit Go.Maps
set_option maxRecDepth 100000
set_option linter.unusedSimpArgs false
set_option linter.unusedVariables false
section
attribute [local go_sem] Oper.semAt_some
open Tp (iH)
open Lg
open Wh (Tm Xt aP jX pM bI je dF dQ eH ak vV IU IR Dq gG og Sq aG)
open Dk (DA ay Parts fE aW dI)
namespace Br
def O3(sb mb:Nat):Array Value:=(.pointer (some ⟨sb,0,none⟩):: .int .i64 0:: .map none::(List.replicate 448 (.slice none 0 0)++[.map (some mb), .int .i64 0])).toArray
theorem Sm(sb mb:Nat):(O3 sb mb).size=453:=by unfold O3;simp
theorem Lp(w w':World)(base b sb mb:Nat)(hb:base≤b)(hx:w'.heap[b]? =some (.cells (O3 sb mb) 64 (0,0))):aP w' base b (XT sb mb 0) [b] 0 []:=by
 have hrows:IU (fun _=>(.slice none 0 0:Value))=[]:=by
  rw[List.eq_nil_iff_forall_not_mem];intro q hq;obtain⟨j, -,h⟩:=vV.1 hq;simp[Value.ownBlock]at h
 refine⟨none,fun _=> .slice none 0 0,fun _=>[],⟨⟨O3 sb mb,hx,Sm _ _,?_,?_,fun j hj=>?_,?_,?_,?_⟩,hb,rfl,by simp,fun j hj=> .inl ⟨rfl,rfl⟩,by simp[Value.ownBlock]⟩,⟨by omega,fun j hj=>Sq.refl _,by simp,by simp,by simp⟩,?_⟩
 ·unfold O3;simp
 ·unfold O3;simp
 ·unfold O3
  rw[List.getElem?_toArray,show 3+j=j+1+1+1 by omega,List.getElem?_cons_succ,List.getElem?_cons_succ,List.getElem?_cons_succ,List.getElem?_append_left (by simp;omega),List.getElem?_replicate,if_pos hj]
 ·unfold O3;simp
 ·unfold O3
  rw[List.getElem?_toArray,show(451:Nat)=448+1+1+1 by omega,List.getElem?_cons_succ,List.getElem?_cons_succ,List.getElem?_cons_succ,List.getElem?_append_right (by simp)];simp
 ·unfold O3
  rw[List.getElem?_toArray,show(452:Nat)=449+1+1+1 by omega,List.getElem?_cons_succ,List.getElem?_cons_succ,List.getElem?_cons_succ,List.getElem?_append_right (by simp)];simp
 ·unfold eH
  rw[hrows];rfl
theorem Df{P:Program}{c:Code}{Q:Exit→Act→World→Prop}{a:Act}{w w':World}(e:w'=w)(h:Code.wp P c Q a w'):Code.wp P c Q a w:=e▸h
theorem Xp(w:World):(Instr.makeMap 56 none).run Tryz.prog w= .ok (.map (some w.heap.size)) (w.alloc (.map #[] 0)):=by
 simp[Instr.makeMap,run_underlying Tryz.underlying56]
set_option maxHeartbeats 4000000 in
theorem Nr(w:World)(sb base:Nat)(hb:base≤w.heap.size):
 Calls Tryz.prog 4 #[.pointer (some ⟨sb,0,none⟩), .int .i64 0] w fun e w'=>∃b mb WF,e= .returned (.tuple #[.pointer (some ⟨b,0,none⟩), .nilIface])∧aP w' base b (XT sb mb 0) WF 0 []∧jg w' mb []∧w.heap.size≤mb∧w.heap.size≤b∧mb∉WF∧(∀j∈WF,w.heap.size≤j)∧Turn [] w w':=by
 obtain⟨w1,hw1⟩:∃w1,w1=w.alloc (.map #[] 0):=⟨_,rfl⟩;have ht1:Turn [] w w1:=by rw[hw1];exact(Turn.refl _ _).alloc _
 have hz1:w1.heap.size=w.heap.size+1:=by rw[hw1];simp
 have hm1:jg w1 w.heap.size []:=by rw[hw1];exact jg.made w
 obtain⟨w2,hw2⟩:∃w2,w2=w1.alloc (.cells (O3 sb w.heap.size) 64):=⟨_,rfl⟩;have ht2:Turn [] w1 w2:=by rw[hw2];exact(Turn.refl _ _).alloc _
 have hx2:w2.heap[w1.heap.size]? =some (.cells (O3 sb w.heap.size) 64 (0,0)):=by rw[hw2];exact ae w1 _
 rw[hz1]at hx2;have hwh:=Lp w w2 base (w.heap.size+1) sb w.heap.size (by omega) hx2;have Fg:=Wh.Na w2 base (w.heap.size+1) _ 0 _ [] hwh 0 (Nat.le_refl _) (by omega);have Xm:=hide Fg;have HM2:=hide (hm1.still ht2);have HT2:=hide (ht1.same ht2);have HW1:=hide hw1;have HW2:=hide hw2;have hmk:=Xp;have hzb:=lt_of_heap hx2;clear hwh Fg hm1 ht1 ht2 hw1 hw2 hx2;go_enter Tryz.func4,Tryz.ntmps4
 go_upto_region 3 with fail
 go_cut [6]from 12 to 15 (fun e6 wx=>e6= .pointer (some ⟨w.heap.size+1,0,none⟩)∧wx=w2)
 case first=>
  go_wp2
  go_meet
  refine⟨rfl,?_⟩;rw[←HW1.out];exact(HW2.out.trans (by kernel_rfl)).symm
 case rest=>
 obtain⟨rfl,rfl⟩:=hcut;go_wp2_with fail
 refine Xm.out.mono ?_;rintro e w3 ⟨ia,ic,D,WF,rfl,KX, -,hwh3,ht3,hf3⟩;have hs2:=HT2.out.size;have hnm:w.heap.size∉WF:=fun hm=>(hf3 _ hm).elim (fun h=>by have:=List.mem_singleton.1 h;omega) (fun h=>by omega)
 have RV:=hide hwh3;have HM3:=hide (HM2.out.kept ht3 (fun hm=>by have:=List.mem_singleton.1 hm;omega));have HT3:=hide (HT2.out.trans ht3 (fun k hk=> .inr (by have:=List.mem_singleton.1 hk;omega)));have HF3:Hid (∀j∈WF,w.heap.size≤j):=fun j hj=>(hf3 j hj).elim (fun h=>by have:=List.mem_singleton.1 h;omega) (fun h=>by omega)
 have Vz:=hide hnm;clear KX hwh3 ht3 hf3 hnm;go_wp2
 refine bodyPost_ret (results_tmp2 rfl _ _ _) rfl ?_;exact⟨w.heap.size+1,w.heap.size,WF,rfl,RV.out,HM3.out,Nat.le_refl _,by omega,Vz.out,HF3.out,HT3.out⟩
theorem EJ(w:World)(base d sb mo b:Nat)(SF WF:List Nat)(mb came now:Nat)(vals:List (List UInt8))(q:List Wq)(h:dG w base d sb mo b SF WF mb came now vals q):
 Calls Tryz.prog 11 #[.pointer (some ⟨b,0,none⟩)] w fun e w'=>e= .returned (.int .i64 (q.length:Int))∧w=w':=by
 obtain⟨-,hb1, -,hbz, -⟩:=h.xs;have hlen:=fun ty=>h.map.len ty
 simp only[List.length_map]at hlen;clear h;go_enter Tryz.func11,Tryz.ntmps11
 go_wp2
 go_ret
 exact⟨rfl,rfl⟩
end Br
end
section
attribute [local go_sem] Oper.semAt_some
open Tp (iH)
open Lg
open Wh (Tm Xt aP jX bI dF dQ eH ak IR Dq gG og)
open Dk (DA ay Parts fE aW dI)
namespace Br
structure nO(w:World)(base d sb mo:Nat)(eU bytes:Int)(F:List Nat)(room b mb:Nat)(WF:List Nat):Prop where
 bare:oz w base d sb mo eU bytes F room
 dL:aP w base b (XT sb mb 0) WF 0 []
 map:jg w mb []
 low:base≤mb
 sw:∀k∈sb::F,k∉WF
 sm:mb∉sb::F
 wm:mb∉WF
section
variable {w w':World} {base d sb mo:Nat} {eU bytes:Int} {F:List Nat} {room b mb:Nat} {WF:List Nat}
theorem nO.house(h:nO w base d sb mo eU bytes F room b mb WF)(hm:Made w w' base d sb mo F):∃SF,dG w' base d sb mo b SF WF mb 0 0 [] []∧Turn (sb::F) w w'∧∀k∈SF,k∈sb::F∨w.heap.size≤k:=by
 obtain⟨SF,h1,h2,h3⟩:=hm;exact⟨SF,⟨h1,h.dL.kept h2 (fun k hk hn=>h.sw k hn hk),h.map.kept h2 h.sm,h.low,fun k hk hn=>(h3 k hk).elim (fun h4=>h.sw k h4 hn) (fun h4=>by have:=(h.dL.lt k hn).2;omega),fun hn=>(h3 mb hn).elim h.sm (fun h4=>by have:=h.map.lt;omega),h.wm⟩,h2,h3⟩
set_option maxHeartbeats 8000000 in
theorem EK(h:nO w base d sb mo eU bytes F room b mb WF)(hv:∀Z,Turn F w Z→Sn.dA Z)(fr:Int):
 Calls Tryz.prog 7 #[.pointer (some ⟨b,0,none⟩), .int .i64 fr, .agg #[.int .i64 5, .int .i64 0, .string ⟨#[97]⟩, .int .i64 0, .int .i64 0, .int .i64 0, .int .i64 0, .int .i64 0, .int .i64 0, .int .i64 1, .bool false, .bool false, .slice none 0 0]] w fun e w'=>∃ov SF,e= .returned ov∧dG w' base d sb mo b SF WF mb 0 0 [] []∧Turn (sb::F) w w'∧∀k∈SF,k∈sb::F∨w.heap.size≤k:=by
 obtain⟨hb0, -, -,hbz, -⟩:=ji h.dL;have hbw:b∈WF:=by
  obtain⟨ah,sv,sl,h1,h2,rfl⟩:=h.dL;exact ak.2 (.inl rfl)
 have hbn:b∉sb::F:=fun hm=>h.sw b hm hbw
 have hans:=fun Z (hZ:Turn [] w Z)=>DK (h.bare.still hZ) (fun Y hY=>hv Y ((hZ.mono (by simp)).same hY)) b ((World.cell?_of_block (w:=w) (hZ.block _ hbz (by simp))).trans hb0) (Nat.lt_of_lt_of_le hbz hZ.size) hbn
 have Aa:=hide hans;have H:=hide h;have hnb:∀k,w.heap.size≤k→k∉sb::F:=fun k hk hm=>by have:=h.bare.lt k hm;omega
 have rH:=hide hnb;have hx0:=ae w (.cells #[.int .i64 5, .int .i64 0, .string ⟨#[97]⟩, .int .i64 0, .int .i64 0, .int .i64 0, .int .i64 0, .int .i64 0, .int .i64 0, .int .i64 1, .bool false, .bool false, .slice none 0 0] 35);obtain⟨w0,hw0⟩:∃w0,w0=w.alloc (.cells #[.int .i64 5, .int .i64 0, .string ⟨#[97]⟩, .int .i64 0, .int .i64 0, .int .i64 0, .int .i64 0, .int .i64 0, .int .i64 0, .int .i64 1, .bool false, .bool false, .slice none 0 0] 35):=⟨_,rfl⟩;rw[←hw0]at hx0;have ht0:Turn [] w w0:=by rw[hw0];exact(Turn.refl _ _).alloc _
 have HW0:=hide hw0;have HT0:=hide ht0;have HX0:=hide hx0;clear h hans hb0 hv hnb hx0 hw0 ht0 hbw hbn;go_enter Tryz.func7,Tryz.ntmps7
 go_upto_region 1 with fail
 rw[←HW0.out];go_wp2_with (refine az rfl 35 _ rfl ⟨w.heap.size,0,none⟩ rfl _ (iW HX0.out) ?_)
 refine(Aa.out _ HT0.out).mono ?_;rintro e w2 ⟨rfl,hmd⟩;have hz0:=HT0.out.size;have hx2:=hmd.choose_spec.2.1.heap HX0.out (rH.out _ (by omega));have hfs:=fC (cs:= #[.int .i64 5, .int .i64 0, .int .i64 0, .int .i64 0, .int .i64 0, .int .i64 0, .bool false, .slice none 0 0, .slice none 0 0]) (ae w2 (.cells fQ 41));obtain⟨w3,hw3⟩:∃w3,w3=(w2.alloc (.cells fQ 41)).setRow w2.heap.size #[.int .i64 5, .int .i64 0, .int .i64 0, .int .i64 0, .int .i64 0, .int .i64 0, .bool false, .slice none 0 0, .slice none 0 0]:=⟨_,rfl⟩;rw[←hw3]at hfs;have hta3:Turn [] w2 w3:=((Turn.refl [] w2).alloc (.cells fQ 41)).trans hfs.2 (fun q hq=> .inr (by obtain rfl:=List.mem_singleton.1 hq;exact Nat.le_refl _));have HM3:=hide ((hmd.still hta3).first HT0.out);have HX3:=hide (hta3.heap hx2 (by simp));have HA3:=hide hfs.1;have hw3':=hw3;unfold fQ at hw3';have HW3:=hide hw3';have hwi:=Ja w3 5 (.inr rfl) (.int .i64 0) (.string ⟨#[97]⟩) (.int .i64 0) (.int .i64 0) (.int .i64 0) (.int .i64 0) (.int .i64 0) (.int .i64 0) (.int .i64 1) (.bool false) (.bool false) (.slice none 0 0) (.int .i64 5) (.int .i64 0) (.int .i64 0) (.int .i64 0) (.int .i64 0) (.int .i64 0) (.bool false) (.slice none 0 0) (.slice none 0 0);have Nl:=hide hwi;clear hx2 hfs hw3 hta3 hw3' hwi hmd;go_wp2_with (first|(refine wpList_store_row rfl 41 _ _ rfl w2.heap.size #[.int .i64 5, .int .i64 0, .int .i64 0, .int .i64 0, .int .i64 0, .int .i64 0, .bool false, .slice none 0 0, .slice none 0 0] rfl rfl _ _ (ae w2 (.cells fQ 41)) (by kernel_rfl) rfl (by kernel_rfl) ?_;rw[←HW3.out])|(refine az rfl 35 _ rfl ⟨w.heap.size,0,none⟩ rfl _ (iW HX3.out) ?_)|(refine az rfl 41 _ rfl ⟨w2.heap.size,0,none⟩ rfl _ (iT HA3.out) ?_))
 refine Nl.out.mono ?_;rintro e w4 ⟨rfl,ht4⟩;obtain⟨o,ho⟩:∃o:Ot,o=(⟨fr,5,0,0,0,0,0,false, .slice none 0 0,[]⟩:Ot):=⟨_,rfl⟩;obtain⟨w5,hw5⟩:∃w5,w5=w4.alloc (.cells (vZ o).toArray 43):=⟨_,rfl⟩;have ht5:Turn [] w4 w5:=by rw[hw5];exact(Turn.refl _ _).alloc _
 have hx5:=ht5.heap (ht4.heap HX3.out (by simp)) (by simp);have hA4:=ht4.heap HA3.out (by simp);have q0:w5.cell? ⟨w.heap.size,0,none⟩=some (.int .i64 5):=by rw[cell_of hx5];rfl
 have zq:=lt_of_heap hx5;rw[ho]at hw5;simp only[vZ]at hw5;have HW5:=hide hw5;have HA4:=hide hA4;have HM5:=hide ((HM3.out.still ht4).still ht5);clear ht4 hw5 ht5 hx5 hA4 Nl ho;go_upto_region 8 with(first|(refine az rfl 41 _ rfl ⟨w2.heap.size,0,none⟩ rfl _ (iT HA4.out) ?_))
 rw[←HW5.out];go_wp2
 go_ret
 obtain⟨SF,h1,h2,h3⟩:=H.out.house HM5.out;exact⟨_,SF,rfl,h1,h2,h3⟩
end
set_option maxHeartbeats 2000000 in
theorem xO(w:World)(mo:Nat)(h1:100≤mo)(h2:mo≤1048576):
 Calls Tryz.prog 5 #[.int .i64 (mo:Int)] w fun e w'=>∃sb d F,e= .returned (.pointer (some ⟨sb,0,none⟩))∧oz w' w.heap.size d sb mo (-1) (-1) F 1048576∧(∀k∈sb::F,w.heap.size≤k)∧Turn [] w w':=by
 go_enter Tryz.func5,Tryz.ntmps5
 go_wp2_with fail
 refine(Dk.Vy 1048576 (Nat.le_refl _) w w.heap.size (Nat.le_refl _)).mono ?_;rintro e w1 ⟨rfl,hd,ht1⟩;obtain⟨ah,ms,hp⟩:=hd;have hop:=Tp.DT hp (xC _ _) (by rfl) (mo:Int) (-1) (-1) (by omega);have Vg:=hide hop;have HP:=hide hp;have HT1:=hide ht1;clear hp hop ht1;go_wp2_with fail
 refine Vg.out.mono ?_;rintro e w2 ⟨sb,rfl,hsb,hx,ht2⟩;have hs:=HT1.out.size;have HX:=hide hx;have HT2:=hide ht2;clear hx ht2;go_wp2
 go_ret
 refine⟨sb,_,_,rfl,⟨⟨ah,ms,HP.out.kept HT2.out (by simp)⟩,HX.out,by omega,h1,h2,by omega⟩,fun k hk=>?_,HT1.out.same HT2.out⟩;rcases List.mem_cons.1 hk with rfl|hk
 ·omega
 ·have:=List.mem_singleton.1 hk
  omega
theorem Jf{w w':World}{base d sb mo:Nat}{eU bytes:Int}{F:List Nat}{room b mb:Nat}{WF:List Nat}(h:oz w base d sb mo eU bytes F room)(hb:base≤w.heap.size)(hwh:aP w' base b (XT sb mb 0) WF 0 [])(hm:jg w' mb [])(h1:w.heap.size≤mb)(h2:mb∉WF)(h3:∀j∈WF,w.heap.size≤j)(ht:Turn [] w w'):nO w' base d sb mo eU bytes F room b mb WF:=
 ⟨h.still ht,hwh,hm,by omega,fun k hk hn=>by have:=h.lt k hk;have:=h3 k hn;omega,fun hn=>by have:=h.lt mb hn;omega,h2⟩
theorem Ns{w:World}{k:Nat}{r:Bt.Rec}(hk:w.heap[k]? =some (.cells (recC r).toArray 47 (0,0))) (hok:jD r):bn w (.slice (some ⟨k,0,none⟩) 1 1) [r]:=by
 refine⟨some ⟨k,0,none⟩,1,rfl,Nat.le_refl _,by simp[maxLen],fun h=>(by cases h),fun j hj=>?_⟩;have h0:j=0:=by simpa using hj
 subst h0;refine⟨hok,_,rfl,fun i u hu=>?_⟩;rw[addr_add,addr_add,cell_of hk];simpa using hu
theorem Nv{v:List UInt8}(h:v.length≤500):jD (fU 0 v):=⟨by simp[fU],by simp[fU],by simp[fU],by simp[fU],by simp[fU],by simp only[fU];omega⟩
set_option maxHeartbeats 8000000 in
theorem Sr(w:World)(hv:∀Z,Turn [] w Z→Sn.dA Z∧As.lM Z):
 Calls Tryz.prog 6 #[] w fun e w'=>e= .returned (.bool true)∧Turn [] w w':=by
 have HV:=hide hv;clear hv;have hst:∀Z:World,Calls Tryz.prog 15 #[] Z fun e w'=>∃sb d F,e= .returned (.pointer (some ⟨sb,0,none⟩))∧oz w' Z.heap.size d sb 400 (-1) (-1) F 1048576∧(∀k∈sb::F,Z.heap.size≤k)∧Turn [] Z w':=by
  intro Z;have hso:=xO Z 400 (by omega) (by omega);have Y8:=hide hso;clear hso;go_enter Tryz.func15,Tryz.ntmps15
  go_wp2_with fail
  refine Y8.out.mono ?_;rintro e w' ⟨sb,d,F,rfl,h1,h2,h3⟩;have H:=hide (show oz w' Z.heap.size d sb 400 (-1) (-1) F 1048576∧(∀k∈sb::F,Z.heap.size≤k)∧Turn [] Z w' from⟨h1,h2,h3⟩);clear h1 h2 h3;go_wp2
  go_ret
  exact⟨sb,d,F,rfl,H.out.1,H.out.2.1,H.out.2.2⟩
 have HST:=hide hst;clear hst;go_enter Tryz.func6,Tryz.ntmps6
 go_wp2_with fail
 refine(HST.out _).mono ?_;rintro e w1 ⟨sb,d,F,rfl,hbare,hlo,ht1⟩;have hs1:=ht1.size;have HB1:=hide hbare;have Xq:=hide hlo;have HT1:=hide ht1;clear hbare hlo ht1;go_wp2_with fail
 refine(Nr w1 sb w.heap.size (by omega)).mono ?_;rintro e w2 ⟨b,mb,WF,rfl,hwh,hmp,hmb,hbb,hwm,hwf,ht2⟩;have hfr:=Jf HB1.out (by omega) hwh hmp hmb hwm hwf ht2;have hs2:=ht2.size;have HT2:=hide (HT1.out.same ht2);have hdc:=EK hfr (fun Z hZ=>(HV.out Z (HT2.out.trans hZ (fun k hk=> .inr (by have:=Xq.out k (List.mem_cons_of_mem _ hk);omega)))).1) 1;have HDC:=hide hdc;have HWF:Hid (∀j∈WF,w.heap.size≤j):=fun j hj=>by have:=hwf j hj;omega
 clear hwh hmp hmb hbb hwm hwf ht2 hfr hdc;go_wp2_with fail
 refine HDC.out.mono ?_;rintro e w3 ⟨ov0,SF,rfl,hh3,ht3,hf3⟩;have HH3:=hide hh3;have YN:Hid (∀k∈SF,w.heap.size≤k):=fun k hk=>(hf3 k hk).elim (Xq.out k) (fun h=>by omega)
 have HT3:Hid (Turn [] w w3):=HT2.out.trans ht3 (fun k hk=> .inr (Xq.out k hk));clear hh3 ht3 hf3 HDC;have hvr:w3.heap.size=w3.heap.size:=rfl;have hrc:=ae w3 (.cells (recC (fU 0 [118])).toArray 47);have htr:Turn [] w3 (w3.alloc (.cells (recC (fU 0 [118])).toArray 47)):=(Turn.refl [] w3).alloc _;have Zh:=Ns hrc (Nv (v:=[118]) (by simp));have hdp:=C9 (HH3.out.still htr) List.Pairwise.nil (by simp) (by simp) (.inl rfl) (by simp) (x:=[118]) (by simp) (some ⟨w3.heap.size,0,none⟩) 1 Zh (fun k hk=>by simp[Value.ownBlock]at hk;subst hk;simp) (fun Z hZ=>HV.out Z ((HT3.out.same htr).trans hZ (fun k hk=> .inr (YN.out k hk)))) 1;have HDP:=hide hdp;have HTR:=hide (HT3.out.same htr);clear hrc htr Zh hdp hvr;go_wp2_with fail
 refine HDP.out.mono ?_;rintro e w4 ⟨ov,o1,outs,SF',WF',rfl,hh4, -, -, -, -,ht4,hf4,hg4⟩;have hz3:=HTR.out.size;have HT4:Hid (Turn [] w w4):=HTR.out.trans ht4 (fun k hk=> .inr (by
  rcases List.mem_append.1 hk with hk|hk
  ·exact YN.out k hk
  ·rcases List.mem_cons.1 hk with rfl|hk
   ·have:=HH3.out.low;omega
   ·exact HWF.out k hk))
 have hfe:=RX hh4 0 0 0 (Nat.zero_le _) 99 9 (.inr ⟨rfl,by simp⟩) (by omega) 2 (by rfl);have KY:=hide hfe;clear hh4 ht4 hf4 hg4 hfe HDP;go_wp2_with fail
 refine KY.out.mono ?_;rintro e w5 ⟨ov5,o,rfl, -,hO5,e1,e2,e3,e4,hft,ht5⟩;obtain⟨k,hk1,hk2⟩:=hft;have hrl:o.recs.length=1:=by
  have h1:=hk2 (by have:=ED (([]++[[118]]:List (List UInt8)).drop 0) k;simp[dZ]at this⊢;omega);rw[hk1,rq];cases k with
  |zero=>simp[dZ]at h1
  |succ k=>simp
 obtain⟨g,cap,hoe,hc, -⟩:=hO5.row.at AY (j:=0) (by simp);obtain⟨ra,rc,hre, -, -⟩:=(hO5.recs o (by simp)).form;rw[List.length_singleton]at hoe;subst hoe;have c0:w5.cell? ⟨g,0,none⟩=some (.int .i64 2):=by rw[←e1];exact hc 0 (by omega)
 have c2:w5.cell? ⟨g,2,none⟩=some (.int .i64 9):=by rw[←e3];exact hc 2 (by omega)
 have c6:w5.cell? ⟨g,6,none⟩=some (.int .i64 1):=by
  have:=hc 6 (by omega);have h2:(vZ o)[6]'(by simp[vZ])= .int .i64 1:=by show Value.int .i64 o.fin=_;rw[e4];rfl
  simpa[vZ,e4]using this
 have c8:w5.cell? ⟨g,8,none⟩=some (.slice ra 1 rc):=by rw[←hrl,←hre];exact hc 8 (by omega)
 have HT5:=hide (HT4.out.same ht5);clear hc e1 e2 e3 e4 hk1 hk2 hO5 hre hrl ht5 KY;go_wp2
 go_ret
 exact⟨rfl,HT5.out⟩
end Br
end
section
attribute [local go_sem] Oper.semAt_some
open Lg
namespace Br
structure Wo where
 least:Nat
 due:Nat
 Gn:Nat
 told:Bool
def Vr(o:Wo):List Value:=[.int .i64 (o.least:Int), .int .i64 (o.due:Int), .int .i64 (o.Gn:Int), .bool o.told]
theorem rF:∀o,(Vr o).length=4:=fun _=>rfl
abbrev WR(w:World)(base:Nat)(v:Value)(l:List Wo):Prop:=aH 45 4 Vr w base v l
theorem Zi:(Tryz.prog.info? 45).map (fun i=>(i.zero.map (fun z=>z.cells.size),i.size,i.bytes))=some (some 4,4,32):=by kernel_rfl
theorem Jg:∃i z,Tryz.prog.info? 45=some i∧i.zero=some z∧z.cells.size=4∧i.size=4∧i.bytes≤1000:=by
 have h:=Zi;cases hi:Tryz.prog.info? 45 with
 |none=>rw[hi]at h;cases h
 |some i=>
  rw[hi]at h;simp only[Option.map_some,Option.some.injEq,Prod.mk.injEq]at h;obtain⟨h1,h2,h3⟩:=h;cases hz:i.zero with
  |none=>rw[hz]at h1;cases h1
  |some z=>
   rw[hz]at h1;simp only[Option.map_some,Option.some.injEq]at h1;exact⟨i,z,rfl,hz,h1,h2,by omega⟩
theorem Xr(w:World)(base:Nat)(v:Value)(xs:List Wo)(x:Wo)(k:Nat)(hrow:WR w base v xs)(hk:w.heap[k]? =some (.cells (Vr x).toArray 45 (0,0))) (hlen:xs.length≤1000000) (hbase:base≤w.heap.size):
 ∃v' w',(Builtin.append_ #[36,36] 36 #[v, .slice (some ⟨k,0,none⟩) 1 1]).run Tryz.prog w= .ok v' w'∧WR w' base v' (xs++[x])∧Turn v.ownBlock.toList w w'∧(∀j∈v'.ownBlock,j∈v.ownBlock∨w.heap.size≤j):=by
 obtain⟨i,z,hi,hz,hzs,hs,hb⟩:=Jg;exact dS (P:=Tryz.prog) 36 36 Tryz.underlying36 i z hi hz hzs hs hb rF (by intro x u hu;simp[Vr]at hu;rcases hu with rfl|rfl|rfl|rfl<;>rfl) w base v xs x k hrow hk hlen hbase
def opens:Nat→List Wo→List (Nat×Wo)
 |_,[]=>[]
 |k,o::t=>if o.told then opens (k+1) t else(k+1,o)::opens (k+1) t
def fK(S:List Nat):Nat→List Wo→List Wo
 |_,[]=>[]
 |k,o::t=>⟨o.least,o.due,o.Gn,o.told||S.contains (k+1)⟩::fK S (k+1) t
theorem dP(S:List Nat):∀(k:Nat) (l:List Wo),(fK S k l).length=l.length
 |_,[]=>rfl
 |k,o::t=>by simp[fK,dP S (k+1) t]
theorem wF:∀(k:Nat) (l:List Wo),fK [] k l=l
 |_,[]=>rfl
 |k,o::t=>by simp[fK,wF (k+1) t]
theorem mJ(S:List Nat):∀(k:Nat) (l:List Wo) (i:Nat) (h:i<l.length),(fK S k l)[i]'(by rw[dP];exact h)=⟨l[i].least,l[i].due,l[i].Gn,l[i].told||S.contains (k+i+1)⟩
 |k,o::t,0,h=>rfl
 |k,o::t,i+1,h=>by
  have:=mJ S (k+1) t i (by simpa using h);simp only[fK,List.getElem_cons_succ];rw[this,show k+1+i+1=k+(i+1)+1 by omega]
theorem Lr(S:List Nat)(l:List Wo):fK (S++[0]) 0 l=fK S 0 l:=by
 refine List.ext_getElem (by simp[dP]) (fun i h1 h2=>?_);rw[mJ _ _ _ _ (by simpa[dP]using h1),mJ _ _ _ _ (by simpa[dP]using h1)];simp
theorem OT(S:List Nat)(l:List Wo)(i:Nat)(h:i<l.length):fK (S++[i+1]) 0 l=(fK S 0 l).set i ⟨l[i].least,l[i].due,l[i].Gn,true⟩:=by
 refine List.ext_getElem (by simp[dP]) (fun j h1 h2=>?_);have hj:j<l.length:=by simpa[dP]using h1
 rw[mJ _ _ _ _ hj,List.getElem_set,mJ _ _ _ _ hj];by_cases e:i=j
 ·subst e
  simp
 ·rw[if_neg e]
  simp only[Nat.zero_add,Wo.mk.injEq,true_and];have:(S++[i+1]).contains (j+1)=S.contains (j+1):=by
   rw[Bool.eq_iff_iff];simp;omega
  rw[this]
theorem tH(S:List Nat):∀(k:Nat) (l:List Wo),opens k (fK S k l)=(opens k l).filter (fun p=> !S.contains p.1)
 |_,[]=>rfl
 |k,o::t=>by
  have ih:=tH S (k+1) t;obtain⟨a,b,c,d⟩:=o;cases d
  ·cases hs:S.contains (k+1)
   ·simp only[fK,opens,hs,Bool.or_false,Bool.false_eq_true,if_false,List.filter_cons,Bool.not_false,if_true,ih]
   ·simp only[fK,opens,hs,Bool.or_true,Bool.false_eq_true,if_false,List.filter_cons,Bool.not_true,if_true,ih]
  ·simp only[fK,opens,Bool.true_or,if_true,ih]
theorem tJ:∀(k:Nat) (l:List Wo) (o:Wo),opens k (l++[o])=opens k l++(if o.told then []else [(k+l.length+1,o)])
 |k,[],o=>by simp[opens]
 |k,x::t,o=>by
  have ih:=tJ (k+1) t o;rw[List.cons_append];unfold opens;rw[ih,show k+1+t.length+1=k+(x::t).length+1 by simp;omega];split<;>simp
theorem oC:∀{k:Nat} {l:List Wo} {p:Nat×Wo},p∈opens k l→k<p.1∧∃h:p.1-k-1<l.length,l[p.1-k-1]=p.2∧p.2.told=false
 |k,[],p,h=>by simp[opens]at h
 |k,o::t,p,h=>by
  have hstep:p∈opens (k+1) t→k<p.1∧∃h:p.1-k-1<(o::t).length,(o::t)[p.1-k-1]=p.2∧p.2.told=false:=fun h=>by
   obtain⟨h1,h2,h3,h4⟩:=oC h;have e:p.1-k-1=(p.1-(k+1)-1)+1:=by omega
   refine⟨by omega,by rw[e];simp;omega,?_,h4⟩;simp only[e,List.getElem_cons_succ];exact h3
  unfold opens at h;cases ho:o.told
  ·rw[ho]at h
   simp only[Bool.false_eq_true,if_false,List.mem_cons]at h;rcases h with rfl|h
   ·refine⟨by simp,by simp,?_,ho⟩
    simp
   ·exact hstep h
  ·rw[ho]at h
   simp only[if_true]at h;exact hstep h
theorem Dh:∀(k:Nat) (l:List Wo) (i:Nat) (h:i<l.length),l[i].told=false→(k+i+1,l[i])∈opens k l
 |k,o::t,0,h,e=>by
  have e':o.told=false:=e;unfold opens;rw[e'];simp
 |k,o::t,i+1,h,e=>by
  have:=Dh (k+1) t i (by simpa using h) (by simpa using e);have e2:(k+(i+1)+1,(o::t)[i+1])∈opens (k+1) t:=by
   rw[show k+(i+1)+1=k+1+i+1 by omega];simpa using this
  unfold opens;split
  ·exact e2
  ·exact List.mem_cons_of_mem _ e2
def jk(R:List Bt.Rec):Nat:=(R.map fun r=>r.value.length).sum
theorem OU(rs:List Bt.Rec){k:Nat}(hk:k<rs.length):jk (rs.take (k+1))=jk (rs.take k)+rs[k].value.length:=by
 unfold jk;rw[List.take_add_one,List.getElem?_eq_getElem hk,List.map_append,List.sum_append];simp
theorem EL(rs:List Bt.Rec)(k:Nat):jk (rs.take k)≤jk rs:=by
 unfold jk;conv=>rhs;rw[←List.take_append_drop k rs,List.map_append,List.sum_append]
 omega
theorem Di:∀(i:Nat) (vs:List (List UInt8)),jk (nZ i vs)=dZ vs
 |_,[]=>rfl
 |i,v::t=>by
  have:=Di (i+1) t;simp only[jk,dZ,nZ,List.map_cons,List.sum_cons]at this⊢;rw[this];rfl
theorem Jh{f:Nat}{vals:List (List UInt8)}{R:List Bt.Rec}(h:dU f vals R):jk R=dE R:=by
 obtain⟨k,rfl, -⟩:=h;rw[Di,oW]
theorem Told.at{vals:List (List UInt8)}{q:List Wq}{os:List Ot}(h:Told vals q os):∀j (hj:j<os.length),∃h2:j<q.length,Vp vals q[j] os[j]:=by
 induction h with
 |nil=>intro j hj;simp at hj
 | @snoc q os x o h1 h2 ih=>
   intro j hj;have hl:=h1.len;rcases Nat.lt_or_ge j os.length with h3|h3
   ·obtain⟨h4,h5⟩:=ih j h3
    refine⟨by simp;omega,?_⟩;rw[List.getElem_append_left h4,List.getElem_append_left h3];exact h5
   ·have e:j=os.length:=by simp at hj;omega
    subst e;refine⟨by simp;omega,?_⟩;rw[List.getElem_append_right (by omega),List.getElem_append_right (by omega)];simpa[hl]using h2
structure sH(all:List Wo)(now:Nat)(os:List Ot)(ks:List Nat):Prop where
 len:ks.length=os.length
 nod:ks.Nodup
 dst:∀j (hj:j<os.length),os[j].dst=(ks.getD j 0:Nat)
 fit:∀j (hj:j<os.length),ks.getD j 0≠0→os[j].err=0∧(∀r∈os[j].recs,jD r)∧os[j].recs.length≤1000∧jk os[j].recs≤1000000∧∃o,(ks.getD j 0,o)∈opens 0 all∧(o.least≤jk os[j].recs∨o.due≤now)
theorem sH.fresh{all:List Wo}{now:Nat}{os:List Ot}{ks:List Nat}(h:sH all now os ks){j i:Nat}(hj:j<os.length)(hk:ks.getD j 0=i+1):∃hi:i<all.length,(fK (ks.take j) 0 all)[i]'(by rw[dP];exact hi)=all[i]∧all[i].told=false∧(all[i].least≤jk os[j].recs∨all[i].due≤now):=by
 obtain⟨h1,h2,h3,h4,o,h5,h6⟩:=h.fit j hj (by omega);rw[hk]at h5;obtain⟨-,h7,h8,h9⟩:=oC h5;simp only[Nat.sub_zero,Nat.add_sub_cancel]at h7 h8 h9;refine⟨h7,?_,by rw[h8];exact h9,by rw[h8];exact h6⟩;rw[mJ _ _ _ _ h7];have hn:(ks.take j).contains (0+i+1)=false:=by
  rw[Bool.eq_false_iff];intro hc;rw[List.contains_iff_mem,Nat.zero_add,←hk]at hc;obtain⟨m,hm,e⟩:=List.mem_iff_getElem.1 hc;rw[List.length_take]at hm;rw[List.getElem_take]at e;have hjl:j<ks.length:=by have:=h.len;omega
  rw[List.getD_eq_getElem?_getD,List.getElem?_eq_getElem hjl,Option.getD_some]at e;exact List.pairwise_iff_getElem.1 h.nod m j (by omega) hjl (by omega) e
 rw[hn,Bool.or_false]
set_option maxHeartbeats 8000000 in
theorem check_any(w:World)(base wb:Nat)(v:Value)(os:List Ot)(ab nb:Nat)(av:Value)(all:List Wo)(now:Nat)(ks:List Nat)(hos:bU w base v os)(hab:w.heap[ab]? =some (.cells #[av] 36 (0,0))) (hnb:w.heap[nb]? =some (.cells #[.int .i64 (now:Int)] 3 (0,0))) (hall:WR w wb av all) (hck:sH all now os ks) (hlen:os.length≤1000) (hal:all.length≤1000):
 Calls Tryz.prog 8 #[v, .pointer (some ⟨ab,0,none⟩), .pointer (some ⟨nb,0,none⟩)] w fun e w'=>e= .returned (.bool true)∧WR w' wb av (fK ks 0 all)∧Turn av.ownBlock.toList w w':=by
 have hmx:maxLen=9223372036854775807:=by simp[maxLen]
 obtain⟨oa,oc,rfl,hlc,hcm⟩:=hos.row.form;rw[hmx]at hcm;have hT:∀{k:Nat} {cs:Array Value} {T:TypeId} {fr:Nat×Nat},w.heap[k]? =some (.cells cs T fr)→T≠45→k∉av.ownBlock.toList:=fun e hne hm=>by
  obtain⟨cs',e'⟩:=hall.kind _ (by simpa using hm);exact Lg.ai e e' hne rfl
 have Zj:=hT hab (by decide);have Zk:=hT hnb (by decide);have HO:Hid (∀Z,Turn av.ownBlock.toList w Z→bU Z base (.slice oa os.length oc) os∧Z.cell? ⟨ab,0,none⟩=some av∧Z.cell? ⟨nb,0,none⟩=some (.int .i64 (now:Int))):=fun Z hZ=>
  ⟨hos.kept hZ (fun k cs fr e=>hT e (by decide)) (fun k cs fr e=>hT e (by decide)),by rw[cell_of (hZ.heap hab Zj)];rfl,by rw[cell_of (hZ.heap hnb Zk)];rfl⟩
 have Fb:=hide hall;have Vt:=hide hck;have HN:Hid (w.heap[ab]? =some (.cells #[av] 36 (0,0))):=hab
 clear hos hab hnb hall hck hT Zj Zk;go_enter Tryz.func8,Tryz.ntmps8
 go_wp2
 go_loopw [5] (fun kv wr=>∃j:Nat,j≤os.length∧kv= .int .i64 j∧WR wr wb av (fK (ks.take j) 0 all)∧Turn av.ownBlock.toList w wr) (fun kv _=>os.length-(intOf kv).toNat)
 case atStart=>exact⟨0,Nat.zero_le _,rfl,by rw[List.take_zero,wF];exact Fb.out,Turn.refl _ _⟩
 case round=>
  obtain⟨j,hj,rfl,hw,htw⟩:=hrel;obtain⟨hos,Xu,Zl⟩:=HO.out wr htw;have dJ:=hide htw;have HW:=hide hw;clear htw hw;by_cases hlt:j<os.length
  ·obtain⟨g,cap,e,hc, -⟩:=hos.row.at AY (j:=j) hlt
   simp only[Value.slice.injEq,true_and]at e;obtain⟨rfl,rfl⟩:=e;have hd:=Vt.out.dst j hlt;have g0:wr.cell? ⟨g,j*10,none⟩=some (.int .i64 os[j].dst):=hc 0 (by omega);rw[hd]at g0;have htk:ks.take (j+1)=ks.take j++[ks.getD j 0]:=by
    have hjl:j<ks.length:=by have:=Vt.out.len;omega
    rw[List.take_succ_eq_append_getElem hjl,List.getD_eq_getElem?_getD,List.getElem?_eq_getElem hjl,Option.getD_some]
   rcases Nat.eq_zero_or_pos (ks.getD j 0)with hk|hk
   ·have HM:Hid (WR wr wb av (fK (ks.take (j+1)) 0 all)):=by
     rw[htk,hk,Lr];exact HW.out
    rw[hk]at g0;clear hc hos Xu Zl hk hd htk;go_wp2
    exact⟨⟨j+1,by omega,by go_num,HM.out,dJ.out⟩,by simp only[intOf];omega⟩
   ·obtain⟨i,hi⟩:∃i,ks.getD j 0=i+1:=⟨ks.getD j 0-1,by omega⟩
    obtain⟨hia,hmk,hut,hcond⟩:=Vt.out.fresh hlt hi;obtain⟨herr,Xv,hrl,hhl, -⟩:=Vt.out.fit j hlt (by omega);obtain⟨r,hr⟩:∃r,r=os[j].recs:=⟨_,rfl⟩;have hrow:=hos.recs os[j] (List.getElem_mem _);rw[←hr]at hcond Xv hrl hhl hrow;obtain⟨ra,rc,He,hrc1,hrc2⟩:=hrow.form;rw[hmx]at hrc2;have hml:i<(fK (ks.take j) 0 all).length:=by rw[dP];exact hia
    obtain⟨ga,UN,Xw,hca,hfa⟩:=HW.out.at rF (j:=i) hml;rw[dP]at Xw;rw[hmk]at hca;have hset:=HW.out;rw[Xw]at hset;have hset:=hset.set rF (j:=i) (i:=3) hml (by omega) (u:= .bool true) (x':=⟨all[i].least,all[i].due,all[i].Gn,true⟩) (by rw[hmk];rfl);rw[←OT _ _ _ hia,←hi,←htk,←Xw]at hset;have hcapa:all.length≤UN∧UN≤9223372036854775807:=by
     obtain⟨a',c',e',h1,h2⟩:=HW.out.form;rw[Xw]at e';simp only[Value.slice.injEq,Option.some.injEq]at e';obtain⟨-, -,rfl⟩:=e';rw[dP]at h1;exact⟨h1,by rw[hmx]at h2;exact h2⟩
    have hts:Turn av.ownBlock.toList w (wr.setCell ⟨ga,i*4+3,none⟩ (.bool true)):=dJ.out.setCell (.inl (by rw[Xw];simp[Value.ownBlock])) _;obtain⟨hos2,Su,Vu⟩:=HO.out _ hts;have hrow2:=hos2.recs os[j] (List.getElem_mem _);rw[←hr,He]at hrow2;obtain⟨g',cap',e',hc2, -⟩:=hos2.row.at AY (j:=j) hlt;simp only[Value.slice.injEq,true_and,Option.some.injEq,Addr.mk.injEq,and_true]at e';obtain⟨rfl,rfl⟩:=e';have f3:wr.cell? ⟨ga,i*4+3,none⟩=some (.bool false):=by rw[hca 3 (by omega),←hut];rfl
    have s3:(wr.setCell ⟨ga,i*4+3,none⟩ (.bool true)).cell? ⟨g,j*10+1+2,none⟩=some (.int .i64 0):=by rw[show j*10+1+2=j*10+3 by omega,hc2 3 (by omega),←herr];rfl
    have s8:(wr.setCell ⟨ga,i*4+3,none⟩ (.bool true)).cell? ⟨g,j*10+1+7,none⟩=some (.slice ra r.length rc):=by rw[show j*10+1+7=j*10+8 by omega,hc2 8 (by omega),←He];rfl
    obtain⟨ga2,capa2,Xx,hca2, -⟩:=hset.at rF (j:=i) (by rw[dP];exact hia);have hma:(fK (ks.take (j+1)) 0 all)[i]'(by rw[dP];exact hia)=⟨all[i].least,all[i].due,all[i].Gn,true⟩:=by
     rw[mJ _ _ _ _ hia,htk,hi];simp
    rw[hma]at hca2;rw[Xw]at Xx;simp only[Value.slice.injEq,true_and,Option.some.injEq,Addr.mk.injEq,and_true]at Xx;obtain⟨rfl, -,rfl⟩:=Xx;have s0:(wr.setCell ⟨ga,i*4+3,none⟩ (.bool true)).cell? ⟨ga,i*4,none⟩=some (.int .i64 (all[i].least:Int)):=hca2 0 (by omega);have s1:(wr.setCell ⟨ga,i*4+3,none⟩ (.bool true)).cell? ⟨ga,i*4+1,none⟩=some (.int .i64 (all[i].due:Int)):=hca2 1 (by omega);rw[Xw]at Xu Su;rw[hi]at g0;have QD:=hide hset;have uS:=hide hts;have bQ:=hide hrow2;have Zm:=hide Xv;have HCO:=hide hcond;clear hc hd hk htk hc2 hca hca2 hma hset hts hos hos2 hrow hrow2 Xv hcond He hr herr hut hmk;have HS3:=hide (show _∧_∧_∧_∧_ from⟨s0,s1,s3,Su,Vu⟩);clear s0 s1 s3 Su Vu;obtain⟨wa,CV⟩:∃wa,wa=wr.setCell ⟨ga,i*4+3,none⟩ (.bool true):=⟨_,rfl⟩;rw[←CV]at HS3 QD uS bQ;go_wp2
    go_loopw [7,46] (fun sv kv w2=>∃m:Nat,m≤r.length∧kv= .int .i64 m∧sv= .int .i64 (jk (r.take m))∧Turn [] wa w2) (fun _ kv _=>r.length-(intOf kv).toNat)
    case atStart=>exact⟨0,Nat.zero_le _,rfl,rfl,by rw[CV];exact Turn.refl _ _⟩
    case round=>
     obtain⟨m,hm,rfl,rfl,AX⟩:=hrel;have Gq:=hide AX;clear AX Xu Zl g0 f3 s8 hfa hset;have hwl:=EL r m;by_cases hmt:m<r.length
     ·have hrow:=bQ.out.still Gq.out
      obtain⟨gr,cap2,e2,hc3, -⟩:=hrow.at eF (j:=m) hmt;simp only[Value.slice.injEq,true_and]at e2;obtain⟨rfl,rfl⟩:=e2;have hrk:=Zm.out r[m] (List.getElem_mem _);have NZ:=hide (OU r hmt);obtain⟨x,hx⟩:∃x,x=r[m]:=⟨_,rfl⟩;rw[←hx]at hc3 hrk NZ;have hwl1:=EL r (m+1);rw[NZ.out]at hwl1;have q0:wr.cell? ⟨gr,m*6,none⟩=some (.int .i64 x.off):=hc3 0 (by omega);have q1:wr.cell? ⟨gr,m*6+1,none⟩=some (.int .i64 x.time):=hc3 1 (by omega);have q2:wr.cell? ⟨gr,m*6+2,none⟩=some (.bool x.keyed):=hc3 2 (by omega);have q3:wr.cell? ⟨gr,m*6+3,none⟩=some (.string ⟨x.key.toArray⟩):=hc3 3 (by omega);have q4:wr.cell? ⟨gr,m*6+4,none⟩=some (.bool x.gone):=hc3 4 (by omega);have q5:wr.cell? ⟨gr,m*6+5,none⟩=some (.string ⟨x.value.toArray⟩):=hc3 5 (by omega);have hk2:=hrk.value;have HRK:=hide hrk;clear hrow hc3 hx hrk;go_wp2
      all_goals refine⟨⟨m+1,by omega,by go_num,?_,?_⟩,?_⟩
      all_goals first|(simp only[intOf];omega)|skip
      ·rw[NZ.out];go_num
      ·exact Gq.out.same ((Turn.refl [] wr).alloc _)
     ·obtain rfl:m=r.length:=by omega
      rw[List.take_length]at*;obtain⟨s0,s1,s3,hb1,hb2⟩:=HS3.out;have t0:=(World.cell?_of_block (w:=wa) (Gq.out.block _ (World.block_lt_of_cell? _ _ s0) (by simp))).trans s0;have t1:=(World.cell?_of_block (w:=wa) (Gq.out.block _ (World.block_lt_of_cell? _ _ s1) (by simp))).trans s1;have t3:=(World.cell?_of_block (w:=wa) (Gq.out.block _ (World.block_lt_of_cell? _ _ s3) (by simp))).trans s3;have t4:=(World.cell?_of_block (w:=wa) (Gq.out.block _ (World.block_lt_of_cell? _ _ hb1) (by simp))).trans hb1;have t5:=(World.cell?_of_block (w:=wa) (Gq.out.block _ (World.block_lt_of_cell? _ _ hb2) (by simp))).trans hb2;clear s0 s1 s3 hb1 hb2;go_wp2
      refine aF (fun a b=>a=b) (by kernel_rfl) (by kernel_rfl) (by kernel_rfl) (by kernel_rfl) rfl (fun _=>rfl) (fun _ _ _ h k=>h.trans k) ?_;apply Lo.ag 1 rfl rfl [] (by kernel_rfl) (fun _=>rfl);apply Exists.intro;apply And.intro
      ·intro u w1 hR hF
       clear hF;subst hR;refine⟨rfl,fun a ha K hK=>?_⟩;have e0:=ha 0;conv at e0=>rhs;whnf
       clear ha;go_simp
       refine hK _ ?_;rfl
      apply Lo.ag 2 rfl rfl [] (by kernel_rfl) (fun _=>rfl);apply Exists.intro;apply And.intro
      ·intro u w1 hR hF
       clear hF;subst hR;refine⟨rfl,fun a ha K hK=>?_⟩;have e5:=ha 5;conv at e5=>rhs;whnf
       clear ha;go_simp
       refine hK _ ?_;rfl
      apply Lo.ag 3 rfl rfl [0,1] (by kernel_rfl) (fun _=>rfl);apply Exists.intro;apply And.intro
      ·intro u w1 hR hF
       obtain⟨h0,h1, -⟩:=hF;subst hR;refine⟨rfl,fun a ha K hK=>?_⟩;have e56:=(ha 56).trans h0;have e57:=(ha 57).trans h1;clear ha h0 h1;go_simp
       refine hK _ ?_;rfl
      apply Lo.ag 4 rfl rfl [2] (by kernel_rfl) (fun _=>rfl);apply Exists.intro;apply And.intro
      ·intro u w1 hR hF
       obtain⟨h2, -⟩:=hF;subst hR;refine⟨rfl,fun a ha K hK=>?_⟩;have e58:=(ha 58).trans h2;clear ha h2;go_simp
       refine hK _ ?_;rfl
      apply Lo.ag 5 rfl rfl [3] (by kernel_rfl) (fun _=>rfl);apply Exists.intro;apply And.intro
      ·intro u w1 hR hF
       obtain⟨h3, -⟩:=hF;subst hR;refine⟨rfl,fun a ha K hK=>?_⟩;have e59:=(ha 59).trans h3;clear ha h3;go_simp
       refine hK _ ?_;rfl
      apply Lo.ag 6 rfl rfl [4] (by kernel_rfl) (fun _=>rfl);apply Exists.intro;apply And.intro
      ·intro u w1 hR hF
       obtain⟨h4, -⟩:=hF;subst hR;refine⟨rfl,fun a ha K hK=>?_⟩;have e60:=(ha 60).trans h4;clear ha h4;go_simp
       refine hK _ ?_;rfl
      refine Lo.aJ 7 rfl rfl [5] (.bool false) (by kernel_rfl) (fun u w1 hR hF=>?_) (fun _=>rfl) ?_
      ·obtain⟨h5, -⟩:=hF
       subst hR;refine⟨rfl,fun a ha K hK=>?_⟩;have e61:=(ha 61).trans h5;clear ha h5;go_simp
       refine hK _ ?_;rfl
      apply Lo.ag 8 rfl rfl [6] (by kernel_rfl) (fun _=>rfl);apply Exists.intro;apply And.intro
      ·intro u w1 hR hF
       obtain⟨h6, -⟩:=hF;subst hR;refine⟨rfl,fun a ha K hK=>?_⟩;have e62:=(ha 62).trans h6;clear ha h6;go_simp
       refine hK _ ?_;rfl
      apply Lo.ag 9 rfl rfl [7] (by kernel_rfl) (fun _=>rfl);apply Exists.intro;apply And.intro
      ·intro u w1 hR hF
       obtain⟨h7, -⟩:=hF;subst hR;refine⟨.inl ⟨false,h7,rfl⟩,fun a ha K hK=>?_⟩;have e7:=ha 7;conv at e7=>rhs;whnf
       clear ha h7;go_simp
       refine hK _ ?_;rfl
      apply Lo.ag 10 rfl rfl [7] (by kernel_rfl) (fun _=>rfl);apply Exists.intro;apply And.intro
      ·intro u w1 hR hF
       obtain⟨h7, -⟩:=hF;subst hR;refine⟨.inl ⟨false,h7,rfl⟩,fun a ha K hK=>?_⟩;have e1:=ha 1;conv at e1=>rhs;whnf
       clear ha h7;go_simp
       refine hK _ ?_;rfl
      apply Lo.ag 11 rfl rfl [7] (by kernel_rfl) (fun _=>rfl);apply Exists.intro;apply And.intro
      ·intro u w1 hR hF
       obtain⟨h7, -⟩:=hF;subst hR;refine⟨.inl ⟨false,h7,rfl⟩,fun a ha K hK=>?_⟩;have e6:=ha 6;conv at e6=>rhs;whnf
       clear ha h7;go_simp
       refine hK _ ?_;rfl
      refine Lo.aJ 12 rfl rfl [7,9,10] (.pointer (some ⟨ga,i*4,none⟩)) (by kernel_rfl) (fun u w1 hR hF=>?_) (fun _=>rfl) ?_
      ·obtain⟨h7,h9,h10, -⟩:=hF
       subst hR;refine⟨.inl ⟨false,h7,rfl⟩,fun a ha K hK=>?_⟩;have e65:=(ha 65).trans h9;have e66:=(ha 66).trans h10;clear ha h7 h9 h10;go_simp
       refine hK _ ?_;rfl
      refine Lo.aJ 13 rfl rfl [7,11] (.pointer (some ⟨ga,i*4,none⟩)) (by kernel_rfl) (fun u w1 hR hF=>?_) (fun _=>rfl) ?_
      ·obtain⟨h7,h11, -⟩:=hF
       subst hR;refine⟨.inl ⟨false,h7,rfl⟩,fun a ha K hK=>?_⟩;have e67:=(ha 67).trans h11;clear ha h7 h11;go_simp
       refine hK _ ?_;rfl
      apply Lo.ag 14 rfl rfl [7,12] (by kernel_rfl) (fun _=>rfl);apply Exists.intro;apply And.intro
      ·intro u w1 hR hF
       obtain⟨h7,h12, -⟩:=hF;subst hR;refine⟨.inl ⟨false,h7,rfl⟩,fun a ha K hK=>?_⟩;have e68:=(ha 68).trans h12;clear ha h7 h12;go_simp
       refine hK _ ?_;rfl
      refine Lo.aJ 15 rfl rfl [7,8,13] (.bool (decide (jk r<all[i].least))) (by kernel_rfl) (fun u w1 hR hF=>?_) (fun _=>rfl) ?_
      ·obtain⟨h7,h8,h13, -⟩:=hF
       subst hR;refine⟨.inl ⟨false,h7,rfl⟩,fun a ha K hK=>?_⟩;have e64:=(ha 64).trans h8;have e69:=(ha 69).trans h13;clear ha h7 h8 h13;go_simp
       refine hK _ ?_;rfl
      apply Lo.ag 16 rfl rfl [7,14] (by kernel_rfl) (fun _=>rfl);apply Exists.intro;apply And.intro
      ·intro u w1 hR hF
       obtain⟨h7,h14, -⟩:=hF;subst hR;refine⟨.inl ⟨false,h7,rfl⟩,fun a ha K hK=>?_⟩;have e70:=(ha 70).trans h14;clear ha h7 h14;go_simp
       refine hK _ ?_;rfl
      apply Lo.cond 17 rfl rfl [15] (by kernel_rfl) (fun _=>rfl) ((decide (jk r<all[i].least))==true);apply Exists.intro;refine And.intro ?_ (And.intro ?_ ?_)
      ·intro u w1 hR hF hc
       exact aU (want:=true) hF.1 hc
      ·intro u w1 hR hF hc
       obtain⟨h15, -⟩:=hF;subst hR;refine⟨aT (want:=true) h15 hc,fun a ha K hK=>?_⟩;have hc1:=hc;have e2:=ha 2;conv at e2=>rhs;whnf
       clear ha h15;clear hc hc1;go_simp
       refine hK _ ?_;rfl
      apply Lo.cond 18 rfl rfl [15] (by kernel_rfl) (fun _=>rfl) ((decide (jk r<all[i].least))==true);apply Exists.intro;refine And.intro ?_ (And.intro ?_ ?_)
      ·intro u w1 hR hF hc
       exact aU (want:=true) hF.1 hc
      ·intro u w1 hR hF hc
       obtain⟨h15, -⟩:=hF;subst hR;refine⟨aT (want:=true) h15 hc,fun a ha K hK=>?_⟩;have hc1:=hc;have e1:=ha 1;conv at e1=>rhs;whnf
       clear ha h15;clear hc hc1;go_simp
       refine hK _ ?_;rfl
      apply Lo.cond 19 rfl rfl [15] (by kernel_rfl) (fun _=>rfl) ((decide (jk r<all[i].least))==true);apply Exists.intro;refine And.intro ?_ (And.intro ?_ ?_)
      ·intro u w1 hR hF hc
       exact aU (want:=true) hF.1 hc
      ·intro u w1 hR hF hc
       obtain⟨h15, -⟩:=hF;subst hR;refine⟨aT (want:=true) h15 hc,fun a ha K hK=>?_⟩;have hc1:=hc;have e6:=ha 6;conv at e6=>rhs;whnf
       clear ha h15;clear hc hc1;go_simp
       refine hK _ ?_;rfl
      apply Lo.cond 20 rfl rfl [15,17,18] (by kernel_rfl) (fun _=>rfl) ((decide (jk r<all[i].least))==true);refine Exists.intro (.pointer (some ⟨ga,i*4,none⟩)) ?_;refine And.intro ?_ (And.intro ?_ ?_)
      ·intro u w1 hR hF hc
       exact aU (want:=true) hF.1 hc
      ·intro u w1 hR hF hc
       obtain⟨h15,h17,h18, -⟩:=hF;subst hR;refine⟨aT (want:=true) h15 hc,fun a ha K hK=>?_⟩;have hc1:=hc;have e73:a.tmps.getD 73 undef=bif ((decide (jk r<all[i].least))==true)then _ else undef:=(ha 73).trans h17
       rw[hc1,cond_true]at e73;have e74:a.tmps.getD 74 undef=bif ((decide (jk r<all[i].least))==true)then _ else undef:=(ha 74).trans h18
       rw[hc1,cond_true]at e74;clear ha h15 h17 h18;clear hc hc1;go_simp
       refine hK _ ?_;rfl
      apply Lo.cond 21 rfl rfl [15,19] (by kernel_rfl) (fun _=>rfl) ((decide (jk r<all[i].least))==true);refine Exists.intro (.pointer (some ⟨ga,i*4+1,none⟩)) ?_;refine And.intro ?_ (And.intro ?_ ?_)
      ·intro u w1 hR hF hc
       exact aU (want:=true) hF.1 hc
      ·intro u w1 hR hF hc
       obtain⟨h15,h19, -⟩:=hF;subst hR;refine⟨aT (want:=true) h15 hc,fun a ha K hK=>?_⟩;have hc1:=hc;have e75:a.tmps.getD 75 undef=bif ((decide (jk r<all[i].least))==true)then _ else undef:=(ha 75).trans h19
       rw[hc1,cond_true]at e75;clear ha h15 h19;clear hc hc1;go_simp
       refine hK _ ?_;rfl
      apply Lo.cond 22 rfl rfl [15,20] (by kernel_rfl) (fun _=>rfl) ((decide (jk r<all[i].least))==true);apply Exists.intro;refine And.intro ?_ (And.intro ?_ ?_)
      ·intro u w1 hR hF hc
       exact aU (want:=true) hF.1 hc
      ·intro u w1 hR hF hc
       obtain⟨h15,h20, -⟩:=hF;subst hR;refine⟨aT (want:=true) h15 hc,fun a ha K hK=>?_⟩;have hc1:=hc;have e76:a.tmps.getD 76 undef=bif ((decide (jk r<all[i].least))==true)then _ else undef:=(ha 76).trans h20
       rw[hc1,cond_true]at e76;clear ha h15 h20;clear hc hc1;go_simp
       refine hK _ ?_;rfl
      apply Lo.cond 23 rfl rfl [15,16,21] (by kernel_rfl) (fun _=>rfl) ((decide (jk r<all[i].least))==true);refine Exists.intro (.bool (decide (now<all[i].due))) ?_;refine And.intro ?_ (And.intro ?_ ?_)
      ·intro u w1 hR hF hc
       exact aU (want:=true) hF.1 hc
      ·intro u w1 hR hF hc
       obtain⟨h15,h16,h21, -⟩:=hF;subst hR;refine⟨aT (want:=true) h15 hc,fun a ha K hK=>?_⟩;have hc1:=hc;have e72:a.tmps.getD 72 undef=bif ((decide (jk r<all[i].least))==true)then _ else undef:=(ha 72).trans h16
       rw[hc1,cond_true]at e72;have e77:a.tmps.getD 77 undef=bif ((decide (jk r<all[i].least))==true)then _ else undef:=(ha 77).trans h21
       rw[hc1,cond_true]at e77;clear ha h15 h16 h21;clear hc hc1;go_simp
       refine hK _ ?_;rfl
      refine Lo.aJ 24 rfl rfl [7,15,22] (.bool ((decide (jk r<all[i].least))&&(decide (now<all[i].due)))) (by kernel_rfl) (fun u w1 hR hF=>?_) (fun _=>rfl) ?_
      ·obtain⟨h7,h15,h22, -⟩:=hF
       subst hR;refine⟨.inl ⟨false,h7,rfl⟩,fun a ha K hK=>?_⟩;have e71:=(ha 71).trans h15;have e78:a.tmps.getD 78 undef=bif ((decide (jk r<all[i].least))==true)then .bool (decide (now<all[i].due))else undef:=(ha 78).trans h22
       clear ha h7 h15 h22;rcases Bool.eq_false_or_eq_true (decide (jk r<all[i].least))with hT|hT
       all_goals
        simp only[hT,Bool.and_true,Bool.true_and,Bool.and_false,Bool.not_true,Bool.not_false,Bool.true_beq,Bool.false_beq,beq_self_eq_true,cond_true,cond_false]at e71 e78;have UO:=hide hT;clear hT;go_simp
        refine hK _ ?_;simp only[UO.out,Bool.true_or,Bool.false_or,Bool.true_and,Bool.false_and]
      apply Lo.ag 25 rfl rfl [7,23] (by kernel_rfl) (fun _=>rfl);apply Exists.intro;apply And.intro
      ·intro u w1 hR hF
       obtain⟨h7,h23, -⟩:=hF;subst hR;refine⟨rfl,fun a ha K hK=>?_⟩;have e63:=(ha 63).trans h7;have e79:=(ha 79).trans h23;clear ha h7 h23;go_simp
       refine hK _ ?_;rfl
      refine Lo.done [24] (fun u w1 bP hSd hF=>?_);clear hSd;obtain⟨f24, -⟩:=hF;subst bP;have d24:u 24=_:=f24;clear f24;simp only[ax,Act.put,List.setIfInBounds_toArray,List.set_cons_succ,List.set_cons_zero,Nat.zero_add,Nat.reduceAdd,d24];have HTE:Hid (Turn [] wa wr.drew):=Gq.out.drew;have U9:Hid (WR wr.drew wb av (fK (ks.take (j+1)) 0 all)):=QD.out.still HTE.out;have HET:Hid (Turn av.ownBlock.toList w wr.drew):=uS.out.same (HTE.out.mono (by simp));clear QD uS bQ Zm Gq HS3 HW t0 t1 t3 t4 t5;have hco:=HCO.out;go_wp2
      all_goals first|exact⟨⟨j+1,by omega,by go_num,U9.out,HET.out⟩,by simp only[intOf];omega⟩|(exfalso;clear U9 HET HTE;omega)
  ·obtain rfl:j=os.length:=by omega
   have hks:ks.take os.length=ks:=by rw[←Vt.out.len,List.take_length]
   rw[hks]at HW;clear hos;go_wp2
   go_ret
   exact⟨rfl,HW.out,dJ.out⟩
end Br
end
namespace Br
structure Xy where
 what:Int
 least:Int
 wait:Int
 value:List UInt8
def ZR(x:Xy):List Value:=[.int .i64 x.what, .int .i64 x.least, .int .i64 x.wait, .string ⟨x.value.toArray⟩]
structure UQ(x:Xy):Prop where
 what1: -9223372036854775808≤x.what
 what2:x.what≤9223372036854775807
 least1: -9223372036854775808≤x.least
 least2:x.least≤9223372036854775807
 wait1: -9223372036854775808≤x.wait
 wait2:x.wait≤9223372036854775807
 value:x.value.length≤9223372036854775807
def Dj(w:World)(v:Value)(ds:List Xy):Prop:=
 ∃a c,v= .slice a ds.length c∧ds.length≤c∧c≤maxLen∧(∀j (h:j<ds.length),UQ ds[j]∧∃p,a=some p∧∀i u,(ZR ds[j])[i]? =some u→w.cell? ((p.add (j*4)).add i)=some u)
theorem Dj.kept{w w':World}{v:Value}{ds:List Xy}{S:List Nat}(h:Dj w v ds)(ht:Turn S w w')(hS:∀q∈S,w.heap.size≤q):Dj w' v ds:=by
 obtain⟨a,c,rfl,h1,h2,h4⟩:=h;refine⟨a,c,rfl,h1,h2,fun j hj=>?_⟩;obtain⟨h5,p,rfl,hc⟩:=h4 j hj;refine⟨h5,p,rfl,fun i u hu=>?_⟩;have hlt:=World.block_lt_of_cell? w _ (hc i u hu);rw[World.cell?_of_block (w:=w) (ht.block _ hlt (fun hm=>by have:=hS _ hm;omega)),hc i u hu]
theorem Dj.four{w:World}{a:Option Addr}{l c:Nat}{ds:List Xy}(h:Dj w (.slice a l c) ds){j:Nat}(hj:j<ds.length):
 ∃p,a=some p∧UQ ds[j]∧w.cell? (p.add (j*4))=some (.int .i64 ds[j].what)∧w.cell? ⟨(p.add (j*4)).block,(p.add (j*4)).off+1,none⟩=some (.int .i64 ds[j].least)∧w.cell? ⟨(p.add (j*4)).block,(p.add (j*4)).off+2,none⟩=some (.int .i64 ds[j].wait)∧w.cell? ⟨(p.add (j*4)).block,(p.add (j*4)).off+3,none⟩=some (.string ⟨ds[j].value.toArray⟩):=by
 obtain⟨a',c',e,h1,h2,h4⟩:=h;simp only[Value.slice.injEq]at e;obtain⟨rfl,rfl,rfl⟩:=e;obtain⟨h5,p,rfl,hc⟩:=h4 j hj;refine⟨p,rfl,h5,?_,hc 1 _ rfl,hc 2 _ rfl,hc 3 _ rfl⟩;have:=hc 0 _ rfl;rwa [add_zero]at this
theorem Sv:Tryz.prog.underlying 50=some (.struct (((Tryz.prog.underlying 50).bind fun d=>match d with| .struct fs=>some fs|_=>none).getD #[])):=by kernel_rfl
theorem Ji:((((Tryz.prog.underlying 50).bind fun d=>match d with| .struct fs=>some fs|_=>none).getD #[]).toList.map fun f=>(f.type,f.offset,Tryz.prog.cellsOf f.type))=[(3,0,1),(3,1,1),(3,2,1),(9,3,1)]:=by kernel_rfl
theorem Nw:Tryz.prog.cellsOf 50=4:=by kernel_rfl
variable {H:Type} {enc:TypeId×Value→H} {base:Nat} {spare:Nat→Bool} {held:Bool}
theorem list4{α:Type}{cs:List α}(h:cs.length=4):∃c0 c1 c2 c3,cs=[c0,c1,c2,c3]:=by
 match cs,h with
 |[c0,c1,c2,c3],_=>exact⟨c0,c1,c2,c3,rfl⟩
theorem UR{w:World}{n:Nat}{cs:List Value}{x:DataW H×List MemPlace}(h:DataW.trod enc Tryz.prog w base spare held n 50 cs=some x):∃r,cs=ZR r∧UQ r:=by
 obtain⟨xs,m, -, -,hlen,hl,hf⟩:=DataW.trod_struct Sv h;rw[Nw]at hlen;have hfs:=Ji;generalize (((Tryz.prog.underlying 50).bind fun d=>match d with| .struct fs=>some fs|_=>none).getD #[])=fs at*
 have hxs:xs.length=4:=by
  rw[hl];have:=congrArg List.length hfs;simpa using this
 obtain⟨c0,c1,c2,c3,rfl⟩:=list4 hlen;obtain⟨y0,y1,y2,y3,rfl⟩:=list4 hxs;have one:∀(i t o:Nat) (y:DataW H×List MemPlace),[(3,0,1),(3,1,1),(3,2,1),(9,3,1)][i]? =some (t,o,1)→[y0,y1,y2,y3][i]? =some y→
  DataW.trod enc Tryz.prog w base spare held m t (([c0,c1,c2,c3].drop o).take 1)=some y:=by
  intro i t o y hi hy;obtain⟨f,h1,h2,h3,h4⟩:=Py hfs hi;have:=hf i f h1;rw[h4,h2,h3,hy]at this;exact this
 obtain⟨n0,e0, -,w0⟩:=DataW.trod_int Tryz.underlying3 (one 0 _ _ y0 rfl rfl);obtain⟨n1,e1, -,w1⟩:=DataW.trod_int Tryz.underlying3 (one 1 _ _ y1 rfl rfl);obtain⟨n2,e2, -,w2⟩:=DataW.trod_int Tryz.underlying3 (one 2 _ _ y2 rfl rfl);obtain⟨s3,e3, -,w3⟩:=DataW.trod_string Tryz.underlying9 (one 3 _ _ y3 rfl rfl);simp only[List.drop_succ_cons,List.drop_zero,List.take_succ_cons,List.take_zero,List.cons.injEq,and_true]at e0 e1 e2 e3;subst e0;subst e1;subst e2;subst e3;have hm:maxLen=9223372036854775807:=by simp[maxLen]
 rw[hm]at w3;exact⟨⟨n0,n1,n2,s3.data.toList⟩,rfl,⟨(wf_i64 w0).1,(wf_i64 w0).2,(wf_i64 w1).1,(wf_i64 w1).2,(wf_i64 w2).1,(wf_i64 w2).2,by simpa using w3⟩⟩
theorem Zn{w:World}{r:Reach}{b0:Nat}{v:Value}{d:DataW H}{ps:List MemPlace}(hv:Value.okWide Tryz.prog w r b0 22 v)(h:DataW.Trod enc Tryz.prog w base spare held 22 v d ps):∃ds,Dj w v ds:=by
 obtain⟨a',len',cap',rfl⟩:=WideShapes.okWide_slice Tryz.underlying22 hv;obtain⟨n,h⟩:=h;simp only[Value.cells]at h;rcases Deep.open_slice Tryz.underlying22 h with⟨hcs, -⟩|⟨a,len,cap,m,k,D,Pl,hcs, -,h1,h2,h3, -,h4⟩
 ·simp only[List.cons.injEq,and_true]at hcs
  rw[hcs];exact⟨[],none,0,rfl,Nat.le_refl _,Nat.zero_le _,fun j hj=>absurd hj (Nat.not_lt_zero _)⟩
 ·simp only[List.cons.injEq,and_true]at hcs
  rw[hcs];have hlm:len≤m:=by rw[h3];split<;>omega
  rw[Nw]at h4;have hr:∀i,i<len→∃r,UQ r∧∀j u,(ZR r)[j]? =some u→w.cell? ((a.add (i*4)).add j)=some u:=by
   intro i hi;obtain⟨cs',g1,g2⟩:=h4 i (by omega);obtain⟨r,rfl,hok⟩:=UR g2;obtain⟨-, -,g3⟩:=World.cells?_some g1;refine⟨r,hok,fun j u hu=>?_⟩;have hj:j<4:=by have:=(List.getElem?_eq_some_iff.1 hu).1;simpa[ZR]using this
   rw[g3 j hj];exact hu
  let rs:List Xy:=(List.range len).attach.map fun i=>(hr i.1 (List.mem_range.1 i.2)).choose
  have hl:rs.length=len:=by simp[rs]
  refine⟨rs,some a,cap,by rw[hl],by rw[hl];exact h1,h2,fun j hj=>?_⟩;have hj':j<len:=by omega
  have e:rs[j]=(hr j hj').choose:=by simp[rs]
  rw[e];have hsp:=(hr j hj').choose_spec;exact⟨hsp.1,a,rfl,hsp.2⟩
end Br
section
attribute [local go_sem] Oper.semAt_some
open Lg
open Wh (IR Dq)
namespace Br
def keyOf(x:Wq):Nat×Wo:=(x.who,⟨x.least,x.due,x.off,false⟩)
theorem Dl:∀(k:Nat) (l:List Wo),(opens k l).Pairwise (fun a b=>a.1<b.1)
 |_,[]=>List.Pairwise.nil
 |k,o::t=>by
  have ih:=Dl (k+1) t;unfold opens;split
  ·exact ih
  ·exact List.pairwise_cons.2 ⟨fun p hp=>(oC hp).1,ih⟩
section
variable {all:List Wo} {q:List Wq}
theorem EM(h:opens 0 all=q.map keyOf):q.Pairwise (fun a b=>a.who<b.who):=by
 have:=Dl 0 all;rw[h,List.pairwise_map]at this;exact this
theorem Ny(h:opens 0 all=q.map keyOf){x:Wq}(hx:x∈q):0<x.who:=by
 have:keyOf x∈opens 0 all:=by rw[h];exact List.mem_map_of_mem hx
 exact(oC this).1
theorem Xz(h:opens 0 all=q.map keyOf){x y:Wq}(hx:x∈q)(hy:y∈q)(e:x.who=y.who):x=y:=by
 have hp:=List.pairwise_iff_getElem.1 (EM h);obtain⟨i,hi,rfl⟩:=List.mem_iff_getElem.1 hx;obtain⟨j,hj,rfl⟩:=List.mem_iff_getElem.1 hy;rcases Nat.lt_trichotomy i j with h1|h1|h1
 ·have:=hp i j hi hj h1;omega
 ·subst h1;rfl
 ·have:=hp j i hj hi h1;omega
theorem xP(h:opens 0 all=q.map keyOf)(p:Wq→Bool)(ks:List Nat)(hk:∀n,n≠0→(n∈ks↔ ∃x∈q,p x=false∧x.who=n)):opens 0 (fK ks 0 all)=(q.filter p).map keyOf:=by
 rw[tH,h,List.filter_map];congr 1
 apply List.filter_congr;intro x hx;have h0:=Ny h hx;show(!ks.contains x.who)=p x;cases hp:p x
 ·rw[Bool.not_eq_false',List.contains_iff_mem,hk _ (by omega)]
  exact⟨x,hx,hp,rfl⟩
 ·rw[Bool.not_eq_true',Bool.eq_false_iff]
  intro hc;rw[List.contains_iff_mem,hk _ (by omega)]at hc;obtain⟨y,hy,hpy,e⟩:=hc;have:=Xz h hx hy e.symm;rw[this,hpy]at hp;cases hp
theorem rG(h:opens 0 all=q.map keyOf):q.length≤all.length:=by
 have:∀(k:Nat) (l:List Wo),(opens k l).length≤l.length:=by
  intro k l;induction l generalizing k with
  |nil=>simp[opens]
  |cons o t ih=>
   unfold opens;have:=ih (k+1);split<;>simp<;>omega
 have h1:=this 0 all;rw[h,List.length_map]at h1;exact h1
end
def mM(vals:List (List UInt8)):List Int:=(List.range vals.length).map (fun i=>(dZ (vals.take i):Int))
theorem lX(vals:List (List UInt8)):(mM vals).length=vals.length:=by simp[mM]
theorem Ls(vals:List (List UInt8))(x:List UInt8):mM (vals++[x])=mM vals++[(dZ vals:Int)]:=by
 unfold mM;rw[List.length_append,List.length_singleton,List.range_succ,List.map_append];congr 1
 ·apply List.map_congr_left
  intro i hi;rw[List.mem_range]at hi;rw[List.take_append_of_le_length (by omega)]
 ·simp
theorem Lt(vals:List (List UInt8))(i:Nat):dZ vals=dZ (vals.take i)+dZ (vals.drop i):=by
 conv=>lhs;rw[←List.take_append_drop i vals]
 exact mW _ _
structure ik(W w:World)(b ab nb:Nat)(pv:Value)(ps:List Int)(av:Value)(all:List Wo)(q:List Wq)(vals:List (List UInt8))(now nv i:Nat):Prop where
 house:∃d sb SF WF mb came,dG w W.heap.size d sb 100000 b SF WF mb came now vals q∧came≤i∧∀x∈q,x.id<came
 rise:ou q
 stay:∀x∈q,dm vals x=true∧x.off≤vals.length∧x.least≤600∧x.due≤now+50∧(0<now→now<x.due)
 box:w.heap[ab]? =some (.cells #[av] 36 (0,0))
 row:WR w W.heap.size av all
 uP:w.heap[nb]? =some (.cells #[.int .i64 (nv:Int)] 3 (0,0))
 puts:IR w W.heap.size pv ps
 Sz:nb∉pv.ownBlock
 DL:W.heap.size≤ab
 DN:W.heap.size≤nb
 turn:Turn [] W w
section
variable {W w w':World} {b ab nb:Nat} {pv:Value} {ps:List Int} {av:Value} {all:List Wo} {q:List Wq} {vals:List (List UInt8)} {now nv i:Nat}
theorem dG.own{base d sb mo b:Nat}{SF WF:List Nat}{mb came now:Nat}(h:dG w base d sb mo b SF WF mb came now vals q){k:Nat}{cs:Array Value}{T:TypeId}{fr:Nat×Nat}(hk:w.heap[k]? =some (.cells cs T fr)) (hT:T=3∨T=36∨T=45):k∉SF∧k∉WF∧k≠mb:=by
 refine⟨?_,?_,h.map.ne hk⟩
 ·rcases hT with rfl|rfl|rfl<;>exact h.store.type hk (by decide) (by decide) (by decide) (by decide) (by decide) (by decide) (by decide) (by decide) (by decide) (by decide)
 ·rcases hT with rfl|rfl|rfl<;>exact dO h.dL hk (by decide) (by decide)
theorem ik.other(h:ik W w b ab nb pv ps av all q vals now nv i){S:List Nat}(ht:Turn S w w')(hb:∀k∈S,W.heap.size≤k)(ho:∀k cs T fr,w.heap[k]? =some (.cells cs T fr)→(T=3∨T=36∨T=45)→k∉S):
 w'.heap[ab]? =some (.cells #[av] 36 (0,0))∧WR w' W.heap.size av all∧w'.heap[nb]? =some (.cells #[.int .i64 (nv:Int)] 3 (0,0))∧IR w' W.heap.size pv ps∧Turn [] W w':=
 ⟨ht.heap h.box (ho _ _ _ _ h.box (.inr (.inl rfl))),h.row.kept ht (fun k hk=>by obtain⟨cs,e⟩:=h.row.kind k hk;exact ho _ _ _ _ e (.inr (.inr rfl))),ht.heap h.uP (ho _ _ _ _ h.uP (.inl rfl)),h.puts.kept ht (fun k hk=>by obtain⟨cs,e⟩:=h.puts.kind k hk;exact ho _ _ _ _ e (.inl rfl)),h.turn.trans ht (fun k hk=> .inr (hb k hk))⟩
theorem ik.still(h:ik W w b ab nb pv ps av all q vals now nv i)(ht:Turn [] w w'):ik W w' b ab nb pv ps av all q vals now nv i:=by
 obtain⟨h1,h2,h3,h4,h5⟩:=h.other ht (by simp) (by simp);obtain⟨d,sb,SF,WF,mb,came,hh,hc⟩:=h.house;exact⟨⟨d,sb,SF,WF,mb,came,hh.still ht,hc⟩,h.rise,h.stay,h1,h2,h3,h4,h.Sz,h.DL,h.DN,h5⟩
theorem ik.up(h:ik W w b ab nb pv ps av all q vals now nv i):ik W w b ab nb pv ps av all q vals now nv (i+1):=by
 obtain⟨d,sb,SF,WF,mb,came,hh,hc,hi⟩:=h.house;exact {h with house:=⟨d,sb,SF,WF,mb,came,hh,by omega,hi⟩}
theorem ik.Dn(h:ik W w b ab nb pv ps av all q vals now nv i){S:List Nat}(ht:Turn S w w')(ho:∀k∈S,∃cs T fr,w.heap[k]? =some (.cells cs T fr)∧(T=3∨T=36∨T=45)):∃d sb SF WF mb came,dG w' W.heap.size d sb 100000 b SF WF mb came now vals q∧came≤i∧∀x∈q,x.id<came:=by
 obtain⟨d,sb,SF,WF,mb,came,hh,hc⟩:=h.house;refine⟨d,sb,SF,WF,mb,came,hh.kept ht (fun k hk hm=>?_) (fun k hk hm=>?_) (fun hm=>?_),hc⟩
 ·obtain⟨cs,T,fr,e,hT⟩:=ho k hm;exact(hh.own e hT).1 hk
 ·obtain⟨cs,T,fr,e,hT⟩:=ho k hm;exact(hh.own e hT).2.1 hk
 ·obtain⟨cs,T,fr,e,hT⟩:=ho _ hm;exact(hh.own e hT).2.2 rfl
theorem ik.Zo(h:ik W w b ab nb pv ps av all q vals now nv i){v':Value}{ps':List Int}(hr:IR w' W.heap.size v' ps')(ht:Turn pv.ownBlock.toList w w')(hj:∀j∈v'.ownBlock,j∈pv.ownBlock∨w.heap.size≤j):ik W w' b ab nb v' ps' av all q vals now nv i:=by
 have hk:∀k∈pv.ownBlock.toList,∃cs fr,w.heap[k]? =some (.cells cs 3 fr):=fun k hk=>by
  obtain⟨cs,e⟩:=h.puts.kind k (by simpa using hk);exact⟨cs,_,e⟩
 refine⟨h.Dn ht (fun k hm=>by obtain⟨cs,fr,e⟩:=hk k hm;exact⟨cs,_,fr,e, .inl rfl⟩),h.rise,h.stay,ht.heap h.box (fun hm=>?_),h.row.kept ht (fun k hk2 hm=>?_),ht.heap h.uP (fun hm=>h.Sz (by simpa using hm)),hr,fun hm=>?_,h.DL,h.DN,h.turn.trans ht (fun k hk2=> .inr (h.puts.lt k (by simpa using hk2)).1)⟩
 ·obtain⟨cs,fr,e⟩:=hk _ hm
  exact Lg.ai e h.box (by decide) rfl
 ·obtain⟨cs,fr,e⟩:=hk _ hm
  obtain⟨cs2,e2⟩:=h.row.kind k hk2;exact Lg.ai e e2 (by decide) rfl
 ·rcases hj _ hm with h1|h1
  ·exact h.Sz h1
  ·have:=lt_of_heap h.uP;omega
theorem ik.FY(h:ik W w b ab nb pv ps av all q vals now nv i)(t:Nat):ik W (w.setCell ⟨nb,0,none⟩ (.int .i64 (t:Int))) b ab nb pv ps av all q vals now t i:=by
 have ht:Turn [nb] w (w.setCell ⟨nb,0,none⟩ (.int .i64 (t:Int))):=(Turn.refl [nb] w).setCell (.inl (by simp)) _;refine⟨h.Dn ht (fun k hm=>by obtain rfl:=List.mem_singleton.1 hm;exact⟨_,_,_,h.uP, .inl rfl⟩),h.rise,h.stay,ht.heap h.box (fun hm=>?_),h.row.kept ht (fun k hk2 hm=>?_),?_,h.puts.kept ht (fun k hk hm=>?_),h.Sz,h.DL,h.DN,h.turn.trans ht (fun k hk=> .inr (by obtain rfl:=List.mem_singleton.1 hk;exact h.DN))⟩
 ·exact Lg.ai h.box h.uP (by decide) (List.mem_singleton.1 hm)
 ·obtain⟨cs2,e2⟩:=h.row.kind k hk2
  exact Lg.ai e2 h.uP (by decide) (List.mem_singleton.1 hm)
 ·rw[heap_set h.uP 0 (.int .i64 (t:Int))]
  rfl
 ·obtain rfl:=List.mem_singleton.1 hm
  exact h.Sz hk
theorem ik.KR(h:ik W w b ab nb pv ps av all q vals now nv i){v':Value}{all':List Wo}(hr:WR w' W.heap.size v' all')(ht:Turn av.ownBlock.toList w w'):ik W (w'.setCell ⟨ab,0,none⟩ v') b ab nb pv ps v' all' q vals now nv i:=by
 have hk:∀k∈av.ownBlock.toList,∃cs fr,w.heap[k]? =some (.cells cs 45 fr):=fun k hk=>by
  obtain⟨cs,e⟩:=h.row.kind k (by simpa using hk);exact⟨cs,_,e⟩
 have hbx:w'.heap[ab]? =some (.cells #[av] 36 (0,0)):=ht.heap h.box (fun hm=>by
  obtain⟨cs,fr,e⟩:=hk _ hm;exact Lg.ai e h.box (by decide) rfl)
 have ht2:Turn [ab] w' (w'.setCell ⟨ab,0,none⟩ v'):=(Turn.refl [ab] w').setCell (.inl (by simp)) _;have ht3:Turn (ab::av.ownBlock.toList) w (w'.setCell ⟨ab,0,none⟩ v'):=(ht.mono (fun k hk=> .inl (List.mem_cons_of_mem _ hk))).trans ht2 (fun k hk=> .inl (by obtain rfl:=List.mem_singleton.1 hk;simp));have hn:nb∉ab::av.ownBlock.toList:=fun hm=>by
  rcases List.mem_cons.1 hm with e|hm
  ·exact Lg.ai h.uP h.box (by decide) e
  ·obtain⟨cs,fr,e⟩:=hk _ hm
   exact Lg.ai e h.uP (by decide) rfl
 refine⟨h.Dn ht3 (fun k hm=>?_),h.rise,h.stay,?_,hr.kept ht2 (fun k hk2 hm=>?_),ht3.heap h.uP hn,h.puts.kept ht3 (fun k hk2 hm=>?_),h.Sz,h.DL,h.DN,h.turn.trans ht3 (fun k hk2=> .inr ?_)⟩
 ·rcases List.mem_cons.1 hm with rfl|hm
  ·exact⟨_,_,_,h.box, .inr (.inl rfl)⟩
  ·obtain⟨cs,fr,e⟩:=hk _ hm
   exact⟨_,_,_,e, .inr (.inr rfl)⟩
 ·rw[heap_set hbx 0 v']
  rfl
 ·obtain⟨cs2,e2⟩:=hr.kind k hk2
  exact Lg.ai e2 hbx (by decide) (List.mem_singleton.1 hm)
 ·obtain⟨cs2,e2⟩:=h.puts.kind k hk2
  rcases List.mem_cons.1 hm with e|hm
  ·exact Lg.ai e2 h.box (by decide) e
  ·obtain⟨cs,fr,e⟩:=hk _ hm
   exact Lg.ai e e2 (by decide) rfl
 ·rcases List.mem_cons.1 hk2 with rfl|hm
  ·exact h.DL
  ·exact(h.row.lt k (by simpa using hm)).1
def UT(W w:World)(b ab nb:Nat)(pv:Value)(ps:List Int)(av:Value)(all:List Wo)(vals:List (List UInt8))(now i:Nat)(ov:Value):Prop:=
 ∃base outs ks q,ik W w b ab nb pv ps av all q vals now now i∧bU w base ov outs∧outs.length≤1000∧sH all now outs ks∧opens 0 (fK ks 0 all)=q.map keyOf
theorem wG{ov:Value}(h:UT W w b ab nb pv ps av all vals now i ov)(hal:all.length≤1000):
 Calls Tryz.prog 8 #[ov, .pointer (some ⟨ab,0,none⟩), .pointer (some ⟨nb,0,none⟩)] w fun e w'=>e= .returned (.bool true)∧∃q all',ik W w' b ab nb pv ps av all' q vals now now i∧opens 0 all'=q.map keyOf∧all'.length=all.length:=by
 obtain⟨base,outs,ks,q,hL,ho,hlen,hck,hop⟩:=h;refine(check_any w base _ ov outs ab nb av all now ks ho hL.box hL.uP hL.row hck hlen hal).mono ?_;rintro e w' ⟨rfl,hr,ht⟩;have hk:∀k∈av.ownBlock.toList,∃cs fr,w.heap[k]? =some (.cells cs 45 fr):=fun k hk=>by
  obtain⟨cs,e⟩:=hL.row.kind k (by simpa using hk);exact⟨cs,_,e⟩
 refine⟨rfl,q,fK ks 0 all,⟨hL.Dn ht (fun k hm=>by obtain⟨cs,fr,e⟩:=hk k hm;exact⟨cs,_,fr,e, .inr (.inr rfl)⟩),hL.rise,hL.stay,ht.heap hL.box (fun hm=>?_),hr,ht.heap hL.uP (fun hm=>?_),hL.puts.kept ht (fun k hk2 hm=>?_),hL.Sz,hL.DL,hL.DN,hL.turn.trans ht (fun k hk2=> .inr (hL.row.lt k (by simpa using hk2)).1)⟩,hop,dP _ _ _⟩
 ·obtain⟨cs,fr,e⟩:=hk _ hm
  exact Lg.ai e hL.box (by decide) rfl
 ·obtain⟨cs,fr,e⟩:=hk _ hm
  exact Lg.ai e hL.uP (by decide) rfl
 ·obtain⟨cs,fr,e⟩:=hk _ hm
  obtain⟨cs2,e2⟩:=hL.puts.kind k hk2;exact Lg.ai e e2 (by decide) rfl
end
theorem Nz{vals:List (List UInt8)}{q:List Wq}{x:Wq}{R:List Bt.Rec}(h1:vals.length≤60)(h2:∀v∈vals,v.length≤500)(hf:dU x.off vals R):(∀r∈R,jD r)∧R.length≤1000∧jk R≤1000000∧(dm vals x=false→0<x.wait→x.least≤600→x.least≤jk R):=by
 obtain⟨a1,a2,a3⟩:=o7 hf h1 h2;obtain⟨b1,b2,b3,b4⟩:=mG hf;rw[Jh hf];refine⟨a1,a3,a2,fun hs hw hl=>?_⟩;unfold dm at hs;rw[Bool.and_eq_false_iff,decide_eq_false_iff_not,decide_eq_false_iff_not]at hs;have hs2:x.least≤dZ (vals.drop x.off):=by omega
 rcases Nat.lt_or_ge (dE R) 600 with h|h
 ·rw[b2 h];exact hs2
 ·omega
section
variable {W w w':World} {b ab nb:Nat} {pv:Value} {ps:List Int} {av:Value} {all:List Wo} {q:List Wq} {vals:List (List UInt8)} {now nv i:Nat}
theorem Jj{p:List Wq}{outs:List Ot}{t:Nat}(h:opens 0 all=q.map keyOf)(hp:∀x∈p,x∈q)(hd:(p.map (·.who)).Nodup)(ht:Told vals p outs)(h1:vals.length≤60)(h2:∀v∈vals,v.length≤500)(hc:∀x∈p,(dm vals x=false∧0<x.wait∧x.least≤600)∨x.due≤t):sH all t outs (p.map (·.who)):=by
 have hl:=ht.len;refine⟨by rw[List.length_map,hl],hd,fun j hj=>?_,fun j hj _=>?_⟩
 ·obtain⟨h3,h4, -, -⟩:=ht.at j hj
  rw[h4,List.getD_eq_getElem?_getD,List.getElem?_map,List.getElem?_eq_getElem h3];rfl
 ·obtain⟨h3, -,h5,h6⟩:=ht.at j hj
  obtain⟨f1,f2,f3,f4⟩:=Nz (q:=q) h1 h2 h6;refine⟨h5,f1,f2,f3,⟨p[j].least,p[j].due,p[j].off,false⟩,?_,?_⟩
  ·rw[List.getD_eq_getElem?_getD,List.getElem?_map,List.getElem?_eq_getElem h3,h]
   exact List.mem_map_of_mem (f:=keyOf) (hp _ (List.getElem_mem h3))
  ·rcases hc p[j] (List.getElem_mem h3)with⟨g1,g2,g3⟩|g
   ·exact .inl (f4 g1 g2 g3)
   ·exact .inr g
theorem sH.cons{t:Nat}{outs:List Ot}{ks:List Nat}{o:Ot}(h:sH all t outs ks)(ho:o.dst=0)(hk:0∉ks):sH all t (o::outs) (0::ks):=by
 refine⟨by simp[h.len],List.nodup_cons.2 ⟨hk,h.nod⟩,fun j hj=>?_,fun j hj hn=>?_⟩
 ·cases j with
  |zero=>simpa using ho
  |succ j=>simpa using h.dst j (by simpa using hj)
 ·cases j with
  |zero=>simp at hn
  |succ j=>simpa using h.fit j (by simpa using hj) (by simpa using hn)
theorem Dp(h:opens 0 all=q.map keyOf):(q.map (·.who)).Nodup:=by
 unfold List.Nodup;rw[List.pairwise_map];exact(EM h).imp (fun h e=>by omega)
theorem UU(h:ik W w b ab nb pv ps av all q vals now now i)(hop:opens 0 all=q.map keyOf)(hi:i≤1000)(hal:all.length≤900)(hlen:vals.length<60){x:List UInt8}(hx:x.length≤500)(ra:Option Addr)(rc:Nat)(hrec:bn w (.slice ra 1 rc) [fU 0 x])(hro:∀k∈(Value.slice ra 1 rc).ownBlock,k<w.heap.size)(hv:∀Z,Turn [] W Z→Sn.dA Z∧As.lM Z):
 Calls Tryz.prog 7 #[.pointer (some ⟨b,0,none⟩), .int .i64 0, .agg #[.int .i64 1, .int .i64 0, .string ⟨#[97]⟩, .int .i64 0, .int .i64 0, .int .i64 0, .int .i64 0, .int .i64 0, .int .i64 0, .int .i64 0, .bool false, .bool false, .slice ra 1 rc]] w fun e w'=>∃ov,e= .returned ov∧UT W w' b ab nb pv ps av all (vals++[x]) now i ov∧∀(k:Nat) (cs:Array Value) (fr:Nat×Nat),w.heap[k]? =some (.cells cs 50 fr)→w'.heap[k]? =some (.cells cs 50 fr):=by
 obtain⟨d,sb,SF,WF,mb,came,hh,hc,hid⟩:=h.house;have Uf:=rG hop;obtain⟨hf1,hf2⟩:=hh.store.few;have hSF:=fun k hk=>(hh.store.lt k hk).1
 have Zp:=fun k hk=>(hh.dL.lt k hk).1
 refine(C9 hh h.rise (fun y hy=>⟨(h.stay y hy).2.1,(h.stay y hy).2.2.1,by have:=hid y hy;omega⟩) (by omega) (.inr (by omega)) hlen hx ra rc hrec hro (fun Z hZ=>hv Z (h.turn.trans hZ (fun k hk=> .inr (hSF k hk)))) 0).mono ?_;rintro e w' ⟨ov,o,outs,SF',WF',rfl,hh',ho,hd,he,ht,Vw, -⟩;have hbase:∀k∈SF++mb::WF,W.heap.size≤k:=fun k hk=>by
  rcases List.mem_append.1 hk with hk|hk
  ·exact hSF k hk
  ·rcases List.mem_cons.1 hk with rfl|hk
   ·exact hh.low
   ·exact Zp k hk
 obtain⟨g1,g2,g3,g4,g5⟩:=h.other Vw hbase (fun k cs T fr e hT hm=>by
  obtain⟨n1,n2,n3⟩:=hh.own e hT;rcases List.mem_append.1 hm with hm|hm
  ·exact n1 hm
  ·rcases List.mem_cons.1 hm with hm|hm
   ·exact n3 hm
   ·exact n2 hm)
 have hsub:∀y∈q.filter (dm (vals++[x])),y∈q:=fun y hy=>(List.mem_filter.1 hy).1
 have hsub2:∀y∈q.filter (fun y=> !dm (vals++[x]) y),y∈q:=fun y hy=>(List.mem_filter.1 hy).1
 obtain⟨hw1,hw2⟩:=hh'.store.few;have XA:=Jj (t:=now) hop hsub2 ((Dp hop).sublist (List.Sublist.map _ List.filter_sublist)) ht hw1 hw2 (fun y hy=> .inl ⟨by simpa using(List.mem_filter.1 hy).2,by
  have:=(h.stay y (hsub2 y hy)).1;unfold dm at this;rw[Bool.and_eq_true,decide_eq_true_eq]at this;exact this.1,(h.stay y (hsub2 y hy)).2.2.1⟩)
 have h0:0∉(q.filter (fun y=> !dm (vals++[x]) y)).map (·.who):=fun hm=>by
  obtain⟨y,hy,e⟩:=List.mem_map.1 hm;have:=Ny hop (hsub2 y hy);omega
 refine⟨ov,rfl,⟨w.heap.size,o::outs,0::(q.filter (fun y=> !dm (vals++[x]) y)).map (·.who),q.filter (dm (vals++[x])),⟨⟨d,sb,SF',WF',mb,came,hh',hc,fun y hy=>hid y (hsub y hy)⟩,h.rise.sub List.filter_sublist,fun y hy=>?_,g1,g2,g3,g4,h.Sz,h.DL,h.DN,g5⟩,ho,?_,XA.cons hd h0,?_⟩,fun k cs fr e=>Vw.heap e (fun hm=>?_)⟩
 ·obtain⟨s1,s2,s3,s4,s5⟩:=h.stay y (hsub y hy)
  exact⟨(List.mem_filter.1 hy).2,by rw[List.length_append];omega,s3,s4,s5⟩
 ·have:=ht.len
  have h3:=List.length_filter_le (fun y=> !dm (vals++[x]) y) q;simp only[List.length_cons];omega
 ·refine xP hop _ _ (fun n hn=>?_)
  simp only[List.mem_cons,List.mem_map,List.mem_filter,Bool.not_eq_true'];constructor
  ·rintro(e|⟨y,⟨h1,h2⟩,h3⟩)
   ·exact absurd e hn
   ·exact⟨y,h1,h2,h3⟩
  ·rintro⟨y,h1,h2,h3⟩
   exact .inr ⟨y,⟨h1,h2⟩,h3⟩
 ·rcases List.mem_append.1 hm with hm|hm
  ·exact hh.store.type e (by decide) (by decide) (by decide) (by decide) (by decide) (by decide) (by decide) (by decide) (by decide) (by decide) hm
  ·rcases List.mem_cons.1 hm with hm|hm
   ·exact hh.map.ne e hm
   ·exact dO hh.dL e (by decide) (by decide) hm
theorem Jk{t:Nat}(h:ik W w b ab nb pv ps av all q vals now nv i)(hop:opens 0 all=q.map keyOf)(hi:i≤1000)(hal:all.length≤900)(hn:now≤t)(ht:t≤1000000):
 Calls Tryz.prog 10 #[.pointer (some ⟨b,0,none⟩), .int .i64 (t:Int)] w fun e w'=>∃ov,e= .returned (.tuple #[ov, .nilIface])∧∃base outs ks,ik W w' b ab nb pv ps av all (q.filter (fun x=> !pR t x)) vals t nv i∧bU w' base ov outs∧outs.length≤1000∧sH all t outs ks∧opens 0 (fK ks 0 all)=(q.filter (fun x=> !pR t x)).map keyOf:=by
 obtain⟨d,sb,SF,WF,mb,came,hh,hc,hid⟩:=h.house;have Uf:=rG hop;obtain⟨hf1,hf2⟩:=hh.store.few;have Zp:=fun k hk=>(hh.dL.lt k hk).1
 refine(Si hh h.rise (fun y hy=>⟨(h.stay y hy).2.1,(h.stay y hy).2.2.1,by have:=hid y hy;omega⟩) (by omega) t hn (by omega)).mono ?_;rintro e w' ⟨ov,outs,dq,WF',rfl,hh',ho,hpm,hto,Vw, -⟩;have hbase:∀k∈mb::WF,W.heap.size≤k:=fun k hk=>by
  rcases List.mem_cons.1 hk with rfl|hk
  ·exact hh.low
  ·exact Zp k hk
 obtain⟨g1,g2,g3,g4,g5⟩:=h.other Vw hbase (fun k cs T fr e hT hm=>by
  obtain⟨n1,n2,n3⟩:=hh.own e hT;rcases List.mem_cons.1 hm with hm|hm
  ·exact n3 hm
  ·exact n2 hm)
 have hsub:∀y∈q.filter (fun x=> !pR t x),y∈q:=fun y hy=>(List.mem_filter.1 hy).1
 have hdq:∀y,y∈dq↔y∈q∧pR t y=true:=fun y=>by rw[←hpm.mem_iff,List.mem_filter]
 have hnd:(dq.map (·.who)).Nodup:=(hpm.map (·.who)).nodup_iff.1 ((Dp hop).sublist (List.Sublist.map _ List.filter_sublist));have XA:=Jj (t:=t) hop (fun y hy=>((hdq y).1 hy).1) hnd hto hf1 hf2 (fun y hy=> .inr (by simpa[pR]using((hdq y).1 hy).2));refine⟨ov,rfl,w.heap.size,outs,dq.map (·.who),⟨⟨d,sb,SF,WF',mb,came,hh',hc,fun y hy=>hid y (hsub y hy)⟩,h.rise.sub List.filter_sublist,fun y hy=>?_,g1,g2,g3,g4,h.Sz,h.DL,h.DN,g5⟩,ho,?_,XA,?_⟩
 ·obtain⟨s1,s2,s3,s4,s5⟩:=h.stay y (hsub y hy)
  have:=(List.mem_filter.1 hy).2;simp only[pR,Bool.not_eq_true',decide_eq_false_iff_not]at this;exact⟨s1,s2,s3,by omega,fun _=>by omega⟩
 ·have h1:=hto.len
  have h2:=hpm.length_eq;have h3:=List.length_filter_le (pR t) q;omega
 ·refine xP hop _ _ (fun n hn=>?_)
  simp only[List.mem_map,hdq,Bool.not_eq_false'];constructor
  ·rintro⟨y,⟨h1,h2⟩,h3⟩
   exact⟨y,h1,h2,h3⟩
  ·rintro⟨y,h1,h2,h3⟩
   exact⟨y,⟨h1,h2⟩,h3⟩
theorem OV{le wa:Nat}(h:ik W w b ab nb pv ps av (all++[⟨le,now+wa,vals.length,false⟩]) q vals now now i)(hop:opens 0 all=q.map keyOf)(hi:i≤1000)(hal:all.length≤900)(hle:le≤600)(CV:wa≤50)(Rx:now≤1000000)(wi:Int)(hwi:wi=((all.length+1:Nat):Int)):
 Calls Tryz.prog 7 #[.pointer (some ⟨b,0,none⟩), .int .i64 wi, .agg #[.int .i64 2, .int .i64 0, .string ⟨#[97]⟩, .int .i64 0, .int .i64 (vals.length:Int), .int .i64 3000, .int .i64 (le:Int), .int .i64 (wa:Int), .int .i64 0, .int .i64 0, .bool false, .bool false, .slice none 0 0]] w fun e w'=>∃ov,e= .returned ov∧UT W w' b ab nb pv ps av (all++[⟨le,now+wa,vals.length,false⟩]) vals now (i+1) ov:=by
 obtain⟨d,sb,SF,WF,mb,came,hh,hc,hid⟩:=h.house;have Uf:=rG hop;obtain⟨hf1,hf2⟩:=hh.store.few;have Zp:=fun k hk=>(hh.dL.lt k hk).1
 subst hwi;have hop2:opens 0 (all++[⟨le,now+wa,vals.length,false⟩])=(q++[(⟨came,now+wa,vals.length,le,wa,all.length+1⟩:Wq)]).map keyOf:=by
  rw[tJ,hop,List.map_append,Nat.zero_add];rfl
 cases hs:dm vals ⟨0,0,vals.length,le,wa,0⟩with
 |true=>
  have hs2:dm vals ⟨came,now+wa,vals.length,le,wa,all.length+1⟩=true:=hs;refine(UK hh hid (by omega) (by omega) vals.length le wa (all.length+1) (Nat.le_refl _) hle (by omega) hs).mono ?_;rintro e w' ⟨rfl,WF',hh',Vw, -⟩;have hbase:∀k∈mb::WF,W.heap.size≤k:=fun k hk=>by
   rcases List.mem_cons.1 hk with rfl|hk
   ·exact hh.low
   ·exact Zp k hk
  obtain⟨g1,g2,g3,g4,g5⟩:=h.other Vw hbase (fun k cs T fr e hT hm=>by
   obtain⟨n1,n2,n3⟩:=hh.own e hT;rcases List.mem_cons.1 hm with hm|hm
   ·exact n3 hm
   ·exact n2 hm)
  refine⟨_,rfl,0,[],[],q++[⟨came,now+wa,vals.length,le,wa,all.length+1⟩],⟨⟨d,sb,SF,WF',mb,came+1,hh',by omega,fun y hy=>?_⟩,?_,fun y hy=>?_,g1,g2,g3,g4,h.Sz,h.DL,h.DN,g5⟩,bU.nil _ _,by simp,⟨rfl,List.Pairwise.nil,fun j hj=>by simp at hj,fun j hj=>by simp at hj⟩,?_⟩
  ·rcases List.mem_append.1 hy with hy|hy
   ·have:=hid y hy;omega
   ·obtain rfl:=List.mem_singleton.1 hy;exact Nat.lt_succ_self _
  ·refine List.pairwise_append.2 ⟨h.rise,List.pairwise_singleton _ _,fun y hy z hz=>?_⟩
   obtain rfl:=List.mem_singleton.1 hz;exact hid y hy
  ·rcases List.mem_append.1 hy with hy|hy
   ·exact h.stay y hy
   ·obtain rfl:=List.mem_singleton.1 hy
    have hw:0<wa:=by
     unfold dm at hs;rw[Bool.and_eq_true,decide_eq_true_eq]at hs;exact hs.1
    exact⟨hs2,Nat.le_refl _,hle,by show now+wa≤now+50;omega,fun _=>by show now<now+wa;omega⟩
  ·rw[wF]
   exact hop2
 |false=>
  refine(RX hh vals.length le wa (Nat.le_refl _) 3000 0 (.inl rfl) hle ((all.length+1:Nat):Int) hs).mono ?_;rintro e w' ⟨ov,o,rfl,hh',ho,e1,e2, -, -,hft,Vw⟩;obtain⟨f1,f2,f3,f4⟩:=Nz (q:=q) (x:=⟨came,now+wa,vals.length,le,wa,all.length+1⟩) hf1 hf2 hft;have hL:=(h.still Vw).up;refine⟨ov,rfl,w.heap.size,[o],[all.length+1],q,hL,ho,by simp,⟨rfl,by simp,fun j hj=>?_,fun j hj hn=>?_⟩,?_⟩
  ·obtain rfl:j=0:=by simp at hj;omega
   exact e1
  ·obtain rfl:j=0:=by simp at hj;omega
   refine⟨e2,f1,f2,f3,⟨le,now+wa,vals.length,false⟩,?_,?_⟩
   ·rw[hop2,List.map_append]
    exact List.mem_append_right _ (by simp[keyOf])
   ·rcases Nat.eq_zero_or_pos wa with h0|h0
    ·exact .inr (by show now+wa≤now;omega)
    ·exact .inl (f4 hs h0 hle)
  ·rw[tH,hop2,List.map_append,List.filter_append]
   have h1:(q.map keyOf).filter (fun p=> !([all.length+1]:List Nat).contains p.1)=q.map keyOf:=by
    rw[List.filter_eq_self];intro p hp;rw[←hop]at hp;obtain⟨h2,h3, -⟩:=oC hp;have:p.1≠all.length+1:=by omega
    simpa using this
   rw[h1];simp[keyOf]
end
end Br
end
end Go.Proofs.YtmjpdhpmjmgmaaaGreatDoor
