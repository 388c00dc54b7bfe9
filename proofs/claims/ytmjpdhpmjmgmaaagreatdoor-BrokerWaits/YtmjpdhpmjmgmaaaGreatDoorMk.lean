/- Lemmas of the claim, part k of 14. -/
import Derived.Test.YtmjpdhpmjmgmaaaGreatDoorMj
import Derived.Lib.SlKeysI
import Derived.Test.YtmjpdhpmjmgmaaaGreatDoorMh
import Derived.Laws.Tables
import Derived.BigRegion
import Derived.Test.YtmjpdhpmjmgmaaaGreatDoorMb
import Derived.Test.YtmjpdhpmjmgmaaaGreatDoorMe
namespace Go.Proofs.YtmjpdhpmjmgmaaaGreatDoor
set_option maxRecDepth 100000
set_option linter.unusedSimpArgs false
set_option linter.unusedVariables false
section
open Go.RowKit Go.Maps Go.Shelf
attribute [local go_sem] Oper.semAt_some
namespace Wh
theorem Ux(w:World)(base b:Nat)(xt:Xt)(now:Nat)(F:List Nat)(all:List Tm)(h:aP w base b xt F now all):Calls Tryz.prog 66 #[.pointer (some ⟨b,1,none⟩)] w fun e w'=>e= .returned (.int .i64 now)∧w'=w:=by
 obtain⟨ah,sv,sl,h1,h2,rfl⟩:=h;obtain⟨c0,c1, -,z0⟩:=h1.cells.head;clear h1 h2;go_enter Tryz.func66,Tryz.ntmps66
 go_wp2
 go_ret
 exact⟨rfl,rfl⟩
theorem Xe:∀args w,(callFunc 111 args).run Tryz.prog w= .ok (.enter 111 args) w:=enters_of Tryz.func111 (by kernel_rfl) rfl
theorem Uy(w:World)(B:Nat)(id:Int)(hB:w.cell? ⟨B,0,none⟩=some (.int .i64 id))(x:Tm):Calls Tryz.prog 111 #[zh x, .pointer (some ⟨B,0,none⟩)] w fun e w'=>e= .returned (.bool (x.2==id))∧Turn [] w w':=by
 have zB:=World.block_lt_of_cell? w _ hB;simp only at zB;unfold zh;go_enter Tryz.func111,Tryz.ntmps111
 go_wp2
 go_ret
 exact⟨rfl,(Turn.refl _ _).alloc _⟩
theorem I5(p:Tm→Bool)(l:List Tm)(t:Int):xM t (l.filter p)=(xM t l).filter p:=by
 unfold xM;rw[List.filter_filter,List.filter_filter];apply List.filter_congr;intro x _;rw[Bool.and_comm]
theorem Sq.Uz{l m:List Tm}(h:Sq l m)(p:Tm→Bool):Sq (l.filter p) (m.filter p):=fun t=>by rw[I5,I5,h t]
theorem UA{now:Nat}{all:List Tm}{sl:Nat→List Tm}(h:pM now all sl){x:Tm}(hx:x∈all){j:Nat}(hj:j=aG now x.1.toNat):pM now (dQ all x.2) (dR sl j (jA (fun y=>y.2==x.2) (sl j))):=by
 refine⟨h.le,fun i hi=>?_,vX (rE _ _) h.nd,Nat.le_trans (rE all x.2).length_le h.len,fun y hy=>h.ok y ((rE all x.2).subset hy)⟩;by_cases e:i=j
 ·subst e
  rw[cO];have h1:=(h.slots i hi).Uz (fun y=> !(y.2==x.2));unfold jA dQ;rw[List.filter_filter]at h1⊢;have e2:(all.filter (fun y=>(aG now y.1.toNat==i)&& !(y.2==x.2)))=all.filter (fun y=>(!(y.2==x.2))&&(aG now y.1.toNat==i)):=by
   apply List.filter_congr;intro y _;rw[Bool.and_comm]
  first
   |exact h1
   |(rw[e2];exact h1)
   |(rw[←e2];exact h1)
 ·rw[bF _ _ e]
  have e2:(dQ all x.2).filter (fun y=>aG now y.1.toNat==i)=all.filter (fun y=>aG now y.1.toNat==i):=by
   unfold dQ;rw[List.filter_filter];apply List.filter_congr;intro y hy;by_cases e3:y.2=x.2
   ·have:y=x:=CS h.nd y hy x hx e3
    subst this;have:(aG now y.1.toNat==i)=false:=by rw[←hj];simpa using fun e'=>e e'.symm
    simp[this]
   ·have:(y.2==x.2)=false:=by simpa using e3
    simp[this]
  rw[e2];exact h.slots i hi
theorem OG{all:List Tm}{id:Int}{x:Tm}(h:dF all id=some x):x∈all∧x.2=id:=by
 unfold dF at h;have h1:=List.mem_of_find?_eq_some h;have h2:=List.find?_some h;exact⟨h1,by simpa using h2⟩
set_option maxHeartbeats 2000000 in
theorem I7(w:World)(base b:Nat)(xt:Xt)(now:Nat)(F:List Nat)(all:List Tm)(h:aP w base b xt F now all)(id:Int)(hw:(Lit.int .i64 id).wf=true)(x:Tm)(hf:dF all id=some x):
 Calls Tryz.prog 70 #[.pointer (some ⟨b,1,none⟩), .int .i64 id] w fun e w'=>e= .returned (.bool true)∧∃F',aP w' base b xt F' now (dQ all id)∧Turn F w w'∧∀q∈F',q∈F∨w.heap.size≤q:=by
 obtain⟨ah,sv,sl,hW,hI,rfl⟩:=h;obtain⟨hxa,Y9⟩:=OG hf;obtain⟨x1,x2,x3⟩:=hI.ok x hxa;obtain⟨t,ht⟩:∃t:Nat,t=x.1.toNat:=⟨_,rfl⟩;have htx:x.1=(t:Int):=by rw[ht];omega
 have AX:t≤1099511627776:=by omega
 obtain⟨j,hj⟩:∃j,j=aG now t:=⟨_,rfl⟩;have hj448:j<448:=by rw[hj];exact ig hI.le AX
 obtain⟨w0,hw0⟩:∃w0,w0=w.alloc (.cells #[.int .i64 id] 3):=⟨_,rfl⟩;have hal:Turn [] w w0:=by rw[hw0];exact(Turn.refl [] w).alloc _
 have hbox:w0.heap[w.heap.size]? =some (.cells #[.int .i64 id] 3 (0,0)):=by rw[hw0];exact ae w _
 have hce:∀Z,Turn [] w0 Z→(Z.cell? ⟨b,2,none⟩=some (.map ah)∧b<Z.heap.size)∧(Z.cell? ⟨w.heap.size,0,none⟩=some (.int .i64 id)∧w.heap.size<Z.heap.size)∧(Instr.lookup 57 (.map ah) (.int .i64 id) true).run Tryz.prog Z= .ok (.tuple #[.int .i64 (t:Int), .bool true]) Z:=fun Z hZ=>by
  have hWZ:=(hW.still hal).still hZ;have hb:=hZ.heap hbox (by simp);have hlk:=hWZ.map.look hw;rw[hf]at hlk;simp only[Option.map_some,Option.getD_some,Option.isSome_some,htx]at hlk;exact⟨⟨hWZ.cells.head.2.1,hWZ.cells.head.2.2.2⟩,⟨by rw[cell_of hb];rfl,lt_of_heap hb⟩,hlk⟩
 have HC:=hide hce;have mX:=hide hal;have HW0:=hide hw0;have HW:=hide hW;have HI:=hide hI;have HB0:=hide hbox;have Yz:=hide hxa;have HXI:=hide Y9;have SN:=hide htx;have HJ:=hide hj;have hmf:∀(fn:Fn) (first cap:Array Value) (w:World),(Instr.makeFunc fn first cap).run Tryz.prog w= .ok (.func fn first cap) w:=fun _ _ _ _=>rfl
 clear hal hbox hce hw0 hW hI hf hxa Y9 x1 x2 x3 ht htx hj;go_enter Tryz.func70,Tryz.ntmps70
 go_wp2
 rw[show w.alloc (.cells #[.int .i64 id] 3)=w0 from HW0.out.symm];refine aF (Turn []) (by kernel_rfl) (by kernel_rfl) (by kernel_rfl) (by kernel_rfl) rfl (Turn.refl _) (fun _ _ _ h k=>h.same k) ?_;apply Lo.ag 1 rfl rfl [] (by kernel_rfl) (Turn.refl _);apply Exists.intro;apply And.intro
 ·intro u w1 hR hF
  clear hF;refine⟨rfl,fun a ha K hK=>?_⟩;have e0:=ha 0;conv at e0=>rhs;whnf
  clear ha;go_simp
  refine hK _ ?_;rfl
 apply Lo.ag 2 rfl rfl [0] (by kernel_rfl) (Turn.refl _);apply Exists.intro;apply And.intro
 ·intro u w1 hR hF
  obtain⟨h0, -⟩:=hF;refine⟨rfl,fun a ha K hK=>?_⟩;have e8:=(ha 8).trans h0;clear ha h0;obtain⟨⟨c0,z0⟩, -, -⟩:=HC.out w1 (((Turn.refl [] _).drew).same hR);go_simp
  refine hK _ ?_;rfl
 apply Lo.ag 3 rfl rfl [1] (by kernel_rfl) (Turn.refl _);apply Exists.intro;apply And.intro
 ·intro u w1 hR hF
  obtain⟨h1, -⟩:=hF;refine⟨rfl,fun a ha K hK=>?_⟩;have e9:=(ha 9).trans h1;clear ha h1;go_simp
  refine hK _ ?_;rfl
 refine Lo.aJ 4 rfl rfl [2] (.map ah) (by kernel_rfl) (fun u w1 hR hF=>?_) (Turn.refl _) ?_
 ·obtain⟨h2, -⟩:=hF
  refine⟨rfl,fun a ha K hK=>?_⟩;have e10:=(ha 10).trans h2;clear ha h2;obtain⟨⟨c0,z0⟩, -, -⟩:=HC.out w1 (((Turn.refl [] _).drew).same hR);go_simp
  refine hK _ ?_;rfl
 refine Lo.aJ 5 rfl rfl [] (.int .i64 id) (by kernel_rfl) (fun u w1 hR hF=>?_) (Turn.refl _) ?_
 ·clear hF
  refine⟨rfl,fun a ha K hK=>?_⟩;have e3:=ha 3;conv at e3=>rhs;whnf
  clear ha;obtain⟨-,⟨c1,z1⟩, -⟩:=HC.out w1 (((Turn.refl [] _).drew).same hR);go_simp
  refine hK _ ?_;rfl
 refine Lo.aJ 6 rfl rfl [3,4] (.tuple #[.int .i64 (t:Int), .bool true]) (by kernel_rfl) (fun u w1 hR hF=>?_) (Turn.refl _) ?_
 ·obtain⟨h3,h4, -⟩:=hF
  refine⟨rfl,fun a ha K hK=>?_⟩;have e11:=(ha 11).trans h3;have e12:=(ha 12).trans h4;clear ha h3 h4;obtain⟨-, -,hlk⟩:=HC.out w1 (((Turn.refl [] _).drew).same hR);go_simp
  refine hK _ ?_;rfl
 apply Lo.ag 7 rfl rfl [5] (by kernel_rfl) (Turn.refl _);apply Exists.intro;apply And.intro
 ·intro u w1 hR hF
  obtain⟨h5, -⟩:=hF;refine⟨rfl,fun a ha K hK=>?_⟩;have e13:=(ha 13).trans h5;clear ha h5;go_simp
  refine hK _ ?_;rfl
 refine Lo.aJ 8 rfl rfl [6] (.int .i64 (t:Int)) (by kernel_rfl) (fun u w1 hR hF=>?_) (Turn.refl _) ?_
 ·obtain⟨h6, -⟩:=hF
  refine⟨rfl,fun a ha K hK=>?_⟩;have e7:=(ha 7).trans h6;clear ha h6;go_simp
  refine hK _ ?_;rfl
 refine Lo.aJ 9 rfl rfl [6] (.bool true) (by kernel_rfl) (fun u w1 hR hF=>?_) (Turn.refl _) ?_
 ·obtain⟨h6, -⟩:=hF
  refine⟨rfl,fun a ha K hK=>?_⟩;have e7:=(ha 7).trans h6;clear ha h6;go_simp
  refine hK _ ?_;rfl
 refine Lo.aJ 10 rfl rfl [7] (.int .i64 (t:Int)) (by kernel_rfl) (fun u w1 hR hF=>?_) (Turn.refl _) ?_
 ·obtain⟨h7, -⟩:=hF
  refine⟨rfl,fun a ha K hK=>?_⟩;have e14:=(ha 14).trans h7;clear ha h7;go_simp
  refine hK _ ?_;rfl
 refine Lo.aJ 11 rfl rfl [8] (.bool true) (by kernel_rfl) (fun u w1 hR hF=>?_) (Turn.refl _) ?_
 ·obtain⟨h8, -⟩:=hF
  refine⟨rfl,fun a ha K hK=>?_⟩;have e15:=(ha 15).trans h8;clear ha h8;go_simp
  refine hK _ ?_;rfl
 refine Lo.done [9,10] (fun u w1 bP hSd hF=>?_);clear hSd;obtain⟨f9,f10, -⟩:=hF;have d9:u 9=_:=f9;have d10:u 10=_:=f10;clear f9 f10;simp only[ax,Act.put,List.setIfInBounds_toArray,List.set_cons_succ,List.set_cons_zero,Nat.zero_add,Nat.reduceAdd,d9,d10];have hT1:Turn [] w0 w1:=((Turn.refl [] w0).drew).same bP;obtain⟨wa,rfl⟩:∃wa,wa=w1:=⟨_,rfl⟩;have hbx:=hT1.heap HB0.out (by simp);have hsz:w.heap.size<w0.heap.size:=lt_of_heap HB0.out;have hsz1:=hT1.size;obtain⟨goes,hgoes⟩:∃goes:Tm→Bool,goes=fun y=>y.2==id:=⟨_,rfl⟩
 have hWa:=(HW.out.still mX.out).still hT1;have htake:=take_any wa base b xt now ah all sv sl hWa HI.out.le t AX j HJ.out (by have:=HI.out.slen hj448;omega) HI.out.nd
  (fun y hy=>by
    have hya:=(HI.out.mem hj448 hy).1;obtain⟨h1,h2,h3⟩:=HI.out.ok y hya;refine⟨?_,h3⟩;have:y.1=((y.1.toNat:Nat):Int):=by omega
    rw[this];exact CU (by omega))
  (fun hne=>by
    cases hmr:ah with
    |some mb=>exact⟨mb,rfl⟩
    |none=>
     exfalso;have hm:=HW.out.map;rw[hmr]at hm;have:all=[]:=hm
     have hxa:=Yz.out;rw[this]at hxa;simp at hxa)
  111 (.pointer (some ⟨w.heap.size,0,none⟩)) goes Xe
  (fun Z hZ y hy=>by
    rw[hgoes];refine Uy Z w.heap.size id ?_ y;have hb:=hZ.heap hbx (fun hm=>by
     rcases List.mem_cons.1 hm with e|hm
     ·have:=HW.out.blt;omega
     ·rcases List.mem_append.1 hm with hm|hm
      ·have:=HW.out.map.lt w.heap.size (by simpa using hm);omega
      ·have h1:=(HW.out.rows j hj448).lt w.heap.size (by simpa using hm);omega)
    rw[cell_of hb];rfl)
 have TA:=hide htake;have c1:wa.cell? ⟨w.heap.size,0,none⟩=some (.int .i64 id):=by rw[cell_of hbx];rfl
 have z1:=lt_of_heap hbx;have HT1:=hide hT1;have MW:=hide hgoes;clear htake hT1 hbx hgoes bP d9 d10 hWa;go_wp2_with fail
 refine TA.out.mono ?_;rintro e w3 ⟨ga,gc,v',rfl,hgr,hgo,hW3,ht3,hv3⟩;have hxs:x∈sl j:=by
  rw[(HI.out.slots j hj448).perm.mem_iff,List.mem_filter];refine⟨Yz.out,?_⟩;have:x.1.toNat=t:=by have:=SN.out;omega
  rw[this,←HJ.out];simp
 have hdrop:gB all (iD goes (sl j))=dQ all id:=by
  rw[tu];unfold dQ;apply List.filter_congr;intro y hy;rw[Bool.eq_iff_iff,List.all_eq_true];constructor
  ·intro h1
   have:=h1 x (List.mem_filter.2 ⟨hxs,by rw[MW.out];simp[HXI.out]⟩);rw[HXI.out]at this;exact this
  ·intro h1 z hz
   have hz2:=(List.mem_filter.1 hz).2;rw[MW.out]at hz2;have:z.2=id:=by simpa using hz2
   rw[this];exact h1
 rw[hdrop]at hW3;have hI3:=UA HI.out Yz.out (j:=j) (by rw[show x.1.toNat=t by have:=SN.out;omega];exact HJ.out);rw[HXI.out,←MW.out]at hI3;have HW3:=hide hW3;have HI3:=hide hI3;have HT3:=hide ht3;have HV3:=hide hv3;clear hgr hgo hW3 ht3 hv3 hxs hdrop hI3 c1 z1 TA;go_wp2
 go_ret
 refine⟨rfl,_,⟨ah,_,_,HW3.out,HI3.out,rfl⟩,?_,fun q hq=>?_⟩
 ·refine((mX.out.same HT1.out).mono (by simp)).trans HT3.out (fun q hq=> .inl ?_)
  rcases List.mem_cons.1 hq with rfl|hq
  ·exact ak.2 (.inl rfl)
  ·rcases List.mem_append.1 hq with hq|hq
   ·exact ak.2 (.inr (.inl (by simpa using hq)))
   ·exact ak.2 (.inr (.inr ⟨j,hj448,by simpa using hq⟩))
 ·rcases ak.1 hq with rfl|hq|⟨i,hi,hq⟩
  ·exact .inl (ak.2 (.inl rfl))
  ·exact .inl (ak.2 (.inr (.inl hq)))
  ·by_cases e:i=j
   ·subst e
    rw[cO]at hq;exact .inl (ak.2 (.inr (.inr ⟨i,hi,HV3.out q hq⟩)))
   ·rw[bF _ _ e]at hq
    exact .inl (ak.2 (.inr (.inr ⟨i,hi,hq⟩)))
end Wh
end
section
open Go.RowKit Go.Maps
open Wh (iO fH vU oG KO)
namespace Br
structure Wt where
 kind:Int
 OH:Int
 Ry:ByteArray
 part:Int
 off:Int
 most:Int
 least:Int
 wait:Int
 time:Int
 parts:Int
 sure:Bool
 compact:Bool
 who:Int
def reqV(x:Wt)(rv:Value):Array Value:= #[.int .i64 x.kind, .int .i64 x.OH, .string x.Ry, .int .i64 x.part, .int .i64 x.off, .int .i64 x.most, .int .i64 x.least, .int .i64 x.wait, .int .i64 x.time, .int .i64 x.parts, .bool x.sure, .bool x.compact,rv]
def wtC(x:Wt):Array Value:= #[.int .i64 x.kind, .int .i64 x.OH, .string x.Ry, .int .i64 x.part, .int .i64 x.off, .int .i64 x.most, .int .i64 x.least, .int .i64 x.wait, .int .i64 x.time, .int .i64 x.parts, .bool x.sure, .bool x.compact, .slice none 0 0, .int .i64 x.who]
def O0(x:Wt):Value:= .agg (wtC x)
def wt0:Wt:=⟨0,0,⟨#[]⟩,0,0,0,0,0,0,0,false,false,0⟩
def SV(x:Wt):DataW Unit:= .agg [.lit (.int .i64 x.kind), .lit (.int .i64 x.OH), .lit (.string x.Ry.data.toList), .lit (.int .i64 x.part), .lit (.int .i64 x.off), .lit (.int .i64 x.most), .lit (.int .i64 x.least), .lit (.int .i64 x.wait), .lit (.int .i64 x.time), .lit (.int .i64 x.parts), .lit (.bool x.sure), .lit (.bool x.compact), .lit (.int .i64 x.who)]
theorem UB{x y:Wt}(h:O0 x=O0 y):x=y:=by
 cases x;cases y
 simp only[O0,wtC,Value.agg.injEq,Array.mk.injEq,List.cons.injEq,Value.int.injEq,Value.string.injEq,Value.bool.injEq,true_and,and_true]at h;obtain⟨h1,h2,h3,h4,h5,h6,h7,h8,h9,h10,h11,h12,h13⟩:=h;simp only[h1,h2,h3,h4,h5,h6,h7,h8,h9,h10,h11,h12,h13]
theorem UC{x y:Wt}(h:SV x=SV y):x=y:=by
 cases x;cases y
 simp only[SV,DataW.agg.injEq,List.cons.injEq,DataW.lit.injEq,Lit.int.injEq,Lit.string.injEq,Lit.bool.injEq,true_and,and_true]at h;obtain⟨h1,h2,h3,h4,h5,h6,h7,h8,h9,h10,h11,h12,h13⟩:=h;have h3':=ByteArray.ext (Array.toList_inj.1 h3);simp only[h1,h2,h3',h4,h5,h6,h7,h8,h9,h10,h11,h12,h13]
open Classical in
noncomputable def Xf(v:Value):Option (DataW Unit×List MemPlace):=if h:∃x,v=O0 x then some (SV h.choose,[])else none
theorem Rz(x:Wt):Xf (O0 x)=some (SV x,[]):=by
 have h:∃y,O0 x=O0 y:=⟨x,rfl⟩;unfold Xf;rw[dif_pos h];rw[←UB h.choose_spec]
theorem UD{v:Value}{x:Wt}{ps:List MemPlace}(h:Xf v=some (SV x,ps)):v=O0 x:=by
 unfold Xf at h;split at h
 ·rename_i h1
  simp only[Option.some.injEq,Prod.mk.injEq]at h;rw[←UC h.1];exact h1.choose_spec
 ·cases h
theorem Za(w:World):(zeroValue 82).run Tryz.prog w= .ok (O0 wt0) w:=by kernel_rfl
abbrev Wm:=Int×Wt
def jf(l:List Wm)(id:Int):Option Wm:=l.find? (fun x=>x.1==id)
def sF(l:List Wm)(id:Int):List Wm:=l.filter (fun x=> !(x.1==id))
def atW(o:Option Wm)(z:DataW Unit):DataW Unit:=match o with
 |some x=>SV x.2
 |none=>z
def tC(D:DataW Unit)(l:List Wm):Prop:=size D=l.length∧∀id z,D.atKey (.int .i64 id) z=atW (jf l id) z
def jg(w:World)(mb:Nat)(l:List Wm):Prop:=∃D:DataW Unit,w.ownsMap Tryz.prog 3 Xf mb l.length D∧tC D l
theorem jg.kept{w w':World}{mb:Nat}{l:List Wm}{S:List Nat}(h:jg w mb l)(ht:Turn S w w')(hn:mb∉S):jg w' mb l:=by
 obtain⟨D,h1,h2⟩:=h;exact⟨D,iO h1 ht hn,h2⟩
theorem jg.still{w w':World}{mb:Nat}{l:List Wm}(h:jg w mb l)(ht:Turn [] w w'):jg w' mb l:=h.kept ht (by simp)
theorem jg.lt{w:World}{mb:Nat}{l:List Wm}(h:jg w mb l):mb<w.heap.size:=by
 obtain⟨D,h1,_⟩:=h;exact h1.lt
theorem jg.block{w:World}{mb:Nat}{l:List Wm}(h:jg w mb l):∃es clock,w.heap[mb]? =some (.map es clock):=by
 obtain⟨D,⟨es,clock,hb, -⟩, -⟩:=h;exact⟨es,clock,hb⟩
theorem jg.ne{w:World}{mb:Nat}{l:List Wm}(h:jg w mb l){k:Nat}{cs:Array Value}{T:TypeId}{fr:Nat×Nat}(hk:w.heap[k]? =some (.cells cs T fr)):k≠mb:=by
 rintro rfl;obtain⟨es,clock,hb⟩:=h.block;rw[hb]at hk;simp at hk
theorem nH{D:DataW Unit}{l:List Wm}(h:tC D l)(id:Int):has D (.int .i64 id)=(jf l id).isSome:=by
 cases hf:jf l id with
 |none=>exact has_false_of_atKey (fun z=>by rw[h.2,hf];rfl)
 |some m=>exact has_true_of_atKey (y:=SV m.2) (fun z=>by rw[h.2,hf];rfl)
theorem jg.look{w:World}{mb:Nat}{l:List Wm}(h:jg w mb l){id:Int}(hw:(Lit.int .i64 id).wf=true){x:Wm}(hf:jf l id=some x):
 (Instr.lookup 56 (.map (some mb)) (.int .i64 id) false).run Tryz.prog w= .ok (O0 x.2) w:=by
 obtain⟨D,h1,h2⟩:=h;obtain⟨v,ps,hrun,hv⟩:=h1.lookup vU Tryz.underlying56 (Za w) (zd:=SV wt0) (zp:=[]) (Rz wt0) (keyOf_int_mk Tryz.underlying3 hw);rw[hrun];rw[h2.2,hf]at hv;rw[UD hv]
theorem jg.len{w:World}{mb:Nat}{l:List Wm}(h:jg w mb l)(ty:TypeId):(Builtin.len_ #[56] ty #[.map (some mb)]).run Tryz.prog w= .ok (.int .i64 l.length) w:=by
 obtain⟨D,h1,h2,h3⟩:=h;rw[h1.len Tryz.underlying56 ty,h2]
theorem jg.made(w:World):jg (w.alloc (.map #[] 0)) w.heap.size []:=
 ⟨.map [],World.ownsMap_made _ _ _ _,rfl,fun id z=>rfl⟩
theorem Gf(l:List Wm)(x:Wm)(id:Int):jf (l++[x]) id=(jf l id).or (if x.1==id then some x else none):=by
 unfold jf;rw[List.find?_append];congr 1
 simp[List.find?_cons];split<;>simp_all
theorem jg.put{w:World}{mb:Nat}{l:List Wm}(h:jg w mb l){x:Wm}(h2:(Lit.int .i64 x.1).wf=true)(hx:jf l x.1=none)(hl:l.length≤1000000):
 ∃w',(Instr.mapUpdate 56 (.map (some mb)) (.int .i64 x.1) (O0 x.2)).run Tryz.prog w= .ok () w'∧jg w' mb (l++[x])∧Turn [mb] w w':=by
 obtain⟨D,ho,hr⟩:=h;have hm:maxLen=9223372036854775807:=by simp[maxLen]
 have hT:=ho.tidy vU;obtain⟨w',hrun,ho',hg⟩:=ho.update vU Tryz.underlying56 (by rw[hm];omega) (keyOf_int_mk Tryz.underlying3 h2) (Rz x.2);have hrd:tC (D.put (.int .i64 x.1) (SV x.2)) (l++[x]):=by
  refine⟨?_,fun id z=>?_⟩
  ·rw[size_put hT,nH hr,hx,hr.1]
   simp
  ·rw[Gf]
   by_cases e:id=x.1
   ·subst e
    rw[atKey_put_same hT.isMap (KO _),hx];simp[atW]
   ·rw[atKey_put_other (oG e),hr.2]
    have:(x.1==id)=false:=by simpa using fun e'=>e e'.symm
    simp[this]
 refine⟨w',hrun,⟨_,?_,hrd⟩,(Turn.refl _ _).grown hg (by intro k hk;cases hk;exact .inl (by simp))⟩;have:=fH ho';rwa [hrd.1]at this
theorem zT(l:List Wm)(id:Int):jf (sF l id) id=none:=by
 unfold jf sF;rw[List.find?_eq_none];intro m hm;have:=(List.mem_filter.1 hm).2;simpa using this
theorem oq:∀(l:List Wm) {id k:Int},k≠id→jf (sF l id) k=jf l k
 |[],_,_,_=>rfl
 |x::l,id,k,h=>by
  have ih:=oq l h;unfold jf sF at*;by_cases e:x.1=id
  ·have e1:(x.1==k)=false:=by rw[e];simpa using fun e'=>h e'.symm
   have e2:(x.1==id)=true:=by simpa using e
   simp only[List.filter_cons,e2,Bool.not_true,Bool.false_eq_true,if_false,List.find?_cons,e1];exact ih
  ·have e2:(x.1==id)=false:=by simpa using e
   simp only[List.filter_cons,e2,Bool.not_false,if_true,List.find?_cons];rw[ih]
theorem Gg(l:List Wm)(id:Int)(hn:(l.map (·.1)).Nodup):(sF l id).length+(if (jf l id).isSome then 1 else 0)=l.length:=by
 induction l with
 |nil=>rfl
 |cons m r ih=>
  simp only[List.map_cons,List.nodup_cons]at hn;have ih:=ih hn.2;unfold sF jf at*;by_cases hm:m.1=id
  ·have hr:r.find? (fun x=>x.1==id)=none:=by
    rw[List.find?_eq_none];intro x hx;have:x.1≠m.1:=fun e=>hn.1 (by rw[←e];exact List.mem_map.2 ⟨x,hx,rfl⟩)
    simpa[←hm]using this
   rw[hr]at ih;simp[hm]at ih⊢;exact ih
  ·have hm':(m.1==id)=false:=by simpa using hm
   simp only[List.filter_cons,hm',List.find?_cons,Bool.not_false,if_true,List.length_cons];omega
theorem jg.del{w:World}{mb:Nat}{l:List Wm}(h:jg w mb l)(hn:(l.map (·.1)).Nodup){id:Int}(hw:(Lit.int .i64 id).wf=true)(ty:TypeId):
 ∃w',(Builtin.delete_ #[56,3] ty #[.map (some mb), .int .i64 id]).run Tryz.prog w= .ok (.tuple #[]) w'∧jg w' mb (sF l id)∧Turn [mb] w w':=by
 obtain⟨D,ho,hr⟩:=h;have hT:=ho.tidy vU;obtain⟨w',hrun,ho',hg⟩:=ho.drop vU Tryz.underlying56 (keyOf_int_mk Tryz.underlying3 hw) ty;have hrd:tC (D.del (.int .i64 id)) (sF l id):=by
  refine⟨?_,fun k z=>?_⟩
  ·have h1:=size_del (k:= .int .i64 id) hT
   rw[nH hr,hr.1]at h1;have h2:=Gg l id hn;omega
  ·by_cases e:k=id
   ·subst e
    rw[atKey_del_same,zT];rfl
   ·rw[atKey_del_other (oG e),hr.2,oq _ e]
 refine⟨w',hrun,⟨_,?_,hrd⟩,(Turn.refl _ _).grown hg.grown (by intro k hk;cases hk;exact .inl (by simp))⟩;have:=fH ho';rwa [hrd.1]at this
theorem tC.keys{w:World}{D:DataW Unit}{mb n:Nat}{l:List Wm}(hown:w.ownsMap Tryz.prog 3 Xf mb n D)(hr:tC D l)(hn:(l.map (·.1)).Nodup):(l.map (·.1)).Perm (intKeys D):=by
 have hc:CollectedI D (fun _=>false) (l.map (·.1)):=by
  refine⟨hn,fun x=>?_⟩;rw[nH hr];unfold jf;rw[List.find?_isSome];simp only[List.mem_map,beq_iff_eq,and_true]
 exact hc.perm hown vU Tryz.underlying3 (fun _=>rfl)
end Br
end
section
open Go.RowKit Go.Maps
attribute [local go_sem] Oper.semAt_some
open Tp (iH Ew jm OX LR SL mQ dN nY listN One dB)
open Lg
open Sg (flat JZ Least aQ Chain aA)
open Dk (DA ay Parts fE aW dI)
namespace Br
theorem az{P:Program}{ops:Array Oper}{rest:List Oper}{op:Oper}{a:Act}{w:World}{Q:Exit→Act→World→Prop}(hgd:op.guard=none)(ty:TypeId)(x:Operand)(ho:op.op= .load ty x)
 (p:Addr)(hx:a.eval x= .pointer (some p))(v:Value)(hl:(loadVar ty p).run P w= .ok v w)(h:wpList P ops Q rest (a.put op.dst v) w):wpList P ops Q (op::rest) a w:=
 wpList_plain hgd fun _ hK=>by
  unfold Oper.wp execOp;simp only[ho,hx,Instr.loadAt,Instr.sureAddr,Sem.run_bind,Sem.run_pure,Result.andThen_ok,hl];exact hK _ _ h
theorem RD(w:World):(sizeOf 35).run Tryz.prog w= .ok 13 w:=by kernel_rfl
theorem Vo(w:World):(isAgg 35).run Tryz.prog w= .ok true w:=by kernel_rfl
theorem Xg(w:World):(sizeOf 41).run Tryz.prog w= .ok 9 w:=by kernel_rfl
theorem Zb(w:World):(isAgg 41).run Tryz.prog w= .ok true w:=by kernel_rfl
theorem iT{w:World}{Y:Nat}{v0 v1 v2 v3 v4 v5 v6 v7 v8:Value}(h:w.heap[Y]? =some (.cells #[v0,v1,v2,v3,v4,v5,v6,v7,v8] 41 (0,0))):(loadVar 41 ⟨Y,0,none⟩).run Tryz.prog w= .ok (.agg #[v0,v1,v2,v3,v4,v5,v6,v7,v8]) w:=by
 have c0:w.cell? ⟨Y,0,none⟩=some v0:=by simpa using cell_of h 0
 have c1:w.cell? ⟨Y,1,none⟩=some v1:=by simpa using cell_of h 1
 have c2:w.cell? ⟨Y,2,none⟩=some v2:=by simpa using cell_of h 2
 have c3:w.cell? ⟨Y,3,none⟩=some v3:=by simpa using cell_of h 3
 have c4:w.cell? ⟨Y,4,none⟩=some v4:=by simpa using cell_of h 4
 have c5:w.cell? ⟨Y,5,none⟩=some v5:=by simpa using cell_of h 5
 have c6:w.cell? ⟨Y,6,none⟩=some v6:=by simpa using cell_of h 6
 have c7:w.cell? ⟨Y,7,none⟩=some v7:=by simpa using cell_of h 7
 have c8:w.cell? ⟨Y,8,none⟩=some v8:=by simpa using cell_of h 8
 simp[loadVar,Zb,Xg,Result.andThen,loadCells,loadCellsFrom,addr_add,c0,c1,c2,c3,c4,c5,c6,c7,c8]
theorem iW{w:World}{Y:Nat}{v0 v1 v2 v3 v4 v5 v6 v7 v8 v9 v10 v11 v12:Value}(h:w.heap[Y]? =some (.cells #[v0,v1,v2,v3,v4,v5,v6,v7,v8,v9,v10,v11,v12] 35 (0,0))):(loadVar 35 ⟨Y,0,none⟩).run Tryz.prog w= .ok (.agg #[v0,v1,v2,v3,v4,v5,v6,v7,v8,v9,v10,v11,v12]) w:=by
 have c0:w.cell? ⟨Y,0,none⟩=some v0:=by simpa using cell_of h 0
 have c1:w.cell? ⟨Y,1,none⟩=some v1:=by simpa using cell_of h 1
 have c2:w.cell? ⟨Y,2,none⟩=some v2:=by simpa using cell_of h 2
 have c3:w.cell? ⟨Y,3,none⟩=some v3:=by simpa using cell_of h 3
 have c4:w.cell? ⟨Y,4,none⟩=some v4:=by simpa using cell_of h 4
 have c5:w.cell? ⟨Y,5,none⟩=some v5:=by simpa using cell_of h 5
 have c6:w.cell? ⟨Y,6,none⟩=some v6:=by simpa using cell_of h 6
 have c7:w.cell? ⟨Y,7,none⟩=some v7:=by simpa using cell_of h 7
 have c8:w.cell? ⟨Y,8,none⟩=some v8:=by simpa using cell_of h 8
 have c9:w.cell? ⟨Y,9,none⟩=some v9:=by simpa using cell_of h 9
 have c10:w.cell? ⟨Y,10,none⟩=some v10:=by simpa using cell_of h 10
 have c11:w.cell? ⟨Y,11,none⟩=some v11:=by simpa using cell_of h 11
 have c12:w.cell? ⟨Y,12,none⟩=some v12:=by simpa using cell_of h 12
 simp[loadVar,Vo,RD,Result.andThen,loadCells,loadCellsFrom,addr_add,c0,c1,c2,c3,c4,c5,c6,c7,c8,c9,c10,c11,c12]
theorem fC{w:World}{Y:Nat}{ys cs:Array Value}{T:TypeId}(h:w.heap[Y]? =some (.cells ys T (0,0))):(w.setRow Y cs).heap[Y]? =some (.cells cs T (0,0))∧Turn [Y] w (w.setRow Y cs):=
 ⟨setRow_heap w Y _ _ _ _ h,⟨rfl,rfl,rfl,by simp,fun k _ hk=>setRow_other w Y k _ (fun e=>hk (by simp[e]))⟩⟩
def fQ:Array Value:= #[.int .i64 0, .int .i64 0, .int .i64 0, .int .i64 0, .int .i64 0, .int .i64 0, .bool false, .slice none 0 0, .slice none 0 0]
section
variable {w w':World} {base d sb mo:Nat} {eU bytes:Int} {F:List Nat} {A:DA} {room lb:Nat} {gv ev lv:Value} {v:LV} {m:SM} {vals:List (List UInt8)}
set_option maxHeartbeats 4000000 in
theorem fetch_any(h:SA w base d sb mo eU bytes F A room lb gv ev lv v m vals)(f:Nat)(hf:f≤vals.length)(M:Int)(hM:M=3000∨(M=99∧vals.length≤1))(ki co pa le wa ti ps:Int)(tp:ByteArray)(su cm:Bool)(rv:Value):
 Calls Tryz.prog 63 #[.pointer (some ⟨lb,0,none⟩), .agg #[.int .i64 ki, .int .i64 co, .string tp, .int .i64 pa, .int .i64 (f:Int), .int .i64 M, .int .i64 le, .int .i64 wa, .int .i64 ti, .int .i64 ps, .bool su, .bool cm,rv]] w fun e w'=>∃ov R,e= .returned (.tuple #[.agg #[.int .i64 0, .int .i64 0, .int .i64 0, .int .i64 0, .int .i64 0, .int .i64 (vals.length:Int), .bool false,ov, .slice none 0 0], .nilIface])∧aH 47 6 recC w' w.heap.size ov R∧dU f vals R∧Turn [] w w':=by
 have H:=hide h;have HM:=hide hM;have hrd:∀Z,Turn [] w Z→∀Y:World,Y=Z→Calls Tryz.prog 100 #[.pointer (some ⟨lb,0,none⟩), .int .i64 (f:Int), .int .i64 (min M 3000)] Y fun e w'=>∃ov R,e= .returned (.tuple #[ov, .nilIface])∧aH 47 6 recC w' Z.heap.size ov R∧dU f vals R∧Turn [] Z w':=by
  rintro Z hZ Y rfl;refine(h.kept hZ (by simp)).read f hf (min M 3000) ?_ ?_
  ·rcases hM with rfl|⟨rfl,h1⟩
   ·exact .inl rfl
   ·exact .inr h1
  ·omega
 have LJ:=hide hrd;have hmin:min M 3000=M:=by rcases hM with rfl|⟨rfl, -⟩<;>omega
 clear h hM hrd;go_enter Tryz.func63,Tryz.ntmps63
 go_wp2_with fail
 obtain⟨w1,hw1⟩:∃w1,w1=w.alloc (.cells #[.int .i64 ki, .int .i64 co, .string tp, .int .i64 pa, .int .i64 (f:Int), .int .i64 M, .int .i64 le, .int .i64 wa, .int .i64 ti, .int .i64 ps, .bool su, .bool cm,rv] 35):=⟨_,rfl⟩;have ht1:Turn [] w w1:=by rw[hw1];exact(Turn.refl _ _).alloc _
 have hz1:w1.heap.size=w.heap.size+1:=by rw[hw1];simp
 rw[←hw1];have OI:=ae w1 (.cells fQ 41);rw[hz1]at OI;have ht2:=ht1.alloc (.cells fQ 41);have hrd:=LJ.out _ ht2 _ rfl;rw[hmin]at hrd;refine hrd.mono ?_;rintro e w2 ⟨ov,R,rfl,hrow,hfe,ht3⟩;obtain⟨oa,oc,hoe, -, -⟩:=hrow.form;subst hoe;have hb2:=ht3.heap OI (by simp);have HB2:=hide hb2;have HR:=hide (hrow.aZ ht2.size);have KY:=hide hfe;have HT2:=hide (ht2.same ht3);clear hb2 hrow hfe ht3 ht2 hrd OI hw1 ht1 hz1;go_wp2_with fail
 refine(H.out.kept HT2.out (by simp)).WU.mono ?_;rintro e w3 ⟨rfl,rfl⟩;go_wp2_with fail
 refine(H.out.kept HT2.out (by simp)).endL.mono ?_;rintro e w3 ⟨rfl,ht3⟩;have HT3:=hide (HT2.out.same ht3);have HB3:=hide (ht3.heap HB2.out (by simp));have HR3:=hide (HR.out.still ht3);have hfs:=fC (cs:= #[.int .i64 0, .int .i64 0, .int .i64 0, .int .i64 0, .int .i64 0, .int .i64 (vals.length:Int), .bool false, .slice oa R.length oc, .slice none 0 0]) HB3.out;have pI:=hide hfs;clear ht3 hfs;go_wp2_with (refine wpList_store_row rfl _ _ _ rfl (w.heap.size+1) #[.int .i64 0, .int .i64 0, .int .i64 0, .int .i64 0, .int .i64 0, .int .i64 (vals.length:Int), .bool false, .slice oa R.length oc, .slice none 0 0] rfl rfl _ _ HB3.out (by kernel_rfl) rfl (by kernel_rfl) ?_)
 have hld:=iT pI.out.1;refine bodyPost_ret (v:= .tuple #[.agg #[.int .i64 0, .int .i64 0, .int .i64 0, .int .i64 0, .int .i64 0, .int .i64 (vals.length:Int), .bool false, .slice oa R.length oc, .slice none 0 0], .nilIface]) (by simp[results,Tryz.results63,asAddr,hld,Result.andThen]) rfl ?_;have hne:w.heap.size+1∉(Value.slice oa R.length oc).ownBlock:=fun hm=>by
  obtain⟨cs',e'⟩:=HR3.out.kind _ hm;exact Lg.ai e' HB3.out (by decide) rfl
 exact⟨_,R,rfl,HR3.out.kept pI.out.2 (fun q hq hm=>by obtain rfl:=List.mem_singleton.1 hm;exact hne hq),KY.out,HT3.out.trans pI.out.2 (fun q hq=> .inr (by obtain rfl:=List.mem_singleton.1 hq;omega))⟩
end
section
variable {w w':World} {base d sb mo:Nat} {eU bytes:Int} {F:List Nat} {A:DA} {room lb:Nat} {gv ev lv:Value} {v:LV} {m:SM} {vals:List (List UInt8)}
set_option maxHeartbeats 4000000 in
theorem I8(h:SA w base d sb mo eU bytes F A room lb gv ev lv v m vals)(jO:vals=[]∨100000≤mo)(hlen:vals.length<60){x:List UInt8}(hx:x.length≤500)(ra:Option Addr)(rc:Nat)(hr:bn w (.slice ra 1 rc) [fU 0 x])(hro:∀k∈(Value.slice ra 1 rc).ownBlock,k<w.heap.size)(hv:∀Z,Turn (aS F lb gv [m]) w Z→Sn.dA Z∧As.lM Z)
 (ki co pa off Gx le wa ti ps:Int)(tp:ByteArray)(cm:Bool):
 Calls Tryz.prog 62 #[.pointer (some ⟨lb,0,none⟩), .agg #[.int .i64 ki, .int .i64 co, .string tp, .int .i64 pa, .int .i64 off, .int .i64 Gx, .int .i64 le, .int .i64 wa, .int .i64 ti, .int .i64 ps, .bool false, .bool cm, .slice ra 1 rc]] w fun e w'=>e= .returned (.tuple #[.agg #[.int .i64 0, .int .i64 0, .int .i64 0, .int .i64 (vals.length:Int), .int .i64 0, .int .i64 0, .bool false, .slice none 0 0, .slice none 0 0], .nilIface])∧∃F' A' gv' m',SA w' base d sb mo eU bytes F' A' room lb gv' ev lv v m' (vals++[x])∧Turn (aS F lb gv [m]) w w'∧∀k∈aS F' lb gv' [m'],k∈aS F lb gv [m]∨w.heap.size≤k:=by
 have H:=hide h;have hadd:=fun Z (hZ:Turn [] w Z)=>(h.kept hZ (by simp)).add jO hlen hx (.slice ra 1 rc) (hr.still hZ) (fun Y hY=>hv Y ((hZ.mono (by simp)).same hY))
 have Xh:=hide hadd;have hnb:∀k,w.heap.size≤k→k∉aS F lb gv [m]:=fun k hk hm=>by have:=(h.log.lt k hm).2;omega
 have rH:=hide hnb;clear h hr hv hadd jO hx hnb;go_enter Tryz.func62,Tryz.ntmps62
 go_wp2_with fail
 obtain⟨w1,hw1⟩:∃w1,w1=w.alloc (.cells #[.int .i64 ki, .int .i64 co, .string tp, .int .i64 pa, .int .i64 off, .int .i64 Gx, .int .i64 le, .int .i64 wa, .int .i64 ti, .int .i64 ps, .bool false, .bool cm, .slice ra 1 rc] 35):=⟨_,rfl⟩;have ht1:Turn [] w w1:=by rw[hw1];exact(Turn.refl _ _).alloc _
 have hz1:w1.heap.size=w.heap.size+1:=by rw[hw1];simp
 have hrq:w1.heap[w.heap.size]? =some (.cells #[.int .i64 ki, .int .i64 co, .string tp, .int .i64 pa, .int .i64 off, .int .i64 Gx, .int .i64 le, .int .i64 wa, .int .i64 ti, .int .i64 ps, .bool false, .bool cm, .slice ra 1 rc] 35 (0,0)):=by rw[hw1];exact ae w _
 rw[←hw1];have OI:=ae w1 (.cells fQ 41);rw[hz1]at OI;have ht2:=ht1.alloc (.cells fQ 41);have hrq2:=((Turn.refl [] w1).alloc (.cells fQ 41)).heap hrq (by simp);refine(Xh.out _ ht2).mono ?_;rintro e w2 ⟨rfl,F',A',gv',m',hsa,ht3,hf3⟩;have hb2:=ht3.heap OI (rH.out _ (by omega));have hq2:=ht3.heap hrq2 (rH.out _ (by omega));have q10:w2.cell? ⟨w.heap.size,10,none⟩=some (.bool false):=by rw[cell_of hq2];rfl
 have zq:=lt_of_heap hq2;have HB2:=hide hb2;have Js:=hide hsa;have HT2:=hide ((ht2.mono (T:=aS F lb gv [m]) (by simp)).same ht3);have HF2:Hid (∀k∈aS F' lb gv' [m'],k∈aS F lb gv [m]∨w.heap.size≤k):=fun k hk=>(hf3 k hk).imp_right (Nat.le_trans ht2.size)
 have hfs:=fC (cs:= #[.int .i64 0, .int .i64 0, .int .i64 0, .int .i64 (vals.length:Int), .int .i64 0, .int .i64 0, .bool false, .slice none 0 0, .slice none 0 0]) HB2.out;have pI:=hide hfs;clear hb2 hq2 hsa ht3 hf3 ht2 OI hrq hrq2 hw1 ht1 hz1 hfs;go_wp2_with (refine wpList_store_row rfl _ _ _ rfl (w.heap.size+1) #[.int .i64 0, .int .i64 0, .int .i64 0, .int .i64 (vals.length:Int), .int .i64 0, .int .i64 0, .bool false, .slice none 0 0, .slice none 0 0] rfl rfl _ _ HB2.out (by kernel_rfl) rfl (by kernel_rfl) ?_)
 have hld:=iT pI.out.1;refine bodyPost_ret (v:= .tuple #[.agg #[.int .i64 0, .int .i64 0, .int .i64 0, .int .i64 (vals.length:Int), .int .i64 0, .int .i64 0, .bool false, .slice none 0 0, .slice none 0 0], .nilIface]) (by simp[results,Tryz.results62,asAddr,hld,Result.andThen]) rfl ?_;have hnl:w.heap.size+1∉Ox sb ev lv F' lb gv' m':=Js.out.type HB2.out (by decide) (by decide) (by decide) (by decide) (by decide) (by decide) (by decide) (by decide) (by decide) (by decide);exact⟨rfl,F',A',gv',m',Js.out.kept pI.out.2 (fun q hq hm=>by obtain rfl:=List.mem_singleton.1 hm;exact hnl hq),HT2.out.trans pI.out.2 (fun q hq=> .inr (by obtain rfl:=List.mem_singleton.1 hq;omega)),HF2.out⟩
end
section
variable {w w':World} {base d sb mo:Nat} {SF:List Nat} {vals:List (List UInt8)}
set_option maxHeartbeats 4000000 in
theorem I9(h:di w base d sb mo SF vals)(b:Nat)(hb:w.cell? ⟨b,0,none⟩=some (.pointer (some ⟨sb,0,none⟩)))(hbz:b<w.heap.size)(f:Nat)(hf:f≤vals.length)(M:Int)(hM:M=3000∨(M=99∧vals.length≤1))(ki co le wa ti ps:Int)(su cm:Bool)(ra:Option Addr)(rl rc:Nat):
 Calls Tryz.prog 61 #[.pointer (some ⟨b,0,none⟩), .agg #[.int .i64 ki, .int .i64 co, .string ⟨#[97]⟩, .int .i64 0, .int .i64 (f:Int), .int .i64 M, .int .i64 le, .int .i64 wa, .int .i64 ti, .int .i64 ps, .bool su, .bool cm, .slice ra rl rc], .func (.func 63) #[] #[]] w fun e w'=>∃ov R,e= .returned (.tuple #[.agg #[.int .i64 0, .int .i64 0, .int .i64 0, .int .i64 0, .int .i64 0, .int .i64 (vals.length:Int), .bool false,ov, .slice none 0 0], .nilIface])∧aH 47 6 recC w' w.heap.size ov R∧dU f vals R∧Turn [] w w':=by
 obtain⟨eU,bytes,F,A,room,lb,gv,ev,lv,v,m,h,rfl⟩:=h;have H:=hide h;have HB:=hide hb;clear h hb;go_enter Tryz.func61,Tryz.ntmps61
 go_wp2_with fail
 obtain⟨w0,hw0⟩:∃w0,w0=w.alloc (.cells #[.int .i64 ki, .int .i64 co, .string ⟨#[97]⟩, .int .i64 0, .int .i64 (f:Int), .int .i64 M, .int .i64 le, .int .i64 wa, .int .i64 ti, .int .i64 ps, .bool su, .bool cm, .slice ra rl rc] 35):=⟨_,rfl⟩;have ht0:Turn [] w w0:=by rw[hw0];exact(Turn.refl _ _).alloc _
 have hz0:w0.heap.size=w.heap.size+1:=by rw[hw0];simp
 have hrq0:w0.heap[w.heap.size]? =some (.cells #[.int .i64 ki, .int .i64 co, .string ⟨#[97]⟩, .int .i64 0, .int .i64 (f:Int), .int .i64 M, .int .i64 le, .int .i64 wa, .int .i64 ti, .int .i64 ps, .bool su, .bool cm, .slice ra rl rc] 35 (0,0)):=by rw[hw0];exact ae w _
 rw[←hw0];obtain⟨wa',CV⟩:∃wa',wa'=w0.alloc (.cells fQ 41):=⟨_,rfl⟩;have hta:Turn [] w wa':=by rw[CV];exact ht0.alloc _
 have OI:wa'.heap[w.heap.size+1]? =some (.cells fQ 41 (0,0)):=by rw[CV,←hz0];exact ae w0 _
 have hrq:wa'.heap[w.heap.size]? =some (.cells #[.int .i64 ki, .int .i64 co, .string ⟨#[97]⟩, .int .i64 0, .int .i64 (f:Int), .int .i64 M, .int .i64 le, .int .i64 wa, .int .i64 ti, .int .i64 ps, .bool su, .bool cm, .slice ra rl rc] 35 (0,0)):=by rw[CV];exact((Turn.refl [] w0).alloc _).heap hrq0 (by simp)
 unfold fQ at CV;rw[←CV];have Fh:=hide hta;have HAN:=hide OI;have Jr:=hide hrq;clear hw0 ht0 hz0 hrq0 CV hta OI hrq;refine aB 13 (Turn []) (by kernel_rfl) (by kernel_rfl) (by kernel_rfl) (by kernel_rfl) (by kernel_rfl) (Nat.le_of_ble_eq_true rfl) rfl (Turn.refl _) (fun _ _ _ h k=>h.same k) ?_;apply Lo.ag 1 rfl rfl [] (by kernel_rfl) (Turn.refl _);apply Exists.intro;apply And.intro
 ·intro u w1 hR hF
  clear hF;refine⟨rfl,fun a ha K hK=>?_⟩;have e0:=ha 0;conv at e0=>rhs;whnf
  clear ha;go_simp
  refine hK _ ?_;rfl
 apply Lo.ag 2 rfl rfl [0] (by kernel_rfl) (Turn.refl _);apply Exists.intro;apply And.intro
 ·intro u w1 hR hF
  obtain⟨h0, -⟩:=hF;refine⟨rfl,fun a ha K hK=>?_⟩;have e11:=(ha 11).trans h0;clear ha h0;go_simp
  refine hK _ ?_;rfl
 apply Lo.ag 3 rfl rfl [1] (by kernel_rfl) (Turn.refl _);apply Exists.intro;apply And.intro
 ·intro u w1 hR hF
  obtain⟨h1, -⟩:=hF;refine⟨rfl,fun a ha K hK=>?_⟩;have e12:=(ha 12).trans h1;clear ha h1;go_simp
  refine hK _ ?_;rfl
 apply Lo.ag 4 rfl rfl [2] (by kernel_rfl) (Turn.refl _);apply Exists.intro;apply And.intro
 ·intro u w1 hR hF
  obtain⟨h2, -⟩:=hF;refine⟨rfl,fun a ha K hK=>?_⟩;have e13:=(ha 13).trans h2;clear ha h2;have c0:w1.cell? ⟨b,0,none⟩=some (.pointer (some ⟨sb,0,none⟩)):=(World.cell?_of_block (w:=w) ((Fh.out.same ((Turn.refl [] wa').drew.same hR)).block _ hbz (by simp))).trans HB.out;have z0:b<w1.heap.size:=Nat.lt_of_lt_of_le hbz (Fh.out.same ((Turn.refl [] wa').drew.same hR)).size;go_simp
  refine hK _ ?_;rfl
 apply Lo.ag 5 rfl rfl [] (by kernel_rfl) (Turn.refl _);apply Exists.intro;apply And.intro
 ·intro u w1 hR hF
  clear hF;refine⟨rfl,fun a ha K hK=>?_⟩;have e4:=ha 4;conv at e4=>rhs;whnf
  clear ha;go_simp
  refine hK _ ?_;rfl
 apply Lo.ag 6 rfl rfl [4] (by kernel_rfl) (Turn.refl _);apply Exists.intro;apply And.intro
 ·intro u w1 hR hF
  obtain⟨h4, -⟩:=hF;refine⟨rfl,fun a ha K hK=>?_⟩;have e15:=(ha 15).trans h4;clear ha h4;have hq1:=((Turn.refl [] wa').drew.same hR).heap Jr.out (by simp);have c2:w1.cell? ⟨w.heap.size,2,none⟩=some (.string ⟨#[97]⟩):=by rw[cell_of hq1];rfl
  have z2:=lt_of_heap hq1;go_simp
  refine hK _ ?_;rfl
 apply Lo.ag 7 rfl rfl [] (by kernel_rfl) (Turn.refl _);apply Exists.intro;apply And.intro
 ·intro u w1 hR hF
  clear hF;refine⟨rfl,fun a ha K hK=>?_⟩;have e4:=ha 4;conv at e4=>rhs;whnf
  clear ha;go_simp
  refine hK _ ?_;rfl
 apply Lo.ag 8 rfl rfl [6] (by kernel_rfl) (Turn.refl _);apply Exists.intro;apply And.intro
 ·intro u w1 hR hF
  obtain⟨h6, -⟩:=hF;refine⟨rfl,fun a ha K hK=>?_⟩;have e17:=(ha 17).trans h6;clear ha h6;have hq1:=((Turn.refl [] wa').drew.same hR).heap Jr.out (by simp);have c3:w1.cell? ⟨w.heap.size,3,none⟩=some (.int .i64 0):=by rw[cell_of hq1];rfl
  have z2:=lt_of_heap hq1;go_simp
  refine hK _ ?_;rfl
 refine Lo.run 9 rfl rfl [3,5,7] (fun x w'=>x= .tuple #[.pointer (some ⟨lb,0,none⟩), .nilIface]) (by kernel_rfl) (fun x w w' h hR=>?_) (fun _ _ h=>h) (fun u w1 hR hF=>?_) ?_
 ·exact h
 ·obtain⟨h3,h5,h7, -⟩:=hF
  refine⟨rfl,fun a ha K hK=>?_⟩;have e14:=(ha 14).trans h3;have e16:=(ha 16).trans h5;have e18:=(ha 18).trans h7;clear ha h3 h5 h7;go_simp
  refine((H.out.kept (Fh.out.same ((Turn.refl [] wa').drew.same hR)) (by simp)).YS).mono ?_;rintro e w2 ⟨rfl,ht2⟩;exact hK _ _ rfl ht2
 refine Lo.aJ 10 rfl rfl [8] (.tuple #[.pointer (some ⟨lb,0,none⟩), .nilIface]) (by kernel_rfl) (fun u w1 hR hF=>?_) (Turn.refl _) ?_
 ·obtain⟨h8, -⟩:=hF
  refine⟨rfl,fun a ha K hK=>?_⟩;have e19:a.tmps.getD 19 undef=u 8:=ha 19;have h8:=(show(fun x w'=>x= .tuple #[.pointer (some ⟨lb,0,none⟩), .nilIface]) (u 8) w1 from h8);dsimp only at h8;clear ha;rw[h8]at e19;go_simp
  refine hK _ ?_;rfl
 refine Lo.aJ 11 rfl rfl [9] (.pointer (some ⟨lb,0,none⟩)) (by kernel_rfl) (fun u w1 hR hF=>?_) (Turn.refl _) ?_
 ·obtain⟨h9, -⟩:=hF
  refine⟨rfl,fun a ha K hK=>?_⟩;have e10:=(ha 10).trans h9;clear ha h9;go_simp
  refine hK _ ?_;rfl
 refine Lo.aJ 12 rfl rfl [9] (.nilIface) (by kernel_rfl) (fun u w1 hR hF=>?_) (Turn.refl _) ?_
 ·obtain⟨h9, -⟩:=hF
  refine⟨rfl,fun a ha K hK=>?_⟩;have e10:=(ha 10).trans h9;clear ha h9;go_simp
  refine hK _ ?_;rfl
 refine Lo.aJ 13 rfl rfl [10] (.pointer (some ⟨lb,0,none⟩)) (by kernel_rfl) (fun u w1 hR hF=>?_) (Turn.refl _) ?_
 ·obtain⟨h10, -⟩:=hF
  refine⟨rfl,fun a ha K hK=>?_⟩;have e20:=(ha 20).trans h10;clear ha h10;go_simp
  refine hK _ ?_;rfl
 refine Lo.done [11,12] (fun u w1 bP hSd hF=>?_);clear hSd;obtain⟨f11,f12, -⟩:=hF;have d11:u 11=_:=f11;have d12:u 12=_:=f12;clear f11 f12;simp only[List.take_succ_cons,List.take_zero,List.drop_succ_cons,List.drop_zero,ax,Act.put,List.setIfInBounds_toArray,List.set_cons_succ,List.set_cons_zero,Nat.zero_add,Nat.reduceAdd,d11,d12];have hT1:Turn [] wa' w1:=((Turn.refl [] wa').drew).same bP;have hq1:=hT1.heap Jr.out (by simp);have RF:=hT1.heap HAN.out (by simp);have HQ1:=hide hq1;have HA1:=hide RF;have HT1:=hide (Fh.out.same hT1);have zq1:=lt_of_heap hq1;clear bP hT1 hq1 RF;go_wp2_with (refine az rfl _ _ rfl ⟨w.heap.size,0,none⟩ rfl _ (iW HQ1.out) ?_)
 refine(fetch_any (H.out.kept HT1.out (by simp)) f hf M hM _ _ _ _ _ _ _ _ _ _ _).mono ?_;rintro e w2 ⟨ov,R,rfl,hrow,hfe,ht2⟩;obtain⟨oa,oc,hoe, -, -⟩:=hrow.form;subst hoe;have HB3:=hide (ht2.heap HA1.out (by simp));have HR:=hide (hrow.aZ HT1.out.size);have KY:=hide hfe;have HT2:=hide (HT1.out.same ht2);have pI:=hide (fC (cs:= #[.int .i64 0, .int .i64 0, .int .i64 0, .int .i64 0, .int .i64 0, .int .i64 (vals.length:Int), .bool false, .slice oa R.length oc, .slice none 0 0]) HB3.out);clear hrow hfe ht2;go_wp2_with (refine wpList_store_row rfl _ _ _ rfl (w.heap.size+1) #[.int .i64 0, .int .i64 0, .int .i64 0, .int .i64 0, .int .i64 0, .int .i64 (vals.length:Int), .bool false, .slice oa R.length oc, .slice none 0 0] rfl rfl _ _ HB3.out (by kernel_rfl) rfl (by kernel_rfl) ?_)
 have hld:=iT pI.out.1;refine bodyPost_ret (v:= .tuple #[.agg #[.int .i64 0, .int .i64 0, .int .i64 0, .int .i64 0, .int .i64 0, .int .i64 (vals.length:Int), .bool false, .slice oa R.length oc, .slice none 0 0], .nilIface]) (by simp[results,Tryz.results61,asAddr,hld,Result.andThen]) rfl ?_;have hne:w.heap.size+1∉(Value.slice oa R.length oc).ownBlock:=fun hm=>by
  obtain⟨cs',e'⟩:=HR.out.kind _ hm;exact Lg.ai e' HB3.out (by decide) rfl
 exact⟨_,R,rfl,HR.out.kept pI.out.2 (fun q hq hm=>by obtain rfl:=List.mem_singleton.1 hm;exact hne hq),KY.out,HT2.out.trans pI.out.2 (fun q hq=> .inr (by obtain rfl:=List.mem_singleton.1 hq;omega))⟩
set_option maxHeartbeats 4000000 in
theorem DJ(h:di w base d sb mo SF vals)(b:Nat)(hb:w.cell? ⟨b,0,none⟩=some (.pointer (some ⟨sb,0,none⟩)))(hbz:b<w.heap.size)(jO:vals=[]∨100000≤mo)(hlen:vals.length<60){x:List UInt8}(hx:x.length≤500)(ra:Option Addr)(rc:Nat)(hr:bn w (.slice ra 1 rc) [fU 0 x])(hro:∀k∈(Value.slice ra 1 rc).ownBlock,k<w.heap.size)(hv:∀Z,Turn SF w Z→Sn.dA Z∧As.lM Z)(ki co off Gx le wa ti ps:Int)(cm:Bool):
 Calls Tryz.prog 61 #[.pointer (some ⟨b,0,none⟩), .agg #[.int .i64 ki, .int .i64 co, .string ⟨#[97]⟩, .int .i64 0, .int .i64 off, .int .i64 Gx, .int .i64 le, .int .i64 wa, .int .i64 ti, .int .i64 ps, .bool false, .bool cm, .slice ra 1 rc], .func (.func 62) #[] #[]] w fun e w'=>e= .returned (.tuple #[.agg #[.int .i64 0, .int .i64 0, .int .i64 0, .int .i64 (vals.length:Int), .int .i64 0, .int .i64 0, .bool false, .slice none 0 0, .slice none 0 0], .nilIface])∧∃SF',di w' base d sb mo SF' (vals++[x])∧Turn SF w w'∧∀k∈SF',k∈SF∨w.heap.size≤k:=by
 obtain⟨eU,bytes,F,A,room,lb,gv,ev,lv,v,m,h,rfl⟩:=h;have H:=hide h;have HB:=hide hb;have HV:=hide hv;have HRR:=hide hr;have hnb:∀k,w.heap.size≤k→k∉aS F lb gv [m]:=fun k hk hm=>by have:=(h.log.lt k hm).2;omega
 have rH:=hide hnb;have hsub:∀k∈aS F lb gv [m],k∈Ox sb ev lv F lb gv m:=fun k hk=>jo.2 (.inr (.inr (.inr hk)))
 have Xi:=hide hsub;clear h hb hv hr hnb hsub;go_enter Tryz.func61,Tryz.ntmps61
 go_wp2_with fail
 obtain⟨w0,hw0⟩:∃w0,w0=w.alloc (.cells #[.int .i64 ki, .int .i64 co, .string ⟨#[97]⟩, .int .i64 0, .int .i64 off, .int .i64 Gx, .int .i64 le, .int .i64 wa, .int .i64 ti, .int .i64 ps, .bool false, .bool cm, .slice ra 1 rc] 35):=⟨_,rfl⟩;have ht0:Turn [] w w0:=by rw[hw0];exact(Turn.refl _ _).alloc _
 have hz0:w0.heap.size=w.heap.size+1:=by rw[hw0];simp
 have hrq0:w0.heap[w.heap.size]? =some (.cells #[.int .i64 ki, .int .i64 co, .string ⟨#[97]⟩, .int .i64 0, .int .i64 off, .int .i64 Gx, .int .i64 le, .int .i64 wa, .int .i64 ti, .int .i64 ps, .bool false, .bool cm, .slice ra 1 rc] 35 (0,0)):=by rw[hw0];exact ae w _
 rw[←hw0];obtain⟨wa',CV⟩:∃wa',wa'=w0.alloc (.cells fQ 41):=⟨_,rfl⟩;have hta:Turn [] w wa':=by rw[CV];exact ht0.alloc _
 have OI:wa'.heap[w.heap.size+1]? =some (.cells fQ 41 (0,0)):=by rw[CV,←hz0];exact ae w0 _
 have hrq:wa'.heap[w.heap.size]? =some (.cells #[.int .i64 ki, .int .i64 co, .string ⟨#[97]⟩, .int .i64 0, .int .i64 off, .int .i64 Gx, .int .i64 le, .int .i64 wa, .int .i64 ti, .int .i64 ps, .bool false, .bool cm, .slice ra 1 rc] 35 (0,0)):=by rw[CV];exact((Turn.refl [] w0).alloc _).heap hrq0 (by simp)
 unfold fQ at CV;rw[←CV];have Fh:=hide hta;have HAN:=hide OI;have Jr:=hide hrq;clear hw0 ht0 hz0 hrq0 CV hta OI hrq;refine aB 13 (Turn []) (by kernel_rfl) (by kernel_rfl) (by kernel_rfl) (by kernel_rfl) (by kernel_rfl) (Nat.le_of_ble_eq_true rfl) rfl (Turn.refl _) (fun _ _ _ h k=>h.same k) ?_;apply Lo.ag 1 rfl rfl [] (by kernel_rfl) (Turn.refl _);apply Exists.intro;apply And.intro
 ·intro u w1 hR hF
  clear hF;refine⟨rfl,fun a ha K hK=>?_⟩;have e0:=ha 0;conv at e0=>rhs;whnf
  clear ha;go_simp
  refine hK _ ?_;rfl
 apply Lo.ag 2 rfl rfl [0] (by kernel_rfl) (Turn.refl _);apply Exists.intro;apply And.intro
 ·intro u w1 hR hF
  obtain⟨h0, -⟩:=hF;refine⟨rfl,fun a ha K hK=>?_⟩;have e11:=(ha 11).trans h0;clear ha h0;go_simp
  refine hK _ ?_;rfl
 apply Lo.ag 3 rfl rfl [1] (by kernel_rfl) (Turn.refl _);apply Exists.intro;apply And.intro
 ·intro u w1 hR hF
  obtain⟨h1, -⟩:=hF;refine⟨rfl,fun a ha K hK=>?_⟩;have e12:=(ha 12).trans h1;clear ha h1;go_simp
  refine hK _ ?_;rfl
 apply Lo.ag 4 rfl rfl [2] (by kernel_rfl) (Turn.refl _);apply Exists.intro;apply And.intro
 ·intro u w1 hR hF
  obtain⟨h2, -⟩:=hF;refine⟨rfl,fun a ha K hK=>?_⟩;have e13:=(ha 13).trans h2;clear ha h2;have c0:w1.cell? ⟨b,0,none⟩=some (.pointer (some ⟨sb,0,none⟩)):=(World.cell?_of_block (w:=w) ((Fh.out.same ((Turn.refl [] wa').drew.same hR)).block _ hbz (by simp))).trans HB.out;have z0:b<w1.heap.size:=Nat.lt_of_lt_of_le hbz (Fh.out.same ((Turn.refl [] wa').drew.same hR)).size;go_simp
  refine hK _ ?_;rfl
 apply Lo.ag 5 rfl rfl [] (by kernel_rfl) (Turn.refl _);apply Exists.intro;apply And.intro
 ·intro u w1 hR hF
  clear hF;refine⟨rfl,fun a ha K hK=>?_⟩;have e4:=ha 4;conv at e4=>rhs;whnf
  clear ha;go_simp
  refine hK _ ?_;rfl
 apply Lo.ag 6 rfl rfl [4] (by kernel_rfl) (Turn.refl _);apply Exists.intro;apply And.intro
 ·intro u w1 hR hF
  obtain⟨h4, -⟩:=hF;refine⟨rfl,fun a ha K hK=>?_⟩;have e15:=(ha 15).trans h4;clear ha h4;have hq1:=((Turn.refl [] wa').drew.same hR).heap Jr.out (by simp);have c2:w1.cell? ⟨w.heap.size,2,none⟩=some (.string ⟨#[97]⟩):=by rw[cell_of hq1];rfl
  have z2:=lt_of_heap hq1;go_simp
  refine hK _ ?_;rfl
 apply Lo.ag 7 rfl rfl [] (by kernel_rfl) (Turn.refl _);apply Exists.intro;apply And.intro
 ·intro u w1 hR hF
  clear hF;refine⟨rfl,fun a ha K hK=>?_⟩;have e4:=ha 4;conv at e4=>rhs;whnf
  clear ha;go_simp
  refine hK _ ?_;rfl
 apply Lo.ag 8 rfl rfl [6] (by kernel_rfl) (Turn.refl _);apply Exists.intro;apply And.intro
 ·intro u w1 hR hF
  obtain⟨h6, -⟩:=hF;refine⟨rfl,fun a ha K hK=>?_⟩;have e17:=(ha 17).trans h6;clear ha h6;have hq1:=((Turn.refl [] wa').drew.same hR).heap Jr.out (by simp);have c3:w1.cell? ⟨w.heap.size,3,none⟩=some (.int .i64 0):=by rw[cell_of hq1];rfl
  have z2:=lt_of_heap hq1;go_simp
  refine hK _ ?_;rfl
 refine Lo.run 9 rfl rfl [3,5,7] (fun x w'=>x= .tuple #[.pointer (some ⟨lb,0,none⟩), .nilIface]) (by kernel_rfl) (fun x w w' h hR=>?_) (fun _ _ h=>h) (fun u w1 hR hF=>?_) ?_
 ·exact h
 ·obtain⟨h3,h5,h7, -⟩:=hF
  refine⟨rfl,fun a ha K hK=>?_⟩;have e14:=(ha 14).trans h3;have e16:=(ha 16).trans h5;have e18:=(ha 18).trans h7;clear ha h3 h5 h7;go_simp
  refine((H.out.kept (Fh.out.same ((Turn.refl [] wa').drew.same hR)) (by simp)).YS).mono ?_;rintro e w2 ⟨rfl,ht2⟩;exact hK _ _ rfl ht2
 refine Lo.aJ 10 rfl rfl [8] (.tuple #[.pointer (some ⟨lb,0,none⟩), .nilIface]) (by kernel_rfl) (fun u w1 hR hF=>?_) (Turn.refl _) ?_
 ·obtain⟨h8, -⟩:=hF
  refine⟨rfl,fun a ha K hK=>?_⟩;have e19:a.tmps.getD 19 undef=u 8:=ha 19;have h8:=(show(fun x w'=>x= .tuple #[.pointer (some ⟨lb,0,none⟩), .nilIface]) (u 8) w1 from h8);dsimp only at h8;clear ha;rw[h8]at e19;go_simp
  refine hK _ ?_;rfl
 refine Lo.aJ 11 rfl rfl [9] (.pointer (some ⟨lb,0,none⟩)) (by kernel_rfl) (fun u w1 hR hF=>?_) (Turn.refl _) ?_
 ·obtain⟨h9, -⟩:=hF
  refine⟨rfl,fun a ha K hK=>?_⟩;have e10:=(ha 10).trans h9;clear ha h9;go_simp
  refine hK _ ?_;rfl
 refine Lo.aJ 12 rfl rfl [9] (.nilIface) (by kernel_rfl) (fun u w1 hR hF=>?_) (Turn.refl _) ?_
 ·obtain⟨h9, -⟩:=hF
  refine⟨rfl,fun a ha K hK=>?_⟩;have e10:=(ha 10).trans h9;clear ha h9;go_simp
  refine hK _ ?_;rfl
 refine Lo.aJ 13 rfl rfl [10] (.pointer (some ⟨lb,0,none⟩)) (by kernel_rfl) (fun u w1 hR hF=>?_) (Turn.refl _) ?_
 ·obtain⟨h10, -⟩:=hF
  refine⟨rfl,fun a ha K hK=>?_⟩;have e20:=(ha 20).trans h10;clear ha h10;go_simp
  refine hK _ ?_;rfl
 refine Lo.done [11,12] (fun u w1 bP hSd hF=>?_);clear hSd;obtain⟨f11,f12, -⟩:=hF;have d11:u 11=_:=f11;have d12:u 12=_:=f12;clear f11 f12;simp only[List.take_succ_cons,List.take_zero,List.drop_succ_cons,List.drop_zero,ax,Act.put,List.setIfInBounds_toArray,List.set_cons_succ,List.set_cons_zero,Nat.zero_add,Nat.reduceAdd,d11,d12];have hT1:Turn [] wa' w1:=((Turn.refl [] wa').drew).same bP;have hq1:=hT1.heap Jr.out (by simp);have RF:=hT1.heap HAN.out (by simp);have HQ1:=hide hq1;have HA1:=hide RF;have HT1:=hide (Fh.out.same hT1);have zq1:=lt_of_heap hq1;clear bP hT1 hq1 RF;go_wp2_with (refine az rfl _ _ rfl ⟨w.heap.size,0,none⟩ rfl _ (iW HQ1.out) ?_)
 refine(I8 (H.out.kept HT1.out (by simp)) jO hlen hx ra rc (HRR.out.still HT1.out) (fun k hk=>Nat.lt_of_lt_of_le (hro k hk) HT1.out.size) (fun Z hZ=>HV.out Z (((HT1.out.mono (T:=Ox sb ev lv F lb gv m) (by simp))).same (hZ.mono (fun k hk=> .inl (Xi.out k hk))))) _ _ _ _ _ _ _ _ _ _ _).mono ?_;rintro e w2 ⟨rfl,F',A',gv',m',hsa,ht2,hf2⟩;have hz1:=HT1.out.size;have HB3:=hide (ht2.heap HA1.out (rH.out _ (by omega)));have Js:=hide hsa;have HT2:Hid (Turn (Ox sb ev lv F lb gv m) w w2):=(HT1.out.mono (by simp)).same (ht2.mono (fun k hk=> .inl (Xi.out k hk)));have HF2:Hid (∀k∈Ox sb ev lv F' lb gv' m',k∈Ox sb ev lv F lb gv m∨w.heap.size≤k):=fun k hk=>by
  rcases jo.1 hk with h1|h1|h1|h1
  ·exact .inl (jo.2 (.inl h1))
  ·exact .inl (jo.2 (.inr (.inl h1)))
  ·exact .inl (jo.2 (.inr (.inr (.inl h1))))
  ·exact(hf2 k h1).elim (fun h=> .inl (Xi.out k h)) (fun h=> .inr (Nat.le_trans hz1 h))
 have pI:=hide (fC (cs:= #[.int .i64 0, .int .i64 0, .int .i64 0, .int .i64 (vals.length:Int), .int .i64 0, .int .i64 0, .bool false, .slice none 0 0, .slice none 0 0]) HB3.out);clear hsa ht2 hf2;go_wp2_with (refine wpList_store_row rfl _ _ _ rfl (w.heap.size+1) #[.int .i64 0, .int .i64 0, .int .i64 0, .int .i64 (vals.length:Int), .int .i64 0, .int .i64 0, .bool false, .slice none 0 0, .slice none 0 0] rfl rfl _ _ HB3.out (by kernel_rfl) rfl (by kernel_rfl) ?_)
 have hld:=iT pI.out.1;refine bodyPost_ret (v:= .tuple #[.agg #[.int .i64 0, .int .i64 0, .int .i64 0, .int .i64 (vals.length:Int), .int .i64 0, .int .i64 0, .bool false, .slice none 0 0, .slice none 0 0], .nilIface]) (by simp[results,Tryz.results61,asAddr,hld,Result.andThen]) rfl ?_;have hnl:w.heap.size+1∉Ox sb ev lv F' lb gv' m':=Js.out.type HB3.out (by decide) (by decide) (by decide) (by decide) (by decide) (by decide) (by decide) (by decide) (by decide) (by decide);exact⟨rfl,_,⟨_,_,_,_,_,_,_,_,_,_,_,Js.out.kept pI.out.2 (fun q hq hm=>by obtain rfl:=List.mem_singleton.1 hm;exact hnl hq),rfl⟩,HT2.out.trans pI.out.2 (fun q hq=> .inr (by obtain rfl:=List.mem_singleton.1 hq;omega)),HF2.out⟩
end
end Br
end
section
open Go.RowKit Go.Maps
attribute [local go_sem] Oper.semAt_some
open Lg
open Dk (DA ay Parts fE aW dI)
namespace Br
theorem jG(w:World)(cs zs:Array Value)(T U:TypeId):(Turn [] w ((w.alloc (.cells cs T)).alloc (.cells zs U)))∧((w.alloc (.cells cs T)).alloc (.cells zs U)).heap[w.heap.size]? =some (.cells cs T (0,0))∧((w.alloc (.cells cs T)).alloc (.cells zs U)).heap[w.heap.size+1]? =some (.cells zs U (0,0)):=by
 refine⟨((Turn.refl _ _).alloc _).alloc _,((Turn.refl [] _).alloc _).heap (ae w _) (by simp),?_⟩;have:=ae (w.alloc (.cells cs T)) (.cells zs U);rwa [World.size_alloc]at this
section
variable {w w':World} {base d sb mo:Nat} {SF:List Nat} {vals:List (List UInt8)}
set_option maxHeartbeats 4000000 in
theorem RG(h:di w base d sb mo SF vals)(b:Nat)(hb:w.cell? ⟨b,0,none⟩=some (.pointer (some ⟨sb,0,none⟩)))(hbz:b<w.heap.size)(f:Nat)(hf:f≤vals.length)(M:Int)(hM:M=3000∨(M=99∧vals.length≤1))(co le wa ti ps:Int)(su cm:Bool)(ra:Option Addr)(rl rc:Nat):
 Calls Tryz.prog 32 #[.pointer (some ⟨b,0,none⟩), .agg #[.int .i64 2, .int .i64 co, .string ⟨#[97]⟩, .int .i64 0, .int .i64 (f:Int), .int .i64 M, .int .i64 le, .int .i64 wa, .int .i64 ti, .int .i64 ps, .bool su, .bool cm, .slice ra rl rc]] w fun e w'=>∃ov R,e= .returned (.tuple #[.agg #[.int .i64 0, .int .i64 0, .int .i64 0, .int .i64 0, .int .i64 0, .int .i64 (vals.length:Int), .bool false,ov, .slice none 0 0], .nilIface])∧aH 47 6 recC w' w.heap.size ov R∧dU f vals R∧Turn [] w w':=by
 have hol:=fun Z (hZ:Turn [] w Z)=>I9 (h.still hZ) b ((World.cell?_of_block (w:=w) (hZ.block _ hbz (by simp))).trans hb) (Nat.lt_of_lt_of_le hbz hZ.size) f hf M hM 2 co le wa ti ps su cm ra rl rc
 have UE:=hide hol;have h2:=jG w #[.int .i64 2, .int .i64 co, .string ⟨#[97]⟩, .int .i64 0, .int .i64 (f:Int), .int .i64 M, .int .i64 le, .int .i64 wa, .int .i64 ti, .int .i64 ps, .bool su, .bool cm, .slice ra rl rc] fQ 35 41;obtain⟨wz,hwz⟩:∃wz,wz=(w.alloc (.cells #[.int .i64 2, .int .i64 co, .string ⟨#[97]⟩, .int .i64 0, .int .i64 (f:Int), .int .i64 M, .int .i64 le, .int .i64 wa, .int .i64 ti, .int .i64 ps, .bool su, .bool cm, .slice ra rl rc] 35)).alloc (.cells fQ 41):=⟨_,rfl⟩;rw[←hwz]at h2;obtain⟨ht2,hq,ha⟩:=h2;unfold fQ at hwz;have Gw:=hide hwz;have HT2:=hide ht2;have HQ:=hide hq;have HA:=hide ha;have q0:wz.cell? ⟨w.heap.size,0,none⟩=some (.int .i64 2):=by rw[cell_of hq];rfl
 have zq:=lt_of_heap hq;clear h hb hol hwz ht2 hq ha hM hf;go_enter Tryz.func32,Tryz.ntmps32
 go_upto_region 1 with fail
 rw[←Gw.out];go_wp2_with (refine az rfl _ _ rfl ⟨w.heap.size,0,none⟩ rfl _ (iW HQ.out) ?_)
 refine(UE.out _ HT2.out).mono ?_;rintro e w2 ⟨ov,R,rfl,hrow,hfe,ht2⟩;obtain⟨oa,oc,hoe, -, -⟩:=hrow.form;subst hoe;have HB3:=hide (ht2.heap HA.out (by simp));have HR:=hide (hrow.aZ HT2.out.size);have KY:=hide hfe;have HT3:=hide (HT2.out.same ht2);have pI:=hide (fC (cs:= #[.int .i64 0, .int .i64 0, .int .i64 0, .int .i64 0, .int .i64 0, .int .i64 (vals.length:Int), .bool false, .slice oa R.length oc, .slice none 0 0]) HB3.out);clear hrow hfe ht2;go_wp2_with (refine wpList_store_row rfl _ _ _ rfl (w.heap.size+1) #[.int .i64 0, .int .i64 0, .int .i64 0, .int .i64 0, .int .i64 0, .int .i64 (vals.length:Int), .bool false, .slice oa R.length oc, .slice none 0 0] rfl rfl _ _ HB3.out (by kernel_rfl) rfl (by kernel_rfl) ?_)
 have hld:=iT pI.out.1;refine bodyPost_ret (v:= .tuple #[.agg #[.int .i64 0, .int .i64 0, .int .i64 0, .int .i64 0, .int .i64 0, .int .i64 (vals.length:Int), .bool false, .slice oa R.length oc, .slice none 0 0], .nilIface]) (by simp[results,Tryz.results32,asAddr,hld,Result.andThen]) rfl ?_;have hne:w.heap.size+1∉(Value.slice oa R.length oc).ownBlock:=fun hm=>by
  obtain⟨cs',e'⟩:=HR.out.kind _ hm;exact Lg.ai e' HB3.out (by decide) rfl
 exact⟨_,R,rfl,HR.out.kept pI.out.2 (fun q hq hm=>by obtain rfl:=List.mem_singleton.1 hm;exact hne hq),KY.out,HT3.out.trans pI.out.2 (fun q hq=> .inr (by obtain rfl:=List.mem_singleton.1 hq;omega))⟩
set_option maxHeartbeats 4000000 in
theorem KZ(h:di w base d sb mo SF vals)(b:Nat)(hb:w.cell? ⟨b,0,none⟩=some (.pointer (some ⟨sb,0,none⟩)))(hbz:b<w.heap.size)(jO:vals=[]∨100000≤mo)(hlen:vals.length<60){x:List UInt8}(hx:x.length≤500)(ra:Option Addr)(rc:Nat)(hr:bn w (.slice ra 1 rc) [fU 0 x])(hro:∀k∈(Value.slice ra 1 rc).ownBlock,k<w.heap.size)(hv:∀Z,Turn SF w Z→Sn.dA Z∧As.lM Z)(co off Gx le wa ti ps:Int)(cm:Bool):
 Calls Tryz.prog 32 #[.pointer (some ⟨b,0,none⟩), .agg #[.int .i64 1, .int .i64 co, .string ⟨#[97]⟩, .int .i64 0, .int .i64 off, .int .i64 Gx, .int .i64 le, .int .i64 wa, .int .i64 ti, .int .i64 ps, .bool false, .bool cm, .slice ra 1 rc]] w fun e w'=>e= .returned (.tuple #[.agg #[.int .i64 0, .int .i64 0, .int .i64 0, .int .i64 (vals.length:Int), .int .i64 0, .int .i64 0, .bool false, .slice none 0 0, .slice none 0 0], .nilIface])∧∃SF',di w' base d sb mo SF' (vals++[x])∧Turn SF w w'∧∀k∈SF',k∈SF∨w.heap.size≤k:=by
 have hnb:∀k,w.heap.size≤k→k∉SF:=fun k hk hm=>by have:=(h.lt k hm).2;omega
 have rH:=hide hnb;have hol:=fun Z (hZ:Turn [] w Z)=>DJ (h.still hZ) b ((World.cell?_of_block (w:=w) (hZ.block _ hbz (by simp))).trans hb) (Nat.lt_of_lt_of_le hbz hZ.size) jO hlen hx ra rc (hr.still hZ) (fun k hk=>Nat.lt_of_lt_of_le (hro k hk) hZ.size) (fun Y hY=>hv Y ((hZ.mono (by simp)).same hY)) 1 co off Gx le wa ti ps cm
 have UE:=hide hol;have h2:=jG w #[.int .i64 1, .int .i64 co, .string ⟨#[97]⟩, .int .i64 0, .int .i64 off, .int .i64 Gx, .int .i64 le, .int .i64 wa, .int .i64 ti, .int .i64 ps, .bool false, .bool cm, .slice ra 1 rc] fQ 35 41;obtain⟨wz,hwz⟩:∃wz,wz=(w.alloc (.cells #[.int .i64 1, .int .i64 co, .string ⟨#[97]⟩, .int .i64 0, .int .i64 off, .int .i64 Gx, .int .i64 le, .int .i64 wa, .int .i64 ti, .int .i64 ps, .bool false, .bool cm, .slice ra 1 rc] 35)).alloc (.cells fQ 41):=⟨_,rfl⟩;rw[←hwz]at h2;obtain⟨ht2,hq,ha⟩:=h2;unfold fQ at hwz;have Gw:=hide hwz;have HT2:=hide ht2;have HQ:=hide hq;have HA:=hide ha;have q0:wz.cell? ⟨w.heap.size,0,none⟩=some (.int .i64 1):=by rw[cell_of hq];rfl
 have zq:=lt_of_heap hq;clear h hb hol hwz ht2 hq ha hnb hv hr hro jO hx;go_enter Tryz.func32,Tryz.ntmps32
 go_upto_region 1 with fail
 rw[←Gw.out];go_wp2_with (refine az rfl _ _ rfl ⟨w.heap.size,0,none⟩ rfl _ (iW HQ.out) ?_)
 refine(UE.out _ HT2.out).mono ?_;rintro e w2 ⟨rfl,SF',hsa,ht2,hf2⟩;have hz1:=HT2.out.size;have HB3:=hide (ht2.heap HA.out (rH.out _ (by omega)));have Js:=hide hsa;have HT3:Hid (Turn SF w w2):=(HT2.out.mono (by simp)).same ht2;have HF2:Hid (∀k∈SF',k∈SF∨w.heap.size≤k):=fun k hk=>(hf2 k hk).imp_right (Nat.le_trans hz1)
 have pI:=hide (fC (cs:= #[.int .i64 0, .int .i64 0, .int .i64 0, .int .i64 (vals.length:Int), .int .i64 0, .int .i64 0, .bool false, .slice none 0 0, .slice none 0 0]) HB3.out);clear hsa ht2 hf2;go_wp2_with (refine wpList_store_row rfl _ _ _ rfl (w.heap.size+1) #[.int .i64 0, .int .i64 0, .int .i64 0, .int .i64 (vals.length:Int), .int .i64 0, .int .i64 0, .bool false, .slice none 0 0, .slice none 0 0] rfl rfl _ _ HB3.out (by kernel_rfl) rfl (by kernel_rfl) ?_)
 have hld:=iT pI.out.1;refine bodyPost_ret (v:= .tuple #[.agg #[.int .i64 0, .int .i64 0, .int .i64 0, .int .i64 (vals.length:Int), .int .i64 0, .int .i64 0, .bool false, .slice none 0 0, .slice none 0 0], .nilIface]) (by simp[results,Tryz.results32,asAddr,hld,Result.andThen]) rfl ?_;have hnl:w.heap.size+1∉SF':=Js.out.type HB3.out (by decide) (by decide) (by decide) (by decide) (by decide) (by decide) (by decide) (by decide) (by decide) (by decide);exact⟨rfl,_,Js.out.kept pI.out.2 (fun q hq hm=>by obtain rfl:=List.mem_singleton.1 hm;exact hnl hq),HT3.out.trans pI.out.2 (fun q hq=> .inr (by obtain rfl:=List.mem_singleton.1 hq;omega)),HF2.out⟩
set_option maxHeartbeats 4000000 in
theorem lN(h:di w base d sb mo SF vals)(b:Nat)(hb:w.cell? ⟨b,0,none⟩=some (.pointer (some ⟨sb,0,none⟩)))(hbz:b<w.heap.size)(f:Nat)(hf:f≤vals.length)(M:Int)(hM:M=3000∨(M=99∧vals.length≤1))(co le wa ti ps:Int)(su cm:Bool)(ra:Option Addr)(rl rc:Nat):
 Calls Tryz.prog 16 #[.pointer (some ⟨b,0,none⟩), .agg #[.int .i64 2, .int .i64 co, .string ⟨#[97]⟩, .int .i64 0, .int .i64 (f:Int), .int .i64 M, .int .i64 le, .int .i64 wa, .int .i64 ti, .int .i64 ps, .bool su, .bool cm, .slice ra rl rc]] w fun e w'=>∃ov R,e= .returned (.agg #[.int .i64 2, .int .i64 co, .int .i64 0, .int .i64 0, .int .i64 0, .int .i64 (vals.length:Int), .bool false,ov, .slice none 0 0])∧aH 47 6 recC w' w.heap.size ov R∧dU f vals R∧Turn [] w w':=by
 have hol:=fun Z (hZ:Turn [] w Z)=>RG (h.still hZ) b ((World.cell?_of_block (w:=w) (hZ.block _ hbz (by simp))).trans hb) (Nat.lt_of_lt_of_le hbz hZ.size) f hf M hM co le wa ti ps su cm ra rl rc
 have UE:=hide hol;have h2:=jG w #[.int .i64 2, .int .i64 co, .string ⟨#[97]⟩, .int .i64 0, .int .i64 (f:Int), .int .i64 M, .int .i64 le, .int .i64 wa, .int .i64 ti, .int .i64 ps, .bool su, .bool cm, .slice ra rl rc] fQ 35 41;obtain⟨wz,hwz⟩:∃wz,wz=(w.alloc (.cells #[.int .i64 2, .int .i64 co, .string ⟨#[97]⟩, .int .i64 0, .int .i64 (f:Int), .int .i64 M, .int .i64 le, .int .i64 wa, .int .i64 ti, .int .i64 ps, .bool su, .bool cm, .slice ra rl rc] 35)).alloc (.cells fQ 41):=⟨_,rfl⟩;rw[←hwz]at h2;obtain⟨ht2,hq,ha⟩:=h2;unfold fQ at hwz;have Gw:=hide hwz;have HT2:=hide ht2;have HQ:=hide hq;have HA:=hide ha;clear h hb hol hwz ht2 hq ha hM hf;go_enter Tryz.func16,Tryz.ntmps16
 go_upto_region 1 with fail
 rw[←Gw.out];go_wp2_with (refine az rfl _ _ rfl ⟨w.heap.size,0,none⟩ rfl _ (iW HQ.out) ?_)
 refine(UE.out _ HT2.out).mono ?_;rintro e w2 ⟨ov,R,rfl,hrow,hfe,ht2⟩;obtain⟨oa,oc,hoe, -, -⟩:=hrow.form;subst hoe;have hfs:=fC (cs:= #[.int .i64 0, .int .i64 0, .int .i64 0, .int .i64 0, .int .i64 0, .int .i64 (vals.length:Int), .bool false, .slice oa R.length oc, .slice none 0 0]) (ae w2 (.cells fQ 41));obtain⟨w3,hw3⟩:∃w3,w3=(w2.alloc (.cells fQ 41)).setRow w2.heap.size #[.int .i64 0, .int .i64 0, .int .i64 0, .int .i64 0, .int .i64 0, .int .i64 (vals.length:Int), .bool false, .slice oa R.length oc, .slice none 0 0]:=⟨_,rfl⟩;rw[←hw3]at hfs;have hz2:=HT2.out.size;have hz3:=ht2.size;have hzz:=lt_of_heap HA.out;have hta3:Turn [] w2 w3:=((Turn.refl [] w2).alloc (.cells fQ 41)).trans hfs.2 (fun q hq=> .inr (by obtain rfl:=List.mem_singleton.1 hq;exact Nat.le_refl _));have hq3:=hta3.heap (ht2.heap HQ.out (by simp)) (by simp);have ha3:=hta3.heap (ht2.heap HA.out (by simp)) (by simp);have q0:w3.cell? ⟨w.heap.size,0,none⟩=some (.int .i64 2):=by rw[cell_of hq3];rfl
 have q1:w3.cell? ⟨w.heap.size,1,none⟩=some (.int .i64 co):=by rw[cell_of hq3];rfl
 have e0:w3.cell? ⟨w2.heap.size,0,none⟩=some (.int .i64 0):=by rw[cell_of hfs.1];rfl
 have e1:w3.cell? ⟨w2.heap.size,1,none⟩=some (.int .i64 0):=by rw[cell_of hfs.1];rfl
 have f0:=af hfs.1 0;have f1:=af hfs.1 1;have zq:=lt_of_heap hq3;have ze:=lt_of_heap hfs.1;have hr3:=hrow.still hta3;have hw3':=hw3;unfold fQ at hw3';have HW3:=hide hw3';have hn1:¬w.heap.size=w2.heap.size:=by omega
 have hn2:¬w2.heap.size=w.heap.size:=by omega
 have HX3:=hide hfs.1;have HA3:=hide ha3;have HR3:=hide (hr3.aZ HT2.out.size);have KY:=hide hfe;have HT3:=hide (HT2.out.same (ht2.same hta3));clear hq3 ha3 hr3 hta3 hfs hw3 hw3' hrow hfe ht2;go_wp2_with (refine wpList_store_row rfl _ _ _ rfl w2.heap.size #[.int .i64 0, .int .i64 0, .int .i64 0, .int .i64 0, .int .i64 0, .int .i64 (vals.length:Int), .bool false, .slice oa R.length oc, .slice none 0 0] rfl rfl _ _ (ae w2 (.cells fQ 41)) (by kernel_rfl) rfl (by kernel_rfl) ?_)
 rw[←HW3.out];go_region
 obtain⟨w5,hw5⟩:∃w5,w5=((w3.setCell ⟨w2.heap.size,0,none⟩ (.int .i64 2)).setCell ⟨w2.heap.size,1,none⟩ (.int .i64 co)).drew:=⟨_,rfl⟩;rw[←hw5];have ht5:Turn [w2.heap.size] w3 w5:=by rw[hw5];exact(((Turn.refl _ _).setCell (.inl (by simp)) _).setCell (.inl (by simp)) _).drew
 have hx5:w5.heap[w2.heap.size]? =some (.cells #[.int .i64 2, .int .i64 co, .int .i64 0, .int .i64 0, .int .i64 0, .int .i64 (vals.length:Int), .bool false, .slice oa R.length oc, .slice none 0 0] 41 (0,0)):=by
  rw[hw5];exact((Turn.refl [] _).drew).heap (heap_set (heap_set HX3.out 0 (.int .i64 2)) 1 (.int .i64 co)) (by simp)
 have ha5:=ht5.heap HA3.out (by simp;omega);have hr5:=HR3.out.kept ht5 (fun q hq hm=>by
  obtain rfl:=List.mem_singleton.1 hm;obtain⟨cs',e'⟩:=HR3.out.kind _ hq;exact Lg.ai e' HX3.out (by decide) rfl)
 have HX5:=hide hx5;have HA5:=hide ha5;have HR5:=hide hr5;have HT5:=hide (HT3.out.trans ht5 (fun q hq=> .inr (by obtain rfl:=List.mem_singleton.1 hq;omega)));have pI:=hide (fC (cs:= #[.int .i64 2, .int .i64 co, .int .i64 0, .int .i64 0, .int .i64 0, .int .i64 (vals.length:Int), .bool false, .slice oa R.length oc, .slice none 0 0]) HA5.out);clear hx5 ha5 hr5 ht5 hw5 q0 q1 e0 e1 f0 f1 zq ze hn1 hn2;go_wp2_with (first|(refine az rfl _ _ rfl ⟨w2.heap.size,0,none⟩ rfl _ (iT HX5.out) ?_)|(refine wpList_store_row rfl _ _ _ rfl (w.heap.size+1) #[.int .i64 2, .int .i64 co, .int .i64 0, .int .i64 0, .int .i64 0, .int .i64 (vals.length:Int), .bool false, .slice oa R.length oc, .slice none 0 0] rfl rfl _ _ HA5.out (by kernel_rfl) rfl (by kernel_rfl) ?_))
 have hld:=iT pI.out.1;refine bodyPost_ret (v:= .agg #[.int .i64 2, .int .i64 co, .int .i64 0, .int .i64 0, .int .i64 0, .int .i64 (vals.length:Int), .bool false, .slice oa R.length oc, .slice none 0 0]) (by simp[results,Tryz.results16,asAddr,hld,Result.andThen,Act.put]) rfl ?_;have hne:w.heap.size+1∉(Value.slice oa R.length oc).ownBlock:=fun hm=>by
  obtain⟨cs',e'⟩:=HR5.out.kind _ hm;exact Lg.ai e' HA5.out (by decide) rfl
 exact⟨_,R,rfl,HR5.out.kept pI.out.2 (fun q hq hm=>by obtain rfl:=List.mem_singleton.1 hm;exact hne hq),KY.out,HT5.out.trans pI.out.2 (fun q hq=> .inr (by obtain rfl:=List.mem_singleton.1 hq;omega))⟩
set_option maxHeartbeats 4000000 in
theorem CW(h:di w base d sb mo SF vals)(b:Nat)(hb:w.cell? ⟨b,0,none⟩=some (.pointer (some ⟨sb,0,none⟩)))(hbz:b<w.heap.size)(jO:vals=[]∨100000≤mo)(hlen:vals.length<60){x:List UInt8}(hx:x.length≤500)(ra:Option Addr)(rc:Nat)(hr:bn w (.slice ra 1 rc) [fU 0 x])(hro:∀k∈(Value.slice ra 1 rc).ownBlock,k<w.heap.size)(hv:∀Z,Turn SF w Z→Sn.dA Z∧As.lM Z)(co off Gx le wa ti ps:Int)(cm:Bool):
 Calls Tryz.prog 16 #[.pointer (some ⟨b,0,none⟩), .agg #[.int .i64 1, .int .i64 co, .string ⟨#[97]⟩, .int .i64 0, .int .i64 off, .int .i64 Gx, .int .i64 le, .int .i64 wa, .int .i64 ti, .int .i64 ps, .bool false, .bool cm, .slice ra 1 rc]] w fun e w'=>e= .returned (.agg #[.int .i64 1, .int .i64 co, .int .i64 0, .int .i64 (vals.length:Int), .int .i64 0, .int .i64 0, .bool false, .slice none 0 0, .slice none 0 0])∧∃SF',di w' base d sb mo SF' (vals++[x])∧Turn SF w w'∧∀k∈SF',k∈SF∨w.heap.size≤k:=by
 have hnb:∀k,w.heap.size≤k→k∉SF:=fun k hk hm=>by have:=(h.lt k hm).2;omega
 have rH:=hide hnb;have hol:=fun Z (hZ:Turn [] w Z)=>KZ (h.still hZ) b ((World.cell?_of_block (w:=w) (hZ.block _ hbz (by simp))).trans hb) (Nat.lt_of_lt_of_le hbz hZ.size) jO hlen hx ra rc (hr.still hZ) (fun k hk=>Nat.lt_of_lt_of_le (hro k hk) hZ.size) (fun Y hY=>hv Y ((hZ.mono (by simp)).same hY)) co off Gx le wa ti ps cm
 have UE:=hide hol;have h2:=jG w #[.int .i64 1, .int .i64 co, .string ⟨#[97]⟩, .int .i64 0, .int .i64 off, .int .i64 Gx, .int .i64 le, .int .i64 wa, .int .i64 ti, .int .i64 ps, .bool false, .bool cm, .slice ra 1 rc] fQ 35 41;obtain⟨wz,hwz⟩:∃wz,wz=(w.alloc (.cells #[.int .i64 1, .int .i64 co, .string ⟨#[97]⟩, .int .i64 0, .int .i64 off, .int .i64 Gx, .int .i64 le, .int .i64 wa, .int .i64 ti, .int .i64 ps, .bool false, .bool cm, .slice ra 1 rc] 35)).alloc (.cells fQ 41):=⟨_,rfl⟩;rw[←hwz]at h2;obtain⟨ht2,hq,ha⟩:=h2;unfold fQ at hwz;have Gw:=hide hwz;have HT2:=hide ht2;have HQ:=hide hq;have HA:=hide ha;clear h hb hol hwz ht2 hq ha hnb hv hr hro jO hx;go_enter Tryz.func16,Tryz.ntmps16
 go_upto_region 1 with fail
 rw[←Gw.out];go_wp2_with (refine az rfl _ _ rfl ⟨w.heap.size,0,none⟩ rfl _ (iW HQ.out) ?_)
 refine(UE.out _ HT2.out).mono ?_;rintro e w2 ⟨rfl,SF',hsa,ht2,hf2⟩;have hfs:=fC (cs:= #[.int .i64 0, .int .i64 0, .int .i64 0, .int .i64 (vals.length:Int), .int .i64 0, .int .i64 0, .bool false, .slice none 0 0, .slice none 0 0]) (ae w2 (.cells fQ 41));obtain⟨w3,hw3⟩:∃w3,w3=(w2.alloc (.cells fQ 41)).setRow w2.heap.size #[.int .i64 0, .int .i64 0, .int .i64 0, .int .i64 (vals.length:Int), .int .i64 0, .int .i64 0, .bool false, .slice none 0 0, .slice none 0 0]:=⟨_,rfl⟩;rw[←hw3]at hfs;have hz2:=HT2.out.size;have hz3:=ht2.size;have hzz:=lt_of_heap HA.out;have hta3:Turn [] w2 w3:=((Turn.refl [] w2).alloc (.cells fQ 41)).trans hfs.2 (fun q hq=> .inr (by obtain rfl:=List.mem_singleton.1 hq;exact Nat.le_refl _));have hq3:=hta3.heap (ht2.heap HQ.out (rH.out _ (by omega))) (by simp);have ha3:=hta3.heap (ht2.heap HA.out (rH.out _ (by omega))) (by simp);have q0:w3.cell? ⟨w.heap.size,0,none⟩=some (.int .i64 1):=by rw[cell_of hq3];rfl
 have q1:w3.cell? ⟨w.heap.size,1,none⟩=some (.int .i64 co):=by rw[cell_of hq3];rfl
 have e0:w3.cell? ⟨w2.heap.size,0,none⟩=some (.int .i64 0):=by rw[cell_of hfs.1];rfl
 have e1:w3.cell? ⟨w2.heap.size,1,none⟩=some (.int .i64 0):=by rw[cell_of hfs.1];rfl
 have f0:=af hfs.1 0;have f1:=af hfs.1 1;have zq:=lt_of_heap hq3;have ze:=lt_of_heap hfs.1;have hr3:=hsa.still hta3;have HNF:Hid (∀k∈SF',k∈SF∨w.heap.size≤k):=fun k hk=>(hf2 k hk).imp_right (Nat.le_trans hz2)
 have hw3':=hw3;unfold fQ at hw3';have HW3:=hide hw3';have hn1:¬w.heap.size=w2.heap.size:=by omega
 have hn2:¬w2.heap.size=w.heap.size:=by omega
 have HX3:=hide hfs.1;have HA3:=hide ha3;have HR3:=hide hr3;have HT3:Hid (Turn SF w w3):=(HT2.out.mono (by simp)).same (ht2.same (hta3.mono (by simp)));clear hq3 ha3 hr3 hta3 hfs hw3 hw3' hsa hf2 ht2;go_wp2_with (refine wpList_store_row rfl _ _ _ rfl w2.heap.size #[.int .i64 0, .int .i64 0, .int .i64 0, .int .i64 (vals.length:Int), .int .i64 0, .int .i64 0, .bool false, .slice none 0 0, .slice none 0 0] rfl rfl _ _ (ae w2 (.cells fQ 41)) (by kernel_rfl) rfl (by kernel_rfl) ?_)
 rw[←HW3.out];go_region
 obtain⟨w5,hw5⟩:∃w5,w5=((w3.setCell ⟨w2.heap.size,0,none⟩ (.int .i64 1)).setCell ⟨w2.heap.size,1,none⟩ (.int .i64 co)).drew:=⟨_,rfl⟩;rw[←hw5];have ht5:Turn [w2.heap.size] w3 w5:=by rw[hw5];exact(((Turn.refl _ _).setCell (.inl (by simp)) _).setCell (.inl (by simp)) _).drew
 have hx5:w5.heap[w2.heap.size]? =some (.cells #[.int .i64 1, .int .i64 co, .int .i64 0, .int .i64 (vals.length:Int), .int .i64 0, .int .i64 0, .bool false, .slice none 0 0, .slice none 0 0] 41 (0,0)):=by
  rw[hw5];exact((Turn.refl [] _).drew).heap (heap_set (heap_set HX3.out 0 (.int .i64 1)) 1 (.int .i64 co)) (by simp)
 have ha5:=ht5.heap HA3.out (by simp;omega);have hr5:=HR3.out.kept ht5 (fun q hq hm=>by
  obtain rfl:=List.mem_singleton.1 hm;exact HR3.out.type HX3.out (by decide) (by decide) (by decide) (by decide) (by decide) (by decide) (by decide) (by decide) (by decide) (by decide) hq)
 have HX5:=hide hx5;have HA5:=hide ha5;have HR5:=hide hr5;have HT5:=hide (HT3.out.trans ht5 (fun q hq=> .inr (by obtain rfl:=List.mem_singleton.1 hq;omega)));have pI:=hide (fC (cs:= #[.int .i64 1, .int .i64 co, .int .i64 0, .int .i64 (vals.length:Int), .int .i64 0, .int .i64 0, .bool false, .slice none 0 0, .slice none 0 0]) HA5.out);clear hx5 ha5 hr5 ht5 hw5 q0 q1 e0 e1 f0 f1 zq ze hn1 hn2;go_wp2_with (first|(refine az rfl _ _ rfl ⟨w2.heap.size,0,none⟩ rfl _ (iT HX5.out) ?_)|(refine wpList_store_row rfl _ _ _ rfl (w.heap.size+1) #[.int .i64 1, .int .i64 co, .int .i64 0, .int .i64 (vals.length:Int), .int .i64 0, .int .i64 0, .bool false, .slice none 0 0, .slice none 0 0] rfl rfl _ _ HA5.out (by kernel_rfl) rfl (by kernel_rfl) ?_))
 have hld:=iT pI.out.1;refine bodyPost_ret (v:= .agg #[.int .i64 1, .int .i64 co, .int .i64 0, .int .i64 (vals.length:Int), .int .i64 0, .int .i64 0, .bool false, .slice none 0 0, .slice none 0 0]) (by simp[results,Tryz.results16,asAddr,hld,Result.andThen,Act.put]) rfl ?_;have hne:w.heap.size+1∉SF':=HR5.out.type HA5.out (by decide) (by decide) (by decide) (by decide) (by decide) (by decide) (by decide) (by decide) (by decide) (by decide);exact⟨rfl,SF',HR5.out.kept pI.out.2 (fun q hq hm=>by obtain rfl:=List.mem_singleton.1 hm;exact hne hq),HT5.out.trans pI.out.2 (fun q hq=> .inr (by obtain rfl:=List.mem_singleton.1 hq;omega)),HNF.out⟩
end
set_option maxHeartbeats 4000000 in
theorem Ja(w:World)(ki:Int)(hk:ki=1∨ki=5)(v1 v2 v3 v4 v5 v6 v7 v8 v9 v10 v11 v12 a0 a1 a2 a3 a4 a5 a6 a7 a8:Value):
 Calls Tryz.prog 17 #[.agg #[.int .i64 ki,v1,v2,v3,v4,v5,v6,v7,v8,v9,v10,v11,v12], .agg #[a0,a1,a2,a3,a4,a5,a6,a7,a8]] w fun e w'=>e= .returned (.bool false)∧Turn [] w w':=by
 have hkb:((ki:Int)==2)=false:=by rcases hk with rfl|rfl<;>rfl
 have h2:=jG w #[.int .i64 ki,v1,v2,v3,v4,v5,v6,v7,v8,v9,v10,v11,v12] #[a0,a1,a2,a3,a4,a5,a6,a7,a8] 35 41;obtain⟨wz,hwz⟩:∃wz,wz=(w.alloc (.cells #[.int .i64 ki,v1,v2,v3,v4,v5,v6,v7,v8,v9,v10,v11,v12] 35)).alloc (.cells #[a0,a1,a2,a3,a4,a5,a6,a7,a8] 41):=⟨_,rfl⟩;rw[←hwz]at h2;obtain⟨ht2,hq,ha⟩:=h2;have Gw:=hide hwz;have HT2:=hide ht2;have HQ:=hide hq;clear hk hwz ht2 hq ha;go_enter Tryz.func17,Tryz.ntmps17
 go_upto_region 1 with fail
 rw[←Gw.out];refine aF (Turn []) (by kernel_rfl) (by kernel_rfl) (by kernel_rfl) (by kernel_rfl) rfl (Turn.refl _) (fun _ _ _ h k=>h.same k) ?_;apply Lo.ag 1 rfl rfl [] (by kernel_rfl) (Turn.refl _);apply Exists.intro;apply And.intro
 ·intro u w1 hR hF
  clear hF;refine⟨rfl,fun a ha K hK=>?_⟩;have e2:=ha 2;conv at e2=>rhs;whnf
  clear ha;go_simp
  refine hK _ ?_;rfl
 apply Lo.ag 2 rfl rfl [0] (by kernel_rfl) (Turn.refl _);apply Exists.intro;apply And.intro
 ·intro u w1 hR hF
  obtain⟨h0, -⟩:=hF;refine⟨rfl,fun a ha K hK=>?_⟩;have e5:=(ha 5).trans h0;clear ha h0;have hq1:=((Turn.refl [] wz).drew.same hR).heap HQ.out (by simp);have q0:w1.cell? ⟨w.heap.size,0,none⟩=some (.int .i64 ki):=by rw[cell_of hq1];rfl
  have zq:=lt_of_heap hq1;go_simp
  refine hK _ ?_;rfl
 refine Lo.aJ 3 rfl rfl [1] (.bool (false)) (by kernel_rfl) (fun u w1 hR hF=>?_) (Turn.refl _) ?_
 ·obtain⟨h1, -⟩:=hF
  refine⟨rfl,fun a ha K hK=>?_⟩;have e6:=(ha 6).trans h1;clear ha h1;go_simp
  refine hK _ ?_;rfl
 apply Lo.ag 4 rfl rfl [2] (by kernel_rfl) (Turn.refl _);apply Exists.intro;apply And.intro
 ·intro u w1 hR hF
  obtain⟨h2, -⟩:=hF;refine⟨rfl,fun a ha K hK=>?_⟩;have e7:=(ha 7).trans h2;clear ha h2;go_simp
  refine hK _ ?_;rfl
 refine Lo.pass 5 rfl rfl [3] (by kernel_rfl) (Turn.refl _) (fun u w1 hR hF=>?_) ?_
 ·exact .inl ⟨false,hF.1,rfl⟩
 refine Lo.pass 6 rfl rfl [3] (by kernel_rfl) (Turn.refl _) (fun u w1 hR hF=>?_) ?_
 ·exact .inl ⟨false,hF.1,rfl⟩
 refine Lo.pass 7 rfl rfl [3] (by kernel_rfl) (Turn.refl _) (fun u w1 hR hF=>?_) ?_
 ·exact .inl ⟨false,hF.1,rfl⟩
 apply Lo.ag 8 rfl rfl [3,6] (by kernel_rfl) (Turn.refl _);apply Exists.intro;apply And.intro
 ·intro u w1 hR hF
  obtain⟨h3,h6, -⟩:=hF;refine⟨rfl,fun a ha K hK=>?_⟩;have e8:=(ha 8).trans h3;have e11:=(ha 11).trans h6;clear ha h3 h6;go_simp
  refine hK _ ?_;rfl
 apply Lo.ag 9 rfl rfl [7] (by kernel_rfl) (Turn.refl _);apply Exists.intro;apply And.intro
 ·intro u w1 hR hF
  obtain⟨h7, -⟩:=hF;refine⟨rfl,fun a ha K hK=>?_⟩;have e12:=(ha 12).trans h7;clear ha h7;go_simp
  refine hK _ ?_;rfl
 refine Lo.pass 10 rfl rfl [8] (by kernel_rfl) (Turn.refl _) (fun u w1 hR hF=>?_) ?_
 ·exact .inl ⟨false,hF.1,rfl⟩
 refine Lo.pass 11 rfl rfl [8] (by kernel_rfl) (Turn.refl _) (fun u w1 hR hF=>?_) ?_
 ·exact .inl ⟨false,hF.1,rfl⟩
 refine Lo.pass 12 rfl rfl [8] (by kernel_rfl) (Turn.refl _) (fun u w1 hR hF=>?_) ?_
 ·exact .inl ⟨false,hF.1,rfl⟩
 apply Lo.ag 13 rfl rfl [8,11] (by kernel_rfl) (Turn.refl _);apply Exists.intro;apply And.intro
 ·intro u w1 hR hF
  obtain⟨h8,h11, -⟩:=hF;refine⟨rfl,fun a ha K hK=>?_⟩;have e13:=(ha 13).trans h8;have e16:=(ha 16).trans h11;clear ha h8 h11;go_simp
  refine hK _ ?_;rfl
 apply Lo.ag 14 rfl rfl [12] (by kernel_rfl) (Turn.refl _);apply Exists.intro;apply And.intro
 ·intro u w1 hR hF
  obtain⟨h12, -⟩:=hF;refine⟨rfl,fun a ha K hK=>?_⟩;have e17:=(ha 17).trans h12;clear ha h12;go_simp
  refine hK _ ?_;rfl
 refine Lo.pass 15 rfl rfl [13] (by kernel_rfl) (Turn.refl _) (fun u w1 hR hF=>?_) ?_
 ·exact .inl ⟨false,hF.1,rfl⟩
 refine Lo.pass 16 rfl rfl [13] (by kernel_rfl) (Turn.refl _) (fun u w1 hR hF=>?_) ?_
 ·exact .inl ⟨false,hF.1,rfl⟩
 refine Lo.pass 17 rfl rfl [13] (by kernel_rfl) (Turn.refl _) (fun u w1 hR hF=>?_) ?_
 ·exact .inl ⟨false,hF.1,rfl⟩
 refine Lo.pass 18 rfl rfl [13] (by kernel_rfl) (Turn.refl _) (fun u w1 hR hF=>?_) ?_
 ·exact .inl ⟨false,hF.1,rfl⟩
 refine Lo.pass 19 rfl rfl [13] (by kernel_rfl) (Turn.refl _) (fun u w1 hR hF=>?_) ?_
 ·exact .inl ⟨false,hF.1,rfl⟩
 refine Lo.pass 20 rfl rfl [13] (by kernel_rfl) (Turn.refl _) (fun u w1 hR hF=>?_) ?_
 ·exact .inl ⟨false,hF.1,rfl⟩
 apply Lo.ag 21 rfl rfl [13,19] (by kernel_rfl) (Turn.refl _);apply Exists.intro;apply And.intro
 ·intro u w1 hR hF
  obtain⟨h13,h19, -⟩:=hF;refine⟨rfl,fun a ha K hK=>?_⟩;have e18:=(ha 18).trans h13;have e24:=(ha 24).trans h19;clear ha h13 h19;go_simp
  refine hK _ ?_;rfl
 apply Lo.ag 22 rfl rfl [20] (by kernel_rfl) (Turn.refl _);apply Exists.intro;apply And.intro
 ·intro u w1 hR hF
  obtain⟨h20, -⟩:=hF;refine⟨rfl,fun a ha K hK=>?_⟩;have e25:=(ha 25).trans h20;clear ha h20;go_simp
  refine hK _ ?_;rfl
 refine Lo.done [21] (fun u w1 bP hSd hF=>?_);clear hSd;obtain⟨f21, -⟩:=hF;have d21:u 21=_:=f21;clear f21;simp only[ax,Act.put,List.setIfInBounds_toArray,List.set_cons_succ,List.set_cons_zero,Nat.zero_add,Nat.reduceAdd,d21];go_wp2
 go_ret
 exact⟨rfl,HT2.out.same (((Turn.refl [] wz).drew).same bP)⟩
set_option maxHeartbeats 4000000 in
theorem CX(w:World)(base:Nat)(le wa:Int)(v1 v2 v3 v4 v5 v8 v9 v10 v11 v12 a0 a1 a3 a4 a5 a6 ov a8:Value)(R:List Bt.Rec)(hrow:aH 47 6 recC w base ov R)(hok:∀r∈R,jD r)(hwl:dE R≤1000000)(hl:R.length≤1000):
 Calls Tryz.prog 17 #[.agg #[.int .i64 2,v1,v2,v3,v4,v5, .int .i64 le, .int .i64 wa,v8,v9,v10,v11,v12], .agg #[a0,a1, .int .i64 0,a3,a4,a5,a6,ov,a8]] w fun e w'=>e= .returned (.bool (decide (0<wa)&&decide ((dE R:Int)<le)))∧Turn [] w w':=by
 obtain⟨oa,oc,hoe, -, -⟩:=hrow.form;subst hoe;have hwt:=fun Z (hZ:Turn [] w Z)=>KF Z base _ R (hrow.still hZ) hok (by omega) (by omega)
 have HWT:=hide hwt;have h2:=jG w #[.int .i64 2,v1,v2,v3,v4,v5, .int .i64 le, .int .i64 wa,v8,v9,v10,v11,v12] #[a0,a1, .int .i64 0,a3,a4,a5,a6, .slice oa R.length oc,a8] 35 41;obtain⟨wz,hwz⟩:∃wz,wz=(w.alloc (.cells #[.int .i64 2,v1,v2,v3,v4,v5, .int .i64 le, .int .i64 wa,v8,v9,v10,v11,v12] 35)).alloc (.cells #[a0,a1, .int .i64 0,a3,a4,a5,a6, .slice oa R.length oc,a8] 41):=⟨_,rfl⟩;rw[←hwz]at h2;obtain⟨ht2,hq,ha⟩:=h2;have Gw:=hide hwz;have HT2:=hide ht2;have HQ:=hide hq;have HA:=hide ha;clear hwz ht2 hq ha hrow hok hwt;by_cases hw:0<wa
 ·have hwb:decide (0<wa)=true:=by simpa using hw
  have HW:Hid (decide (0<wa)=true):=hwb;go_enter Tryz.func17,Tryz.ntmps17
  go_upto_region 1 with fail
  rw[←Gw.out];refine aF (Turn []) (by kernel_rfl) (by kernel_rfl) (by kernel_rfl) (by kernel_rfl) rfl (Turn.refl _) (fun _ _ _ h k=>h.same k) ?_;apply Lo.ag 1 rfl rfl [] (by kernel_rfl) (Turn.refl _);apply Exists.intro;apply And.intro
  ·intro u w1 hR hF
   clear hF;refine⟨rfl,fun a ha K hK=>?_⟩;have e2:=ha 2;conv at e2=>rhs;whnf
   clear ha;go_simp
   refine hK _ ?_;rfl
  apply Lo.ag 2 rfl rfl [0] (by kernel_rfl) (Turn.refl _);apply Exists.intro;apply And.intro
  ·intro u w1 hR hF
   obtain⟨h0, -⟩:=hF;refine⟨rfl,fun a ha K hK=>?_⟩;have e5:=(ha 5).trans h0;clear ha h0;have hq1:=((Turn.refl [] wz).drew.same hR).heap HQ.out (by simp);have q0:w1.cell? ⟨w.heap.size,0,none⟩=some (.int .i64 2):=by rw[cell_of hq1];rfl
   have zq:=lt_of_heap hq1;go_simp
   refine hK _ ?_;rfl
  refine Lo.aJ 3 rfl rfl [1] (.bool (true)) (by kernel_rfl) (fun u w1 hR hF=>?_) (Turn.refl _) ?_
  ·obtain⟨h1, -⟩:=hF
   refine⟨rfl,fun a ha K hK=>?_⟩;have e6:=(ha 6).trans h1;clear ha h1;go_simp
   refine hK _ ?_;rfl
  apply Lo.ag 4 rfl rfl [2] (by kernel_rfl) (Turn.refl _);apply Exists.intro;apply And.intro
  ·intro u w1 hR hF
   obtain⟨h2, -⟩:=hF;refine⟨rfl,fun a ha K hK=>?_⟩;have e7:=(ha 7).trans h2;clear ha h2;go_simp
   refine hK _ ?_;rfl
  apply Lo.ag 5 rfl rfl [3] (by kernel_rfl) (Turn.refl _);apply Exists.intro;apply And.intro
  ·intro u w1 hR hF
   obtain⟨h3, -⟩:=hF;refine⟨.inl ⟨true,h3,rfl⟩,fun a ha K hK=>?_⟩;have e3:=ha 3;conv at e3=>rhs;whnf
   clear ha h3;go_simp
   refine hK _ ?_;rfl
  apply Lo.ag 6 rfl rfl [3,4] (by kernel_rfl) (Turn.refl _);apply Exists.intro;apply And.intro
  ·intro u w1 hR hF
   obtain⟨h3,h4, -⟩:=hF;refine⟨.inl ⟨true,h3,rfl⟩,fun a ha K hK=>?_⟩;have e9:=(ha 9).trans h4;clear ha h3 h4;have ha1:=((Turn.refl [] wz).drew.same hR).heap HA.out (by simp);have e2:w1.cell? ⟨w.heap.size+1,2,none⟩=some (.int .i64 0):=by rw[cell_of ha1];rfl
   have ze:=lt_of_heap ha1;go_simp
   refine hK _ ?_;rfl
  refine Lo.aJ 7 rfl rfl [3,5] (.bool (true)) (by kernel_rfl) (fun u w1 hR hF=>?_) (Turn.refl _) ?_
  ·obtain⟨h3,h5, -⟩:=hF
   refine⟨.inl ⟨true,h3,rfl⟩,fun a ha K hK=>?_⟩;have e10:=(ha 10).trans h5;clear ha h3 h5;go_simp
   refine hK _ ?_;rfl
  apply Lo.ag 8 rfl rfl [3,6] (by kernel_rfl) (Turn.refl _);apply Exists.intro;apply And.intro
  ·intro u w1 hR hF
   obtain⟨h3,h6, -⟩:=hF;refine⟨rfl,fun a ha K hK=>?_⟩;have e8:=(ha 8).trans h3;have e11:=(ha 11).trans h6;clear ha h3 h6;go_simp
   refine hK _ ?_;rfl
  apply Lo.ag 9 rfl rfl [7] (by kernel_rfl) (Turn.refl _);apply Exists.intro;apply And.intro
  ·intro u w1 hR hF
   obtain⟨h7, -⟩:=hF;refine⟨rfl,fun a ha K hK=>?_⟩;have e12:=(ha 12).trans h7;clear ha h7;go_simp
   refine hK _ ?_;rfl
  apply Lo.ag 10 rfl rfl [8] (by kernel_rfl) (Turn.refl _);apply Exists.intro;apply And.intro
  ·intro u w1 hR hF
   obtain⟨h8, -⟩:=hF;refine⟨.inl ⟨true,h8,rfl⟩,fun a ha K hK=>?_⟩;have e2:=ha 2;conv at e2=>rhs;whnf
   clear ha h8;go_simp
   refine hK _ ?_;rfl
  apply Lo.ag 11 rfl rfl [8,9] (by kernel_rfl) (Turn.refl _);apply Exists.intro;apply And.intro
  ·intro u w1 hR hF
   obtain⟨h8,h9, -⟩:=hF;refine⟨.inl ⟨true,h8,rfl⟩,fun a ha K hK=>?_⟩;have e14:=(ha 14).trans h9;clear ha h8 h9;have hq1:=((Turn.refl [] wz).drew.same hR).heap HQ.out (by simp);have q7:w1.cell? ⟨w.heap.size,7,none⟩=some (.int .i64 wa):=by rw[cell_of hq1];rfl
   have zq:=lt_of_heap hq1;go_simp
   refine hK _ ?_;rfl
  refine Lo.aJ 12 rfl rfl [8,10] (.bool (true)) (by kernel_rfl) (fun u w1 hR hF=>?_) (Turn.refl _) ?_
  ·obtain⟨h8,h10, -⟩:=hF
   refine⟨.inl ⟨true,h8,rfl⟩,fun a ha K hK=>?_⟩;have e15:=(ha 15).trans h10;clear ha h8 h10;go_simp
   refine hK _ ?_;simp[hw]
  apply Lo.ag 13 rfl rfl [8,11] (by kernel_rfl) (Turn.refl _);apply Exists.intro;apply And.intro
  ·intro u w1 hR hF
   obtain⟨h8,h11, -⟩:=hF;refine⟨rfl,fun a ha K hK=>?_⟩;have e13:=(ha 13).trans h8;have e16:=(ha 16).trans h11;clear ha h8 h11;go_simp
   refine hK _ ?_;rfl
  apply Lo.ag 14 rfl rfl [12] (by kernel_rfl) (Turn.refl _);apply Exists.intro;apply And.intro
  ·intro u w1 hR hF
   obtain⟨h12, -⟩:=hF;refine⟨rfl,fun a ha K hK=>?_⟩;have e17:=(ha 17).trans h12;clear ha h12;go_simp
   refine hK _ ?_;rfl
  apply Lo.ag 15 rfl rfl [13] (by kernel_rfl) (Turn.refl _);apply Exists.intro;apply And.intro
  ·intro u w1 hR hF
   obtain⟨h13, -⟩:=hF;refine⟨.inl ⟨true,h13,rfl⟩,fun a ha K hK=>?_⟩;have e3:=ha 3;conv at e3=>rhs;whnf
   clear ha h13;go_simp
   refine hK _ ?_;rfl
  apply Lo.ag 16 rfl rfl [13,14] (by kernel_rfl) (Turn.refl _);apply Exists.intro;apply And.intro
  ·intro u w1 hR hF
   obtain⟨h13,h14, -⟩:=hF;refine⟨.inl ⟨true,h13,rfl⟩,fun a ha K hK=>?_⟩;have e19:=(ha 19).trans h14;clear ha h13 h14;have ha1:=((Turn.refl [] wz).drew.same hR).heap HA.out (by simp);have e7:w1.cell? ⟨w.heap.size+1,7,none⟩=some (.slice oa R.length oc):=by rw[cell_of ha1];rfl
   have ze:=lt_of_heap ha1;go_simp
   refine hK _ ?_;rfl
  refine Lo.run 17 rfl rfl [13,15] (fun x w'=>x= .int .i64 (dE R:Int)) (by kernel_rfl) (fun x w w' h hR=>?_) (fun _ _ h=>h) (fun u w1 hR hF=>?_) ?_
  ·exact h
  ·obtain⟨h13,h15, -⟩:=hF
   refine⟨.inl ⟨true,h13,rfl⟩,fun a ha K hK=>?_⟩;have e20:=(ha 20).trans h15;clear ha h13 h15;go_simp
   refine(HWT.out w1 (HT2.out.same ((Turn.refl [] wz).drew.same hR))).mono ?_;rintro e w5 ⟨rfl,ht5⟩;exact hK _ _ rfl ht5
  apply Lo.ag 18 rfl rfl [13] (by kernel_rfl) (Turn.refl _);apply Exists.intro;apply And.intro
  ·intro u w1 hR hF
   obtain⟨h13, -⟩:=hF;refine⟨.inl ⟨true,h13,rfl⟩,fun a ha K hK=>?_⟩;have e2:=ha 2;conv at e2=>rhs;whnf
   clear ha h13;go_simp
   refine hK _ ?_;rfl
  apply Lo.ag 19 rfl rfl [13,17] (by kernel_rfl) (Turn.refl _);apply Exists.intro;apply And.intro
  ·intro u w1 hR hF
   obtain⟨h13,h17, -⟩:=hF;refine⟨.inl ⟨true,h13,rfl⟩,fun a ha K hK=>?_⟩;have e22:=(ha 22).trans h17;clear ha h13 h17;have hq1:=((Turn.refl [] wz).drew.same hR).heap HQ.out (by simp);have q6:w1.cell? ⟨w.heap.size,6,none⟩=some (.int .i64 le):=by rw[cell_of hq1];rfl
   have zq:=lt_of_heap hq1;go_simp
   refine hK _ ?_;rfl
  refine Lo.aJ 20 rfl rfl [13,16,18] (.bool (decide ((dE R:Int)<le))) (by kernel_rfl) (fun u w1 hR hF=>?_) (Turn.refl _) ?_
  ·obtain⟨h13,h16,h18, -⟩:=hF
   refine⟨.inl ⟨true,h13,rfl⟩,fun a ha K hK=>?_⟩;have e21:a.tmps.getD 21 undef=u 16:=ha 21;have e23:=(ha 23).trans h18;have h16:=(show(fun x w'=>x= .int .i64 (dE R:Int)) (u 16) w1 from h16);dsimp only at h16;clear ha h13 h18;rw[h16]at e21;go_simp
   refine hK _ ?_;rfl
  apply Lo.ag 21 rfl rfl [13,19] (by kernel_rfl) (Turn.refl _);apply Exists.intro;apply And.intro
  ·intro u w1 hR hF
   obtain⟨h13,h19, -⟩:=hF;refine⟨rfl,fun a ha K hK=>?_⟩;have e18:=(ha 18).trans h13;have e24:=(ha 24).trans h19;clear ha h13 h19;go_simp
   refine hK _ ?_;rfl
  apply Lo.ag 22 rfl rfl [20] (by kernel_rfl) (Turn.refl _);apply Exists.intro;apply And.intro
  ·intro u w1 hR hF
   obtain⟨h20, -⟩:=hF;refine⟨rfl,fun a ha K hK=>?_⟩;have e25:=(ha 25).trans h20;clear ha h20;go_simp
   refine hK _ ?_;rfl
  refine Lo.done [21] (fun u w1 bP hSd hF=>?_);clear hSd;obtain⟨f21, -⟩:=hF;have d21:u 21=_:=f21;clear f21;simp only[ax,Act.put,List.setIfInBounds_toArray,List.set_cons_succ,List.set_cons_zero,Nat.zero_add,Nat.reduceAdd,d21];go_wp2
  go_ret
  refine⟨by rw[HW.out,Bool.true_and];rfl,HT2.out.same (((Turn.refl [] wz).drew).same bP)⟩
 ·have hwb:decide (0<wa)=false:=by simpa using hw
  have HW:Hid (decide (0<wa)=false):=hwb;go_enter Tryz.func17,Tryz.ntmps17
  go_upto_region 1 with fail
  rw[←Gw.out];refine aF (Turn []) (by kernel_rfl) (by kernel_rfl) (by kernel_rfl) (by kernel_rfl) rfl (Turn.refl _) (fun _ _ _ h k=>h.same k) ?_;apply Lo.ag 1 rfl rfl [] (by kernel_rfl) (Turn.refl _);apply Exists.intro;apply And.intro
  ·intro u w1 hR hF
   clear hF;refine⟨rfl,fun a ha K hK=>?_⟩;have e2:=ha 2;conv at e2=>rhs;whnf
   clear ha;go_simp
   refine hK _ ?_;rfl
  apply Lo.ag 2 rfl rfl [0] (by kernel_rfl) (Turn.refl _);apply Exists.intro;apply And.intro
  ·intro u w1 hR hF
   obtain⟨h0, -⟩:=hF;refine⟨rfl,fun a ha K hK=>?_⟩;have e5:=(ha 5).trans h0;clear ha h0;have hq1:=((Turn.refl [] wz).drew.same hR).heap HQ.out (by simp);have q0:w1.cell? ⟨w.heap.size,0,none⟩=some (.int .i64 2):=by rw[cell_of hq1];rfl
   have zq:=lt_of_heap hq1;go_simp
   refine hK _ ?_;rfl
  refine Lo.aJ 3 rfl rfl [1] (.bool (true)) (by kernel_rfl) (fun u w1 hR hF=>?_) (Turn.refl _) ?_
  ·obtain⟨h1, -⟩:=hF
   refine⟨rfl,fun a ha K hK=>?_⟩;have e6:=(ha 6).trans h1;clear ha h1;go_simp
   refine hK _ ?_;rfl
  apply Lo.ag 4 rfl rfl [2] (by kernel_rfl) (Turn.refl _);apply Exists.intro;apply And.intro
  ·intro u w1 hR hF
   obtain⟨h2, -⟩:=hF;refine⟨rfl,fun a ha K hK=>?_⟩;have e7:=(ha 7).trans h2;clear ha h2;go_simp
   refine hK _ ?_;rfl
  apply Lo.ag 5 rfl rfl [3] (by kernel_rfl) (Turn.refl _);apply Exists.intro;apply And.intro
  ·intro u w1 hR hF
   obtain⟨h3, -⟩:=hF;refine⟨.inl ⟨true,h3,rfl⟩,fun a ha K hK=>?_⟩;have e3:=ha 3;conv at e3=>rhs;whnf
   clear ha h3;go_simp
   refine hK _ ?_;rfl
  apply Lo.ag 6 rfl rfl [3,4] (by kernel_rfl) (Turn.refl _);apply Exists.intro;apply And.intro
  ·intro u w1 hR hF
   obtain⟨h3,h4, -⟩:=hF;refine⟨.inl ⟨true,h3,rfl⟩,fun a ha K hK=>?_⟩;have e9:=(ha 9).trans h4;clear ha h3 h4;have ha1:=((Turn.refl [] wz).drew.same hR).heap HA.out (by simp);have e2:w1.cell? ⟨w.heap.size+1,2,none⟩=some (.int .i64 0):=by rw[cell_of ha1];rfl
   have ze:=lt_of_heap ha1;go_simp
   refine hK _ ?_;rfl
  refine Lo.aJ 7 rfl rfl [3,5] (.bool (true)) (by kernel_rfl) (fun u w1 hR hF=>?_) (Turn.refl _) ?_
  ·obtain⟨h3,h5, -⟩:=hF
   refine⟨.inl ⟨true,h3,rfl⟩,fun a ha K hK=>?_⟩;have e10:=(ha 10).trans h5;clear ha h3 h5;go_simp
   refine hK _ ?_;rfl
  apply Lo.ag 8 rfl rfl [3,6] (by kernel_rfl) (Turn.refl _);apply Exists.intro;apply And.intro
  ·intro u w1 hR hF
   obtain⟨h3,h6, -⟩:=hF;refine⟨rfl,fun a ha K hK=>?_⟩;have e8:=(ha 8).trans h3;have e11:=(ha 11).trans h6;clear ha h3 h6;go_simp
   refine hK _ ?_;rfl
  apply Lo.ag 9 rfl rfl [7] (by kernel_rfl) (Turn.refl _);apply Exists.intro;apply And.intro
  ·intro u w1 hR hF
   obtain⟨h7, -⟩:=hF;refine⟨rfl,fun a ha K hK=>?_⟩;have e12:=(ha 12).trans h7;clear ha h7;go_simp
   refine hK _ ?_;rfl
  apply Lo.ag 10 rfl rfl [8] (by kernel_rfl) (Turn.refl _);apply Exists.intro;apply And.intro
  ·intro u w1 hR hF
   obtain⟨h8, -⟩:=hF;refine⟨.inl ⟨true,h8,rfl⟩,fun a ha K hK=>?_⟩;have e2:=ha 2;conv at e2=>rhs;whnf
   clear ha h8;go_simp
   refine hK _ ?_;rfl
  apply Lo.ag 11 rfl rfl [8,9] (by kernel_rfl) (Turn.refl _);apply Exists.intro;apply And.intro
  ·intro u w1 hR hF
   obtain⟨h8,h9, -⟩:=hF;refine⟨.inl ⟨true,h8,rfl⟩,fun a ha K hK=>?_⟩;have e14:=(ha 14).trans h9;clear ha h8 h9;have hq1:=((Turn.refl [] wz).drew.same hR).heap HQ.out (by simp);have q7:w1.cell? ⟨w.heap.size,7,none⟩=some (.int .i64 wa):=by rw[cell_of hq1];rfl
   have zq:=lt_of_heap hq1;go_simp
   refine hK _ ?_;rfl
  refine Lo.aJ 12 rfl rfl [8,10] (.bool (false)) (by kernel_rfl) (fun u w1 hR hF=>?_) (Turn.refl _) ?_
  ·obtain⟨h8,h10, -⟩:=hF
   refine⟨.inl ⟨true,h8,rfl⟩,fun a ha K hK=>?_⟩;have e15:=(ha 15).trans h10;clear ha h8 h10;go_simp
   refine hK _ ?_;simp[hw]
  apply Lo.ag 13 rfl rfl [8,11] (by kernel_rfl) (Turn.refl _);apply Exists.intro;apply And.intro
  ·intro u w1 hR hF
   obtain⟨h8,h11, -⟩:=hF;refine⟨rfl,fun a ha K hK=>?_⟩;have e13:=(ha 13).trans h8;have e16:=(ha 16).trans h11;clear ha h8 h11;go_simp
   refine hK _ ?_;rfl
  apply Lo.ag 14 rfl rfl [12] (by kernel_rfl) (Turn.refl _);apply Exists.intro;apply And.intro
  ·intro u w1 hR hF
   obtain⟨h12, -⟩:=hF;refine⟨rfl,fun a ha K hK=>?_⟩;have e17:=(ha 17).trans h12;clear ha h12;go_simp
   refine hK _ ?_;rfl
  refine Lo.pass 15 rfl rfl [13] (by kernel_rfl) (Turn.refl _) (fun u w1 hR hF=>?_) ?_
  ·exact .inl ⟨false,hF.1,rfl⟩
  refine Lo.pass 16 rfl rfl [13] (by kernel_rfl) (Turn.refl _) (fun u w1 hR hF=>?_) ?_
  ·exact .inl ⟨false,hF.1,rfl⟩
  refine Lo.pass 17 rfl rfl [13] (by kernel_rfl) (Turn.refl _) (fun u w1 hR hF=>?_) ?_
  ·exact .inl ⟨false,hF.1,rfl⟩
  refine Lo.pass 18 rfl rfl [13] (by kernel_rfl) (Turn.refl _) (fun u w1 hR hF=>?_) ?_
  ·exact .inl ⟨false,hF.1,rfl⟩
  refine Lo.pass 19 rfl rfl [13] (by kernel_rfl) (Turn.refl _) (fun u w1 hR hF=>?_) ?_
  ·exact .inl ⟨false,hF.1,rfl⟩
  refine Lo.pass 20 rfl rfl [13] (by kernel_rfl) (Turn.refl _) (fun u w1 hR hF=>?_) ?_
  ·exact .inl ⟨false,hF.1,rfl⟩
  apply Lo.ag 21 rfl rfl [13,19] (by kernel_rfl) (Turn.refl _);apply Exists.intro;apply And.intro
  ·intro u w1 hR hF
   obtain⟨h13,h19, -⟩:=hF;refine⟨rfl,fun a ha K hK=>?_⟩;have e18:=(ha 18).trans h13;have e24:=(ha 24).trans h19;clear ha h13 h19;go_simp
   refine hK _ ?_;rfl
  apply Lo.ag 22 rfl rfl [20] (by kernel_rfl) (Turn.refl _);apply Exists.intro;apply And.intro
  ·intro u w1 hR hF
   obtain⟨h20, -⟩:=hF;refine⟨rfl,fun a ha K hK=>?_⟩;have e25:=(ha 25).trans h20;clear ha h20;go_simp
   refine hK _ ?_;rfl
  refine Lo.done [21] (fun u w1 bP hSd hF=>?_);clear hSd;obtain⟨f21, -⟩:=hF;have d21:u 21=_:=f21;clear f21;simp only[ax,Act.put,List.setIfInBounds_toArray,List.set_cons_succ,List.set_cons_zero,Nat.zero_add,Nat.reduceAdd,d21];go_wp2
  go_ret
  refine⟨rfl,HT2.out.same (((Turn.refl [] wz).drew).same bP)⟩
end Br
end
section
open Go.RowKit Go.Maps
attribute [local go_sem] Oper.semAt_some
open Lg
open Wh (Tm Xt aP jX bI dF dQ eH ak)
namespace Br
structure Ot where
 dst:Int
 kind:Int
 OH:Int
 err:Int
 off:Int
 start:Int
 fin:Int
 found:Bool
 rv:Value
 recs:List Bt.Rec
def vZ(o:Ot):List Value:=[.int .i64 o.dst, .int .i64 o.kind, .int .i64 o.OH, .int .i64 o.err, .int .i64 o.off, .int .i64 o.start, .int .i64 o.fin, .bool o.found,o.rv, .slice none 0 0]
theorem AY:∀o,(vZ o).length=10:=fun _=>rfl
abbrev OR(w:World)(base:Nat)(v:Value)(os:List Ot):Prop:=aH 43 10 vZ w base v os
structure bU(w:World)(base:Nat)(v:Value)(os:List Ot):Prop where
 row:OR w base v os
 recs:∀o∈os,aH 47 6 recC w base o.rv o.recs
theorem bU.kept{w w':World}{base:Nat}{v:Value}{os:List Ot}{S:List Nat}(h:bU w base v os)(ht:Turn S w w')(h1:∀k cs fr,w.heap[k]? =some (.cells cs 43 fr)→k∉S) (h2:∀k cs fr,w.heap[k]? =some (.cells cs 47 fr)→k∉S):bU w' base v os:=
 ⟨h.row.kept ht (fun k hk=>by obtain⟨cs,e⟩:=h.row.kind k hk;exact h1 k cs _ e),fun o ho=>(h.recs o ho).kept ht (fun k hk=>by obtain⟨cs,e⟩:=(h.recs o ho).kind k hk;exact h2 k cs _ e)⟩
theorem bU.still{w w':World}{base:Nat}{v:Value}{os:List Ot}(h:bU w base v os)(ht:Turn [] w w'):bU w' base v os:=h.kept ht (by simp) (by simp)
theorem bU.nil(w:World)(base:Nat):bU w base (.slice none 0 0) []:=⟨.inl ⟨rfl,rfl⟩,by simp⟩
theorem Xj:(Tryz.prog.info? 43).map (fun i=>(i.zero.map (fun z=>z.cells.size),i.size,decide (i.bytes≤1000)))=some (some 10,10,true):=by kernel_rfl
theorem uN:∃i z,Tryz.prog.info? 43=some i∧i.zero=some z∧z.cells.size=10∧i.size=10∧i.bytes≤1000:=by
 have h:=Xj;cases hi:Tryz.prog.info? 43 with
 |none=>rw[hi]at h;cases h
 |some i=>
  rw[hi]at h;simp only[Option.map_some,Option.some.injEq,Prod.mk.injEq,Option.map_eq_some_iff]at h;obtain⟨⟨z,hz,hz2⟩,h2,h3⟩:=h;exact⟨i,z,rfl,hz,hz2,h2,of_decide_eq_true h3⟩
def oneV(v:Value):Prop:=v.oneCell'=true
theorem row_one{α:Type}{T:TypeId}{n:Nat}{enc:α→List Value}{w:World}{base:Nat}{v:Value}{xs:List α}(h:aH T n enc w base v xs):v.oneCell'=true:=by
 obtain⟨a,c,rfl, -, -⟩:=h.form;rfl
def RH(o:{o:Ot//o.rv.oneCell'=true}):List Value:=vZ o.1
theorem RI{w:World}{base:Nat}{v:Value}{os:List {o:Ot//o.rv.oneCell'=true}}:OR w base v (os.map (·.1))↔aH 43 10 RH w base v os:=by
 have e:(os.map (·.1)).flatMap vZ=os.flatMap RH:=by rw[List.flatMap_map];rfl
 unfold OR aH;simp only[List.length_map,e,List.map_eq_nil_iff]
theorem wu{w:World}{base:Nat}{v:Value}{os:List Ot}(h:bU w base v os):∃us:List {o:Ot//o.rv.oneCell'=true},us.map (·.1)=os:=
 ⟨os.attach.map (fun o=>⟨o.1,row_one (h.recs o.1 o.2)⟩),by rw[List.map_map];simp[Function.comp_def]⟩
theorem CY:∀o,(RH o).length=10:=fun o=>AY o.1
theorem Jb:∀o:{o:Ot//o.rv.oneCell'=true},∀u∈RH o,u.oneCell'=true:=by
 rintro⟨o,ho⟩ u hu;simp only[RH,vZ,List.mem_cons,List.not_mem_nil,or_false]at hu;rcases hu with rfl|rfl|rfl|rfl|rfl|rfl|rfl|rfl|rfl|rfl<;>first|rfl|exact ho
theorem RJ(w:World)(base:Nat)(v:Value)(os:List Ot)(o:Ot)(k:Nat)(h:bU w base v os)(ho:aH 47 6 recC w base o.rv o.recs)(hk:w.heap[k]? =some (.cells (vZ o).toArray 43 (0,0))) (hlen:os.length≤1000000) (hbase:base≤w.heap.size):
 ∃v' w',(Builtin.append_ #[31,31] 31 #[v, .slice (some ⟨k,0,none⟩) 1 1]).run Tryz.prog w= .ok v' w'∧bU w' base v' (os++[o])∧Turn v.ownBlock.toList w w'∧(∀j∈v'.ownBlock,j∈v.ownBlock∨w.heap.size≤j):=by
 obtain⟨i,z,hi,hz,hzs,hs,hb⟩:=uN;obtain⟨us,rfl⟩:=wu h;have h1:=RI.1 h.row;obtain⟨v',w',e,hr,ht,hj⟩:=dS (P:=Tryz.prog) 31 31 Tryz.underlying31 i z hi hz hzs hs hb CY Jb w base v us ⟨o,row_one ho⟩ k h1 hk (by simpa using hlen) hbase;have hr2:OR w' base v' (us.map (·.1)++[o]):=by
  have:=RI.2 hr;simpa using this
 refine⟨v',w',e,⟨hr2,fun x hx=>?_⟩,ht,hj⟩;have hx':aH 47 6 recC w base x.rv x.recs:=by
  rcases List.mem_append.1 hx with hx|hx
  ·exact h.recs x hx
  ·obtain rfl:=List.mem_singleton.1 hx;exact ho
 exact hx'.kept ht (fun q hq hm=>by
  obtain⟨cs',e'⟩:=hx'.kind q hq;obtain⟨cs2,e2⟩:=h.row.kind q (by simpa using hm);exact Lg.ai e' e2 (by decide) rfl)
theorem UF(w:World)(base:Nat)(v sx:Value)(os ps:List Ot)(h:bU w base v os)(hp:bU w base sx ps)(hlen:os.length+ps.length≤1000000)(hbase:base≤w.heap.size):
 ∃v' w',(Builtin.append_ #[31,31] 31 #[v,sx]).run Tryz.prog w= .ok v' w'∧bU w' base v' (os++ps)∧Turn v.ownBlock.toList w w':=by
 obtain⟨i,z,hi,hz,hzs,hs,hb⟩:=uN;obtain⟨us,rfl⟩:=wu h;obtain⟨ys,rfl⟩:=wu hp;have h1:=RI.1 h.row;have h2:=(RI.1 hp.row).src CY;obtain⟨v',w',e,hr,ht,hj⟩:=ng (P:=Tryz.prog) 31 31 Tryz.underlying31 i z hi hz hzs hs hb CY Jb w base v sx us ys h1 h2 (by simpa using hlen) hbase;have hr2:OR w' base v' (us.map (·.1)++ys.map (·.1)):=by
  have:=RI.2 hr;simpa using this
 refine⟨v',w',e,⟨hr2,fun x hx=>?_⟩,ht⟩;have hx':aH 47 6 recC w base x.rv x.recs:=by
  rcases List.mem_append.1 hx with hx|hx
  ·exact h.recs x hx
  ·exact hp.recs x hx
 exact hx'.kept ht (fun q hq hm=>by
  obtain⟨cs',e'⟩:=hx'.kind q hq;obtain⟨cs2,e2⟩:=h.row.kind q (by simpa using hm);exact Lg.ai e' e2 (by decide) rfl)
structure Wq where
 id:Nat
 due:Nat
 off:Nat
 least:Nat
 wait:Nat
 who:Nat
def pO(x:Wq):Tm:=((x.due:Int),(x.id:Int))
def rO(x:Wq):Wm:=((x.id:Int),⟨2,0,⟨#[97]⟩,0,x.off,3000,x.least,x.wait,0,0,false,false,x.who⟩)
def mY(q:List Wq)(id:Nat):List Wq:=q.filter (fun x=> !(x.id==id))
theorem Gh(x:Wq)(id:Nat):(((x.id:Int))==((id:Nat):Int))=(x.id==id):=by
 rw[Bool.eq_iff_iff,beq_iff_eq,beq_iff_eq];omega
theorem UG(q:List Wq)(id:Nat):dQ (q.map pO) (id:Int)=(mY q id).map pO:=by
 unfold dQ mY;rw[List.filter_map];congr 1
 apply List.filter_congr;intro x _;simp only[Function.comp_def,pO];rw[Gh]
theorem Nc(q:List Wq)(id:Nat):sF (q.map rO) (id:Int)=(mY q id).map rO:=by
 unfold sF mY;rw[List.filter_map];congr 1
 apply List.filter_congr;intro x _;simp only[Function.comp_def,rO];rw[Gh]
theorem Nh(q:List Wq)(id:Nat):dF (q.map pO) (id:Int)=(q.find? (fun x=>x.id==id)).map pO:=by
 unfold dF;rw[List.find?_map];congr 2
 funext x
 simp only[Function.comp_def,pO];rw[Gh]
theorem Gi(q:List Wq)(id:Nat):jf (q.map rO) (id:Int)=(q.find? (fun x=>x.id==id)).map rO:=by
 unfold jf;rw[List.find?_map];congr 2
 funext x
 simp only[Function.comp_def,rO];rw[Gh]
abbrev XT(sb mb came:Nat):Xt:=(.pointer (some ⟨sb,0,none⟩), .map (some mb), .int .i64 (came:Int))
structure dG(w:World)(base d sb mo b:Nat)(SF WF:List Nat)(mb came now:Nat)(vals:List (List UInt8))(q:List Wq):Prop where
 store:di w base d sb mo SF vals
 dL:aP w base b (XT sb mb came) WF now (q.map pO)
 map:jg w mb (q.map rO)
 low:base≤mb
 sw:∀k∈SF,k∉WF
 sm:mb∉SF
 wm:mb∉WF
section
variable {w w':World} {base d sb mo b:Nat} {SF WF:List Nat} {mb came now:Nat} {vals:List (List UInt8)} {q:List Wq}
theorem dG.kept{S:List Nat}(h:dG w base d sb mo b SF WF mb came now vals q)(ht:Turn S w w')(h1:∀k∈SF,k∉S)(h2:∀k∈WF,k∉S)(h3:mb∉S):dG w' base d sb mo b SF WF mb came now vals q:=
 {h with store:=h.store.kept ht h1,dL:=h.dL.kept ht h2,map:=h.map.kept ht h3}
theorem dG.still(h:dG w base d sb mo b SF WF mb came now vals q)(ht:Turn [] w w'):dG w' base d sb mo b SF WF mb came now vals q:=h.kept ht (by simp) (by simp) (by simp)
theorem dG.xs(h:dG w base d sb mo b SF WF mb came now vals q):w.cell? ⟨b,0,none⟩=some (.pointer (some ⟨sb,0,none⟩))∧w.cell? ⟨b,451,none⟩=some (.map (some mb))∧w.cell? ⟨b,452,none⟩=some (.int .i64 (came:Int))∧b<w.heap.size∧∀i,w.frozen? ⟨b,i,none⟩=false:=by
 obtain⟨ah,sv,sl,h1,h2,rfl⟩:=h.dL;exact h1.cells.xs
theorem dG.lt(h:dG w base d sb mo b SF WF mb came now vals q):(∀k∈SF,k<w.heap.size)∧(∀k∈WF,k<w.heap.size)∧mb<w.heap.size:=⟨fun k hk=>(h.store.lt k hk).2,fun k hk=>(h.dL.lt k hk).2,h.map.lt⟩
theorem dO{xt:Xt}{all:List Tm}(h:aP w base b xt WF now all){k:Nat}{cs:Array Value}{T:TypeId}{fr:Nat×Nat}(hk:w.heap[k]? =some (.cells cs T fr)) (h1:T≠64) (h2:T≠87):k∉WF:=by
 obtain⟨ah,sv,sl,hw,hi,rfl⟩:=h;intro hm;rcases ak.1 hm with rfl|hm|⟨j,hj,hm⟩
 ·obtain⟨cur2,h3, -⟩:=hw.cells.cur
  exact Lg.ai hk h3 h1 rfl
 ·exact hw.map.ne hk hm
 ·rcases hw.rows j hj with⟨e, -⟩|⟨g',cap',cur',e, -,hg', -⟩
  ·rw[e]at hm;simp[Value.ownBlock]at hm
  ·rw[e]at hm
   simp[Value.ownBlock]at hm;subst hm;exact Lg.ai hk hg' h2 rfl
end
theorem Nj{w:World}{Y:Nat}{v0 v1 v2 v3 v4 v5 v6 v7 v8 v9 v10 v11 v12 v13:Value}(h:w.heap[Y]? =some (.cells #[v0,v1,v2,v3,v4,v5,v6,v7,v8,v9,v10,v11,v12,v13] 82 (0,0))):(loadVar 35 ⟨Y,0,none⟩).run Tryz.prog w= .ok (.agg #[v0,v1,v2,v3,v4,v5,v6,v7,v8,v9,v10,v11,v12]) w:=by
 have c0:w.cell? ⟨Y,0,none⟩=some v0:=by simpa using cell_of h 0
 have c1:w.cell? ⟨Y,1,none⟩=some v1:=by simpa using cell_of h 1
 have c2:w.cell? ⟨Y,2,none⟩=some v2:=by simpa using cell_of h 2
 have c3:w.cell? ⟨Y,3,none⟩=some v3:=by simpa using cell_of h 3
 have c4:w.cell? ⟨Y,4,none⟩=some v4:=by simpa using cell_of h 4
 have c5:w.cell? ⟨Y,5,none⟩=some v5:=by simpa using cell_of h 5
 have c6:w.cell? ⟨Y,6,none⟩=some v6:=by simpa using cell_of h 6
 have c7:w.cell? ⟨Y,7,none⟩=some v7:=by simpa using cell_of h 7
 have c8:w.cell? ⟨Y,8,none⟩=some v8:=by simpa using cell_of h 8
 have c9:w.cell? ⟨Y,9,none⟩=some v9:=by simpa using cell_of h 9
 have c10:w.cell? ⟨Y,10,none⟩=some v10:=by simpa using cell_of h 10
 have c11:w.cell? ⟨Y,11,none⟩=some v11:=by simpa using cell_of h 11
 have c12:w.cell? ⟨Y,12,none⟩=some v12:=by simpa using cell_of h 12
 simp[loadVar,Vo,RD,Result.andThen,loadCells,loadCellsFrom,addr_add,c0,c1,c2,c3,c4,c5,c6,c7,c8,c9,c10,c11,c12]
def dm(vals:List (List UInt8))(x:Wq):Bool:=decide (0<x.wait)&&decide (dZ (vals.drop x.off)<x.least)
theorem mG{f:Nat}{vals:List (List UInt8)}{R:List Bt.Rec}(h:dU f vals R):dE R≤dZ (vals.drop f)∧(dE R<600→dE R=dZ (vals.drop f))∧R.length≤vals.length∧∀r∈R,∃i v,r=fU i v∧i<vals.length∧v∈vals:=by
 obtain⟨k,rfl,h2⟩:=h;rw[oW,rq];refine⟨ED _ k,h2,by rw[List.length_take,List.length_drop];omega,?_⟩;have hm:∀(i:Nat) (vs:List (List UInt8)),∀r∈nZ i vs,∃j v,r=fU j v∧i≤j∧j<i+vs.length∧v∈vs:=by
  intro i vs;induction vs generalizing i with
  |nil=>intro r hr;simp[nZ]at hr
  |cons v t ih=>
   intro r hr;rcases List.mem_cons.1 hr with rfl|hr
   ·exact⟨i,v,rfl,Nat.le_refl _,by simp,by simp⟩
   ·obtain⟨j,u,e,h1,h2,h3⟩:=ih (i+1) r hr
    exact⟨j,u,e,by omega,by simp;omega,by simp[h3]⟩
 intro r hr;obtain⟨j,v,e,h1,h2,h3⟩:=hm _ _ r hr;rw[List.length_take,List.length_drop]at h2;exact⟨j,v,e,by omega,List.mem_of_mem_drop (List.mem_of_mem_take h3)⟩
theorem Gj{vals:List (List UInt8)}{x:Wq}{R:List Bt.Rec}(h:dU x.off vals R)(hl:x.least≤600):(decide ((0:Int)<(x.wait:Int))&&decide ((dE R:Int)<(x.least:Int)))=dm vals x:=by
 obtain⟨h1,h2, -, -⟩:=mG h;unfold dm;have e1:decide ((0:Int)<(x.wait:Int))=decide (0<x.wait):=by rw[decide_eq_decide];omega
 have e2:decide ((dE R:Int)<(x.least:Int))=decide (dZ (vals.drop x.off)<x.least):=by
  rw[decide_eq_decide];constructor
  ·intro h
   rw[←h2 (by omega)];omega
  ·intro h
   omega
 rw[e1,e2]
theorem o7{f:Nat}{vals:List (List UInt8)}{R:List Bt.Rec}(h:dU f vals R)(h1:vals.length≤60)(h2:∀x∈vals,x.length≤500):(∀r∈R,jD r)∧dE R≤1000000∧R.length≤1000:=by
 obtain⟨a1, -,a3,a4⟩:=mG h;refine⟨fun r hr=>?_,?_,by omega⟩
 ·obtain⟨i,v,rfl,hi,hv⟩:=a4 r hr
  have:=h2 v hv;exact⟨by simp only[fU];omega,by simp only[fU];omega,by simp only[fU];omega,by simp only[fU];omega,by simp only[fU,List.length_nil];omega,by simp only[fU];omega⟩
 ·have h3:=KG (vs:=vals.drop f) (fun v hv=>h2 v (List.mem_of_mem_drop hv))
  rw[List.length_drop]at h3;have h4:500*(vals.length-f)≤500*60:=Nat.mul_le_mul_left _ (by omega);omega
theorem Nk(x:Wq):O0 (rO x).2= .agg #[.int .i64 2, .int .i64 0, .string ⟨#[97]⟩, .int .i64 0, .int .i64 (x.off:Int), .int .i64 3000, .int .i64 (x.least:Int), .int .i64 (x.wait:Int), .int .i64 0, .int .i64 0, .bool false, .bool false, .slice none 0 0, .int .i64 (x.who:Int)]:=rfl
section
variable {w w':World} {base d sb mo b:Nat} {SF WF:List Nat} {mb came now:Nat} {vals:List (List UInt8)} {q:List Wq}
set_option maxHeartbeats 8000000 in
theorem OJ(h:dG w base d sb mo b SF WF mb came now vals q)(x:Wq)(hx:x.off≤vals.length)(hl:x.least≤600)(X1 X2 X3 base0:Nat)(ov:Value)(outs:List Ot)
 (h1:w.heap[X1]? =some (.cells #[.string ⟨#[97]⟩] 9 (0,0))) (h2:w.heap[X2]? =some (.cells #[.pointer (some ⟨b,0,none⟩)] 23 (0,0))) (h3:w.heap[X3]? =some (.cells #[ov] 31 (0,0))) (hO:bU w base0 ov outs) (hol:outs.length≤1000) (hb0:base0≤w.heap.size):
 Calls Tryz.prog 38 #[.agg #[.int .i64 2, .int .i64 0, .string ⟨#[97]⟩, .int .i64 0, .int .i64 (x.off:Int), .int .i64 3000, .int .i64 (x.least:Int), .int .i64 (x.wait:Int), .int .i64 0, .int .i64 0, .bool false, .bool false, .slice none 0 0, .int .i64 (x.who:Int)], .pointer (some ⟨X1,0,none⟩), .pointer (some ⟨X2,0,none⟩), .pointer (some ⟨X3,0,none⟩)] w fun e w'=>
  e= .returned (.bool (!dm vals x))∧(dm vals x=true→Turn [] w w')∧(dm vals x=false→∃ov' o,w'.heap[X3]? =some (.cells #[ov'] 31 (0,0))∧bU w' base0 ov' (outs++[o])∧o.dst=(x.who:Int)∧o.err=0∧dU x.off vals o.recs∧Turn (X3::ov.ownBlock.toList) w w'∧(∀k∈ov'.ownBlock,k∈ov.ownBlock∨w.heap.size≤k)):=by
 obtain⟨va,vc,MN, -, -⟩:=hO.row.form;subst MN;obtain⟨hb, -, -,hbz, -⟩:=h.xs;have hst:=h.store;obtain⟨hv1,hv2⟩:=hst.few;have hans:=fun Z (hZ:Turn [] w Z)=>lN (hst.still hZ) b ((World.cell?_of_block (w:=w) (hZ.block _ hbz (by simp))).trans hb) (Nat.lt_of_lt_of_le hbz hZ.size) x.off hx 3000 (.inl rfl) 0 x.least x.wait 0 0 false false none 0 0
 have Aa:=hide hans;have H1:=hide h1;have H2:=hide h2;have H3:=hide h3;have HO:=hide hO;obtain⟨w0,hw0⟩:∃w0,w0=w.alloc (.cells #[.int .i64 2, .int .i64 0, .string ⟨#[97]⟩, .int .i64 0, .int .i64 (x.off:Int), .int .i64 3000, .int .i64 (x.least:Int), .int .i64 (x.wait:Int), .int .i64 0, .int .i64 0, .bool false, .bool false, .slice none 0 0, .int .i64 (x.who:Int)] 82):=⟨_,rfl⟩;have ht0:Turn [] w w0:=by rw[hw0];exact(Turn.refl _ _).alloc _
 have hx0:w0.heap[w.heap.size]? =some (.cells #[.int .i64 2, .int .i64 0, .string ⟨#[97]⟩, .int .i64 0, .int .i64 (x.off:Int), .int .i64 3000, .int .i64 (x.least:Int), .int .i64 (x.wait:Int), .int .i64 0, .int .i64 0, .bool false, .bool false, .slice none 0 0, .int .i64 (x.who:Int)] 82 (0,0)):=by rw[hw0];exact ae w _
 have HW0:=hide hw0;have HT0:=hide ht0;have HX0:=hide hx0;have g1:w0.cell? ⟨X1,0,none⟩=some (.string ⟨#[97]⟩):=by rw[cell_of (ht0.heap h1 (by simp))];rfl
 have g2:w0.cell? ⟨X2,0,none⟩=some (.pointer (some ⟨b,0,none⟩)):=by rw[cell_of (ht0.heap h2 (by simp))];rfl
 have q2:w0.cell? ⟨w.heap.size,2,none⟩=some (.string ⟨#[97]⟩):=by rw[cell_of hx0];rfl
 have z1:=lt_of_heap (ht0.heap h1 (by simp));have z2:=lt_of_heap (ht0.heap h2 (by simp));have z0:=lt_of_heap hx0;clear h hb hst hans h1 h2 h3 hO hw0 ht0 hx0;go_enter Tryz.func38,Tryz.ntmps38
 go_upto_region 1 with fail
 rw[←HW0.out];go_wp2_with (refine az rfl _ _ rfl ⟨w.heap.size,0,none⟩ rfl _ (Nj HX0.out) ?_)
 refine(Aa.out _ HT0.out).mono ?_;rintro e w2 ⟨rv,R,rfl,hrow,hfe,ht2⟩;obtain⟨oa,oc,hoe, -, -⟩:=hrow.form;subst hoe;have hfs:=fC (cs:= #[.int .i64 2, .int .i64 0, .int .i64 0, .int .i64 0, .int .i64 0, .int .i64 (vals.length:Int), .bool false, .slice oa R.length oc, .slice none 0 0]) (ae w2 (.cells fQ 41));obtain⟨w3,hw3⟩:∃w3,w3=(w2.alloc (.cells fQ 41)).setRow w2.heap.size #[.int .i64 2, .int .i64 0, .int .i64 0, .int .i64 0, .int .i64 0, .int .i64 (vals.length:Int), .bool false, .slice oa R.length oc, .slice none 0 0]:=⟨_,rfl⟩;rw[←hw3]at hfs;have hta3:Turn [] w2 w3:=((Turn.refl [] w2).alloc (.cells fQ 41)).trans hfs.2 (fun q hq=> .inr (by obtain rfl:=List.mem_singleton.1 hq;exact Nat.le_refl _));have ht03:Turn [] w0 w3:=ht2.same hta3;have HX3':=hide (ht03.heap HX0.out (by simp));have HA3:=hide hfs.1;have HT3:=hide (HT0.out.same ht03);have HR3:=hide (hrow.still hta3);have KY:=hide hfe;have hw3':=hw3;unfold fQ at hw3';have HW3:=hide hw3';obtain⟨ok1,ok2,ok3⟩:=o7 hfe hv1 hv2;have hwi:=CX w3 w0.heap.size (x.least:Int) (x.wait:Int) (.int .i64 0) (.string ⟨#[97]⟩) (.int .i64 0) (.int .i64 (x.off:Int)) (.int .i64 3000) (.int .i64 0) (.int .i64 0) (.bool false) (.bool false) (.slice none 0 0) (.int .i64 2) (.int .i64 0) (.int .i64 0) (.int .i64 0) (.int .i64 (vals.length:Int)) (.bool false) (.slice oa R.length oc) (.slice none 0 0) R HR3.out ok1 ok2 ok3;rw[Gj hfe hl]at hwi;have Nl:=hide hwi;clear hrow hfe ht2 hta3 ht03 hfs hw3 hw3' hwi Aa ok1 ok2 ok3 g1 g2 q2 z0 z1 z2;go_wp2_with (first|(refine wpList_store_row rfl 41 _ _ rfl w2.heap.size #[.int .i64 2, .int .i64 0, .int .i64 0, .int .i64 0, .int .i64 0, .int .i64 (vals.length:Int), .bool false, .slice oa R.length oc, .slice none 0 0] rfl rfl _ _ (ae w2 (.cells fQ 41)) (by kernel_rfl) rfl (by kernel_rfl) ?_;rw[←HW3.out])|(refine az rfl 35 _ rfl ⟨w.heap.size,0,none⟩ rfl _ (Nj HX3'.out) ?_)|(refine az rfl 41 _ rfl ⟨w2.heap.size,0,none⟩ rfl _ (iT HA3.out) ?_))
 refine Nl.out.mono ?_;rintro e w4 ⟨rfl,ht4⟩;have HT4:=hide (HT3.out.same ht4);have hA4:=ht4.heap HA3.out (by simp);have hX4:=ht4.heap HX3'.out (by simp);have hR4:=HR3.out.still ht4;have HA4:=hide hA4;have HX4:=hide hX4;have HR4:=hide hR4;clear ht4 hA4 hX4 hR4 Nl;cases hs:dm vals x
 ·have h34:=HT4.out.heap H3.out (by simp)
  have g3:w4.cell? ⟨X3,0,none⟩=some (.slice va outs.length vc):=by rw[cell_of h34];rfl
  have z3:=lt_of_heap h34;have q13:w4.cell? ⟨w.heap.size,13,none⟩=some (.int .i64 (x.who:Int)):=by rw[cell_of HX4.out];rfl
  have zx:=lt_of_heap HX4.out;obtain⟨o,ho⟩:∃o:Ot,o=⟨(x.who:Int),2,0,0,0,0,(vals.length:Int),false, .slice oa R.length oc,R⟩:=⟨_,rfl⟩;have hk5:=ae w4 (.cells (vZ o).toArray 43);have ht5:Turn [] w4 (w4.alloc (.cells (vZ o).toArray 43)):=(Turn.refl [] w4).alloc _;have hO5:=(HO.out.still HT4.out).still ht5;have hs4:=HT4.out.size;have hs5:=ht5.size;have hR5:aH 47 6 recC (w4.alloc (.cells (vZ o).toArray 43)) base0 o.rv o.recs:=by rw[ho];exact(HR4.out.still (by rw[←ho];exact ht5)).aZ (by have:=HT0.out.size;omega)
  obtain⟨v7,w7,hr7,hO7,ht7,hown7⟩:=RJ _ base0 (.slice va outs.length vc) outs o w4.heap.size hO5 hR5 hk5 (by omega) (by omega);have h37:=ht7.heap (ht5.heap h34 (by simp)) (fun hm=>by
   obtain⟨cs',e'⟩:=hO5.row.kind X3 (by simpa using hm);exact Lg.ai (ht5.heap h34 (by simp)) e' (by decide) rfl)
  have g7:w7.cell? ⟨X3,0,none⟩=some (.slice va outs.length vc):=by rw[cell_of h37];rfl
  have f7:=af h37 0;have z7:=lt_of_heap h37;obtain⟨va7,vc7,hvf7, -, -⟩:=hO7.row.form;subst hvf7;have h38:=heap_set h37 0 (.slice va7 (outs++[o]).length vc7);have ht8:Turn [X3] w7 (w7.setCell ⟨X3,0,none⟩ (.slice va7 (outs++[o]).length vc7)):=(Turn.refl _ _).setCell (.inl (by simp)) _;have hO8:=hO7.kept ht8 (fun k cs fr hk hm=>by obtain rfl:=List.mem_singleton.1 hm;exact Lg.ai hk h37 (by decide) rfl) (fun k cs fr hk hm=>by obtain rfl:=List.mem_singleton.1 hm;exact Lg.ai hk h37 (by decide) rfl);have hT8:Turn (X3::(Value.slice va outs.length vc).ownBlock.toList) w (w7.setCell ⟨X3,0,none⟩ (.slice va7 (outs++[o]).length vc7)):=
   ((((HT4.out.same ht5).mono (T:=X3::(Value.slice va outs.length vc).ownBlock.toList) (by simp)).trans ht7 (fun k hk=> .inl (List.mem_cons_of_mem _ hk))).trans ht8 (fun k hk=> .inl (by obtain rfl:=List.mem_singleton.1 hk;simp)))
  have hlo:(outs++[o]).length=outs.length+1:=by simp
  rw[hlo]at hr7 hO8 hT8 h38 hown7;rw[ho]at hr7;simp only[vZ]at hr7;have HR7:=hide hr7;have HO8:=hide hO8;have HT8:=hide hT8;have H38:=hide h38;have O1:=hide ho;have HOWN:Hid (∀k∈(Value.slice va7 (outs.length+1) vc7).ownBlock,k∈(Value.slice va outs.length vc).ownBlock∨w.heap.size≤k):=fun k hk=>(hown7 k hk).imp_right (fun h=>by omega)
  have HS:=hide hs;clear hk5 ht5 hO5 hs4 hs5 hR5 hr7 hO7 ht7 hown7 h37 h38 ht8 hO8 hT8 ho h34;go_wp2_with (first|(refine az rfl 41 _ rfl ⟨w2.heap.size,0,none⟩ rfl _ (iT HA4.out) ?_)|(at_builtin;go_must (refine Sn.dY rfl rfl rfl rfl HR7.out ?_)))
  go_ret
  refine⟨by rw[HS.out];rfl,fun h=>absurd (HS.out.symm.trans h) (by simp),fun _=>⟨_,o,?_,HO8.out,by rw[O1.out],by rw[O1.out],by rw[O1.out];exact KY.out,HT8.out,HOWN.out⟩⟩;rw[H38.out];rfl
 ·go_wp2
  go_ret
  exact⟨by rw[hs];rfl,fun _=>HT4.out,fun h=>absurd (hs.symm.trans h) (by simp)⟩
end
end Br
end
end Go.Proofs.YtmjpdhpmjmgmaaaGreatDoor
