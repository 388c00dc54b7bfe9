/- Lemmas of the claim, part g of 14. -/
import Derived.Test.YtmjpdhpmjmgmaaaGreatDoorMf
import Derived.Test.YtmjpdhpmjmgmaaaGreatDoorProg
import Derived.Test.YtmjpdhpmjmgmaaaGreatDoorMa
import Derived.Test.YtmjpdhpmjmgmaaaGreatDoorMb
import Derived.Lib.SliceRun
import Derived.Test.YtmjpdhpmjmgmaaaGreatDoorMd
import Derived.Test.YtmjpdhpmjmgmaaaGreatDoorMe
namespace Go.Proofs.YtmjpdhpmjmgmaaaGreatDoor
set_option linter.unusedSimpArgs false
set_option linter.unusedVariables false
section
open Go.RowKit Go.Maps
set_option maxRecDepth 100000
attribute [local go_sem] Oper.semAt_some
open Dk (DA ay Parts fE aW dI)
open Sg (bu bJ kL Both Came aA flat)
namespace Lg
def vG(A:DA)(dir:ByteArray)(v:LV)(ss0:List (Nat×List Bt.aX))(m:Nat×List Bt.aX)(x:Bt.aX):Int×DA×LV×List (Nat×List Bt.aX):=
 ((A.add (Sn.nameB dir m.1).data.toList (Bt.aj x)).1,(A.add (Sn.nameB dir m.1).data.toList (Bt.aj x)).2,v,ss0++[(m.1,if (A.add (Sn.nameB dir m.1).data.toList (Bt.aj x)).1=0 then m.2++[x]else m.2)])
def nV(A:DA)(dir:ByteArray)(v:LV)(n:Nat)(ss0:List (Nat×List Bt.aX))(m:Nat×List Bt.aX)(x:Bt.aX):Int×DA×LV×List (Nat×List Bt.aX):=
 if Bt.aO x≠0 then(Bt.aO x,A,v,ss0++[m])
 else if 0<(flat m.2).length∧v.most<((flat m.2).length+(Bt.aj x).length:Nat)then
  (if (jF A dir v n m (ss0++[m])).1≠0 then jF A dir v n m (ss0++[m])
   else vG (jF A dir v n m (ss0++[m])).2.1 dir (jF A dir v n m (ss0++[m])).2.2.1 (ss0++[m]) (n,[]) x)
 else vG A dir v ss0 m x
theorem QE{A:DA}{dir:ByteArray}{v:LV}{n:Nat}{m:Nat×List Bt.aX}{ss:List (Nat×List Bt.aX)}(h:(jF A dir v n m ss).1=0):(jF A dir v n m ss).2.2.2=ss++[(n,[])]:=by
 unfold jF at h⊢;split at h
 ·rename_i h0
  rw[if_pos h0];unfold jW at h⊢;simp only at h⊢;rw[if_pos h]
 ·rename_i h0
  exact absurd h h0
theorem Fz(w:World)(base d:Nat)(F:List Nat)(A:DA)(lb:Nat)(gv:Value)(dir:ByteArray)(v:LV)(ms0:List SM)(m:SM)(h:aI w base d F A lb gv dir v (ms0++[m]))(hmn:m.n≤1099511627776)(mr:dir.size≤1000)(hfl:(flat m.xs).length≤1048576)
 (va:Value)(x:Bt.aX)(hx:wS w (.agg #[.int .i64 x.base, .int .i64 x.fin,va]) x)(hxe:Bt.aO x=0)(hxb:aA m.n m.xs≤x.base)(hxs:∀k∈va.ownBlock,k<w.heap.size→k∉aS F lb gv (ms0++[m])):
 Calls Tryz.prog 188 #[.pointer (some ⟨m.sb,0,none⟩), .agg #[.int .i64 x.base, .int .i64 x.fin,va]] w fun e w'=>e= .returned (aW (vG A dir v (ms0.map SM.abs) m.abs x).1)∧
  pJ w w' base d (aS F lb gv (ms0++[m])) (vG A dir v (ms0.map SM.abs) m.abs x).2.1 lb dir v (vG A dir v (ms0.map SM.abs) m.abs x).2.2.2:=by
 have hlen:=Sg.gU m.xs;refine(Sg.add_any w base d F A m.sb m.sv (Sn.nameB dir m.n) m.n _ (h.both (by simp)) (Sg.lT hmn mr) (by rw[Sg.qU];omega) (by rw[Sg.qV];omega) va x hx (fun k hk hlt=>⟨fun hm=>hxs k hk hlt (aC.2 (.inr (.inr (.inr hm)))),fun hm=>hxs k hk hlt (aC.2 (.inr (.inr (.inl ⟨m,by simp,hm⟩))))⟩)).mono ?_;rintro e w' (⟨h1, -, -⟩|⟨-,h1, -, -⟩|⟨-, -,rfl,hc⟩)
 ·exact absurd hxe h1
 ·rw[Sg.Ei]at h1;omega
 ·refine⟨rfl,?_⟩
  unfold vG SM.abs;simp only;unfold Sg.VX at hc;rw[Sg.P8]at hc;have hm0:ms0.map (fun m=>(m.n,m.xs))=ms0.map SM.abs:=rfl;split
  ·rename_i h0
   rw[if_pos h0]at hc;exact h.came hc
  ·rename_i h0
   rw[if_neg h0]at hc;exact h.came hc
set_option maxHeartbeats 4000000 in
theorem QF(w:World)(base d:Nat)(F:List Nat)(A:DA)(lb:Nat)(gv:Value)(dir:ByteArray)(v:LV)(ms0:List SM)(m:SM)(h:aI w base d F A lb gv dir v (ms0++[m]))(hl:ms0.length≤900000)(hmn:m.n≤1099511627776)(mr:dir.size≤1000)(hfl:(flat m.xs).length≤1048576)(hmo:v.most≤1048576∧0≤v.most)
 (n:Nat)(hn:n≤1099511627776)(hnx:aA m.n m.xs=n)(hv:∀Z,Turn (aS F lb gv (ms0++[m])) w Z→Sn.dA Z)
 (va:Option Addr)(vn vc:Nat)(x:Bt.aX)(hx:wS w (.agg #[.int .i64 x.base, .int .i64 x.fin, .slice va vn vc]) x)(hxb:x.base=n)(hxs:∀k∈(Value.slice va vn vc).ownBlock,k<w.heap.size∧k∉aS F lb gv (ms0++[m])):
 Calls Tryz.prog 144 #[.pointer (some ⟨lb,0,none⟩), .agg #[.int .i64 x.base, .int .i64 x.fin, .slice va vn vc]] w fun e w'=>e= .returned (aW (nV A dir v n (ms0.map SM.abs) m.abs x).1)∧
  pJ w w' base d (aS F lb gv (ms0++[m])) (nV A dir v n (ms0.map SM.abs) m.abs x).2.1 lb dir (nV A dir v n (ms0.map SM.abs) m.abs x).2.2.1 (nV A dir v n (ms0.map SM.abs) m.abs x).2.2.2:=by
 have hlen:=Sg.gU m.xs;have H:=hide h;have HV:=hide hv;have MG:=hide hxs;have tK:=hide hnx;have HXB:=hide hxb;have Gs:=hide hx;have hlb:=lt_of_heap h.box;obtain⟨sv0,hsv0,hr,b1,b2,f1,f2⟩:=hx;simp only[Value.agg.injEq,Array.mk.injEq,List.cons.injEq,Value.int.injEq,true_and,and_true]at hsv0;subst hsv0;have vF:=hide hr;obtain⟨z,hz⟩:∃z,z=(flat m.xs).length:=⟨_,rfl⟩;have hzl:z≤1048576:=by omega
 have HZ:=hide hz;clear h hnx hv hxs hxb hr hz;go_enter Tryz.func144,Tryz.ntmps144
 go_wp2_with fail
 obtain⟨w0,hw0⟩:∃w0,w0=w.alloc (.cells #[.int .i64 x.base, .int .i64 x.fin, .slice va vn vc] 215):=⟨_,rfl⟩;have ht0:Turn [] w w0:=by rw[hw0];exact(Turn.refl [] w).alloc _
 have hX0:w0.heap[w.heap.size]? =some (.cells #[.int .i64 x.base, .int .i64 x.fin, .slice va vn vc] 215 (0,0)):=by rw[hw0];exact ae w _
 have hs0:w0.heap.size=w.heap.size+1:=by rw[hw0,World.size_alloc]
 rw[←hw0];refine(Fa w0 _ x ⟨_,rfl,vF.out.still ht0,b1,b2,f1,f2⟩).mono ?_;rintro e wa ⟨vb,rfl,hta,Va⟩;have Fh:=hide (ht0.same hta);have Yz:=hide (hta.heap hX0 (by simp));have Vb:=hide Va;have YA:=hide (vF.out.still (ht0.same hta));clear hw0 ht0 hX0 hs0 hta Va;by_cases he:Bt.aO x=0
 ·have U3:As.pG (Bt.aO x)= .nilIface:=by rw[he];rfl
  rw[U3];have hrow:=Vb.out;unfold encR at hrow;rw[if_pos he]at hrow;obtain⟨ba,bc,hvb,NY,JS⟩:=hrow.form;subst hvb;have hel:(Bt.aj x).length≤6000:=by have:=(Bt.eY he).2;rw[Bt.gK];exact this
  have Gt:=hide he;clear he U3 hrow Vb NY JS;go_wp2_with fail
  refine(last_any _ base d F A lb gv dir v ms0 m (H.out.still Fh.out) (by omega)).mono ?_;rintro e wb ⟨rfl,htb⟩;have HTB:=hide (Fh.out.same htb);have HXb:=hide (htb.heap Yz.out (by simp));have YB:=hide (YA.out.still htb);clear htb;go_wp2_with fail
  refine(Sg.size_any _ base d m.sb m.sv _ m.n _ ((H.out.lL m (by simp)).still HTB.out) (by rw[Sg.qU];omega) (by rw[Sg.qV];omega)).mono ?_;rintro e wc ⟨rfl,htc⟩;rw[Sg.qV,←HZ.out];have Wp:=hide (HTB.out.same htc);have HXC:=hide (htc.heap HXb.out (by simp));have QG:=hide (YB.out.still htc);have Wu:=hide (H.out.still (HTB.out.same htc));have c2:=Wu.out.c2;have hlc:=lt_of_heap Wu.out.box;clear htc;by_cases hz0:0<(z:Int)
  ·by_cases hgt:v.most<(z:Int)+(Bt.aj x).length
   ·go_wp2_with fail
    have hro:=QA wc base d F A lb gv dir v ms0 m Wu.out hl (by omega) hmn mr n hn tK.out (fun Z hZ=>HV.out Z ((Wp.out.mono (T:=aS F lb gv (ms0++[m])) (by simp)).same hZ));obtain⟨ss,hss⟩:∃ss,ss=(ms0++[m]).map SM.abs:=⟨_,rfl⟩;rw[←hss]at hro;have hss':ss=ms0.map SM.abs++[m.abs]:=by rw[hss,List.map_append,List.map_singleton]
    have Wv:=hide hss';have YC:=hide hro;have hlt:∀k∈aS F lb gv (ms0++[m]),k<w.heap.size:=fun k hk=>(H.out.lt k hk).2
    have E5:=hide hlt;clear hro hss hss' hlt;go_wp2_with fail
    refine YC.out.mono ?_;rintro e wd ⟨rfl,hd⟩;obtain⟨c,hc⟩:∃c,c=(jF A dir v n m.abs ss).1:=⟨_,rfl⟩;rw[←hc];have HC:=hide hc;by_cases hc0:c=0
    ·have hr0:aW c= .nilIface:=by rw[hc0];rfl
     rw[hr0];have hok:=QE (A:=A) (dir:=dir) (v:=v) (n:=n) (m:=m.abs) (ss:=ss) (by rw[←hc];exact hc0);obtain⟨A2,hA2⟩:∃A2,A2=(jF A dir v n m.abs ss).2.1:=⟨_,rfl⟩;obtain⟨v2,hv2⟩:∃v2,v2=(jF A dir v n m.abs ss).2.2.1:=⟨_,rfl⟩;rw[hok,←hA2,←hv2]at hd;obtain⟨F2,gv2,ms2,hl2,hm2,ht2,hf2⟩:=hd;obtain⟨ms20,m2,rfl,hm20,qB⟩:=jw hm2;have hmn2:m2.n=n:=congrArg Prod.fst qB;have hmx2:m2.xs=[]:=congrArg Prod.snd qB;have hlen2:ms20.length=ms0.length+1:=by
      rw[←List.length_map (f:=SM.abs),hm20,Wv.out,List.length_append,List.length_map,List.length_singleton]
     have hXd:=ht2.heap HXC.out (fun hm=>by have:=E5.out _ hm;omega);have bP:=QG.out.kept ht2 (fun k hk _=>(MG.out k hk).2);have HA2:=hide hA2;have HV2:=hide hv2;have HC0:=hide hc0;have HL2:=hide hl2;have HMS2:=hide hm20;have Wx:=hide hmn2;have Wy:=hide hmx2;have YD:=hide ht2;have HF2:=hide hf2;have HXD:=hide hXd;have YE:=hide bP;clear hc hc0 hr0 hok hA2 hv2 hl2 hm2 hm20 qB hmn2 hmx2 ht2 hf2 hXd bP YC c2 hlc;go_wp2_with fail
     refine aB 3 (Turn []) (by kernel_rfl) (by kernel_rfl) (by kernel_rfl) (by kernel_rfl) (by kernel_rfl) (Nat.le_of_ble_eq_true rfl) rfl (Turn.refl _) (fun _ _ _ h k=>h.same k) ?_;apply Lo.ag 1 rfl rfl [] (by kernel_rfl) (Turn.refl _);apply Exists.intro;apply And.intro
     ·intro u w1 hR hF
      clear hF;refine⟨rfl,fun a ha K hK=>?_⟩;have e0:=ha 0;conv at e0=>rhs;whnf
      clear ha;go_simp
      refine hK _ ?_;rfl
     refine Lo.run 2 rfl rfl [0] (fun y _=>y= .pointer (some ⟨m2.sb,0,none⟩)) (by kernel_rfl) (fun x w w' h hR=>?_) (fun _ _ h=>h) (fun u w1 hR hF=>?_) ?_
     ·exact h
     ·obtain⟨h0, -⟩:=hF
      refine⟨rfl,fun a ha K hK=>?_⟩;have e38:=(ha 38).trans h0;clear ha h0;go_simp
      refine(last_any _ base d F2 A2 lb gv2 dir v2 ms20 m2 (HL2.out.still (((Turn.refl [] _).drew).same hR)) (by omega)).mono ?_;rintro e w8 ⟨rfl,ht8⟩;exact hK _ _ rfl ht8
     refine Lo.aJ 3 rfl rfl [] (.agg #[.int .i64 x.base, .int .i64 x.fin, .slice va vn vc]) (by kernel_rfl) (fun u w1 hR hF=>?_) (Turn.refl _) ?_
     ·clear hF
      refine⟨rfl,fun a ha K hK=>?_⟩;have e3:=ha 3;conv at e3=>rhs;whnf
      clear ha;have hb:=(((Turn.refl [] _).drew).same hR).heap HXD.out (by simp);have k0:w1.cell? ⟨w.heap.size,0,none⟩=some (.int .i64 x.base):=by rw[cell_of hb];rfl
      have k1:w1.cell? ⟨w.heap.size,1,none⟩=some (.int .i64 x.fin):=by rw[cell_of hb];rfl
      have k2:w1.cell? ⟨w.heap.size,2,none⟩=some (.slice va vn vc):=by rw[cell_of hb];rfl
      have z1:=lt_of_heap hb;go_simp
      refine hK _ ?_;rfl
     refine Lo.done [1,2] (fun u w1 bP hSd hF=>?_);clear hSd;obtain⟨f1,f2, -⟩:=hF;have d1:=(show(fun y _=>y= .pointer (some ⟨m2.sb,0,none⟩)) (u 1) w1 from f1);dsimp only at d1;have d2:u 2=_:=f2;clear f1 f2;simp only[List.take_succ_cons,List.take_zero,List.drop_succ_cons,List.drop_zero,ax,Act.put,List.setIfInBounds_toArray,List.set_cons_succ,List.set_cons_zero,Nat.zero_add,Nat.reduceAdd,d2];rw[d1];have QH:=hide (((Turn.refl [] wd).drew).same bP);clear d1 d2 bP;go_wp2_with fail
     refine(Fz _ base d F2 A2 lb gv2 dir v2 ms20 m2 (HL2.out.still QH.out) (by rw[Wx.out];exact hn) mr (by rw[Wy.out];simp[flat]) (.slice va vn vc) x ⟨_,rfl,YE.out.still QH.out,b1,b2,f1,f2⟩ Gt.out (by rw[Wx.out,Wy.out,HXB.out];exact Int.le_refl _) (fun k hk hlt hm=>by
      rcases HF2.out k hm with h|h
      ·exact(MG.out k hk).2 h
      ·have:=(MG.out k hk).1;have:=Wp.out.size;omega)).mono ?_
     rintro e w9 ⟨rfl,hd⟩;obtain⟨r,hr⟩:∃r,r=aW (vG A2 dir v2 (ms20.map SM.abs) m2.abs x).1:=⟨_,rfl⟩;rw[←hr];have HR:=hide hr;have HD:=hide hd;clear hr hd;go_wp2
     go_ret
     unfold nV;rw[if_neg (by rw[Gt.out];simp),if_pos (by simp only[SM.abs];rw[←HZ.out];constructor<;>omega),←Wv.out,if_neg (by rw[←HC.out,HC0.out];simp)];have hm2':m2.abs=(n,[]):=by unfold SM.abs;rw[Wx.out,Wy.out]
     rw[←HA2.out,←HV2.out,←HMS2.out,←hm2'];rw[←HR.out];exact⟨rfl,(HD.out.before QH.out).then ((Wp.out.mono (T:=aS F lb gv (ms0++[m])) (by simp)).same YD.out) (fun k hk=>(HF2.out k hk).imp_right (fun h=>by have:=Wp.out.size;omega))⟩
    ·have hr0:aW c= .iface 38 (.int .i64 c):=by unfold aW;rw[if_neg hc0];rfl
     rw[hr0];have HC0:=hide hc0;have HR0:=hide hr0;have HD:=hide hd;clear hc hc0 hr0 hd YC;go_wp2
     go_ret
     unfold nV;rw[if_neg (by rw[Gt.out];simp),if_pos (by simp only[SM.abs];rw[←HZ.out];constructor<;>omega),←Wv.out,if_pos (by rw[←HC.out];exact HC0.out),←HC.out,HR0.out];exact⟨rfl,HD.out.before Wp.out⟩
   ·go_wp2_with fail
    refine aB 3 (Turn []) (by kernel_rfl) (by kernel_rfl) (by kernel_rfl) (by kernel_rfl) (by kernel_rfl) (Nat.le_of_ble_eq_true rfl) rfl (Turn.refl _) (fun _ _ _ h k=>h.same k) ?_;apply Lo.ag 1 rfl rfl [] (by kernel_rfl) (Turn.refl _);apply Exists.intro;apply And.intro
    ·intro u w1 hR hF
     clear hF;refine⟨rfl,fun a ha K hK=>?_⟩;have e0:=ha 0;conv at e0=>rhs;whnf
     clear ha;go_simp
     refine hK _ ?_;rfl
    refine Lo.run 2 rfl rfl [0] (fun y _=>y= .pointer (some ⟨m.sb,0,none⟩)) (by kernel_rfl) (fun x w w' h hR=>?_) (fun _ _ h=>h) (fun u w1 hR hF=>?_) ?_
    ·exact h
    ·obtain⟨h0, -⟩:=hF
     refine⟨rfl,fun a ha K hK=>?_⟩;have e38:=(ha 38).trans h0;clear ha h0;go_simp
     refine(last_any _ base d F A lb gv dir v ms0 m (Wu.out.still (((Turn.refl [] _).drew).same hR)) (by omega)).mono ?_;rintro e w8 ⟨rfl,ht8⟩;exact hK _ _ rfl ht8
    refine Lo.aJ 3 rfl rfl [] (.agg #[.int .i64 x.base, .int .i64 x.fin, .slice va vn vc]) (by kernel_rfl) (fun u w1 hR hF=>?_) (Turn.refl _) ?_
    ·clear hF
     refine⟨rfl,fun a ha K hK=>?_⟩;have e3:=ha 3;conv at e3=>rhs;whnf
     clear ha;have hb:=(((Turn.refl [] _).drew).same hR).heap HXC.out (by simp);have k0:w1.cell? ⟨w.heap.size,0,none⟩=some (.int .i64 x.base):=by rw[cell_of hb];rfl
     have k1:w1.cell? ⟨w.heap.size,1,none⟩=some (.int .i64 x.fin):=by rw[cell_of hb];rfl
     have k2:w1.cell? ⟨w.heap.size,2,none⟩=some (.slice va vn vc):=by rw[cell_of hb];rfl
     have z1:=lt_of_heap hb;go_simp
     refine hK _ ?_;rfl
    refine Lo.done [1,2] (fun u w1 bP hSd hF=>?_);clear hSd;obtain⟨f1,f2, -⟩:=hF;have d1:=(show(fun y _=>y= .pointer (some ⟨m.sb,0,none⟩)) (u 1) w1 from f1);dsimp only at d1;have d2:u 2=_:=f2;clear f1 f2;simp only[List.take_succ_cons,List.take_zero,List.drop_succ_cons,List.drop_zero,ax,Act.put,List.setIfInBounds_toArray,List.set_cons_succ,List.set_cons_zero,Nat.zero_add,Nat.reduceAdd,d2];rw[d1];have QH:=hide (((Turn.refl [] wc).drew).same bP);clear d1 d2 bP;go_wp2_with fail
    refine(Fz _ base d F A lb gv dir v ms0 m (Wu.out.still QH.out) hmn mr hfl (.slice va vn vc) x ⟨_,rfl,QG.out.still QH.out,b1,b2,f1,f2⟩ Gt.out (by rw[tK.out,HXB.out];exact Int.le_refl _) (fun k hk hlt hm=>(MG.out k hk).2 hm)).mono ?_;rintro e w9 ⟨rfl,hd⟩;obtain⟨r,hr⟩:∃r,r=aW (vG A dir v (ms0.map SM.abs) m.abs x).1:=⟨_,rfl⟩;rw[←hr];have HR:=hide hr;have HD:=hide hd;clear hr hd;go_wp2
    go_ret
    unfold nV;rw[if_neg (by rw[Gt.out];simp),if_neg (by simp only[SM.abs];rw[←HZ.out];omega)];rw[←HR.out];exact⟨rfl,HD.out.before (Wp.out.same QH.out)⟩
  ·have hz00:z=0:=by omega
   go_wp2_with fail
   refine aB 3 (Turn []) (by kernel_rfl) (by kernel_rfl) (by kernel_rfl) (by kernel_rfl) (by kernel_rfl) (Nat.le_of_ble_eq_true rfl) rfl (Turn.refl _) (fun _ _ _ h k=>h.same k) ?_;apply Lo.ag 1 rfl rfl [] (by kernel_rfl) (Turn.refl _);apply Exists.intro;apply And.intro
   ·intro u w1 hR hF
    clear hF;refine⟨rfl,fun a ha K hK=>?_⟩;have e0:=ha 0;conv at e0=>rhs;whnf
    clear ha;go_simp
    refine hK _ ?_;rfl
   refine Lo.run 2 rfl rfl [0] (fun y _=>y= .pointer (some ⟨m.sb,0,none⟩)) (by kernel_rfl) (fun x w w' h hR=>?_) (fun _ _ h=>h) (fun u w1 hR hF=>?_) ?_
   ·exact h
   ·obtain⟨h0, -⟩:=hF
    refine⟨rfl,fun a ha K hK=>?_⟩;have e38:=(ha 38).trans h0;clear ha h0;go_simp
    refine(last_any _ base d F A lb gv dir v ms0 m (Wu.out.still (((Turn.refl [] _).drew).same hR)) (by omega)).mono ?_;rintro e w8 ⟨rfl,ht8⟩;exact hK _ _ rfl ht8
   refine Lo.aJ 3 rfl rfl [] (.agg #[.int .i64 x.base, .int .i64 x.fin, .slice va vn vc]) (by kernel_rfl) (fun u w1 hR hF=>?_) (Turn.refl _) ?_
   ·clear hF
    refine⟨rfl,fun a ha K hK=>?_⟩;have e3:=ha 3;conv at e3=>rhs;whnf
    clear ha;have hb:=(((Turn.refl [] _).drew).same hR).heap HXC.out (by simp);have k0:w1.cell? ⟨w.heap.size,0,none⟩=some (.int .i64 x.base):=by rw[cell_of hb];rfl
    have k1:w1.cell? ⟨w.heap.size,1,none⟩=some (.int .i64 x.fin):=by rw[cell_of hb];rfl
    have k2:w1.cell? ⟨w.heap.size,2,none⟩=some (.slice va vn vc):=by rw[cell_of hb];rfl
    have z1:=lt_of_heap hb;go_simp
    refine hK _ ?_;rfl
   refine Lo.done [1,2] (fun u w1 bP hSd hF=>?_);clear hSd;obtain⟨f1,f2, -⟩:=hF;have d1:=(show(fun y _=>y= .pointer (some ⟨m.sb,0,none⟩)) (u 1) w1 from f1);dsimp only at d1;have d2:u 2=_:=f2;clear f1 f2;simp only[List.take_succ_cons,List.take_zero,List.drop_succ_cons,List.drop_zero,ax,Act.put,List.setIfInBounds_toArray,List.set_cons_succ,List.set_cons_zero,Nat.zero_add,Nat.reduceAdd,d2];rw[d1];have QH:=hide (((Turn.refl [] wc).drew).same bP);clear d1 d2 bP;go_wp2_with fail
   refine(Fz _ base d F A lb gv dir v ms0 m (Wu.out.still QH.out) hmn mr hfl (.slice va vn vc) x ⟨_,rfl,QG.out.still QH.out,b1,b2,f1,f2⟩ Gt.out (by rw[tK.out,HXB.out];exact Int.le_refl _) (fun k hk hlt hm=>(MG.out k hk).2 hm)).mono ?_;rintro e w9 ⟨rfl,hd⟩;obtain⟨r,hr⟩:∃r,r=aW (vG A dir v (ms0.map SM.abs) m.abs x).1:=⟨_,rfl⟩;rw[←hr];have HR:=hide hr;have HD:=hide hd;clear hr hd;go_wp2
   go_ret
   unfold nV;rw[if_neg (by rw[Gt.out];simp),if_neg (by simp only[SM.abs];rw[←HZ.out];omega)];rw[←HR.out];exact⟨rfl,HD.out.before (Wp.out.same QH.out)⟩
 ·have hne:As.pG (Bt.aO x)= .iface 38 (.int .i64 (Bt.aO x)):=by unfold As.pG;rw[if_neg he]
  rw[hne];have HE:=hide he;clear he hne;go_wp2
  go_ret
  unfold nV;rw[if_pos HE.out];exact⟨by unfold aW;rw[if_neg HE.out];rfl,by have:=H.out.quiet Fh.out;rw[List.map_append]at this;exact this⟩
def lJ(c:Int)(v:LV):LV:=if c=14 then {v with down:=true}else v
set_option maxHeartbeats 1000000 in
theorem Ku(w:World)(base d:Nat)(F:List Nat)(A:DA)(lb:Nat)(gv:Value)(dir:ByteArray)(v:LV)(ms:List SM)(h:aI w base d F A lb gv dir v ms)(c:Int)(hg:As.lM w):
 Calls Tryz.prog 145 #[.pointer (some ⟨lb,0,none⟩), .iface 38 (.int .i64 c)] w fun e w'=>e= .returned (.iface 38 (.int .i64 c))∧pJ w w' base d (aS F lb gv ms) A lb dir (lJ c v) (ms.map SM.abs):=by
 have H:=hide h;have HG:=hide hg;clear h hg;by_cases hc:c=14
 ·subst hc
  go_enter Tryz.func145,Tryz.ntmps145
  go_wp2_with fail
  refine(As.BX 14 w HG.out).mono ?_;rintro e w1 ⟨rfl,hb⟩;have HT:=hide (Turn.of_below hb []);have hl1:=H.out.still (Turn.of_below hb []);have c6:=hl1.c6;have f6:=hl1.fr 6;have hlb:=lt_of_heap hl1.box;have HL1:=hide hl1;clear hb hl1;go_wp2
  go_ret
  have e:lJ 14 v={v with down:=true}:=by unfold lJ;rw[if_pos rfl]
  rw[e];refine⟨rfl,F,gv,ms,HL1.out.Kq (i:=6) (u:= .bool true) (v':={v with down:=true}) rfl,rfl,?_,fun _ hk=> .inl hk⟩;exact(HT.out.mono (T:=aS F lb gv ms) (by simp)).setCell (.inl (aC.2 (.inl rfl))) _
 ·have HC:=hide hc
  have hcb:(c==14)=false:=by rw[beq_eq_false_iff_ne];exact hc
  go_enter Tryz.func145,Tryz.ntmps145
  go_wp2_with fail
  refine(As.BX c w HG.out).mono ?_;rintro e w1 ⟨rfl,hb⟩;have HT:=hide (Turn.of_below hb []);clear hb;go_wp2
  go_ret
  have e:lJ c v=v:=by unfold lJ;rw[if_neg HC.out]
  rw[e];exact⟨rfl,H.out.quiet HT.out⟩
def Oi(c:Int)(n:Nat):Int:=if c=0 then(n:Int)else 0
def qC(A:DA)(dir:ByteArray)(v:LV)(n:Nat)(ss0:List (Nat×List Bt.aX))(m:Nat×List Bt.aX)(rs:List Bt.Rec):Int×DA×LV×List (Nat×List Bt.aX):=
 ((nV A dir v n ss0 m (eG n rs)).1,(nV A dir v n ss0 m (eG n rs)).2.1,lJ (nV A dir v n ss0 m (eG n rs)).1 (nV A dir v n ss0 m (eG n rs)).2.2.1,(nV A dir v n ss0 m (eG n rs)).2.2.2)
set_option maxHeartbeats 4000000 in
theorem MK(w:World)(base d:Nat)(F:List Nat)(A:DA)(lb:Nat)(gv:Value)(dir:ByteArray)(v:LV)(ms0:List SM)(m:SM)(h:aI w base d F A lb gv dir v (ms0++[m]))(hl:ms0.length≤900000)(hmn:m.n≤1099511627776)(mr:dir.size≤1000)(hfl:(flat m.xs).length≤1048576)(hmo:v.most≤1048576∧0≤v.most)(hdn:v.down=false)
 (n:Nat)(hn:n≤1099511627776)(hnx:aA m.n m.xs=n)(hv:∀Z,Turn (aS F lb gv (ms0++[m])) w Z→Sn.dA Z∧As.lM Z)
 (vr:Value)(rs:List Bt.Rec)(hr:bn w vr rs)(hrl:rs.length≤1000000):
 Calls Tryz.prog 98 #[.pointer (some ⟨lb,0,none⟩),vr] w fun e w'=>
  e= .returned (.tuple #[.int .i64 (Oi (qC A dir v n (ms0.map SM.abs) m.abs rs).1 n),aW (qC A dir v n (ms0.map SM.abs) m.abs rs).1])∧
  pJ w w' base d (aS F lb gv (ms0++[m])) (qC A dir v n (ms0.map SM.abs) m.abs rs).2.1 lb dir (qC A dir v n (ms0.map SM.abs) m.abs rs).2.2.1 (qC A dir v n (ms0.map SM.abs) m.abs rs).2.2.2:=by
 have hlen:=Sg.gU m.xs;have H:=hide h;have HV:=hide hv;have tK:=hide hnx;have vF:=hide hr;have c6:=h.c6;rw[hdn]at c6;have hlb:=lt_of_heap h.box;have E5:Hid (∀k∈aS F lb gv (ms0++[m]),k<w.heap.size):=fun k hk=>(h.lt k hk).2
 clear h hv hnx hr hdn;go_enter Tryz.func98,Tryz.ntmps98
 go_wp2_with fail
 refine(qY w base d F A lb gv dir v ms0 m H.out (by omega) (by omega)).mono ?_;rintro e w1 ⟨rfl,ht1⟩;rw[tK.out];have HT1:=hide ht1;clear ht1 c6 hlb;go_wp2_with fail
 refine(Kt _ (n:Int) vr rs (vF.out.still HT1.out) (by omega) (by omega) hrl).mono ?_;rintro e w2 ⟨sv,rfl,hrow,ht2⟩;obtain⟨sa,sc,hsv, -, -⟩:=hrow.form;rw[qR]at hsv;subst hsv;have HT2:=hide (HT1.out.same ht2);have bQ:=hide hrow;have hw1:=HT1.out.size;clear hrow ht2;obtain⟨w3,hw3⟩:∃w3,w3=w2.alloc (.cells #[.int .i64 (n:Int), .int .i64 ((n:Int)+rs.length), .slice sa rs.length sc] 215):=⟨_,rfl⟩;have ht3:Turn [] w2 w3:=by rw[hw3];exact(Turn.refl [] w2).alloc _
 have hX3:w3.heap[w2.heap.size]? =some (.cells #[.int .i64 (n:Int), .int .i64 ((n:Int)+rs.length), .slice sa rs.length sc] 215 (0,0)):=by rw[hw3];exact ae w2 _
 have hok:∀r∈kH (n:Int) rs,jD r:=PR (n:Int) rs (fun r hr=>by obtain⟨j,hj,rfl⟩:=List.mem_iff_getElem.1 hr;exact vF.out.ok hj) (by omega) (by omega) hrl;have hrec3:bn w3 (.slice sa rs.length sc) (kH (n:Int) rs):=fB.recs (base:=w1.heap.size) (bQ.out.still ht3) hok;have hown:∀k∈(Value.slice sa rs.length sc).ownBlock,w1.heap.size≤k∧k<w3.heap.size:=fun k hk=>⟨(bQ.out.lt k hk).1,by have:=(bQ.out.lt k hk).2;have:=ht3.size;omega⟩
 have hw2:=HT2.out.size;have hla:=QF w3 base d F A lb gv dir v ms0 m (H.out.still (HT2.out.same ht3)) hl hmn mr hfl hmo n hn tK.out (fun Z hZ=>(HV.out Z (((HT2.out.same ht3).mono (T:=aS F lb gv (ms0++[m])) (by simp)).same hZ)).1)
  sa rs.length sc (eG n rs) ⟨_,rfl,hrec3,by show _≤(n:Int);omega,by show(n:Int)≤_;omega,by show _≤(n:Int)+_;omega,by show(n:Int)+_≤_;omega⟩ rfl (fun k hk=>⟨(hown k hk).2,fun hm=>by have:=(hown k hk).1;have:=E5.out k hm;omega⟩)
 have HT3:=hide (HT2.out.same ht3);have HX3:=hide hX3;have HLA:=hide hla;clear ht3 hX3 hok hrec3 hown hla;go_wp2_with fail
 rw[←hw3];clear hw3;obtain⟨c,hc⟩:∃c,c=(nV A dir v n (ms0.map SM.abs) m.abs (eG n rs)).1:=⟨_,rfl⟩;refine HLA.out.mono ?_;rintro e w4 ⟨rfl,hd⟩;rw[←hc];obtain⟨F4,gv4,ms4,hl4,hm4,ht4,hf4⟩:=hd.before HT3.out;have hX4:=hd.turn.heap HX3.out (fun hm=>by have:=E5.out _ hm;omega);have HC:=hide hc;have HL4:=hide hl4;have HM4:=hide hm4;have HT4:=hide ht4;have HF4:=hide hf4;have HX4:=hide hX4;by_cases hc0:c=0
 ·have hr0:aW c= .nilIface:=by rw[hc0];rfl
  rw[hr0];have k0:w4.cell? ⟨w2.heap.size,0,none⟩=some (.int .i64 (n:Int)):=by rw[cell_of hX4];rfl
  have z4:=lt_of_heap hX4;have HC0:=hide hc0;clear hc hc0 hr0 hl4 hm4 ht4 hf4 hX4 hd HLA;go_wp2
  go_ret2
  unfold qC;simp only;have ho:Oi c n=(n:Int):=by unfold Oi;rw[if_pos HC0.out]
  rw[←HC.out,ho,HC0.out];refine⟨rfl,F4,gv4,ms4,?_,HM4.out,HT4.out,HF4.out⟩;unfold lJ;rw[if_neg (by omega)];exact HL4.out
 ·have hr0:aW c= .iface 38 (.int .i64 c):=by unfold aW;rw[if_neg hc0];rfl
  rw[hr0];have hno:=Ku w4 base d F4 _ lb gv4 dir _ ms4 hl4 c (HV.out w4 ht4).2;have ZI:=hide hno;have HC0:=hide hc0;have HR0:=hide hr0;clear hc hc0 hr0 hl4 hm4 ht4 hf4 hX4 hd HLA hno;go_wp2_with fail
  refine ZI.out.mono ?_;rintro e w5 ⟨rfl,hd5⟩;rw[HM4.out]at hd5;have HD5:=hide (hd5.then HT4.out HF4.out);clear hd5 ZI;go_wp2
  go_ret2
  unfold qC;simp only;have ho:Oi c n=0:=by unfold Oi;rw[if_neg HC0.out]
  rw[←HC.out,ho,HR0.out];exact⟨rfl,HD5.out⟩
end Lg
end
section
open Go.RowKit Go.Maps
open Dk (DA FA bH)
open Sg (Chain flat aA)
namespace Lg
def jK(dir:ByteArray)(n:Nat):List UInt8:=(Sn.nameB dir n).data.toList
theorem uG{dir:ByteArray}{n m:Nat}(hn:n≤1099511627776)(hm:m≤1099511627776)(h:jK dir n=jK dir m):n=m:=
 Sn.Qc (d:=dir.data.toList) hn hm h
structure bf(A:DA)(room:Nat)(dir:ByteArray)(ss:List (Nat×List Bt.aX)):Prop where
 lim:A.limited=false
 room:A.room=room
 files:A.files.map (fun f=>(f.name,f.bytes))=ss.map (fun p=>(jK dir p.1,flat p.2))
 base:∀p∈ss,p.1≤1099511627776
 nd:(ss.map (·.1)).Nodup
theorem BZ:∀ss:List (Nat×List Bt.aX),(flat (df ss)).length=(ss.map (fun p=>(flat p.2).length)).sum
 |[]=>by simp[df,flat]
 |p::r=>by
  have h:=BZ r;unfold df at h⊢;rw[List.flatMap_cons,Sg.bZ,List.length_append,h,List.map_cons,List.sum_cons]
theorem WA{ss:List (Nat×List Bt.aX)}(h:(ss.map (·.1)).Nodup){p q:Nat×List Bt.aX}(hp:p∈ss)(hq:q∈ss)(e:p.1=q.1):p=q:=by
 induction ss with
 |nil=>simp at hp
 |cons a r ih=>
  rw[List.map_cons,List.nodup_cons]at h;rcases List.mem_cons.1 hp with rfl|hpr
  ·rcases List.mem_cons.1 hq with rfl|hq
   ·rfl
   ·exact absurd (show p.1∈r.map (·.1)from List.mem_map.2 ⟨q,hq,e.symm⟩) h.1
  ·rcases List.mem_cons.1 hq with rfl|hq
   ·exact absurd (show q.1∈r.map (·.1)from List.mem_map.2 ⟨p,hpr,e⟩) h.1
   ·exact ih h.2 hpr hq
section
variable {A:DA} {room:Nat} {dir:ByteArray} {ss ss0:List (Nat×List Bt.aX)} {p m:Nat×List Bt.aX}
theorem bf.fails(h:bf A room dir ss):A.fails=false:=by unfold DA.fails;rw[h.lim];rfl
theorem bf.tick(h:bf A room dir ss):A.tick=A:=by unfold DA.tick;rw[h.lim];rfl
theorem bf.find(h:bf A room dir ss)(nm:List UInt8):(A.file nm).map (fun f=>(f.name,f.bytes))=(ss.find? (fun p=>jK dir p.1==nm)).map (fun p=>(jK dir p.1,flat p.2)):=by
 have h1:(A.files.map (fun f=>(f.name,f.bytes))).find? (fun q=>q.1==nm)=(A.file nm).map (fun f=>(f.name,f.bytes)):=by
  rw[List.find?_map];rfl
 have h2:(ss.map (fun p=>(jK dir p.1,flat p.2))).find? (fun q=>q.1==nm)=(ss.find? (fun p=>jK dir p.1==nm)).map (fun p=>(jK dir p.1,flat p.2)):=by
  rw[List.find?_map];rfl
 rw[←h1,h.files,h2]
theorem bf.QI(h:bf A room dir ss)(hp:p∈ss):ss.find? (fun q=>jK dir q.1==jK dir p.1)=some p:=by
 cases hf:ss.find? (fun q=>jK dir q.1==jK dir p.1)with
 |none=>
  have:=List.find?_eq_none.1 hf p hp;simp at this
 |some q=>
  have h1:=List.find?_some hf;have h2:=List.mem_of_find?_eq_some hf;rw[beq_iff_eq]at h1;rw[WA h.nd h2 hp (uG (h.base q h2) (h.base p hp) h1)]
theorem bf.file(h:bf A room dir ss)(hp:p∈ss):∃f,A.file (jK dir p.1)=some f∧f.bytes=flat p.2:=by
 have h1:=h.find (jK dir p.1);rw[h.QI hp]at h1;simp only[Option.map_some]at h1;obtain⟨f,hf,e⟩:=Option.map_eq_some_iff.1 h1;exact⟨f,hf,congrArg Prod.snd e⟩
theorem bf.has(h:bf A room dir ss)(hp:p∈ss):A.has (jK dir p.1)=true:=by
 obtain⟨f,hf, -⟩:=h.file hp;rw[Dk.qc,hf];rfl
theorem bf.WB(h:bf A room dir ss){n:Nat}(hn:n≤1099511627776)(hno:n∉ss.map (·.1)):A.has (jK dir n)=false:=by
 have h1:=h.find (jK dir n);have h2:ss.find? (fun p=>jK dir p.1==jK dir n)=none:=by
  rw[List.find?_eq_none];intro q hq;simp only[beq_iff_eq];intro e;exact hno (List.mem_map.2 ⟨q,hq,uG (h.base q hq) hn e⟩)
 rw[h2]at h1;rw[Dk.qc];cases hf:A.file (jK dir n)with
 |none=>rfl
 |some f=>rw[hf]at h1;simp at h1
theorem bf.len(h:bf A room dir ss):A.files.length=ss.length:=by
 have:=congrArg List.length h.files;simpa using this
theorem bf.used(h:bf A room dir ss):bH A.files=(flat (df ss)).length:=by
 rw[BZ];have:=congrArg (fun l:List (List UInt8×List UInt8)=>(l.map (fun q=>q.2.length)).sum) h.files;simpa[bH,Function.comp_def]using this
theorem bf.make(h:bf A room dir ss){n:Nat}(hn:n≤1099511627776)(hno:n∉ss.map (·.1))(hok:Dk.nameB (Sn.nameB dir n)=true)(hl:ss.length<200):(A.make (Sn.nameB dir n)).1=0∧bf (A.make (Sn.nameB dir n)).2 room dir (ss++[(n,[])]):=by
 have e:A.make (Sn.nameB dir n)=(0,{A.tick with files:=A.files++[⟨(Sn.nameB dir n).data.toList,[],0⟩]}):=by
  unfold DA.make;rw[h.fails,hok,show A.has (Sn.nameB dir n).data.toList=false from h.WB hn hno,h.len,if_neg (by simp),if_neg (by simp),if_neg (by simp),if_neg (by omega)]
 rw[e,h.tick];refine⟨rfl,h.lim,h.room,?_,fun q hq=>?_,?_⟩
 ·simp only[List.map_append,h.files,List.map_cons,List.map_nil]
  rfl
 ·rcases List.mem_append.1 hq with hq|hq
  ·exact h.base q hq
  ·obtain rfl:=List.mem_singleton.1 hq
   exact hn
 ·rw[List.map_append,List.nodup_append]
  refine⟨h.nd,by simp,fun a ha b hb=>?_⟩;simp only[List.map_cons,List.map_nil,List.mem_singleton]at hb;subst hb;rintro rfl;exact hno ha
theorem bf.upd(h:bf A room dir (ss0++[m]))(g:FA→FA)(hg:∀f,(g f).name=f.name)(xs':List Bt.aX)(hb:∀f:FA,f.bytes=flat m.2→(g f).bytes=flat xs'):bf (A.upd (jK dir m.1) g) room dir (ss0++[(m.1,xs')]):=by
 refine⟨h.lim,h.room,?_,fun q hq=>?_,by have:=h.nd;rw[List.map_append]at this⊢;exact this⟩
 ·have hfs:=h.files
  have hm0:∀q∈ss0,q.1≠m.1:=fun q hq e=>by
   have:=h.nd;rw[List.map_append,List.nodup_append]at this;exact this.2.2 q.1 (List.mem_map.2 ⟨q,hq,rfl⟩) m.1 (by simp) e
  rw[List.map_append,List.map_singleton]at hfs;obtain⟨f0,f1,hf,h0,h1⟩:=List.map_eq_append_iff.1 hfs;obtain⟨f,f2,rfl,h2,h3⟩:=List.map_eq_cons_iff.1 h1;obtain rfl:=List.map_eq_nil_iff.1 h3;unfold DA.upd Dk.dR;rw[hf];have hfn:f.name=jK dir m.1:=congrArg Prod.fst h2;have hfb:f.bytes=flat m.2:=congrArg Prod.snd h2;have hpre:f0.map (fun f=>if f.name==jK dir m.1 then g f else f)=f0:=by
   have:f0.map (fun f=>if f.name==jK dir m.1 then g f else f)=f0.map id:=by
    apply List.map_congr_left;intro x hx;have hx2:(x.name,x.bytes)∈ss0.map (fun p=>(jK dir p.1,flat p.2)):=by rw[←h0];exact List.mem_map.2 ⟨x,hx,rfl⟩
    obtain⟨q,hq,e⟩:=List.mem_map.1 hx2;have e1:jK dir q.1=x.name:=congrArg Prod.fst e;have:(x.name==jK dir m.1)=false:=by
     rw[beq_eq_false_iff_ne,←e1];intro he;exact hm0 q hq (uG (h.base q (by simp[hq])) (h.base m (by simp)) he)
    rw[this];rfl
   rw[this,List.map_id]
  simp only[List.map_append,List.map_cons,List.map_nil];rw[hpre,h0,hfn];simp only[beq_self_eq_true,if_true];rw[hg f,hb f hfb,hfn]
 ·rcases List.mem_append.1 hq with hq|hq
  ·exact h.base q (by simp[hq])
  ·obtain rfl:=List.mem_singleton.1 hq
   exact h.base m (by simp)
theorem bf.sync(h:bf A room dir (ss0++[m])):(A.sync (jK dir m.1)).1=0∧bf (A.sync (jK dir m.1)).2 room dir (ss0++[m]):=by
 have e:A.sync (jK dir m.1)=(0,A.tick.upd (jK dir m.1) (fun f=>{f with safe:=f.bytes.length})):=by
  unfold DA.sync;rw[h.fails,h.has (p:=m) (by simp),if_neg (by simp),if_neg (by simp)]
 rw[e,h.tick];exact⟨rfl,h.upd (fun f=>{f with safe:=f.bytes.length}) (fun _=>rfl) m.2 (fun f hf=>hf)⟩
theorem bf.add(h:bf A room dir (ss0++[m]))(x:Bt.aX)(hr:(flat (df (ss0++[m]))).length+(Bt.aj x).length≤room):(A.add (jK dir m.1) (Bt.aj x)).1=0∧bf (A.add (jK dir m.1) (Bt.aj x)).2 room dir (ss0++[(m.1,m.2++[x])]):=by
 have e:A.add (jK dir m.1) (Bt.aj x)=(0,A.tick.upd (jK dir m.1) (fun f=>{f with bytes:=f.bytes++Bt.aj x})):=by
  unfold DA.add;rw[h.fails,h.has (p:=m) (by simp),h.used,h.room,if_neg (by simp),if_neg (by simp),if_neg (by omega)]
 rw[e,h.tick];exact⟨rfl,h.upd (fun f=>{f with bytes:=f.bytes++Bt.aj x}) (fun _=>rfl) (m.2++[x]) (fun f hf=>by rw[Sg.bZ,Sg.kK,←hf])⟩
end
structure GInv(A:DA)(room:Nat)(dir:ByteArray)(st n:Nat)(ss0:List (Nat×List Bt.aX))(m:Nat×List Bt.aX):Prop where
 disk:bf A room dir (ss0++[m])
 chains:∀p∈ss0++[m],Chain p.1 p.2
 chain:Chain st (df (ss0++[m]))
 next:aA m.1 m.2=n
 yj:∀x∈df (ss0++[m]),x.fin≤n
 keys:∀p∈ss0,p.1<m.1
 le:m.1≤n
 st:st≤n
 Kv:((ss0++[m]).map (·.1)).Pairwise (· < ·)
theorem vH:∀{xs:List Bt.aX} {b n:Int},b≤n→(∀x∈xs,x.fin≤n)→aA b xs≤n
 |[],b,n,h,_=>by simpa[aA]using h
 |x::r,b,n,h,hf=>by
  rw[Sg.qp];exact vH (hf x (by simp)) (fun y hy=>hf y (by simp[hy]))
theorem iJ(ss0:List (Nat×List Bt.aX))(m:Nat×List Bt.aX):df (ss0++[m])=df ss0++m.2:=by
 unfold df;rw[List.flatMap_append];simp
theorem GInv.ok{A:DA}{room:Nat}{dir:ByteArray}{st n:Nat}{ss0:List (Nat×List Bt.aX)}{m:Nat×List Bt.aX}(h:GInv A room dir st n ss0 m)(hl:(ss0++[m]).length≤1000):Yt A dir (ss0++[m]):=
 ⟨h.disk.base,fun p hp=>h.disk.file hp,h.chains,hl⟩
section
variable {A:DA} {room:Nat} {dir:ByteArray} {st n:Nat} {ss0:List (Nat×List Bt.aX)} {m:Nat×List Bt.aX} {v:LV} {x:Bt.aX}
theorem GInv.put(h:GInv A room dir st n ss0 m)(hx:Bt.aO x=0)(hb:x.base=n){n':Nat}(hf:x.fin=n')(hr:(flat (df (ss0++[m]))).length+(Bt.aj x).length≤room)(v:LV):
 ∃A',vG A dir v ss0 m x=(0,A',v,ss0++[(m.1,m.2++[x])])∧GInv A' room dir st n' ss0 (m.1,m.2++[x])∧df (ss0++[(m.1,m.2++[x])])=df (ss0++[m])++[x]:=by
 obtain⟨h1,h2⟩:=h.disk.add x hr;have hlt:=Fj hx;have hnn:n<n':=by omega
 have hbl:df (ss0++[(m.1,m.2++[x])])=df (ss0++[m])++[x]:=by rw[iJ,iJ,List.append_assoc]
 refine⟨_,?_,⟨h2,fun p hp=>?_,?_,?_,fun y hy=>?_,h.keys,by have:=h.le;simp only;omega,by have:=h.st;omega,by have:=h.Kv;rw[List.map_append]at this⊢;exact this⟩,hbl⟩
 ·unfold vG
  rw[show A.add (Sn.nameB dir m.1).data.toList (Bt.aj x)=A.add (jK dir m.1) (Bt.aj x)from rfl,h1,if_pos rfl]
 ·rcases List.mem_append.1 hp with hp|hp
  ·exact h.chains p (by simp[hp])
  ·obtain rfl:=List.mem_singleton.1 hp
   exact Sg.oP (h.chains m (by simp)) hx (by rw[h.next,hb];exact Int.le_refl _)
 ·rw[hbl]
  exact Sg.oP h.chain hx (by rw[hb];exact vH (by have:=h.st;omega) h.yj)
 ·simp only
  rw[Sg.qw,hf]
 ·rw[hbl]at hy
  rcases List.mem_append.1 hy with hy|hy
  ·have:=h.yj y hy;omega
  ·obtain rfl:=List.mem_singleton.1 hy
   omega
theorem GInv.roll(h:GInv A room dir st n ss0 m)(hn:n≤1099511627776)(hz:0<(flat m.2).length)(hok:Dk.nameB (Sn.nameB dir n)=true)(hl:(ss0++[m]).length<200)(v:LV):
 ∃A',jF A dir v n m (ss0++[m])=(0,A',{v with safe:=(n:Int)},ss0++[m]++[(n,[])])∧GInv A' room dir st n (ss0++[m]) (n,[])∧df (ss0++[m]++[(n,[])])=df (ss0++[m]):=by
 obtain⟨h1,h2⟩:=h.disk.sync;have hmn:m.1<n:=by
  cases hm2:m.2 with
  |nil=>rw[hm2]at hz;simp[flat]at hz
  |cons y r=>
   have hc:=h.chains m (by simp);rw[hm2]at hc;have h3:=Sg.lU hc y (by simp);have h4:=h.yj y (by rw[iJ,hm2];simp);omega
 have hno:n∉(ss0++[m]).map (·.1):=by
  intro hc;obtain⟨p,hp,e⟩:=List.mem_map.1 hc;rcases List.mem_append.1 hp with hp|hp
  ·have:=h.keys p hp;omega
  ·obtain rfl:=List.mem_singleton.1 hp
   omega
 obtain⟨h3,h4⟩:=h2.make hn hno hok hl;have hbl:df (ss0++[m]++[(n,[])])=df (ss0++[m]):=by rw[iJ,List.append_nil]
 refine⟨_,?_,⟨h4,fun p hp=>?_,?_,by simp[aA],?_,fun p hp=>?_,Nat.le_refl _,h.st,?_⟩,hbl⟩
 ·unfold jF jW
  rw[show A.sync (Sn.nameB dir m.1).data.toList=A.sync (jK dir m.1)from rfl,if_pos h1,h3,if_pos rfl]
 ·rcases List.mem_append.1 hp with hp|hp
  ·exact h.chains p hp
  ·obtain rfl:=List.mem_singleton.1 hp
   trivial
 ·rw[hbl];exact h.chain
 ·rw[hbl];exact h.yj
 ·simp only
  rcases List.mem_append.1 hp with hp|hp
  ·have:=h.keys p hp;omega
  ·obtain rfl:=List.mem_singleton.1 hp
   exact hmn
 ·rw[List.map_append,List.pairwise_append]
  refine⟨h.Kv,by simp,fun a ha b hb=>?_⟩;obtain rfl:b=n:=by simpa using hb
  obtain⟨p,hp,rfl⟩:=List.mem_map.1 ha;rcases List.mem_append.1 hp with hp|hp
  ·have:=h.keys p hp;omega
  ·obtain rfl:=List.mem_singleton.1 hp
   exact hmn
theorem Kw(x:Bt.aX):Bt.aO x≠14:=by
 have hrec:∀(rs:List Bt.Rec) (lo hi:Int),Bt.bK rs lo hi≤4:=by
  intro rs;induction rs with
  |nil=>intro lo hi;simp[Bt.bK]
  |cons r rs ih=>
   intro lo hi;unfold Bt.bK;split
   ·exact ih _ _
   ·unfold Bt.dW
    split
    ·omega
    ·split
     ·omega
     ·split<;>omega
 have hc:Bt.chk x≤4:=by
  unfold Bt.chk;split
  ·omega
  ·split
   ·omega
   ·split
    ·omega
    ·exact hrec _ _ _
 unfold Bt.aO;split
 ·split<;>omega
 ·omega
theorem GInv.add(h:GInv A room dir st n ss0 m)(hn:n≤1099511627776)(rs:List Bt.Rec)(hx:Bt.aO (eG n rs)=0)(hok:Dk.nameB (Sn.nameB dir n)=true)(hl:(ss0++[m]).length<200)(hr:(flat (df (ss0++[m]))).length+(Bt.aj (eG n rs)).length≤room)(v:LV):
 ∃A' v' ss0' m',qC A dir v n ss0 m rs=(0,A',v',ss0'++[m'])∧v'.start=v.start∧v'.most=v.most∧v'.down=v.down∧GInv A' room dir st (n+rs.length) ss0' m'∧df (ss0'++[m'])=df (ss0++[m])++[eG n rs]∧ss0'.length≤ss0.length+1:=by
 unfold qC nV;rw[if_neg (by rw[hx];simp)];have hno:∀w:LV,lJ 0 w=w:=fun w=>by unfold lJ;rw[if_neg (by omega)]
 by_cases hc:0<(flat m.2).length∧v.most<((flat m.2).length+(Bt.aj (eG n rs)).length:Nat)
 ·rw[if_pos hc]
  obtain⟨A1,e1,g1,b1⟩:=h.roll hn hc.1 hok hl v;rw[e1,if_neg (fun hc2=>hc2 rfl)];obtain⟨A2,e2,g2,b2⟩:=g1.put (x:=eG n rs) hx rfl (n':=n+rs.length) (by show((n:Int)+rs.length)=_;omega) (by rw[b1];exact hr) {v with safe:=(n:Int)};simp only;rw[e2];exact⟨A2,{v with safe:=(n:Int)},_,_,by rw[hno],rfl,rfl,rfl,g2,by rw[b2,b1],by simp⟩
 ·rw[if_neg hc]
  obtain⟨A2,e2,g2,b2⟩:=h.put (x:=eG n rs) hx rfl (n':=n+rs.length) (by show((n:Int)+rs.length)=_;omega) hr v;rw[e2];exact⟨A2,v,_,_,by rw[hno],rfl,rfl,rfl,g2,b2,by omega⟩
theorem QJ(rs:List Bt.Rec)(hx:Bt.aO (eG n rs)≠0)(v:LV):qC A dir v n ss0 m rs=(Bt.aO (eG n rs),A,v,ss0++[m]):=by
 unfold qC nV;rw[if_pos hx];simp only;unfold lJ;rw[if_neg (Kw _)]
end
end Lg
end
section
open Go.RowKit Go.Maps
set_option maxRecDepth 100000
attribute [local go_sem] Oper.semAt_some
open Dk (DA ay Parts fE aW dI)
open Sg (bu bJ kL Both Came aA flat)
namespace Lg
set_option maxHeartbeats 4000000 in
theorem Ky(w:World)(base d:Nat)(F:List Nat)(A:DA)(hd:ay w base d F A)(dir:ByteArray)(mr:dir.size≤1000)(mo st:Nat)(hm1:100≤mo)(hm2:mo≤1048576)(hs:st≤1099511627776)
 (hmk:(A.make (Sn.nameB dir st)).1=0)(hsy:((A.make (Sn.nameB dir st)).2.sync (Sn.nameB dir st).data.toList).1=0)
 (hv:∀Z,Turn F w Z→Sn.dA Z)
 (hfind:∀Z lb,Turn [] w Z→aI Z base d F A lb (.slice none 0 0) dir ⟨mo,0,0,false⟩ []→Calls Tryz.prog 86 #[.pointer (some ⟨lb,0,none⟩)] Z fun e w'=>e= .returned .nilIface∧Turn [] Z w'):
 Calls Tryz.prog 56 #[.pointer (some ⟨d,0,none⟩), .string dir, .int .i64 (mo:Int), .int .i64 (st:Int)] w fun e w'=>∃lb F' gv m,e= .returned (.tuple #[.pointer (some ⟨lb,0,none⟩), .nilIface])∧
  aI w' base d F' ((A.make (Sn.nameB dir st)).2.sync (Sn.nameB dir st).data.toList).2 lb gv dir ⟨mo,st,st,false⟩ [m]∧m.abs=(st,[])∧Turn F w w'∧∀k∈aS F' lb gv [m],k∈F∨w.heap.size≤k:=by
 have HD:=hide hd;have HV:=hide hv;have HF:=hide hfind;have HMK:=hide hmk;have HSY:=hide hsy;have hbw:=Sg.aZ hd;clear hd hv hfind hmk hsy;go_enter Tryz.func56,Tryz.ntmps56
 go_wp2_with fail
 obtain⟨w0,hw0⟩:∃w0,w0=w.alloc (.cells (Qq d dir (.slice none 0 0) ⟨mo,0,0,false⟩) 171):=⟨_,rfl⟩;have ht0:Turn [] w w0:=by rw[hw0];exact(Turn.refl [] w).alloc _
 have hl0:aI w0 base d F A w.heap.size (.slice none 0 0) dir ⟨mo,0,0,false⟩ []:=
  ⟨HD.out.kept ht0 (by simp),by rw[hw0];exact ae w _, .inl ⟨rfl,rfl⟩,hbw,by simp,List.Pairwise.nil⟩
 unfold Qq at hw0;simp only at hw0;rw[←hw0];refine(HF.out w0 w.heap.size ht0 hl0).mono ?_;rintro e w1 ⟨rfl,ht1⟩;have hl1:=hl0.still ht1;have c3:=hl1.c3;have hlb:=lt_of_heap hl1.box;have HL1:=hide hl1;have HT1:=hide (ht0.same ht1);clear hw0 ht0 hl0 ht1 hl1;go_wp2_with fail
 refine(Et w1 base d F A w.heap.size _ dir _ [] HL1.out (by simp) mr st hs (HV.out w1 (HT1.out.mono (by simp)))).mono ?_;rintro e w2 ⟨rfl,hd2⟩;unfold jW at hd2⊢;simp only[List.map_nil,List.nil_append]at hd2⊢;rw[HMK.out,if_pos rfl]at hd2;rw[HMK.out,show aW 0= .nilIface from rfl];obtain⟨A2,hA2⟩:∃A2,A2=(A.make (Sn.nameB dir st)).2:=⟨_,rfl⟩;rw[←hA2]at hd2 HSY;have VY:=hide hA2;obtain⟨F2,gv2,ms2,hl2,hm2,ht2,hf2⟩:=hd2;obtain⟨ms20,m2,rfl,hm20,qB⟩:=jw (r:=[]) (by simpa using hm2);obtain rfl:=List.map_eq_nil_iff.1 hm20;rw[List.nil_append]at hl2 hf2;have hmn:m2.n=st:=congrArg Prod.fst qB;have hmx:m2.xs=[]:=congrArg Prod.snd qB;have hsy:=lY w2 base d F2 A2 w.heap.size gv2 dir _ [] m2 hl2 (by simp) (by rw[hmx];simp) (by rw[hmn];exact Sg.lT hs mr);rw[hmn,hmx,HSY.out]at hsy;have HS:=hide hsy;have HT2:=hide ((HT1.out.mono (T:=F) (by simp)).trans ht2 (fun k hk=>by
  rcases aC.1 hk with rfl|hk|⟨x,hx, -⟩|hk
  ·exact .inr (Nat.le_refl _)
  ·simp[Value.ownBlock]at hk
  ·simp at hx
  ·exact .inl hk))
 have hlf:∀k∈aS F2 w.heap.size gv2 [m2],k∈F∨w.heap.size≤k:=fun k hk=>by
  rcases hf2 k hk with h|h
  ·rcases aC.1 h with rfl|h|⟨x,hx, -⟩|h
   ·exact .inr (Nat.le_refl _)
   ·simp[Value.ownBlock]at h
   ·simp at hx
   ·exact .inl h
  ·exact .inr (Nat.le_trans HT1.out.size h)
 have HLF:=hide hlf;have HM2:Hid (m2.abs=(st,[])):=qB;clear c3 hlb hA2 hl2 hm2 ht2 hf2 qB hm20 hmn hmx hsy hlf;go_wp2_with fail
 refine HS.out.mono ?_;rintro e w3 ⟨rfl,hd3⟩;rw[show aW 0= .nilIface from rfl];obtain⟨F3,gv3,ms3,hl3,hm3,ht3,hf3⟩:=hd3;obtain⟨ms30,m3,rfl,hm30,YF⟩:=jw (r:=[]) (by simpa using hm3);obtain rfl:=List.map_eq_nil_iff.1 hm30;rw[List.nil_append]at hl3 hf3;have hm3':m3.abs=(st,[]):=YF.trans HM2.out;have hmn:m3.n=st:=congrArg Prod.fst hm3';have hmx:m3.xs=[]:=congrArg Prod.snd hm3';have hv3:mi 0 (⟨mo,0,0,false⟩:LV) (aA st [])=⟨mo,0,st,false⟩:=rfl;rw[hv3]at hl3;obtain⟨g,cap,hgv,hc, -⟩:=hl3.row.at uD (j:=0) (by simp);rw[List.length_singleton]at hgv;subst hgv;have c3:=hl3.c3;have hlb:=lt_of_heap hl3.box;have c0:w3.cell? ⟨g,0,none⟩=some (.pointer (some ⟨m3.sb,0,none⟩)):=hc 0 (by omega);have hba:=Sg.JR w3 base d m3.sb m3.sv _ m3.n _ (hl3.lL m3 (by simp));have hen:=qY w3 base d F3 _ w.heap.size _ dir _ [] m3 hl3 (by simp) (by rw[hmx];simp);rw[hmn]at hba;rw[hmn,hmx,show aA (st:Int) []=(st:Int)from rfl]at hen;have HM3:=hide hm3';have HL3:=hide hl3;have Yo:=hide hba;have U9:=hide hen;have HT3:=hide (HT2.out.trans ht3 HLF.out);have HF3:Hid (∀k∈aS F3 w.heap.size (.slice (some ⟨g,0,none⟩) 1 cap) [m3],k∈F∨w.heap.size≤k):=fun k hk=>by
  rcases hf3 k hk with h|h
  ·exact HLF.out k h
  ·exact .inr (Nat.le_trans HT2.out.size h)
 clear YF hm3 hm30 hm3' hmn hmx hv3 hl3 hc hba hen ht3 hf3 HS;go_wp2_with fail
 refine Yo.out.mono ?_;rintro e w4 ⟨rfl,rfl⟩;go_wp2_with fail
 refine U9.out.mono ?_;rintro e w4 ⟨rfl,ht4⟩;have hl4:=HL3.out.still ht4;have hlb4:=lt_of_heap hl4.box;have c44:=hl4.c4;have f4:=hl4.fr 4;have HL4:=hide hl4;have HT4:=hide (HT3.out.same (ht4.mono (by simp)));clear ht4 hl4 Yo U9 c3 c0 hlb;go_wp2
 go_ret2
 rw[←VY.out];refine⟨_,F3,_,m3,rfl,?_,HM3.out,HT4.out.setCell (.inr (Nat.le_refl _)) _,HF3.out⟩;exact HL4.out.Kq (i:=4) (u:= .int .i64 (st:Int)) (v':=⟨mo,st,st,false⟩) rfl
end Lg
end
section
open Go.RowKit Go.Maps
set_option maxRecDepth 100000
attribute [local go_sem] Oper.semAt_some
namespace Lg
theorem qE(p:Option Addr)(cap:Nat)(w:World):Calls Tryz.prog 194 #[.slice p 0 cap, .int .i64 0, .int .i64 0] w fun e w'=>e= .returned (.tuple #[])∧Turn [] w w':=by
 go_enter Tryz.func194,Tryz.ntmps194
 go_wp2
 refine wp_loop_rounds 1 ?_;rw[rounds_succ];go_wp2
 go_end0
 exact⟨rfl,Turn.refl _ _⟩
theorem QK(p:Option Addr)(cap:Nat)(k:Int)(w:World):Calls Tryz.prog 154 #[.slice p 0 cap, .int .i64 0, .int .i64 0, .int .i64 k] w fun e w'=>e= .returned (.tuple #[])∧Turn [] w w':=by
 go_enter Tryz.func154,Tryz.ntmps154
 go_wp2
 refine wp_loop_rounds 1 ?_;rw[rounds_succ];go_wp2_with fail
 refine(qE p cap _).mono ?_;rintro e w' ⟨rfl,ht⟩;go_wp2
 refine bodyPost_ret (results_none rfl _ _ _) rfl ?_;exact⟨rfl,ht⟩
theorem TV(w:World):Calls Tryz.prog 204 #[.int .u64 0] w fun e w'=>e= .returned (.int .i64 0)∧Turn [] w w':=by
 go_enter Tryz.func204,Tryz.ntmps204
 go_wp2
 go_ret
 exact⟨by kernel_rfl,Turn.refl _ _⟩
theorem YG(w:World):Calls Tryz.prog 155 #[.int .u64 0] w fun e w'=>e= .returned (.int .i64 0)∧Turn [] w w':=by
 go_enter Tryz.func155,Tryz.ntmps155
 go_wp2_with fail
 refine(TV _).mono ?_;rintro e w' ⟨rfl,ht⟩;go_wp2
 go_ret
 exact⟨rfl,ht⟩
theorem Oj(p:Option Addr)(cap:Nat)(w:World):Calls Tryz.prog 109 #[.slice p 0 cap] w fun e w'=>e= .returned (.tuple #[])∧Turn [] w w':=by
 go_enter Tryz.func109,Tryz.ntmps109
 go_wp2_with fail
 refine(YG _).mono ?_;rintro e w' ⟨rfl,ht⟩;go_wp2_with fail
 refine(QK p cap _ _).mono ?_;rintro e w' ⟨rfl,ht2⟩;go_wp2
 go_end0
 exact⟨rfl,ht.same ht2⟩
end Lg
end
section
open Go.RowKit Go.Maps
set_option maxRecDepth 100000
attribute [local go_sem] Oper.semAt_some
open Dk (DA ay Parts fE aW dI)
open Sg (bu bJ kL Both Came aA flat Chain)
namespace Lg
def vJ:ByteArray:=⟨#[112]⟩
theorem Ip(n:Nat)(hn:n≤1099511627776):Dk.nameB (Sn.nameB vJ n)=true:=by
 have hd:∀c∈Sn.pad (Lib.decDigits n),Dk.Jm c=true:=by
  intro c hc;have h:=Sn.Eo n c hc;unfold Dk.Jm Dk.nb;rw[decide_eq_true_eq];omega
 have hl:=Sn.nP hn;have hsz:(Sn.nameB vJ n).size=(Sn.l9 [112] n).length:=by rw[Lib.size_eq];rfl
 have hlen:(Sn.l9 [112] n).length≤40∧1≤(Sn.l9 [112] n).length:=by
  unfold Sn.l9 Sn.pad;simp;omega
 unfold Dk.nameB;rw[hsz];have ha:Dk.allB Dk.Jm (Sn.nameB vJ n)=true:=by
  unfold Dk.allB;show(Sn.l9 [112] n).all Dk.Jm=true;rw[List.all_eq_true];intro c hc;unfold Sn.l9 at hc;simp only[List.mem_append,List.mem_cons,List.mem_nil_iff,or_false]at hc;rcases hc with((rfl|rfl)|hc)|hc
  ·decide
  ·decide
  ·exact hd c hc
  ·rcases hc with rfl|rfl|rfl|rfl<;>decide
 rw[ha];simp[hlen]
theorem GInv.first(room st:Nat)(hs:st≤1099511627776):((DA.empty room).make (Sn.nameB vJ st)).1=0∧(((DA.empty room).make (Sn.nameB vJ st)).2.sync (Sn.nameB vJ st).data.toList).1=0∧
 GInv (((DA.empty room).make (Sn.nameB vJ st)).2.sync (Sn.nameB vJ st).data.toList).2 room vJ st st [] (st,[]):=by
 have h0:bf (DA.empty room) room vJ []:=⟨rfl,rfl,rfl,by simp,by simp⟩;obtain⟨h1,h2⟩:=h0.make hs (by simp) (Ip st hs) (by simp);obtain⟨h3,h4⟩:=bf.sync (ss0:=[]) (m:=(st,[])) h2;exact⟨h1,h3,⟨h4,by simp[Chain],by simp[df,Chain],by simp[aA],by simp[df],by simp,Nat.le_refl _,Nat.le_refl _,by simp⟩⟩
set_option maxHeartbeats 400000 in
theorem Kz(w:World)(base d:Nat)(F:List Nat)(A:DA)(lb:Nat)(gv:Value)(dir:ByteArray)(v:LV)(ms:List SM)(h:aI w base d F A lb gv dir v ms)(mr:dir.size≤1000)(hn:Dk.gu A (dir++⟨#[47]⟩:ByteArray).data.toList=[]):
 Calls Tryz.prog 126 #[.pointer (some ⟨lb,0,none⟩)] w fun e w'=>∃a c,e= .returned (.slice a 0 c)∧Turn [] w w':=by
 have H:=hide h;have HN:=hide hn;clear h hn;go_enter Tryz.func126,Tryz.ntmps126
 go_wp2
 refine aB 9 (Turn []) (by kernel_rfl) (by kernel_rfl) (by kernel_rfl) (by kernel_rfl) (by kernel_rfl) (Nat.le_of_ble_eq_true rfl) rfl (Turn.refl _) (fun _ _ _ h k=>h.same k) ?_;apply Lo.ag 1 rfl rfl [] (by kernel_rfl) (Turn.refl _);apply Exists.intro;apply And.intro
 ·intro u w1 hR hF
  clear hF;refine⟨rfl,fun a ha K hK=>?_⟩;have e0:=ha 0;conv at e0=>rhs;whnf
  clear ha;go_simp
  refine hK _ ?_;rfl
 apply Lo.ag 2 rfl rfl [0] (by kernel_rfl) (Turn.refl _);apply Exists.intro;apply And.intro
 ·intro u w1 hR hF
  obtain⟨h0, -⟩:=hF;refine⟨rfl,fun a ha K hK=>?_⟩;have e10:=(ha 10).trans h0;clear ha h0;go_simp
  refine hK _ ?_;rfl
 apply Lo.ag 3 rfl rfl [1] (by kernel_rfl) (Turn.refl _);apply Exists.intro;apply And.intro
 ·intro u w1 hR hF
  obtain⟨h1, -⟩:=hF;refine⟨rfl,fun a ha K hK=>?_⟩;have e11:=(ha 11).trans h1;clear ha h1;go_simp
  refine hK _ ?_;rfl
 apply Lo.ag 4 rfl rfl [2] (by kernel_rfl) (Turn.refl _);apply Exists.intro;apply And.intro
 ·intro u w1 hR hF
  obtain⟨h2, -⟩:=hF;refine⟨rfl,fun a ha K hK=>?_⟩;have e12:=(ha 12).trans h2;clear ha h2;have hL:=H.out.still (((Turn.refl [] _).drew).same hR);have c0:=hL.c0;have z1:=lt_of_heap hL.box;go_simp
  refine hK _ ?_;rfl
 apply Lo.ag 5 rfl rfl [] (by kernel_rfl) (Turn.refl _);apply Exists.intro;apply And.intro
 ·intro u w1 hR hF
  clear hF;refine⟨rfl,fun a ha K hK=>?_⟩;have e0:=ha 0;conv at e0=>rhs;whnf
  clear ha;go_simp
  refine hK _ ?_;rfl
 apply Lo.ag 6 rfl rfl [4] (by kernel_rfl) (Turn.refl _);apply Exists.intro;apply And.intro
 ·intro u w1 hR hF
  obtain⟨h4, -⟩:=hF;refine⟨rfl,fun a ha K hK=>?_⟩;have e14:=(ha 14).trans h4;clear ha h4;go_simp
  refine hK _ ?_;rfl
 apply Lo.ag 7 rfl rfl [5] (by kernel_rfl) (Turn.refl _);apply Exists.intro;apply And.intro
 ·intro u w1 hR hF
  obtain⟨h5, -⟩:=hF;refine⟨rfl,fun a ha K hK=>?_⟩;have e15:=(ha 15).trans h5;clear ha h5;go_simp
  refine hK _ ?_;rfl
 apply Lo.ag 8 rfl rfl [6] (by kernel_rfl) (Turn.refl _);apply Exists.intro;apply And.intro
 ·intro u w1 hR hF
  obtain⟨h6, -⟩:=hF;refine⟨rfl,fun a ha K hK=>?_⟩;have e16:=(ha 16).trans h6;clear ha h6;have hL:=H.out.still (((Turn.refl [] _).drew).same hR);have c1:=hL.c1;have z1:=lt_of_heap hL.box;go_simp
  refine hK _ ?_;rfl
 refine Lo.aJ 9 rfl rfl [7] (.string (dir++⟨#[47]⟩)) (by kernel_rfl) (fun u w1 hR hF=>?_) (Turn.refl _) ?_
 ·obtain⟨h7, -⟩:=hF
  refine⟨rfl,fun a ha K hK=>?_⟩;have e17:=(ha 17).trans h7;clear ha h7;have hsz:¬(9223372036854775807<dir.size+1):=by omega
  go_simp
  refine hK _ ?_;rfl
 refine Lo.done [3,8] (fun u w1 bP hSd hF=>?_);clear hSd;obtain⟨f3,f8, -⟩:=hF;have d3:u 3=_:=f3;have d8:u 8=_:=f8;clear f3 f8;simp only[List.take_succ_cons,List.take_zero,List.drop_succ_cons,List.drop_zero,ax,Act.put,List.setIfInBounds_toArray,List.set_cons_succ,List.set_cons_zero,Nat.zero_add,Nat.reduceAdd,d3,d8];have HT:=hide (((Turn.refl [] w).drew).same bP);clear d3 d8 bP;obtain⟨ah,msd,hp⟩:=H.out.disk.kept HT.out (by simp);have hsz:(dir++⟨#[47]⟩:ByteArray).size≤maxLen:=by
  rw[show(dir++⟨#[47]⟩:ByteArray).size=dir.size+1 from ByteArray.size_append];simp only[maxLen];omega
 have Jn:=Dk.GN hp (dir++⟨#[47]⟩:ByteArray) hsz;rw[HN.out]at Jn;have HLI:=hide Jn;clear Jn hp hsz;go_wp2_with fail
 refine HLI.out.mono ?_;rintro e w2 ⟨v1,rfl,hr,ht1⟩;have hv1:∃a c,v1= .slice a 0 c:=by
  rcases hr.2 with⟨rfl, -⟩|⟨g,cap,cur,rfl, -⟩
  ·exact⟨_,_,rfl⟩
  ·exact⟨_,_,rfl⟩
 obtain⟨a1,c1,rfl⟩:=hv1;have HT1:=hide (HT.out.same ht1);clear hr ht1 HLI;go_wp2
 refine wp_loop_rounds 1 ?_;rw[rounds_succ];go_wp2_with fail
 refine(Oj none 0 _).mono ?_;rintro e w3 ⟨rfl,ht3⟩;have HT3:=hide (HT1.out.same ht3);clear ht3;go_wp2
 refine wp_loop_rounds 1 ?_;rw[rounds_succ];go_wp2
 go_ret
 exact⟨_,_,rfl,HT3.out⟩
set_option maxHeartbeats 400000 in
theorem Ol(w:World)(base d:Nat)(F:List Nat)(A:DA)(lb:Nat)(gv:Value)(dir:ByteArray)(v:LV)(ms:List SM)(h:aI w base d F A lb gv dir v ms)(mr:dir.size≤1000)(hn:Dk.gu A (dir++⟨#[47]⟩:ByteArray).data.toList=[]):
 Calls Tryz.prog 86 #[.pointer (some ⟨lb,0,none⟩)] w fun e w'=>e= .returned .nilIface∧Turn [] w w':=by
 have hf:=Kz w base d F A lb gv dir v ms h mr hn;clear h hn;have HF:=hide hf;clear hf;go_enter Tryz.func86,Tryz.ntmps86
 go_wp2_with fail
 refine HF.out.mono ?_;rintro e w1 ⟨a,c,rfl,ht⟩;have HT:=hide ht;clear ht HF;go_wp2
 refine wp_loop_rounds 1 ?_;rw[rounds_succ];go_wp2
 go_ret
 exact⟨rfl,HT.out⟩
theorem xC(room:Nat)(bg:List UInt8):Dk.gu (DA.empty room) bg=[]:=by
 have h:Dk.aK (DA.empty room)=[]:=by
  have:=Dk.pY (DA.empty room);exact List.eq_nil_of_length_eq_zero this
 unfold Dk.gu;rw[h];rfl
end Lg
end
section
open Go.RowKit Go.Maps
set_option maxRecDepth 100000
namespace Lg
def FB(n:Nat):List Value:=[.int .i64 (n:Int)]
theorem FC:∀n,(FB n).length=1:=fun _=>rfl
theorem WC:(Tryz.prog.info? 3).map (fun i=>(i.zero.map (fun z=>z.cells.size),i.size,i.bytes))=some (some 1,1,8):=by kernel_rfl
theorem FD:∃i z,Tryz.prog.info? 3=some i∧i.zero=some z∧z.cells.size=1∧i.size=1∧i.bytes≤1000:=by
 have h:=WC;cases hi:Tryz.prog.info? 3 with
 |none=>rw[hi]at h;cases h
 |some i=>
  rw[hi]at h;simp only[Option.map_some,Option.some.injEq,Prod.mk.injEq,Option.map_eq_some_iff]at h;obtain⟨⟨z,hz,hz2⟩,h2,h3⟩:=h;exact⟨i,z,rfl,hz,hz2,h2,by omega⟩
theorem QL(w:World)(base:Nat)(v:Value)(xs:List Nat)(x:Nat)(k:Nat)(hrow:aH 3 1 FB w base v xs)(hk:w.heap[k]? =some (.cells (FB x).toArray 3 (0,0))) (hlen:xs.length≤1000000) (hbase:base≤w.heap.size):
 ∃v' w',(Builtin.append_ #[37,37] 37 #[v, .slice (some ⟨k,0,none⟩) 1 1]).run Tryz.prog w= .ok v' w'∧aH 3 1 FB w' base v' (xs++[x])∧Turn v.ownBlock.toList w w'∧(∀j∈v'.ownBlock,j∈v.ownBlock∨w.heap.size≤j):=by
 obtain⟨i,z,hi,hz,hzs,hs,hb⟩:=FD;exact dS (P:=Tryz.prog) 37 37 Tryz.underlying37 i z hi hz hzs hs hb FC (by intro x u hu;simp[FB]at hu;subst hu;rfl) w base v xs x k hrow hk hlen hbase
end Lg
end
section
open Go.RowKit Go.Maps
set_option maxRecDepth 100000
attribute [local go_sem] Oper.semAt_some
open Dk (DA ay Parts fE aW dI)
open Sg (bu bJ kL Both Came aA flat Chain)
namespace Lg
def sizeL(ms:List SM):Nat:=(ms.map (fun m=>(flat m.xs).length)).sum
end Lg
end
section
open Go.RowKit Go.Maps
open Dk (DA FA bH)
open Sg (Chain flat aA)
namespace Lg
section
variable {A:DA} {room:Nat} {dir:ByteArray} {st n:Nat} {ss ss0:List (Nat×List Bt.aX)} {p m:Nat×List Bt.aX}
theorem bf.remove(h:bf A room dir (p::ss)):(A.remove (jK dir p.1)).1=0∧bf (A.remove (jK dir p.1)).2 room dir ss:=by
 have e:A.remove (jK dir p.1)=(0,{A.tick with files:=Dk.iV A.files (jK dir p.1)}):=by
  unfold DA.remove;rw[h.fails,h.has (p:=p) (by simp),if_neg (by simp),if_neg (by simp)]
 rw[e,h.tick];have hfs:=h.files;rw[List.map_cons]at hfs;obtain⟨f,fs,hf,h1,h2⟩:=List.map_eq_cons_iff.1 hfs;have hfn:f.name=jK dir p.1:=congrArg Prod.fst h1;have hnd:=h.nd;rw[List.map_cons,List.nodup_cons]at hnd;have hout:Dk.iV A.files (jK dir p.1)=fs:=by
  unfold Dk.iV;rw[hf,List.filter_cons,if_neg (by simp[hfn]),List.filter_eq_self];intro x hx;have hx2:(x.name,x.bytes)∈ss.map (fun p=>(jK dir p.1,flat p.2)):=by rw[←h2];exact List.mem_map.2 ⟨x,hx,rfl⟩
  obtain⟨q,hq,e⟩:=List.mem_map.1 hx2;have e1:jK dir q.1=x.name:=congrArg Prod.fst e;have:(x.name==jK dir p.1)=false:=by
   rw[beq_eq_false_iff_ne,←e1];intro he;exact hnd.1 (List.mem_map.2 ⟨q,hq,uG (h.base q (by simp[hq])) (h.base p (by simp)) he⟩)
  rw[this];rfl
 exact⟨rfl,h.lim,h.room,by show(Dk.iV A.files (jK dir p.1)).map _=_;rw[hout];exact h2,fun q hq=>h.base q (by simp[hq]),hnd.2⟩
def Eu(ss0:List (Nat×List Bt.aX))(m:Nat×List Bt.aX):Nat:=match ss0 with
 |[]=>m.1
 |q::_=>q.1
theorem GInv.addK(h:GInv A room dir st n ss0 m)(hn:n≤1099511627776)(rs:List Bt.Rec)(hx:Bt.aO (eG n rs)=0)(hok:Dk.nameB (Sn.nameB dir n)=true)(hl:(ss0++[m]).length<200)(hr:(flat (df (ss0++[m]))).length+(Bt.aj (eG n rs)).length≤room)(v:LV):
 ∃A' v' ss0' m',qC A dir v n ss0 m rs=(0,A',v',ss0'++[m'])∧v'.start=v.start∧v'.most=v.most∧v'.down=v.down∧GInv A' room dir st (n+rs.length) ss0' m'∧df (ss0'++[m'])=df (ss0++[m])++[eG n rs]∧ss0'.length≤ss0.length+1∧Eu ss0' m'=Eu ss0 m:=by
 unfold qC nV;rw[if_neg (by rw[hx];simp)];have hno:∀w:LV,lJ 0 w=w:=fun w=>by unfold lJ;rw[if_neg (by omega)]
 by_cases hc:0<(flat m.2).length∧v.most<((flat m.2).length+(Bt.aj (eG n rs)).length:Nat)
 ·rw[if_pos hc]
  obtain⟨A1,e1,g1,b1⟩:=h.roll hn hc.1 hok hl v;rw[e1,if_neg (fun hc2=>hc2 rfl)];obtain⟨A2,e2,g2,b2⟩:=g1.put (x:=eG n rs) hx rfl (n':=n+rs.length) (by show((n:Int)+rs.length)=_;omega) (by rw[b1];exact hr) {v with safe:=(n:Int)};simp only;rw[e2];exact⟨A2,{v with safe:=(n:Int)},_,_,by rw[hno],rfl,rfl,rfl,g2,by rw[b2,b1],by simp,by cases ss0<;>rfl⟩
 ·rw[if_neg hc]
  obtain⟨A2,e2,g2,b2⟩:=h.put (x:=eG n rs) hx rfl (n':=n+rs.length) (by show((n:Int)+rs.length)=_;omega) hr v;rw[e2];exact⟨A2,v,_,_,by rw[hno],rfl,rfl,rfl,g2,b2,by omega,by cases ss0<;>rfl⟩
end
end Lg
end
section
open Go.RowKit Go.Maps
set_option maxRecDepth 100000
attribute [local go_sem] Oper.semAt_some
open Dk (DA ay Parts fE aW dI)
open Sg (bu bJ kL Both Came aA flat Chain)
namespace Lg
structure Iq(w:World)(lb B0 B1 B2 B3:Nat)(now eU bytes:Int):Prop where
 b0:w.heap[B0]? =some (.cells #[.pointer (some ⟨lb,0,none⟩)] 142 (0,0))
 b1:w.heap[B1]? =some (.cells #[.int .i64 now] 3 (0,0))
 b2:w.heap[B2]? =some (.cells #[.int .i64 eU] 3 (0,0))
 b3:w.heap[B3]? =some (.cells #[.int .i64 bytes] 3 (0,0))
theorem aI.AQ{w:World}{base d lb:Nat}{F:List Nat}{A:DA}{gv:Value}{dir:ByteArray}{v:LV}{ms:List SM}(h:aI w base d F A lb gv dir v ms){k:Nat}{cs:Array Value}{T:TypeId}{fr:Nat×Nat}(e:w.heap[k]? =some (.cells cs T fr))
 (h1:T≠171) (h2:T≠174) (h3:T≠209) (h4:T≠253) (h5:T≠93) (h6:T≠136) (h7:T≠5):k∉aS F lb gv ms:=by
 intro hm;rcases aC.1 hm with rfl|hm|⟨x,hx,hm⟩|hm
 ·exact ai h.box e (fun q=>h1 q.symm) rfl
 ·obtain⟨cs',e'⟩:=h.row.kind k hm
  exact ai e' e (fun q=>h2 q.symm) rfl
 ·obtain⟨cs',T',e',hT⟩:=mg (h.lL x hx) k hm
  rcases hT with rfl|rfl
  ·exact ai e' e (fun q=>h3 q.symm) rfl
  ·exact ai e' e (fun q=>h4 q.symm) rfl
 ·rcases lV h.disk hm e with q|q|q
  ·exact h5 q
  ·exact h6 q
  ·exact h7 q
theorem Iq.kept{w w':World}{base d lb B0 B1 B2 B3:Nat}{F:List Nat}{A:DA}{gv:Value}{dir:ByteArray}{v:LV}{ms:List SM}{now eU bytes:Int}(hb:Iq w lb B0 B1 B2 B3 now eU bytes)(h:aI w base d F A lb gv dir v ms)(ht:Turn (aS F lb gv ms) w w'):Iq w' lb B0 B1 B2 B3 now eU bytes:=
 ⟨ht.heap hb.b0 (h.AQ hb.b0 (by decide) (by decide) (by decide) (by decide) (by decide) (by decide) (by decide)),
  ht.heap hb.b1 (h.AQ hb.b1 (by decide) (by decide) (by decide) (by decide) (by decide) (by decide) (by decide)),
  ht.heap hb.b2 (h.AQ hb.b2 (by decide) (by decide) (by decide) (by decide) (by decide) (by decide) (by decide)),
  ht.heap hb.b3 (h.AQ hb.b3 (by decide) (by decide) (by decide) (by decide) (by decide) (by decide) (by decide))⟩
theorem Iq.still{w w':World}{lb B0 B1 B2 B3:Nat}{now eU bytes:Int}(hb:Iq w lb B0 B1 B2 B3 now eU bytes)(ht:Turn [] w w'):Iq w' lb B0 B1 B2 B3 now eU bytes:=
 ⟨ht.heap hb.b0 (by simp),ht.heap hb.b1 (by simp),ht.heap hb.b2 (by simp),ht.heap hb.b3 (by simp)⟩
theorem Iq.cells{w:World}{lb B0 B1 B2 B3:Nat}{now eU bytes:Int}(hb:Iq w lb B0 B1 B2 B3 now eU bytes):w.cell? ⟨B0,0,none⟩=some (.pointer (some ⟨lb,0,none⟩))∧w.cell? ⟨B1,0,none⟩=some (.int .i64 now)∧w.cell? ⟨B2,0,none⟩=some (.int .i64 eU)∧w.cell? ⟨B3,0,none⟩=some (.int .i64 bytes):=
 ⟨by rw[cell_of hb.b0];rfl,by rw[cell_of hb.b1];rfl,by rw[cell_of hb.b2];rfl,by rw[cell_of hb.b3];rfl⟩
def stI(ss0:List (Nat×List Bt.aX))(mm:Nat×List Bt.aX)(i:Nat):Nat:=if i=0 then 0 else Eu (ss0.drop i) mm
def DSt(w wr:World)(base d lb:Nat)(dir:ByteArray)(G:List Nat)(room nn:Nat)(ss0:List (Nat×List Bt.aX))(mm:Nat×List Bt.aX)(mo:Int)(dn:Bool)(i:Nat):Prop:=
 ∃F gv v ms A,aI wr base d F A lb gv dir v ms∧ms.map SM.abs=ss0.drop i++[mm]∧GInv A room dir (stI ss0 mm i) nn (ss0.drop i) mm∧(v.start=stI ss0 mm i∧v.most=mo∧v.down=dn)∧Turn G w wr∧∀k∈aS F lb gv ms,k∈G∨w.heap.size≤k
theorem DSt.still{w wr w':World}{base d lb:Nat}{dir:ByteArray}{G:List Nat}{room nn:Nat}{ss0:List (Nat×List Bt.aX)}{mm:Nat×List Bt.aX}{mo:Int}{dn:Bool}{i:Nat}(h:DSt w wr base d lb dir G room nn ss0 mm mo dn i)(ht:Turn [] wr w'):DSt w w' base d lb dir G room nn ss0 mm mo dn i:=by
 obtain⟨F,gv,v,ms,A,h1,h2,h3,h4,h5,h6⟩:=h;exact⟨F,gv,v,ms,A,h1.still ht,h2,h3,h4,h5.same (ht.mono (by simp)),h6⟩
end Lg
end
section
open Go.RowKit Go.Maps
set_option maxRecDepth 100000
attribute [local go_sem] Oper.semAt_some
open Dk (DA ay Parts fE aW dI)
open Sg (Chain flat kL Both aA)
namespace Lg
def ML(xs:List Bt.aX):List Bt.Rec:=xs.flatMap (·.recs)
theorem qF:∀{rs:List Bt.Rec} {lo hi:Int},Bt.bK rs lo hi=0→rs.Pairwise (fun a b=>a.off<b.off)
 |[],_,_,_=>List.Pairwise.nil
 |q::rs,lo,hi,h=>by
  unfold Bt.bK at h;split at h
  ·rw[List.pairwise_cons]
   exact⟨fun r hr=>by have:=qA h r hr;omega,qF h⟩
  ·rename_i h0
   exact absurd h h0
theorem MM{xs:List Bt.aX}{b:Int}(h:Chain b xs):∀r∈ML xs,b≤r.off:=by
 intro r hr;obtain⟨x,hx,hr⟩:=List.mem_flatMap.1 hr;have:=sU h x hx;have:=(uB (Sg.Chain.mem h x hx) r hr).1;omega
theorem xE:∀{xs:List Bt.aX} {b:Int},Chain b xs→(ML xs).Pairwise (fun a b=>a.off<b.off)
 |[],_,_=>List.Pairwise.nil
 |x::r,b,h=>by
  unfold ML;rw[List.flatMap_cons,List.pairwise_append];refine⟨qF (Bt.l7 (Bt.eY h.1).1).2.2.2.2.2,xE h.2.2,fun p hp q hq=>?_⟩;have h1:=(uB h.1 p hp).2;have h2:=MM h.2.2 q hq;omega
theorem piece{L P Q:List Bt.Rec}(hs:L.Pairwise (fun a b=>a.off<b.off))(e:L=P++Q){fr:Int}{R:List Bt.Rec}(hR:R=dK fr P)(h0:R≠[]):fr≤(R.getLast h0).off∧R.getLast h0∈L∧dK fr L=R++dK ((R.getLast h0).off+1) L:=by
 obtain⟨z,hz⟩:∃z,z=R.getLast h0:=⟨_,rfl⟩;have hzR:z∈R:=by rw[hz];exact List.getLast_mem h0
 have ZJ:z∈P∧fr≤z.off:=by
  rw[hR]at hzR;unfold dK at hzR;have:=List.mem_filter.1 hzR;exact⟨this.1,by simpa using this.2⟩
 rw[←hz];rw[e]at hs;have hs':=List.pairwise_append.1 hs;have hRs:R.Pairwise (fun a b=>a.off<b.off):=by rw[hR];exact hs'.1.filter _
 have hle:∀r∈R,r.off≤z.off:=by
  intro r hr;have e2:R=R.dropLast++[z]:=by rw[hz];exact(List.dropLast_concat_getLast h0).symm
  rw[e2]at hr hRs;rcases List.mem_append.1 hr with h|h
  ·have:=(List.pairwise_append.1 hRs).2.2 r h z (by simp)
   omega
  ·obtain rfl:=List.mem_singleton.1 h
   exact Int.le_refl _
 refine⟨ZJ.2,by rw[e];exact List.mem_append_left _ ZJ.1,?_⟩;have h1:dK (z.off+1) P=[]:=sV fun r hr=>by
  rcases Int.lt_or_le r.off fr with h|h
  ·omega
  ·have:r∈R:=by rw[hR];unfold dK;exact List.mem_filter.2 ⟨hr,by simpa using h⟩
   have:=hle r this;omega
 have h2:dK fr Q=Q:=nU fun r hr=>by have:=hs'.2.2 z ZJ.1 r hr;omega
 have h3:dK (z.off+1) Q=Q:=nU fun r hr=>by have:=hs'.2.2 z ZJ.1 r hr;omega
 have hap:∀(f:Int) (a b:List Bt.Rec),dK f (a++b)=dK f a++dK f b:=fun f a b=>by unfold dK;rw[List.filter_append]
 rw[e,hap,hap,h1,h2,h3,hR,List.nil_append]
end Lg
end
section
open Go.RowKit Go.Maps
set_option maxRecDepth 100000
attribute [local go_sem] Oper.semAt_some
open Dk (DA ay Parts fE aW dI)
open Sg (bu bJ kL Both Came aA flat Chain)
namespace Lg
def rA:Bt.Rec:=⟨0,0,false,[],false,[97]⟩
def rB:Bt.Rec:=⟨0,0,false,[],false,[98]⟩
end Lg
end
section
open Go.RowKit Go.Maps
set_option maxRecDepth 100000
open Dk (DA ay Parts fE aW dI)
open Sg (bu bJ kL Both Came aA flat Chain)
namespace Lg
structure LSt(W wr:World)(lb mo i nn:Nat):Prop where
 log:∃F gv v ms0 m A ss0 mm,aI wr W.heap.size W.heap.size F A lb gv vJ v (ms0++[m])∧(ms0.map SM.abs=ss0∧m.abs=mm)∧GInv A 1048576 vJ 0 nn ss0 mm∧(v.start=0∧v.most=mo∧v.down=false)∧ss0.length≤i∧(flat (df (ss0++[mm]))).length≤6000*i∧Eu ss0 mm=0
 len:nn≤60*i
 turn:Turn [] W wr
theorem LSt.add{W wr:World}{lb mo i nn:Nat}(h:LSt W wr lb mo i nn)(hi:i<20)(hmo:mo≤1048576)(hv:Sn.Qa W)(hg:As.lM W)(vr:Value)(rs:List Bt.Rec)(hr:bn wr vr rs)(hl:rs.length≤60):
 Calls Tryz.prog 98 #[.pointer (some ⟨lb,0,none⟩),vr] wr fun e w'=>∃x c nn',e= .returned (.tuple #[x,c])∧LSt W w' lb mo (i+1) nn':=by
 have hmore:=h;obtain⟨⟨F,gv,v,ms0,m,A,ss0,mm,yG,⟨hss,hmm⟩,hgi,⟨hv1,hv2,hv3⟩,hsl,VA,hhk⟩,hlen,htw⟩:=h;have hln:=congrArg List.length hss;rw[List.length_map]at hln;have hfl:(flat m.xs).length≤1048576:=by
  have hp:m.abs∈ss0++[mm]:=by rw[hmm];simp
  exact sZ yG.disk (hgi.ok (by simp;omega)) hp
 have hnx:aA m.n m.xs=(nn:Int):=by
  have:=hgi.next;rw[←hmm]at this;exact this
 have hmn:m.n≤1099511627776:=hgi.disk.base m.abs (by rw[hmm];simp);have hadd:=MK wr W.heap.size W.heap.size F A lb gv vJ v ms0 m yG (by omega) hmn (by decide) hfl (by rw[hv2];omega) hv3 nn (by omega) hnx
  (fun Z hZ=>by
    have hT:=htw.trans hZ (fun k hk=> .inr (yG.lt k hk).1);exact⟨(hv.below hT.nil).tab,hg.below hT.nil⟩) vr rs hr (by omega)
 rw[hss,hmm]at hadd;refine hadd.mono ?_;rintro e w5 ⟨rfl,hd5⟩;by_cases hx:Bt.aO (eG (nn:Int) rs)=0
 ·have hby:=(Bt.eY hx).2
  have hbl:=Bt.gK (eG (nn:Int) rs);obtain⟨A',v',ss0',m',e1,e2,e3,e4,g',b',l',k'⟩:=hgi.addK (by omega) rs hx (Ip _ (by omega)) (by simp;omega) (by omega) v;rw[e1]at hd5;simp only at hd5;obtain⟨F5,gv5,ms5,hl5,hm5,ht5,hf5⟩:=hd5;obtain⟨ms50,m5,rfl,hm50,WE⟩:=jw hm5;refine⟨_,_,nn+rs.length,rfl,⟨F5,gv5,v',ms50,m5,A',ss0',m',hl5,⟨hm50,WE⟩,g',⟨e2.trans hv1,e3.trans hv2,e4.trans hv3⟩,by omega,?_,k'.trans hhk⟩,by omega,htw.trans ht5 (fun k hk=> .inr (yG.lt k hk).1)⟩;rw[b',Sg.bZ,Sg.kK,List.length_append];omega
 ·rw[QJ rs hx v]at hd5
  simp only at hd5;obtain⟨F5,gv5,ms5,hl5,hm5,ht5,hf5⟩:=hd5;obtain⟨ms50,m5,rfl,hm50,WE⟩:=jw hm5;exact⟨_,_,nn,rfl,⟨F5,gv5,v,ms50,m5,A,ss0,mm,hl5,⟨hm50,WE⟩,hgi,⟨hv1,hv2,hv3⟩,by omega,by omega,hhk⟩,by omega,htw.trans ht5 (fun k hk=> .inr (yG.lt k hk).1)⟩
end Lg
end
section
open Go.RowKit Go.Maps
set_option maxRecDepth 100000
end
section
open Go.RowKit
open Dk (DA)
namespace Sg
structure One(A:DA)(room:Nat)(nm bs:List UInt8):Prop where
 lim:A.limited=false
 room:A.room=room
 one:∃sf,A.files=[⟨nm,bs,sf⟩]
theorem One.fails{A:DA}{room:Nat}{nm bs:List UInt8}(h:One A room nm bs):A.fails=false:=by unfold DA.fails;rw[h.lim];rfl
theorem One.tick{A:DA}{room:Nat}{nm bs:List UInt8}(h:One A room nm bs):A.tick=A:=by unfold DA.tick;rw[h.lim];rfl
theorem One.file{A:DA}{room:Nat}{nm bs:List UInt8}(h:One A room nm bs):∃f,A.file nm=some f∧f.bytes=bs:=by
 obtain⟨sf,e⟩:=h.one;exact⟨⟨nm,bs,sf⟩,by unfold DA.file;rw[e];simp,rfl⟩
theorem One.has{A:DA}{room:Nat}{nm bs:List UInt8}(h:One A room nm bs):A.has nm=true:=by
 obtain⟨f,e, -⟩:=h.file;rw[Dk.qc,e];rfl
theorem One.used{A:DA}{room:Nat}{nm bs:List UInt8}(h:One A room nm bs):Dk.bH A.files=bs.length:=by
 obtain⟨sf,e⟩:=h.one;rw[e];simp[Dk.bH]
theorem One.upd{A:DA}{room:Nat}{nm bs:List UInt8}(h:One A room nm bs)(g:Dk.FA→Dk.FA)(hg:∀f,(g f).name=f.name)(bs':List UInt8)(hb:∀sf,(g ⟨nm,bs,sf⟩).bytes=bs'):One (A.upd nm g) room nm bs':=by
 obtain⟨sf,e⟩:=h.one;refine⟨h.lim,h.room,(g ⟨nm,bs,sf⟩).safe,?_⟩;unfold DA.upd Dk.dR;rw[e];have h1:=hg ⟨nm,bs,sf⟩;have h2:=hb sf;simp only[List.map_cons,List.map_nil,beq_self_eq_true,if_true];generalize g ⟨nm,bs,sf⟩=y at*
 cases y
 simp_all
theorem One.add{A:DA}{room:Nat}{nm bs:List UInt8}(h:One A room nm bs)(b:List UInt8)(hr:bs.length+b.length≤room):(A.add nm b).1=0∧One (A.add nm b).2 room nm (bs++b):=by
 have e:A.add nm b=(0,A.tick.upd nm (fun f=>{f with bytes:=f.bytes++b})):=by
  unfold DA.add;rw[h.fails,h.has,h.used,h.room,if_neg (by simp),if_neg (by simp),if_neg (by omega)]
 rw[e,h.tick];exact⟨rfl,h.upd (fun f=>{f with bytes:=f.bytes++b}) (fun _=>rfl) (bs++b) (fun _=>rfl)⟩
theorem One.cut{A:DA}{room:Nat}{nm bs:List UInt8}(h:One A room nm bs)(n:Nat)(hn:n≤bs.length):(A.cut nm n).1=0∧One (A.cut nm n).2 room nm (bs.take n):=by
 obtain⟨f,hf,hb⟩:=h.file;have e:A.cut nm n=(0,A.tick.upd nm (Dk.VB n)):=by
  unfold DA.cut;rw[h.fails,hf,if_neg (by simp)];simp only;rw[if_neg (by rw[hb];omega)];simp
 rw[e,h.tick];exact⟨rfl,h.upd (Dk.VB n) (fun _=>rfl) (bs.take n) (fun _=>rfl)⟩
theorem One.size{A:DA}{room:Nat}{nm bs:List UInt8}(h:One A room nm bs):A.sizeOf nm=bs.length:=by
 obtain⟨f,hf,hb⟩:=h.file;rw[Ib hf,hb]
def dirS:ByteArray:=⟨#[115]⟩
end Sg
end
section
open Go.RowKit Go.Maps
set_option maxRecDepth 100000
attribute [local go_sem] Oper.semAt_some
open Dk (DA ay Parts fE aW dI)
open Sg (bu bJ kL Both Came aA flat Chain)
namespace Lg
theorem Cb:∀(L:List Bt.Rec) (a b:Int),L.Pairwise (fun p q=>p.off<q.off)→(∀r∈L,a≤r.off∧r.off<b)→L=[]∨(L.length:Int)≤b-a
 |[],_,_,_,_=> .inl rfl
 |r::L,a,b,hp,hb=>by
  rw[List.pairwise_cons]at hp;have h1:=hb r (by simp);rcases Cb L (r.off+1) b hp.2 (fun q hq=>⟨by have:=hp.1 q hq;omega,(hb q (by simp[hq])).2⟩)with rfl|h
  ·right;simp;omega
  ·right;simp;omega
section
variable {A:DA} {room:Nat} {dir:ByteArray} {st n:Nat} {ss0:List (Nat×List Bt.aX)} {m:Nat×List Bt.aX}
theorem GInv.few(h:GInv A room dir st n ss0 m):(ML (df (ss0++[m]))).length≤n:=by
 have h1:=xE h.chain;have h2:=MM h.chain;rcases Cb _ (st:Int) (n:Int) h1 (fun r hr=>⟨h2 r hr,by
  obtain⟨x,hx,hr⟩:=List.mem_flatMap.1 hr;have h3:=(uB (Sg.Chain.mem h.chain x hx) r hr).2;have h4:=h.yj x hx;omega⟩)with h|h
 ·rw[h];simp
 ·omega
end
def iK(w:World)(v:Value)(xs:List Nat):Prop:=∃a c,v= .slice a xs.length c∧xs.length≤c∧c≤maxLen∧∀j (h:j<xs.length),∃p,a=some p∧w.cell? (p.add j)=some (.int .i64 (xs[j]:Int))
theorem iK.still{w w':World}{v:Value}{xs:List Nat}(h:iK w v xs)(ht:Turn [] w w'):iK w' v xs:=by
 obtain⟨a,c,e,h1,h2,h3⟩:=h;refine⟨a,c,e,h1,h2,fun j hj=>?_⟩;obtain⟨p,hp,hc⟩:=h3 j hj;exact⟨p,hp,(World.cell?_of_block (w:=w) (ht.block _ (World.block_lt_of_cell? _ _ hc) (by simp))).trans hc⟩
theorem _root_.Go.Proofs.YtmjpdhpmjmgmaaaGreatDoor.aH.ints{w:World}{base:Nat}{v:Value}{xs:List Nat}(h:aH 3 1 FB w base v xs):iK w v xs:=by
 obtain⟨a,c,rfl,h1,h2⟩:=h.form;refine⟨a,c,rfl,h1,h2,fun j hj=>?_⟩;obtain⟨g,cap,e,hc, -⟩:=h.at FC hj;simp only[Value.slice.injEq,true_and]at e;obtain⟨rfl,rfl⟩:=e;refine⟨_,rfl,?_⟩;have:=hc 0 (by omega);simp only[Nat.mul_one,Nat.add_zero]at this;rw[addr_add,this];simp[FB]
theorem iK.drop{w:World}{p:Addr}{c:Nat}{xs:List Nat}{l:Nat}(h:iK w (.slice (some p) l c) xs){k:Nat}(hk:k<xs.length):iK w (.slice (some (p.add k)) (xs.length-k) (c-k)) (xs.drop k):=by
 obtain⟨a,c',e,h1,h2,h3⟩:=h;simp only[Value.slice.injEq]at e;obtain⟨rfl, -,rfl⟩:=e;refine⟨_,_,by rw[List.length_drop],by rw[List.length_drop];omega,by omega,fun j hj=>?_⟩;rw[List.length_drop]at hj;obtain⟨q,hq,hc⟩:=h3 (k+j) (by omega);obtain rfl:=Option.some.inj hq;exact⟨_,rfl,by rw[add_add,hc];simp⟩
end Lg
end
section
open Go.RowKit Go.Maps
set_option maxRecDepth 100000
attribute [local go_sem] Oper.semAt_some
open Lg (iK)
open Go.Lib (decDigits)
namespace Tp
def YH(s:ByteArray):List Value:=[.string s]
theorem FH:∀s,(YH s).length=1:=fun _=>rfl
abbrev SR(w:World)(base:Nat)(v:Value)(xs:List ByteArray):Prop:=aH 9 1 YH w base v xs
theorem WG:(Tryz.prog.info? 9).map (fun i=>(i.zero.map (fun z=>z.cells.size),i.size,i.bytes))=some (some 1,1,16):=by kernel_rfl
theorem FI:∃i z,Tryz.prog.info? 9=some i∧i.zero=some z∧z.cells.size=1∧i.size=1∧i.bytes≤1000:=by
 have h:=WG;cases hi:Tryz.prog.info? 9 with
 |none=>rw[hi]at h;cases h
 |some i=>
  rw[hi]at h;simp only[Option.map_some,Option.some.injEq,Prod.mk.injEq,Option.map_eq_some_iff]at h;obtain⟨⟨z,hz,hz2⟩,h2,h3⟩:=h;exact⟨i,z,rfl,hz,hz2,h2,by omega⟩
theorem YI(w:World)(base:Nat)(v:Value)(xs:List ByteArray)(x:ByteArray)(k:Nat)(hrow:SR w base v xs)(hk:w.heap[k]? =some (.cells (YH x).toArray 9 (0,0))) (hlen:xs.length≤1000000) (hbase:base≤w.heap.size):
 ∃v' w',(Builtin.append_ #[138,138] 138 #[v, .slice (some ⟨k,0,none⟩) 1 1]).run Tryz.prog w= .ok v' w'∧SR w' base v' (xs++[x])∧Turn v.ownBlock.toList w w'∧(∀j∈v'.ownBlock,j∈v.ownBlock∨w.heap.size≤j):=by
 obtain⟨i,z,hi,hz,hzs,hs,hb⟩:=FI;exact dS (P:=Tryz.prog) 138 138 Tryz.underlying138 i z hi hz hzs hs hb FH (by intro x u hu;simp[YH]at hu;subst hu;rfl) w base v xs x k hrow hk hlen hbase
def vK(n:Nat):ByteArray:=⟨(decDigits n).toArray⟩
theorem Vd(n:Nat)(hn:n≤1099511627776)(w:World)(hv:Sn.dA w):
 Calls Tryz.prog 91 #[.int .i64 (n:Int)] w fun e w'=>e= .returned (.string (vK n))∧Turn [] w w':=by
 refine(Sn.Hz n hn w hv).mono ?_;rintro e w' ⟨S,rfl,hS,hb⟩;refine⟨?_,Turn.of_below hb []⟩;congr 2
 apply ByteArray.ext;apply Array.toList_inj.1;rw[hS];rfl
theorem vM{n:Nat}(hn:n≤1099511627776):(vK n).size≤21:=by
 have:=Sn.nP hn;show(decDigits n).toArray.size≤21;simpa using this
def dN(s:ByteArray)(k:Nat):ByteArray:=s++⟨#[45]⟩++vK k
set_option maxHeartbeats 1000000 in
theorem DC(s:ByteArray)(hs:s.size≤1000)(k:Nat)(hk:k≤1099511627776)(w:World)(hv:Sn.dA w):
 Calls Tryz.prog 57 #[.string s, .int .i64 (k:Int)] w fun e w'=>e= .returned (.string (dN s k))∧Turn [] w w':=by
 have HI:=hide (Vd k hk w hv);have hz:=vM hk;go_enter Tryz.func57,Tryz.ntmps57
 go_wp2_with fail
 refine HI.out.mono ?_;rintro e w1 ⟨rfl,ht⟩;have HT:=hide ht;clear ht;go_wp2
 go_ret
 exact⟨rfl,HT.out⟩
def Ir(c:Bool):ByteArray:=if c then⟨#[49]⟩else⟨#[48]⟩
def gz(name:ByteArray)(c:Bool)(starts:List Nat):List ByteArray:=name::Ir c::starts.map vK
def xI(name:ByteArray)(c:Bool)(starts:List Nat):ByteArray:=⟨(Lib.join ((gz name c starts).map (·.data.toList)) [32]).toArray⟩++⟨#[10]⟩
theorem Iu(name:ByteArray)(c:Bool)(starts:List Nat){k:Nat}(hk:k<starts.length):gz name c (starts.take (k+1))=gz name c (starts.take k)++[vK starts[k]]:=by
 unfold gz;rw[List.take_succ_eq_append_getElem hk,List.map_append];rfl
theorem Iw(w:World)(name s1:ByteArray):SR (w.alloc (.cells #[.string name, .string s1] 9)) w.heap.size (.slice (some ⟨w.heap.size,0,none⟩) 2 2) [name,s1]:=
 .inr ⟨w.heap.size,2,_,rfl,Nat.le_refl _,ae w _,Nat.le_refl _,by simp,by simp[maxLen],rfl⟩
set_option maxHeartbeats 4000000 in
theorem QM(w:World)(name:ByteArray)(parts:Int)(c:Bool)(sv:Value)(starts:List Nat)(hst:iK w sv starts)(hsl:starts.length≤1000)(hsn:∀n∈starts,n≤1099511627776)(hlen:(Lib.join ((gz name c starts).map (·.data.toList)) [32]).length≤140737488355328)(hv:∀Z,Turn [] w Z→Sn.dA Z):
 Calls Tryz.prog 79 #[.agg #[.string name, .int .i64 parts, .bool c,sv]] w fun e w'=>e= .returned (.string (xI name c starts))∧Turn [] w w':=by
 obtain⟨a,cap,rfl,hlc,hcm, -⟩:=id hst;have hmx:maxLen=9223372036854775807:=by simp[maxLen]
 rw[hmx]at hcm;have HST:=hide hst;have HV:=hide hv;have Jp:=hide hsn;have HL:=hide hlen;clear hst hv hsn hlen;obtain⟨c0,hc0⟩:∃c0,c0=c:=⟨_,rfl⟩;rw[show xI name c starts=xI name c0 starts by rw[hc0]];rw[show gz name c starts=gz name c0 starts by rw[hc0]]at HL;cases c
 all_goals
  have HC:=hide hc0;clear hc0;go_enter Tryz.func79,Tryz.ntmps79
  go_wp2_with fail
  go_loopw [3,18] (fun wv kv wr=>∃k:Nat,k≤starts.length∧kv= .int .i64 k∧SR wr w.heap.size wv (gz name c0 (starts.take k))∧Turn [] w wr) (fun _ kv _=>starts.length-(intOf kv).toNat)
  case atStart=>
   rw[HC.out];refine⟨0,Nat.zero_le _,rfl,?_,?_⟩
   ·first
     |(have h:=Iw (w.alloc (.cells #[.string name, .int .i64 parts, .bool false, .slice a starts.length cap] 107)) name ⟨#[48]⟩
       rw[World.size_alloc]at h;exact aH.aZ h (Nat.le_succ _))
     |(have h:=Iw (w.alloc (.cells #[.string name, .int .i64 parts, .bool true, .slice a starts.length cap] 107)) name ⟨#[49]⟩
       rw[World.size_alloc]at h;exact aH.aZ h (Nat.le_succ _))
   ·first
     |exact((Turn.refl [] w).alloc _).alloc _
     |exact(((Turn.refl [] w).alloc _).alloc _).setCell (.inr (by simp)) _
  case round=>
   obtain⟨k,hk,rfl,hrow,htw⟩:=hrel;have hwl:(gz name c0 (starts.take k)).length=k+2:=by unfold gz;simp;omega
   have dJ:=hide htw;have bQ:=hide hrow;obtain⟨wa,wc,ew, -, -⟩:=hrow.form;rw[hwl]at ew;subst ew;clear htw hrow;by_cases hlt:k<starts.length
   ·obtain⟨p,rfl,hcp⟩:∃p,a=some p∧wr.cell? (p.add k)=some (.int .i64 (starts[k]:Int)):=by
     obtain⟨a',c',e, -, -,h3⟩:=HST.out.still dJ.out;simp only[Value.slice.injEq,true_and]at e;obtain⟨rfl,rfl⟩:=e;exact h3 k hlt
    have YJ:=hide (Jp.out starts[k] (List.getElem_mem _));have HWS:=hide (Iu name c0 starts hlt);obtain⟨n,hn⟩:∃n,n=starts[k]:=⟨_,rfl⟩;rw[←hn]at hcp YJ HWS;clear hn;have HIT:=hide (Vd n YJ.out wr (HV.out wr dJ.out));go_wp2_with fail
    refine HIT.out.mono ?_;rintro e w1 ⟨rfl,ht1⟩;obtain⟨w2,hw2⟩:∃w2,w2=w1.alloc (.cells #[.string (vK n)] 9):=⟨_,rfl⟩;have ht2:Turn [] wr w2:=by rw[hw2];exact ht1.alloc _
    have hk2:w2.heap[w1.heap.size]? =some (.cells (YH (vK n)).toArray 9 (0,0)):=by rw[hw2];exact ae w1 _
    obtain⟨v7,w7,hr7,hrow7,ht7,hown7⟩:=YI w2 w.heap.size _ _ (vK n) w1.heap.size (bQ.out.still ht2) hk2 (by rw[hwl];omega) (Nat.le_trans dJ.out.size ht2.size);have iZ:=hide hrow7;have HT7:Hid (Turn [] w w7):=(dJ.out.same ht2).trans ht7 (fun q hq=> .inr ((bQ.out.lt q (by simpa using hq)).1));clear hrow7 ht7 hown7 ht1 ht2 hk2;rw[hw2]at hr7;have HR7:=hide hr7;clear hr7;go_wp2_with (at_builtin;go_must (refine Sn.dY rfl rfl rfl rfl HR7.out ?_))
    refine⟨⟨k+1,by omega,by go_num,by rw[HWS.out];exact iZ.out,HT7.out⟩,?_⟩;simp only[intOf];omega
   ·obtain rfl:k=starts.length:=by omega
    rw[List.take_length]at bQ hwl;have hrow:=bQ.out;obtain⟨g,cap',e,hcs, -⟩:=hrow.at FH (j:=0) (by rw[hwl];omega);rw[hwl]at e;simp only[Value.slice.injEq,true_and]at e;obtain⟨rfl,rfl⟩:=e;have hjn:Calls Tryz.prog 118 #[.slice (some ⟨g,0,none⟩) (starts.length+2) wc, .string ⟨#[32]⟩] wr fun e w'=>e= .returned (.string ⟨(Lib.join ((gz name c0 starts).map (·.data.toList)) [32]).toArray⟩)∧Below wr.heap.size wr w':=by
     have:=Tryz.strings_Join g 0 wc (gz name c0 starts) ⟨#[32]⟩ wr (fun j x hx=>by
      have hj:=(List.getElem?_eq_some_iff.1 hx).1;obtain⟨g',cap2,e2,hc2, -⟩:=bQ.out.at FH (j:=j) hj;simp only[Value.slice.injEq,Option.some.injEq,Addr.mk.injEq,and_true]at e2;obtain⟨rfl, -⟩:=e2;have h5:=hc2 0 (by omega);rw[Nat.zero_add];rw[Nat.mul_one,Nat.add_zero]at h5;rw[h5,(List.getElem?_eq_some_iff.1 hx).2];rfl) (by have:=(bQ.out.lt g (by simp[Value.ownBlock])).2;exact this) (by rw[hwl];omega) (by
      obtain⟨_,_,e3,h3, -⟩:=bQ.out.form;simp only[Value.slice.injEq]at e3;obtain⟨-, -,rfl⟩:=e3;exact h3) HL.out
     rw[hwl]at this;exact this
    have HJ:=hide hjn;have hjz:(⟨(Lib.join ((gz name c0 starts).map (·.data.toList)) [32]).toArray⟩:ByteArray).size≤140737488355328:=by
     have:=HL.out;show(Lib.join ((gz name c0 starts).map (·.data.toList)) [32]).toArray.size≤_;simpa using this
    obtain⟨J,hJ⟩:∃J:ByteArray,J=⟨(Lib.join ((gz name c0 starts).map (·.data.toList)) [32]).toArray⟩:=⟨_,rfl⟩;rw[←hJ]at HJ hjz;have YK:Hid (xI name c0 starts=J++⟨#[10]⟩):=by show _=_;rw[hJ];rfl
    clear hjn hrow hcs hJ;go_wp2_with fail
    refine HJ.out.mono ?_;rintro e w1 ⟨rfl,hb1⟩;have HT1:Hid (Turn [] w w1):=dJ.out.same (Turn.of_below hb1 []);clear hb1;go_wp2
    go_ret
    exact⟨by rw[YK.out];rfl,HT1.out⟩
end Tp
end
section
open Go.RowKit Go.Maps
set_option maxRecDepth 100000
attribute [local go_sem] Oper.semAt_some
open Lg (iK FB FC QL)
namespace Tp
def SL(lb:Nat):List Value:=[.pointer (some ⟨lb,0,none⟩)]
theorem mQ:∀n,(SL n).length=1:=fun _=>rfl
abbrev LR(w:World)(base:Nat)(v:Value)(Gu:List Nat):Prop:=aH 142 1 SL w base v Gu
def rY(w:World)(lb st:Nat):Prop:=w.cell? ⟨lb,4,none⟩=some (.int .i64 (st:Int))∧lb<w.heap.size
theorem rY.still{w w':World}{lb st:Nat}(h:rY w lb st)(ht:Turn [] w w'):rY w' lb st:=
 ⟨(World.cell?_of_block (w:=w) (ht.block _ h.2 (by simp))).trans h.1,Nat.lt_of_lt_of_le h.2 ht.size⟩
theorem rY.kept{S:List Nat}{w w':World}{lb st:Nat}(h:rY w lb st)(ht:Turn S w w')(hn:lb∉S):rY w' lb st:=
 ⟨(World.cell?_of_block (w:=w) (ht.block _ h.2 hn)).trans h.1,Nat.lt_of_lt_of_le h.2 ht.size⟩
theorem Cc(w:World)(lb st:Nat)(h:rY w lb st):Calls Tryz.prog 101 #[.pointer (some ⟨lb,0,none⟩)] w fun e w'=>e= .returned (.int .i64 (st:Int))∧w=w':=by
 obtain⟨c4,hlb⟩:=h;go_enter Tryz.func101,Tryz.ntmps101
 go_wp2
 go_ret
 exact⟨rfl,rfl⟩
def DF(name:ByteArray)(parts:Int)(c:Bool)(sv:Value):Array Value:= #[.string name, .int .i64 parts, .bool c,sv]
theorem WH(w:World):(sizeOf 107).run Tryz.prog w= .ok 4 w:=by kernel_rfl
theorem YL(w:World):(isAgg 107).run Tryz.prog w= .ok true w:=by kernel_rfl
theorem TW{w:World}{Y:Nat}{name:ByteArray}{parts:Int}{c:Bool}{sv:Value}(h:w.heap[Y]? =some (.cells (DF name parts c sv) 107 (0,0))):(loadVar 107 ⟨Y,0,none⟩).run Tryz.prog w= .ok (.agg (DF name parts c sv)) w:=by
 have c0:w.cell? ⟨Y,0,none⟩=some (.string name):=by rw[cell_of h];rfl
 have c1:w.cell? ⟨Y,1,none⟩=some (.int .i64 parts):=by rw[cell_of h];rfl
 have c2:w.cell? ⟨Y,2,none⟩=some (.bool c):=by rw[cell_of h];rfl
 have c3:w.cell? ⟨Y,3,none⟩=some sv:=by rw[cell_of h];rfl
 simp[loadVar,YL,WH,Result.andThen,loadCells,loadCellsFrom,addr_add,c0,c1,c2,c3,DF]
set_option maxHeartbeats 4000000 in
theorem QN(w:World)(base:Nat)(name:ByteArray)(parts:Int)(c:Bool)(lv:Value)(Gu starts:List Nat)(hrow:LR w base lv Gu)(hl:Gu.length=starts.length)(hb:∀j (h1:j<Gu.length) (h2:j<starts.length),rY w Gu[j] starts[j])(hsl:starts.length≤1000):
 Calls Tryz.prog 181 #[.agg (DF name parts c lv)] w fun e w'=>∃sv,e= .returned (.agg (DF name parts c sv))∧iK w' sv starts∧Turn [] w w':=by
 obtain⟨a,cap,rfl,hlc,hcm⟩:=hrow.form;have hmx:maxLen=9223372036854775807:=by simp[maxLen]
 rw[hmx]at hcm;have bQ:=hide hrow;have HB:=hide hb;rw[hl]at hlc⊢;have HL:=hide hl;clear hrow hb hl;unfold DF;go_enter Tryz.func181,Tryz.ntmps181
 go_wp2_with fail
 go_loopw [12] (fun kv wr=>∃k:Nat,k≤starts.length∧kv= .int .i64 k∧(∃sv,wr.heap[w.heap.size+2]? =some (.cells (DF name parts c sv) 107 (0,0))∧aH 3 1 FB wr w.heap.size sv (starts.take k))∧wr.heap[w.heap.size+1]? =some (.cells #[.string ⟨#[]⟩, .int .i64 0, .bool false, .slice none 0 0] 107 (0,0))∧Turn [] w wr) (fun kv _=>starts.length-(intOf kv).toNat)
 case atStart=>
  refine⟨0,Nat.zero_le _,rfl,⟨.slice none 0 0,?_, .inl ⟨rfl,rfl⟩⟩,?_,(((Turn.refl [] w).alloc _).alloc _).alloc _⟩
  ·have:=ae ((w.alloc (.cells #[.string name, .int .i64 parts, .bool c, .slice a starts.length cap] 110)).alloc (.cells #[.string ⟨#[]⟩, .int .i64 0, .bool false, .slice none 0 0] 107)) (.cells #[.string name, .int .i64 parts, .bool c, .slice none 0 0] 107)
   rw[World.size_alloc,World.size_alloc]at this;exact this
  ·have:=ae (w.alloc (.cells #[.string name, .int .i64 parts, .bool c, .slice a starts.length cap] 110)) (.cells #[.string ⟨#[]⟩, .int .i64 0, .bool false, .slice none 0 0] 107)
   rw[World.size_alloc]at this;exact((Turn.refl [] _).alloc _).heap this (by simp)
 case round=>
  obtain⟨k,hk,rfl,⟨sv,hx,TY⟩,hy,htw⟩:=hrel;obtain⟨ia,ic,hse,hi1,hi2⟩:=TY.form;rw[List.length_take,Nat.min_eq_left hk]at hse hi1;have dJ:=hide htw;have HX:=hide hx;have HY:=hide hy;have HSR:=hide TY;have hxl:=lt_of_heap hx;have hbase:=htw.size;have hxs:∀q∈sv.ownBlock,q≠w.heap.size+2:=fun q hq e=>by
   obtain⟨cs',e'⟩:=TY.kind q hq;exact Lg.ai e' hx (by decide) e
  have hys2:∀q∈sv.ownBlock,q≠w.heap.size+1:=fun q hq e=>by
   obtain⟨cs',e'⟩:=TY.kind q hq;exact Lg.ai e' hy (by decide) e
  have MG:=hide hxs;have SG:=hide hys2;have HLW:=hide TY.lt;by_cases hlt:k<starts.length
  ·obtain⟨p,rfl,hcp,hbg⟩:∃p,a=some p∧wr.cell? (p.add k)=some (.pointer (some ⟨Gu[k]'(by have:=HL.out;omega),0,none⟩))∧rY wr (Gu[k]'(by have:=HL.out;omega)) starts[k]:=by
    have hkl:k<Gu.length:=by have:=HL.out;omega
    obtain⟨g,cap',e,hc, -⟩:=(bQ.out.still dJ.out).at mQ (j:=k) hkl;simp only[Value.slice.injEq]at e;obtain⟨rfl, -, -⟩:=e;refine⟨_,rfl,?_,(HB.out k hkl hlt).still dJ.out⟩;have:=hc 0 (by omega);rw[addr_add];simpa[SL]using this
   obtain⟨lb,hlb⟩:∃lb,lb=Gu[k]'(by have:=HL.out;omega):=⟨_,rfl⟩;obtain⟨st,hst⟩:∃st,st=starts[k]:=⟨_,rfl⟩;rw[←hlb]at hcp hbg;rw[←hst]at hbg;have Jp:Hid (starts.take (k+1)=starts.take k++[st]):=by show _=_;rw[List.take_succ_eq_append_getElem hlt,hst]
   have HBG:=hide hbg;obtain⟨S,hS⟩:∃S,S=sv.ownBlock.toList:=⟨_,rfl⟩;have HS:=hide hS;have HSE:=hide hse;have YK:Hid (lb<w.heap.size):=by show _<_;rw[hlb];exact(HB.out k (by have:=HL.out;omega) hlt).2
   have NZ:Hid (lb∉S):=fun hm=>by rw[HS.out]at hm;have:=(HLW.out _ (by simpa using hm)).1;have:=YK.out;omega
   obtain⟨N0,hN0⟩:∃N0,N0=w.heap.size:=⟨_,rfl⟩;obtain⟨ts,hts⟩:∃ts,ts=starts.take k:=⟨_,rfl⟩;have HSR':Hid (aH 3 1 FB wr N0 sv ts):=by show aH _ _ _ _ _ _ _;rw[hN0,hts];exact HSR.out
   have HN0:=hide hN0;have uS:=hide hts;clear htw hx hy TY hlb hst hbg hxs hys2 hS hse hN0 hts;go_wp2
   refine cZ 7 (Turn S) (Turn []) (fun k w=>match k with|0=>(fun w'=>aH 3 1 FB w' N0 sv ts) w|_=>(fun w'=>Turn S wr w') w) [5] (by kernel_rfl) (by kernel_rfl) (by kernel_rfl) (by kernel_rfl) (by kernel_rfl) (by kernel_rfl) (Nat.le_of_ble_eq_true rfl) (by decide) rfl (Turn.refl _) (fun _ _ _ h k=>h.same k) (fun _ _ h=>h.mono (by simp)) ?_ ?_ ?_
   ·intro k a b hk hR
    match k,hk with
    |0,hk=>
     have hk:=(show(fun w'=>aH 3 1 FB w' N0 sv ts) a from hk);dsimp only at hk;show(fun w'=>aH 3 1 FB w' N0 sv ts) b;dsimp only;first|exact hk.still hR|exact hk.same (hR.mono (by simp))
    |_+1,hk=>
     have hk:=(show(fun w'=>Turn S wr w') a from hk);dsimp only at hk;show(fun w'=>Turn S wr w') b;dsimp only;first|exact hk.still hR|exact hk.same (hR.mono (by simp))
   ·show(fun w'=>aH 3 1 FB w' N0 sv ts) _
    dsimp only;exact HSR'.out.still ((Turn.refl [] _).drew)
   apply Lo.ag 1 rfl rfl [] (by kernel_rfl) (Turn.refl _);apply Exists.intro;apply And.intro
   ·intro u w1 hR hF
    clear hF;refine⟨rfl,fun a ha K hK=>?_⟩;have e3:=ha 3;conv at e3=>rhs;whnf
    clear ha;go_simp
    refine hK _ ?_;rfl
   refine Lo.aJ 2 rfl rfl [0] (sv) (by kernel_rfl) (fun u w1 hR hF=>?_) (Turn.refl _) ?_
   ·obtain⟨h0, -⟩:=hF
    refine⟨rfl,fun a ha K hK=>?_⟩;have e16:=(ha 16).trans h0;clear ha h0;have hbx:=(((Turn.refl S wr).drew).same hR).heap HX.out (fun hm=>by rw[HS.out]at hm;exact MG.out _ (by simpa using hm) rfl);have q3:w1.cell? ⟨w.heap.size+2,3,none⟩=some sv:=by rw[cell_of hbx];rfl
    go_simp
    refine hK _ ?_;rfl
   apply Lo.ag 3 rfl rfl [] (by kernel_rfl) (Turn.refl _);apply Exists.intro;apply And.intro
   ·intro u w1 hR hF
    clear hF;refine⟨rfl,fun a ha K hK=>?_⟩;have e5:=ha 5;conv at e5=>rhs;whnf
    clear ha;go_simp
    refine hK _ ?_;rfl
   refine Lo.run 4 rfl rfl [2] (fun x w'=>x= .int .i64 (st:Int)) (by kernel_rfl) (fun x w w' h hR=>?_) (fun _ _ h=>h.mono (by simp)) (fun u w1 hR hF=>?_) ?_
   ·exact h
   ·obtain⟨h2, -⟩:=hF
    refine⟨rfl,fun a ha K hK=>?_⟩;have e18:=(ha 18).trans h2;clear ha h2;go_simp
    refine(Cc w1 lb st (HBG.out.kept (((Turn.refl S wr).drew).same hR) NZ.out)).mono ?_;rintro e w2 ⟨rfl,rfl⟩;exact hK _ _ rfl (Turn.refl _ _)
   refine Lo.run 5 rfl rfl [3] (fun x w'=>∃q,x= .slice (some ⟨q,0,none⟩) 1 1∧w'.heap[q]? =some (.cells (FB st).toArray 3 (0,0))∧wr.heap.size≤q) (by kernel_rfl) (fun x w w' h hR=>?_) (fun _ _ h=>h.mono (by simp)) (fun u w1 hR hF=>?_) ?_
   ·obtain⟨q,h1,h2,h3⟩:=h;exact⟨q,h1,hR.heap h2 (fun hm=>by rw[HS.out]at hm;have:=(HLW.out _ (by simpa using hm)).2;omega),h3⟩
   ·obtain⟨h3, -⟩:=hF
    refine⟨rfl,fun a ha K hK=>?_⟩;have e19:a.tmps.getD 19 undef=u 3:=ha 19;have h3:=(show(fun x w'=>x= .int .i64 (st:Int)) (u 3) w1 from h3);dsimp only at h3;clear ha;rw[h3]at e19;have e19':a.tmps[19]?.getD undef= .int .i64 (st:Int):=by rw[←Array.getD_eq_getD_getElem?,e19]
    go_simp
    exact hK _ _ ⟨w1.heap.size,rfl,ae w1 _,hR.size⟩ ((Turn.refl [] _).alloc _)
   refine Lo.rX 6 rfl 0 rfl [1,4] (fun x w'=>aH 3 1 FB w' N0 x (ts++[st])∧∀q∈x.ownBlock,q∈sv.ownBlock∨wr.heap.size≤q) (by kernel_rfl) (fun x w w' h hR=>?_) (.inl (by kernel_rfl)) (fun u w1 hR hS hF=>?_) ?_
   ·exact⟨h.1.still hR,h.2⟩
   ·obtain⟨h1,h4, -⟩:=hF
    have hS:=(show(fun w'=>aH 3 1 FB w' N0 sv ts) w1 from hS);dsimp only at hS;refine⟨rfl,fun a ha K hK=>?_⟩;have e17:=(ha 17).trans h1;have e20:a.tmps.getD 20 undef=u 4:=ha 20;have h4:=(show(fun x w'=>∃q,x= .slice (some ⟨q,0,none⟩) 1 1∧w'.heap[q]? =some (.cells (FB st).toArray 3 (0,0))∧wr.heap.size≤q) (u 4) w1 from h4)
    dsimp only at h4;clear ha h1;obtain⟨kk,hx6,hc6,hk6⟩:=h4;rw[hx6]at e20;obtain⟨v7,w7,hr7,hrow7,ht7,hown7⟩:=QL w1 N0 sv ts st kk hS hc6 (by rw[uS.out,List.length_take];omega) (by have:=hR.size;have:=HN0.out;simp at*;omega);have hsz7:=hR.size;clear hx6 hc6;exact Sn.uz rfl e17 e20 hr7 (hK _ _ ⟨hrow7,fun q hq=>(hown7 q hq).elim .inl (fun h=> .inr (Nat.le_trans hsz7 h))⟩ (by rw[HS.out];exact ht7) ((((Turn.refl S wr).drew).same hR).same (by rw[HS.out];exact ht7)))
   apply Lo.ag 7 rfl rfl [] (by kernel_rfl) (Turn.refl _);apply Exists.intro;apply And.intro
   ·intro u w1 hR hF
    clear hF;refine⟨rfl,fun a ha K hK=>?_⟩;have e3:=ha 3;conv at e3=>rhs;whnf
    clear ha;go_simp
    refine hK _ ?_;rfl
   refine Lo.done [5,6] (fun u w1 bP hSd hF=>?_);have hSd:=(show(fun w'=>Turn S wr w') w1 from hSd);dsimp only at hSd;obtain⟨f5,f6, -⟩:=hF;have d5:=(show(fun x w'=>aH 3 1 FB w' N0 x (ts++[st])∧∀q∈x.ownBlock,q∈sv.ownBlock∨wr.heap.size≤q) (u 5) w1 from f5);dsimp only at d5;have d6:u 6=_:=f6;clear f5 f6;simp only[List.take_succ_cons,List.take_zero,List.drop_succ_cons,List.drop_zero,ax,Act.put,List.setIfInBounds_toArray,List.set_cons_succ,List.set_cons_zero,Nat.zero_add,Nat.reduceAdd,d6];obtain⟨hrow7,hown7⟩:=d5;obtain⟨v',hv'⟩:∃v',v'=u 5:=⟨_,rfl⟩;rw[←hv']at hrow7 hown7⊢;have TZ:Turn S wr w1:=hSd;have h2S:w.heap.size+2∉S:=fun hm=>by rw[HS.out]at hm;exact MG.out _ (by simpa using hm) rfl
   have h1S:w.heap.size+1∉S:=fun hm=>by rw[HS.out]at hm;exact SG.out _ (by simpa using hm) rfl
   have hx1:=TZ.heap HX.out h2S;have hy1:=TZ.heap HY.out h1S;have hx2:(w1.setCell ⟨w.heap.size+2,3,none⟩ v').heap[w.heap.size+2]? =some (.cells (DF name parts c v') 107 (0,0)):=by rw[heap_set hx1];rfl
   have ht2:Turn [w.heap.size+2] w1 (w1.setCell ⟨w.heap.size+2,3,none⟩ v'):=(Turn.refl _ _).setCell (.inl (by simp)) _;have hy2:=ht2.heap hy1 (by simp);have hr2:=hrow7.kept ht2 (fun q hq hm=>by
    obtain rfl:=List.mem_singleton.1 hm;obtain⟨cs',e'⟩:=hrow7.kind _ hq;exact Lg.ai e' hx1 (by decide) rfl)
   rw[uS.out,←Jp.out,HN0.out]at hr2;have q3:w1.cell? ⟨w.heap.size+2,3,none⟩=some sv:=by rw[cell_of hx1];rfl
   have f3:w1.frozen? ⟨w.heap.size+2,3,none⟩=false:=af hx1 3;have z3:=lt_of_heap hx1;obtain⟨va,vc,MN, -, -⟩:=hrow7.form;rw[List.length_append,List.length_singleton]at MN;have hT:Turn [] w (w1.setCell ⟨w.heap.size+2,3,none⟩ v'):=(dJ.out.trans TZ (fun q hq=> .inr (by rw[HS.out]at hq;exact(HLW.out _ (by simpa using hq)).1))).trans ht2 (fun q hq=> .inr (by simp at hq;omega));have HX2:=hide hx2;have HY2:=hide hy2;have HR2:=hide hr2;have HT:=hide hT;clear hrow7 hown7 TZ h2S h1S hx1 hy1 hx2 ht2 hy2 hr2 hT bP hSd hv' d6;subst MN;go_wp2
   all_goals refine⟨⟨k+1,by omega,by go_num,⟨_,HX2.out,HR2.out⟩,HY2.out,HT.out⟩,?_⟩
   all_goals (simp only[intOf];omega)
  ·obtain rfl:k=starts.length:=by omega
   rw[List.take_length]at HSR;have x0:wr.cell? ⟨w.heap.size+2,0,none⟩=some (.string name):=by rw[cell_of hx];rfl
   have x1:wr.cell? ⟨w.heap.size+2,1,none⟩=some (.int .i64 parts):=by rw[cell_of hx];rfl
   have x2:wr.cell? ⟨w.heap.size+2,2,none⟩=some (.bool c):=by rw[cell_of hx];rfl
   have x3:wr.cell? ⟨w.heap.size+2,3,none⟩=some sv:=by rw[cell_of hx];rfl
   have y0:wr.cell? ⟨w.heap.size+1,0,none⟩=some (.string ⟨#[]⟩):=by rw[cell_of hy];rfl
   have y1:wr.cell? ⟨w.heap.size+1,1,none⟩=some (.int .i64 0):=by rw[cell_of hy];rfl
   have y2:wr.cell? ⟨w.heap.size+1,2,none⟩=some (.bool false):=by rw[cell_of hy];rfl
   have y3:wr.cell? ⟨w.heap.size+1,3,none⟩=some (.slice none 0 0):=by rw[cell_of hy];rfl
   have g0:wr.frozen? ⟨w.heap.size+1,0,none⟩=false:=af hy 0;have g1:wr.frozen? ⟨w.heap.size+1,1,none⟩=false:=af hy 1;have g2:wr.frozen? ⟨w.heap.size+1,2,none⟩=false:=af hy 2;have g3:wr.frozen? ⟨w.heap.size+1,3,none⟩=false:=af hy 3;have hyl:=lt_of_heap hy;clear htw hx hy TY hxs hys2;subst hse;go_wp2
   have hfin:=heap_set (heap_set (heap_set (heap_set HY.out 0 (.string name)) 1 (.int .i64 parts)) 2 (.bool c)) 3 (.slice ia starts.length ic);have htf:Turn [w.heap.size+1] wr ((((wr.setCell ⟨w.heap.size+1,0,none⟩ (.string name)).setCell ⟨w.heap.size+1,1,none⟩ (.int .i64 parts)).setCell ⟨w.heap.size+1,2,none⟩ (.bool c)).setCell ⟨w.heap.size+1,3,none⟩ (.slice ia starts.length ic)):=
    ((((Turn.refl _ _).setCell (.inl (by simp)) _).setCell (.inl (by simp)) _).setCell (.inl (by simp)) _).setCell (.inl (by simp)) _
   have hld:=TW (name:=name) (parts:=parts) (c:=c) (sv:= .slice ia starts.length ic) hfin;unfold DF at hld;refine bodyPost_ret (v:= .agg #[.string name, .int .i64 parts, .bool c, .slice ia starts.length ic]) (by simp[results,Tryz.results181,asAddr,hld,Result.andThen]) rfl ?_;exact⟨_,rfl,(HSR.out.kept htf (fun q hq hm=>SG.out q hq (List.mem_singleton.1 hm))).ints,dJ.out.trans htf (fun q hq=> .inr (by simp at hq;omega))⟩
end Tp
end
section
open Go.RowKit Go.Maps
open Dk (DA FA bH dR iV)
open Sg (Chain flat aA)
namespace Lg
def rf(A:DA)(nm:List UInt8):Option (List UInt8):=(A.file nm).map (·.bytes)
theorem Iy{l l':List Nat}(h:l.Perm l'):l.sum=l'.sum:=by
 induction h with
 |nil=>rfl
 |cons x _ ih=>simp[ih]
 |swap x y l=>simp;omega
 |trans _ _ h1 h2=>exact h1.trans h2
theorem MO:∀{l:List FA},(l.map (·.name)).Nodup→∀{f:FA},f∈l→l.find? (fun g=>g.name==f.name)=some f
 |[],_,f,hf=>by simp at hf
 |g::r,h,f,hf=>by
  rw[List.map_cons,List.nodup_cons]at h;rcases List.mem_cons.1 hf with rfl|hf
  ·simp
  ·have hne:(g.name==f.name)=false:=by
    rw[beq_eq_false_iff_ne];intro e;exact h.1 (List.mem_map.2 ⟨f,hf,e.symm⟩)
   rw[List.find?_cons,hne];exact MO h.2 hf
theorem Ua{l:List FA}{nm:List UInt8}(h:nm∉l.map (·.name)):l.find? (fun f=>f.name==nm)=none:=by
 rw[List.find?_eq_none];intro x hx e;exact h (List.mem_map.2 ⟨x,hx,by simpa using e⟩)
theorem nX{A:DA}(h:A.limited=false):A.tick=A:=by unfold DA.tick;rw[h];rfl
theorem mD{A:DA}(h:A.limited=false):A.fails=false:=by unfold DA.fails;rw[h];rfl
theorem KA{A:DA}{nm b:List UInt8}(h:rf A nm=some b):∃f,A.file nm=some f∧f.bytes=b:=by
 unfold rf at h;exact Option.map_eq_some_iff.1 h
abbrev FL:Type:=List (List UInt8×List UInt8)
structure FP(A:DA)(room:Nat)(L:FL):Prop where
 lim:A.limited=false
 room:A.room=room
 files:(A.files.map (fun f=>(f.name,f.bytes))).Perm L
 nd:(L.map (·.1)).Nodup
section
variable {A:DA} {room:Nat} {L L':FL} {nm b bs:List UInt8}
theorem FP.perm(h:FP A room L)(hp:L.Perm L'):FP A room L':=⟨h.lim,h.room,h.files.trans hp,(hp.map _).nodup_iff.1 h.nd⟩
theorem FP.names(h:FP A room L):(A.files.map (·.name)).Perm (L.map (·.1)):=by
 have:=h.files.map Prod.fst;simpa[Function.comp_def]using this
theorem FP.nodup(h:FP A room L):(A.files.map (·.name)).Nodup:=h.names.nodup_iff.2 h.nd
theorem FP.bytes(h:FP A room L)(hm:(nm,b)∈L):rf A nm=some b:=by
 obtain⟨f,hf,e⟩:=List.mem_map.1 (h.files.mem_iff.2 hm);have e1:f.name=nm:=congrArg Prod.fst e;have e2:f.bytes=b:=congrArg Prod.snd e;unfold rf DA.file;have:=MO h.nodup hf;rw[e1]at this;rw[this];simp[e2]
theorem FP.has(h:FP A room L)(hm:nm∈L.map (·.1)):A.has nm=true:=by
 obtain⟨q,hq,rfl⟩:=List.mem_map.1 hm;have hb:=h.bytes (nm:=q.1) (b:=q.2) hq;unfold rf at hb;rw[Dk.qc];cases hf:A.file q.1 with
 |none=>rw[hf]at hb;simp at hb
 |some f=>rfl
theorem FP.WB(h:FP A room L)(hm:nm∉L.map (·.1)):A.file nm=none:=Ua (fun hc=>hm (h.names.mem_iff.1 hc))
theorem FP.len(h:FP A room L):A.files.length=L.length:=by
 have:=h.files.length_eq;simpa using this
def fD(L:FL):Nat:=(L.map (fun q=>q.2.length)).sum
theorem FP.used(h:FP A room L):bH A.files=fD L:=by
 have:=Iy (h.files.map (fun q=>q.2.length));unfold fD;rw[←this];simp[bH,Function.comp_def]
theorem FP.make(h:FP A room L){s:ByteArray}(hn:s.data.toList∉L.map (·.1))(hok:Dk.nameB s=true)(hl:L.length<200):(A.make s).1=0∧FP (A.make s).2 room ((s.data.toList,[])::L):=by
 have e:A.make s=(0,{A with files:=A.files++[⟨s.data.toList,[],0⟩]}):=by
  unfold DA.make;have h1:A.has s.data.toList=false:=by rw[Dk.qc,h.WB hn];rfl
  rw[mD h.lim,hok,h1,h.len,if_neg (by simp),if_neg (by simp),if_neg (by simp),if_neg (by omega),nX h.lim]
 rw[e];refine⟨rfl,h.lim,h.room,?_,?_⟩
 ·simp only[List.map_append,List.map_cons,List.map_nil]
  exact(List.Perm.append_right _ h.files).trans List.perm_append_comm
 ·rw[List.map_cons,List.nodup_cons]
  exact⟨hn,h.nd⟩
theorem MP{fs:List FA}(g:FA→FA)(hg:∀f,(g f).name=f.name)(nm:List UInt8):((dR fs nm g).map (fun f=>(f.name,f.bytes)))=fs.map (fun f=>(f.name,if f.name=nm then(g f).bytes else f.bytes)):=by
 unfold Dk.dR;rw[List.map_map];apply List.map_congr_left;intro x _;simp only[Function.comp];by_cases e:x.name=nm
 ·simp[e,hg]
 ·simp[e]
theorem FP.sync(h:FP A room L)(hm:nm∈L.map (·.1)):(A.sync nm).1=0∧FP (A.sync nm).2 room L:=by
 have e:A.sync nm=(0,A.upd nm (fun f=>{f with safe:=f.bytes.length})):=by
  unfold DA.sync;rw[mD h.lim,h.has hm,if_neg (by simp),if_neg (by simp),nX h.lim]
 rw[e];refine⟨rfl,h.lim,h.room,?_,h.nd⟩;show((dR A.files nm _).map (fun f=>(f.name,f.bytes))).Perm L;rw[MP (fun f=>{f with safe:=f.bytes.length}) (fun _=>rfl) nm];simpa using h.files
theorem FP.add(h:FP A room ((nm,b)::L))(hr:fD ((nm,b)::L)+bs.length≤room):(A.add nm bs).1=0∧FP (A.add nm bs).2 room ((nm,b++bs)::L):=by
 have e:A.add nm bs=(0,A.upd nm (fun f=>{f with bytes:=f.bytes++bs})):=by
  unfold DA.add;rw[mD h.lim,h.has (by simp),h.used,h.room,if_neg (by simp),if_neg (by simp),if_neg (by omega),nX h.lim]
 rw[e];refine⟨rfl,h.lim,h.room,?_,h.nd⟩;show((dR A.files nm _).map (fun f=>(f.name,f.bytes))).Perm _;rw[MP (fun f=>{f with bytes:=f.bytes++bs}) (fun _=>rfl) nm];have h1:A.files.map (fun f=>(f.name,if f.name=nm then({f with bytes:=f.bytes++bs}:FA).bytes else f.bytes))=(A.files.map (fun f=>(f.name,f.bytes))).map (fun q=>(q.1,if q.1=nm then q.2++bs else q.2)):=by
  rw[List.map_map];rfl
 rw[h1];refine(h.files.map _).trans ?_;have hnd:=h.nd;rw[List.map_cons,List.nodup_cons]at hnd;have h2:L.map (fun q=>(q.1,if q.1=nm then q.2++bs else q.2))=L.map id:=by
  apply List.map_congr_left;intro q hq;rw[if_neg (fun e=>hnd.1 (List.mem_map.2 ⟨q,hq,e⟩))];rfl
 rw[List.map_cons,h2];simp
theorem Ce{l:FL}{x:List UInt8}(h:x∉l.map (·.1)):l.filter (fun q=> !(q.1==x))=l:=by
 rw[List.filter_eq_self];intro q hq;have:(q.1==x)=false:=by
  rw[beq_eq_false_iff_ne];intro e;exact h (List.mem_map.2 ⟨q,hq,e⟩)
 simp[this]
theorem FP.out(h:FP A room L)(nm:List UInt8):((iV A.files nm).map (fun f=>(f.name,f.bytes))).Perm (L.filter (fun q=> !(q.1==nm))):=by
 have:(iV A.files nm).map (fun f=>(f.name,f.bytes))=(A.files.map (fun f=>(f.name,f.bytes))).filter (fun q=> !(q.1==nm)):=by
  unfold Dk.iV;rw[List.filter_map];rfl
 rw[this];exact h.files.filter _
theorem FP.rename(h:FP A room ((nm,b)::L)){tn:ByteArray}(hok:Dk.nameB tn=true):(A.rename nm tn).1=0∧FP (A.rename nm tn).2 room ((tn.data.toList,b)::L.filter (fun q=> !(q.1==tn.data.toList))):=by
 have hb:=h.bytes (nm:=nm) (b:=b) (by simp);unfold rf at hb;obtain⟨f,hf,hfb⟩:=Option.map_eq_some_iff.1 hb;have hnd:=h.nd;rw[List.map_cons,List.nodup_cons]at hnd;have e:A.rename nm tn=(0,{A with files:=iV (iV A.files nm) tn.data.toList++[{f with name:=tn.data.toList}]}):=by
  unfold DA.rename;rw[mD h.lim,if_neg (by simp),hf];simp only;rw[hok,if_neg (by simp),nX h.lim]
 rw[e];have h1:((nm,b)::L).filter (fun q=> !(q.1==nm))=L:=by
  rw[List.filter_cons,if_neg (by simp),Ce hnd.1]
 have h2:=(h.out nm);rw[h1]at h2;have h3:((iV (iV A.files nm) tn.data.toList).map (fun f=>(f.name,f.bytes))).Perm (L.filter (fun q=> !(q.1==tn.data.toList))):=by
  have:(iV (iV A.files nm) tn.data.toList).map (fun f=>(f.name,f.bytes))=((iV A.files nm).map (fun f=>(f.name,f.bytes))).filter (fun q=> !(q.1==tn.data.toList)):=by
   unfold Dk.iV;rw[List.filter_map];rfl
  rw[this];exact h2.filter _
 refine⟨rfl,h.lim,h.room,?_,?_⟩
 ·simp only[List.map_append,List.map_cons,List.map_nil]
  refine(List.Perm.append_right _ h3).trans (List.perm_append_comm.trans ?_);simp[hfb]
 ·rw[List.map_cons,List.nodup_cons]
  refine⟨fun hm=>?_,hnd.2.sublist (List.filter_sublist.map _)⟩;obtain⟨q,hq,e⟩:=List.mem_map.1 hm;have:=(List.mem_filter.1 hq).2;simp[e]at this
theorem FP.remove(h:FP A room ((nm,b)::L)):(A.remove nm).1=0∧FP (A.remove nm).2 room L:=by
 have hnd:=h.nd;rw[List.map_cons,List.nodup_cons]at hnd;have e:A.remove nm=(0,{A with files:=iV A.files nm}):=by
  unfold DA.remove;rw[mD h.lim,h.has (by simp),if_neg (by simp),if_neg (by simp),nX h.lim]
 rw[e];refine⟨rfl,h.lim,h.room,?_,hnd.2⟩;have h2:=h.out nm;rw[List.filter_cons,if_neg (by simp),Ce hnd.1]at h2;exact h2
end
theorem FP.empty(room:Nat):FP (DA.empty room) room []:=⟨rfl,rfl,by simp[DA.empty],by simp⟩
def dD(dir:ByteArray)(ss:List (Nat×List Bt.aX)):FL:=ss.map (fun p=>(jK dir p.1,flat p.2))
end Lg
end
section
open Go.RowKit Go.Maps
set_option maxRecDepth 100000
attribute [local go_sem] Oper.semAt_some
open Lg (iK FP FL fD jE)
open Dk (DA ay Parts fE aW dI)
namespace Tp
def iP:ByteArray:=⟨#[116,111,112,105,99,115,46,110,101,119]⟩
abbrev fM:List UInt8:=iP.data.toList
abbrev listN:List UInt8:=jI.data.toList
def Cf(w:World)(F:List Nat)(sb d:Nat):Prop:=sb∉F∧sb<w.heap.size∧w.cell? ⟨sb,0,none⟩=some (.pointer (some ⟨d,0,none⟩))
theorem Cf.kept{S:List Nat}{w w':World}{F F':List Nat}{sb d:Nat}(h:Cf w F sb d)(ht:Turn S w w')(hn:sb∉S)(hF:∀k∈F',k∈F∨w.heap.size≤k):Cf w' F' sb d:=
 ⟨fun hm=>by rcases hF _ hm with h1|h1;exact h.1 h1;have:=h.2.1;omega,Nat.lt_of_lt_of_le h.2.1 ht.size,(World.cell?_of_block (w:=w) (ht.block _ h.2.1 hn)).trans h.2.2⟩
theorem Iz{w:World}{s:ByteArray}{cap:Nat}{e:TypeId}{fr:Nat×Nat}{b:Nat}(h:w.heap[b]? =some (.cells (bytesRow s cap) e fr)):SliceAt w (.slice (some ⟨b,0,none⟩) s.size cap) (s.data.toList.map aj):=by
 refine .inr ⟨⟨b,0,none⟩,cap,by rw[List.length_map,Array.length_toList];rfl,fun j u hu=>?_⟩;rw[addr_add,cell_of h];have hj:j<s.data.size:=by
  have:=(List.getElem?_eq_some_iff.1 hu).1;simpa using this
 rw[bytesRow_at s cap j hj];rw[List.getElem?_map,List.getElem?_eq_getElem (by simpa using hj)]at hu;rw[←hu];simp[aj]
theorem Ci{w w1 w2:World}{base d:Nat}{F F1:List Nat}{A2:DA}(ht:Turn F w w1)(hf:∀k∈F1,k∈F∨w.heap.size≤k)(h:fE w1 w2 base d F1 A2):fE w w2 base d F A2:=by
 obtain⟨F2,hd,ht2,hf2⟩:=h;exact⟨F2,hd,ht.trans ht2 hf,fun k hk=>(hf2 k hk).elim (fun h=>hf k h) (fun h=> .inr (Nat.le_trans ht.size h))⟩
set_option maxHeartbeats 4000000 in
theorem IA(w:World)(base d:Nat)(F:List Nat)(A:DA)(hd:ay w base d F A)(sb:Nat)(hb:Cf w F sb d)(room:Nat)(L:FL)(hfp:FP A room ((fM,[])::L))(s:ByteArray)(hs:s.size≤1000000)(hr:fD ((fM,[])::L)+s.size≤room):
 Calls Tryz.prog 183 #[.pointer (some ⟨sb,0,none⟩), .string s] w fun e w'=>e= .returned .nilIface∧∃A',fE w w' base d F A'∧FP A' room ((listN,s.data.toList)::L.filter (fun q=> !(q.1==listN))):=by
 have hz:s.data.toList.length=s.size:=by rw[Array.length_toList];rfl
 obtain⟨h1,f1⟩:=hfp.add (bs:=s.data.toList) (by rw[hz];exact hr);rw[List.nil_append]at f1;obtain⟨h2,f2⟩:=f1.sync (nm:=fM) (by simp);obtain⟨h3,f3⟩:=f2.rename (tn:=jI) (by decide);obtain⟨A1,hA1⟩:∃A1,A1=(A.add fM s.data.toList).2:=⟨_,rfl⟩;rw[←hA1]at h2 f2 h3 f3;obtain⟨A2,hA2⟩:∃A2,A2=(A1.sync fM).2:=⟨_,rfl⟩;rw[←hA2]at h3 f3;obtain⟨ah,ms,hp⟩:=hd;have HF3:=hide f3;have H:=hide hp;have HB:=hide hb;have HA1:=hide hA1;have HA2:=hide hA2;have H1:=hide h1;have H2:=hide h2;have H3:=hide h3;have hcv:=fun(Z:World)=>run_bytes_of_string (P:=Tryz.prog) Z 9 97 5 s Tryz.underlying9 Tryz.underlying97 Tryz.underlying5
 have c0:=hb.2.2;have z0:=hb.2.1;clear hfp f1 f2 f3 hp hb hA1 hA2 h1 h2 h3 hr;go_enter Tryz.func183,Tryz.ntmps183
 have HZ:=hide hz;go_wp2_with fail
 have hrow0:=ae w (.cells (bytesRow s (grownCap w s.size 0 5)) 5 ((bytesRow s (grownCap w s.size 0 5)).size,(bytesRow s (grownCap w s.size 0 5)).size+1));have ht1:=((Turn.refl [] w).alloc (.cells (bytesRow s (grownCap w s.size 0 5)) 5 ((bytesRow s (grownCap w s.size 0 5)).size,(bytesRow s (grownCap w s.size 0 5)).size+1))).drew;have hrow1:=((Turn.refl [] _).drew).heap hrow0 (by simp);have Ub:=fun k (hk:k∈F)=>H.out.lt k hk
 have hsl:=fun Z (hZ:Turn F _ Z)=>Iz (hZ.heap hrow1 (fun hm=>by have:=Ub _ hm;omega))
 refine(Dk.add_any (H.out.kept ht1 (by simp)) iP (by decide) _ s.data.toList hsl (by rw[HZ.out];omega)).mono ?_;rintro e w2 ⟨rfl,hd2⟩;rw[show iP.data.toList=fM from rfl,←HA1.out]at hd2;rw[show iP.data.toList=fM from rfl,H1.out,show aW 0= .nilIface from rfl];obtain⟨F2,⟨mref2,ms2,hp2⟩,ht2,hf2⟩:=jE (ht1.mono (by simp)) hd2;have hb2:Cf w2 F2 sb d:=HB.out.kept ht2 HB.out.1 hf2;have c02:=hb2.2.2;have z02:=hb2.2.1;have HB2:=hide hb2;have HP2:=hide hp2;have HT2:=hide ht2;have HF2:=hide hf2;clear hd2 hp2 ht2 hf2 hb2 hrow0 hrow1 ht1 Ub hsl c0 z0;go_wp2_with fail
 refine(Dk.lY HP2.out iP (by decide)).mono ?_;rintro e w3 ⟨rfl,hd3⟩;rw[show iP.data.toList=fM from rfl,←HA2.out]at hd3;rw[show iP.data.toList=fM from rfl,H2.out,show aW 0= .nilIface from rfl];obtain⟨F3,⟨mref3,ms3,hp3⟩,ht3,hf3⟩:=Ci HT2.out HF2.out hd3;have hb3:Cf w3 F3 sb d:=HB.out.kept ht3 HB.out.1 hf3;have c03:=hb3.2.2;have z03:=hb3.2.1;have HP3:=hide hp3;have HT3:=hide ht3;have HFF3:=hide hf3;clear hd3 hp3 ht3 hf3 hb3 c02 z02;go_wp2_with fail
 refine(Dk.J9 HP3.out iP (by decide) jI (by decide)).mono ?_;rintro e w4 ⟨rfl,hd4⟩;rw[show iP.data.toList=fM from rfl,H3.out,show aW 0= .nilIface from rfl];rw[show iP.data.toList=fM from rfl]at hd4;have HD4:=hide (Ci HT3.out HFF3.out hd4);clear hd4 c03 z03;go_wp2
 go_ret
 exact⟨rfl,_,HD4.out,HF3.out⟩
structure En where
 name:ByteArray
 parts:Int
 compact:Bool
 lv:Value
 Gu:List Nat
 starts:List Nat
def Ew(e:En):List Value:=[.string e.name, .int .i64 e.parts, .bool e.compact,e.lv]
theorem jm:∀e,(Ew e).length=4:=fun _=>rfl
def En.line(e:En):ByteArray:=xI e.name e.compact e.starts
structure IB(w:World)(base:Nat)(e:En):Prop where
 row:LR w base e.lv e.Gu
 len:e.Gu.length=e.starts.length
 beg:∀j (h1:j<e.Gu.length) (h2:j<e.starts.length),rY w e.Gu[j] e.starts[j]
 few:e.starts.length≤100
 low:∀n∈e.starts,n≤1099511627776
 nm:e.name.size≤100
theorem IB.still{w w':World}{base:Nat}{e:En}(h:IB w base e)(ht:Turn [] w w'):IB w' base e:=
 ⟨h.row.still ht,h.len,fun j h1 h2=>(h.beg j h1 h2).still ht,h.few,h.low,h.nm⟩
theorem Cj(s:ByteArray):s.size=s.data.toList.length:=by rw[Array.length_toList];rfl
theorem Uc{xs:List (List UInt8)}{n:Nat}(h:∀x∈xs,x.length≤n):Lib.lens xs≤xs.length*n:=by
 induction xs with
 |nil=>simp[Lib.lens]
 |cons x r ih=>
  have h1:=ih (fun y hy=>h y (by simp[hy]));have h2:=h x (by simp);have:Lib.lens (x::r)=x.length+Lib.lens r:=by simp[Lib.lens]
  rw[this,List.length_cons,Nat.add_mul];omega
theorem Ey{name:ByteArray}{c:Bool}{starts:List Nat}(hn:name.size≤100)(hl:starts.length≤100)(hs:∀n∈starts,n≤1099511627776):(Lib.join ((gz name c starts).map (·.data.toList)) [32]).length≤20000:=by
 unfold gz;rw[List.map_cons,Lib.join_cons,List.length_append,Lib.joinTail_length];have h0:=Cj name;have h1:Lib.lens ((Ir c::starts.map vK).map (·.data.toList))≤((Ir c::starts.map vK).map (·.data.toList)).length*100:=Uc fun x hx=>by
  obtain⟨y,hy,rfl⟩:=List.mem_map.1 hx;rcases List.mem_cons.1 hy with rfl|hy
  ·cases c<;>decide
  ·obtain⟨n,hn,rfl⟩:=List.mem_map.1 hy
   have:=vM (hs n hn);have:=Cj (vK n);omega
 have h2:((Ir c::starts.map vK).map (·.data.toList)).length≤101:=by simp;omega
 have h3:([32]:List UInt8).length=1:=rfl;have h4:((Ir c::starts.map vK).map (·.data.toList)).length*100≤101*100:=Nat.mul_le_mul_right _ h2;rw[h3];omega
theorem En.Ez{w:World}{base:Nat}{e:En}(h:IB w base e):e.line.size≤20001:=by
 have:=Ey (c:=e.compact) h.nm h.few h.low;unfold En.line xI;rw[ByteArray.size_append];have h2:(⟨(Lib.join ((gz e.name e.compact e.starts).map (·.data.toList)) [32]).toArray⟩:ByteArray).size=(Lib.join ((gz e.name e.compact e.starts).map (·.data.toList)) [32]).length:=by
  rw[Cj]
 rw[h2];have h3:(⟨#[10]⟩:ByteArray).size=1:=rfl;omega
def mV:List En→ByteArray
 |[]=>⟨#[]⟩
 |e::r=>e.line++mV r
theorem KC(es:List En)(e:En):mV (es++[e])=mV es++e.line:=by
 induction es with
 |nil=>
  show e.line++⟨#[]⟩=⟨#[]⟩++e.line;apply ByteArray.ext;simp[ByteArray.data_append]
 |cons x r ih=>
  show x.line++mV (r++[e])=x.line++mV r++e.line;rw[ih,ByteArray.append_assoc]
theorem Cm{w:World}{base:Nat}:∀{es:List En},(∀e∈es,IB w base e)→(mV es).size≤es.length*20001
 |[],_=>by show 0≤_;omega
 |e::r,h=>by
  have h1:=Cm (es:=r) (fun x hx=>h x (by simp[hx]));have h2:=En.Ez (h e (by simp));show(e.line++mV r).size≤_;rw[ByteArray.size_append,List.length_cons,Nat.add_mul];omega
theorem KD{w:World}{base:Nat}{es:List En}(h:∀e∈es,IB w base e)(hl:es.length≤20)(k:Nat):(mV (es.take k)).size≤400020:=by
 have h1:=Cm (es:=es.take k) (fun x hx=>h x (List.mem_of_mem_take hx));have h2:(es.take k).length≤20:=by rw[List.length_take];omega
 have h3:(es.take k).length*20001≤20*20001:=Nat.mul_le_mul_right _ h2;omega
end Tp
end
end Go.Proofs.YtmjpdhpmjmgmaaaGreatDoor
