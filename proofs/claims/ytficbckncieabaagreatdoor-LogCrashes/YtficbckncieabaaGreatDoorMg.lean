/- Lemmas of the claim, part g of 14. -/
import Derived.Test.YtficbckncieabaaGreatDoorMf
import Derived.Lib.SliceRun
import Derived.Test.YtficbckncieabaaGreatDoorMc
import Derived.Test.YtficbckncieabaaGreatDoorMb
set_option maxHeartbeats 16000000
namespace Go.Proofs.YtficbckncieabaaGreatDoor
open Go.RowKit Go.Maps
set_option linter.unusedSimpArgs false
set_option linter.unusedVariables false
section
set_option maxRecDepth 100000
attribute [local go_sem] Oper.semAt_some
open Dk (DA aj Parts dA aC bQ)
open Sg (aS aA dV Both Came ae flat)
namespace Lg
def oW(A:DA)(dir:ByteArray)(v:LV)(ss0:List (Nat×List Bt.aB))(m:Nat×List Bt.aB)(x:Bt.aB):Int×DA×LV×List (Nat×List Bt.aB):=
 ((A.add (Sn.nameB dir m.1).data.toList (Bt.ah x)).1,(A.add (Sn.nameB dir m.1).data.toList (Bt.ah x)).2,v,ss0++[(m.1,if (A.add (Sn.nameB dir m.1).data.toList (Bt.ah x)).1=0 then m.2++[x]else m.2)])
def qG(A:DA)(dir:ByteArray)(v:LV)(n:Nat)(ss0:List (Nat×List Bt.aB))(m:Nat×List Bt.aB)(x:Bt.aB):Int×DA×LV×List (Nat×List Bt.aB):=
 if Bt.aQ x≠0 then(Bt.aQ x,A,v,ss0++[m])
 else if 0<(flat m.2).length∧v.most<((flat m.2).length+(Bt.ah x).length:Nat)then
  (if (iJ A dir v n m (ss0++[m])).1≠0 then iJ A dir v n m (ss0++[m])
   else oW (iJ A dir v n m (ss0++[m])).2.1 dir (iJ A dir v n m (ss0++[m])).2.2.1 (ss0++[m]) (n,[]) x)
 else oW A dir v ss0 m x
theorem Sl{A:DA}{dir:ByteArray}{v:LV}{n:Nat}{m:Nat×List Bt.aB}{ss:List (Nat×List Bt.aB)}(h:(iJ A dir v n m ss).1=0):(iJ A dir v n m ss).2.2.2=ss++[(n,[])]:=by
 unfold iJ at h⊢;split at h
 ·rename_i h0
  rw[if_pos h0];unfold dX at h⊢;simp only at h⊢;rw[if_pos h]
 ·rename_i h0
  exact absurd h h0
theorem GY(w:World)(base d:Nat)(F:List Nat)(A:DA)(lb:Nat)(gv:Value)(dir:ByteArray)(v:LV)(ms0:List SM)(m:SM)(h:az w base d F A lb gv dir v (ms0++[m]))(hmn:m.n≤1099511627776)(gG:dir.size≤1000)(hfl:(flat m.xs).length≤1048576)
 (va:Value)(x:Bt.aB)(hx:yt w (.agg #[.int .i64 x.base, .int .i64 x.fin,va]) x)(hxe:Bt.aQ x=0)(hxb:ae m.n m.xs≤x.base)(hxs:∀k∈va.ownBlock,k<w.heap.size→k∉aJ F lb gv (ms0++[m])):
 Calls Tryz.prog 58 #[.pointer (some ⟨m.sb,0,none⟩), .agg #[.int .i64 x.base, .int .i64 x.fin,va]] w fun e w'=>e= .returned (aC (oW A dir v (ms0.map SM.abs) m.abs x).1)∧
  ig w w' base d (aJ F lb gv (ms0++[m])) (oW A dir v (ms0.map SM.abs) m.abs x).2.1 lb dir v (oW A dir v (ms0.map SM.abs) m.abs x).2.2.2:=by
 have aah:=Sg.dw m.xs;refine(Sg.add_any w base d F A m.sb m.sv (Sn.nameB dir m.n) m.n _ (h.both (by simp)) (Sg.ja hmn gG) (by rw[Sg.gW];omega) (by rw[Sg.dP];omega) va x hx (fun k hk hlt=>⟨fun hm=>hxs k hk hlt (ay.2 (.inr (.inr (.inr hm)))),fun hm=>hxs k hk hlt (ay.2 (.inr (.inr (.inl ⟨m,by simp,hm⟩))))⟩)).mono ?_;rintro e w' (⟨h1, -, -⟩|⟨-,h1, -, -⟩|⟨-, -,rfl,hc⟩)
 ·exact absurd hxe h1
 ·rw[Sg.qy]at h1;omega
 ·refine⟨rfl,?_⟩
  unfold oW SM.abs;simp only;unfold Sg.OW at hc;rw[Sg.Dx]at hc;have hm0:ms0.map (fun m=>(m.n,m.xs))=ms0.map SM.abs:=rfl;split
  ·rename_i h0
   rw[if_pos h0]at hc;exact h.came hc
  ·rename_i h0
   rw[if_neg h0]at hc;exact h.came hc
theorem Sm(w:World)(base d:Nat)(F:List Nat)(A:DA)(lb:Nat)(gv:Value)(dir:ByteArray)(v:LV)(ms0:List SM)(m:SM)(h:az w base d F A lb gv dir v (ms0++[m]))(hl:ms0.length≤900000)(hmn:m.n≤1099511627776)(gG:dir.size≤1000)(hfl:(flat m.xs).length≤1048576)(hmo:v.most≤1048576∧0≤v.most)
 (n:Nat)(hn:n≤1099511627776)(hnx:ae m.n m.xs=n)(hv:∀Z,Turn (aJ F lb gv (ms0++[m])) w Z→Sn.jG Z)
 (va:Option Addr)(vn vc:Nat)(x:Bt.aB)(hx:yt w (.agg #[.int .i64 x.base, .int .i64 x.fin, .slice va vn vc]) x)(hxb:x.base=n)(hxs:∀k∈(Value.slice va vn vc).ownBlock,k<w.heap.size∧k∉aJ F lb gv (ms0++[m])):
 Calls Tryz.prog 31 #[.pointer (some ⟨lb,0,none⟩), .agg #[.int .i64 x.base, .int .i64 x.fin, .slice va vn vc]] w fun e w'=>e= .returned (aC (qG A dir v n (ms0.map SM.abs) m.abs x).1)∧
  ig w w' base d (aJ F lb gv (ms0++[m])) (qG A dir v n (ms0.map SM.abs) m.abs x).2.1 lb dir (qG A dir v n (ms0.map SM.abs) m.abs x).2.2.1 (qG A dir v n (ms0.map SM.abs) m.abs x).2.2.2:=by
 have aah:=Sg.dw m.xs;have H:=hide h;have HV:=hide hv;have KJ:=hide hxs;have Ey:=hide hnx;have HXB:=hide hxb;have BR:=hide hx;have hlb:=lt_of_heap h.box;obtain⟨sv0,agC,hr,b1,b2,f1,f2⟩:=hx;simp only[Value.agg.injEq,Array.mk.injEq,List.cons.injEq,Value.int.injEq,true_and,and_true]at agC;subst agC;have sS:=hide hr;obtain⟨z,hz⟩:∃z,z=(flat m.xs).length:=⟨_,rfl⟩;have hzl:z≤1048576:=by omega
 have HZ:=hide hz;clear h hnx hv hxs hxb hr hz;go_enter Tryz.func31,Tryz.ntmps31
 go_wp2_with fail
 obtain⟨w0,hw0⟩:∃w0,w0=w.alloc (.cells #[.int .i64 x.base, .int .i64 x.fin, .slice va vn vc] 71):=⟨_,rfl⟩;have ht0:Turn [] w w0:=by rw[hw0];exact(Turn.refl [] w).alloc _
 have hX0:w0.heap[w.heap.size]? =some (.cells #[.int .i64 x.base, .int .i64 x.fin, .slice va vn vc] 71 (0,0)):=by rw[hw0];exact ai w _
 have hs0:w0.heap.size=w.heap.size+1:=by rw[hw0,World.size_alloc]
 rw[←hw0];refine(Gv w0 _ x ⟨_,rfl,sS.out.still ht0,b1,b2,f1,f2⟩).mono ?_;rintro e wa ⟨vb,rfl,hta,VB⟩;have UH:=hide (ht0.same hta);have HXA:=hide (hta.heap hX0 (by simp));have VC:=hide VB;have Zb:=hide (sS.out.still (ht0.same hta));clear hw0 ht0 hX0 hs0 hta VB;by_cases he:Bt.aQ x=0
 ·have Vx:As.oN (Bt.aQ x)= .nilIface:=by rw[he];rfl
  rw[Vx];have Pe:=VC.out;unfold encR at Pe;rw[if_pos he]at Pe;obtain⟨ba,bc,hvb,GG,GH⟩:=Pe.form;subst hvb;have hel:(Bt.ah x).length≤6000:=by have:=(Bt.dJ he).2;rw[Bt.gX];exact this
  have Sr:=hide he;clear he Vx Pe VC GG GH;go_wp2_with fail
  refine(last_any _ base d F A lb gv dir v ms0 m (H.out.still UH.out) (by omega)).mono ?_;rintro e wb ⟨rfl,htb⟩;have HTB:=hide (UH.out.same htb);have HXb:=hide (htb.heap HXA.out (by simp));have Zc:=hide (Zb.out.still htb);clear htb;go_wp2_with fail
  refine(Sg.size_any _ base d m.sb m.sv _ m.n _ ((H.out.jo m (by simp)).still HTB.out) (by rw[Sg.gW];omega) (by rw[Sg.dP];omega)).mono ?_;rintro e wc ⟨rfl,htc⟩;rw[Sg.dP,←HZ.out];have Xd:=hide (HTB.out.same htc);have HXC:=hide (htc.heap HXb.out (by simp));have Su:=hide (Zc.out.still htc);have Xe:=hide (H.out.still (HTB.out.same htc));have c2:=Xe.out.c2;have hlc:=lt_of_heap Xe.out.box;clear htc;by_cases hz0:0<(z:Int)
  ·by_cases hgt:v.most<(z:Int)+(Bt.ah x).length
   ·go_wp2_with fail
    have hro:=RZ wc base d F A lb gv dir v ms0 m Xe.out hl (by omega) hmn gG n hn Ey.out (fun Z hZ=>HV.out Z ((Xd.out.mono (T:=aJ F lb gv (ms0++[m])) (by simp)).same hZ));obtain⟨ss,hss⟩:∃ss,ss=(ms0++[m]).map SM.abs:=⟨_,rfl⟩;rw[←hss]at hro;have akU:ss=ms0.map SM.abs++[m.abs]:=by rw[hss,List.map_append,List.map_singleton]
    have Sv:=hide akU;have Zd:=hide hro;have hlt:∀k∈aJ F lb gv (ms0++[m]),k<w.heap.size:=fun k hk=>(H.out.lt k hk).2
    have sN:=hide hlt;clear hro hss akU hlt;go_wp2_with fail
    refine Zd.out.mono ?_;rintro e wd ⟨rfl,hd⟩;obtain⟨c,hc⟩:∃c,c=(iJ A dir v n m.abs ss).1:=⟨_,rfl⟩;rw[←hc];have HC:=hide hc;by_cases hc0:c=0
    ·have hr0:aC c= .nilIface:=by rw[hc0];rfl
     rw[hr0];have hok:=Sl (A:=A) (dir:=dir) (v:=v) (n:=n) (m:=m.abs) (ss:=ss) (by rw[←hc];exact hc0);obtain⟨A2,hA2⟩:∃A2,A2=(iJ A dir v n m.abs ss).2.1:=⟨_,rfl⟩;obtain⟨v2,hv2⟩:∃v2,v2=(iJ A dir v n m.abs ss).2.2.1:=⟨_,rfl⟩;rw[hok,←hA2,←hv2]at hd;obtain⟨F2,gv2,ms2,hl2,hm2,ht2,hf2⟩:=hd;obtain⟨ms20,m2,rfl,ab8,lL⟩:=dB hm2;have akV:m2.n=n:=congrArg Prod.fst lL;have agM:m2.xs=[]:=congrArg Prod.snd lL;have akW:ms20.length=ms0.length+1:=by
      rw[←List.length_map (f:=SM.abs),ab8,Sv.out,List.length_append,List.length_map,List.length_singleton]
     have hXd:=ht2.heap HXC.out (fun hm=>by have:=sN.out _ hm;omega);have bI:=Su.out.kept ht2 (fun k hk _=>(KJ.out k hk).2);have HA2:=hide hA2;have HV2:=hide hv2;have HC0:=hide hc0;have HL2:=hide hl2;have aoJ:=hide ab8;have Xf:=hide akV;have Xg:=hide agM;have HTD:=hide ht2;have HF2:=hide hf2;have HXD:=hide hXd;have Ze:=hide bI;clear hc hc0 hr0 hok hA2 hv2 hl2 hm2 ab8 lL akV agM ht2 hf2 hXd bI Zd c2 hlc;go_wp2_with fail
     refine gU 3 [] (by kernel_rfl) rfl ?_;apply Lo.r0 1 rfl 0 (by intro u;conv=>lhs;whnf) rfl
     ·intro a w1 hR e0 K hK
      go_simp
      exact hK _ rfl
     refine Lo.run 2 rfl rfl [0] (fun y _=>y= .pointer (some ⟨m2.sb,0,none⟩)) (by kernel_rfl) (fun x w w' h hR=>?_) (fun _ _ h=>h) (fun u w1 hR hF=>?_) ?_
     ·exact h
     ·obtain⟨h0, -⟩:=hF
      refine⟨rfl,fun a ha K hK=>?_⟩;have e38:=(ha 38).trans h0;clear ha h0;go_simp
      refine(last_any _ base d F2 A2 lb gv2 dir v2 ms20 m2 (HL2.out.still hR.dr) (by omega)).mono ?_;rintro e w8 ⟨rfl,ht8⟩;exact hK _ _ rfl ht8
     refine Lo.df 3 rfl rfl [] (.agg #[.int .i64 x.base, .int .i64 x.fin, .slice va vn vc]) (by kernel_rfl) (fun u w1 hR hF=>?_) (Turn.refl _) ?_
     ·clear hF
      refine⟨rfl,fun a ha K hK=>?_⟩;have e3:=ha 3;conv at e3=>rhs;whnf
      clear ha;have hb:=hR.dr.heap HXD.out (by simp);have k0:w1.cell? ⟨w.heap.size,0,none⟩=some (.int .i64 x.base):=by rw[cell_of hb];rfl
      have k1:w1.cell? ⟨w.heap.size,1,none⟩=some (.int .i64 x.fin):=by rw[cell_of hb];rfl
      have k2:w1.cell? ⟨w.heap.size,2,none⟩=some (.slice va vn vc):=by rw[cell_of hb];rfl
      have z1:=lt_of_heap hb;go_simp
      exact hK _ rfl
     refine Lo.done [1,2] (fun u w1 bI hSd hF=>?_);clear hSd;obtain⟨f1,f2, -⟩:=hF;have d1:=(show(fun y _=>y= .pointer (some ⟨m2.sb,0,none⟩)) (u 1) w1 from f1);dsimp only at d1;have d2:u 2=_:=f2;clear f1 f2;simp only[List.take_succ_cons,List.take_zero,List.drop_succ_cons,List.drop_zero,ax,Act.put,List.setIfInBounds_toArray,List.set_cons_succ,List.set_cons_zero,Nat.zero_add,Nat.reduceAdd,d2];rw[d1];have Sz:=hide bI.dr;clear d1 d2 bI;go_wp2_with fail
     refine(GY _ base d F2 A2 lb gv2 dir v2 ms20 m2 (HL2.out.still Sz.out) (by rw[Xf.out];exact hn) gG (by rw[Xg.out];simp[flat]) (.slice va vn vc) x ⟨_,rfl,Ze.out.still Sz.out,b1,b2,f1,f2⟩ Sr.out (by rw[Xf.out,Xg.out,HXB.out];exact Int.le_refl _) (fun k hk hlt hm=>by
      rcases HF2.out k hm with h|h
      ·exact(KJ.out k hk).2 h
      ·have:=(KJ.out k hk).1;have:=Xd.out.size;omega)).mono ?_
     rintro e w9 ⟨rfl,hd⟩;obtain⟨r,hr⟩:∃r,r=aC (oW A2 dir v2 (ms20.map SM.abs) m2.abs x).1:=⟨_,rfl⟩;rw[←hr];have HR:=hide hr;have HD:=hide hd;clear hr hd;go_wp2
     go_ret
     unfold qG;rw[if_neg (by rw[Sr.out];simp),if_pos (by simp only[SM.abs];rw[←HZ.out];constructor<;>omega),←Sv.out,if_neg (by rw[←HC.out,HC0.out];simp)];have ai6:m2.abs=(n,[]):=by unfold SM.abs;rw[Xf.out,Xg.out]
     rw[←HA2.out,←HV2.out,←aoJ.out,←ai6];rw[←HR.out];exact⟨rfl,(HD.out.before Sz.out).then ((Xd.out.mono (T:=aJ F lb gv (ms0++[m])) (by simp)).same HTD.out) (fun k hk=>(HF2.out k hk).imp_right (fun h=>by have:=Xd.out.size;omega))⟩
    ·have hr0:aC c= .iface 45 (.int .i64 c):=by unfold aC;rw[if_neg hc0];rfl
     rw[hr0];have HC0:=hide hc0;have HR0:=hide hr0;have HD:=hide hd;clear hc hc0 hr0 hd Zd;go_wp2
     go_ret
     unfold qG;rw[if_neg (by rw[Sr.out];simp),if_pos (by simp only[SM.abs];rw[←HZ.out];constructor<;>omega),←Sv.out,if_pos (by rw[←HC.out];exact HC0.out),←HC.out,HR0.out];exact⟨rfl,HD.out.before Xd.out⟩
   ·go_wp2_with fail
    refine gU 3 [] (by kernel_rfl) rfl ?_;apply Lo.r0 1 rfl 0 (by intro u;conv=>lhs;whnf) rfl
    ·intro a w1 hR e0 K hK
     go_simp
     exact hK _ rfl
    refine Lo.run 2 rfl rfl [0] (fun y _=>y= .pointer (some ⟨m.sb,0,none⟩)) (by kernel_rfl) (fun x w w' h hR=>?_) (fun _ _ h=>h) (fun u w1 hR hF=>?_) ?_
    ·exact h
    ·obtain⟨h0, -⟩:=hF
     refine⟨rfl,fun a ha K hK=>?_⟩;have e38:=(ha 38).trans h0;clear ha h0;go_simp
     refine(last_any _ base d F A lb gv dir v ms0 m (Xe.out.still hR.dr) (by omega)).mono ?_;rintro e w8 ⟨rfl,ht8⟩;exact hK _ _ rfl ht8
    refine Lo.df 3 rfl rfl [] (.agg #[.int .i64 x.base, .int .i64 x.fin, .slice va vn vc]) (by kernel_rfl) (fun u w1 hR hF=>?_) (Turn.refl _) ?_
    ·clear hF
     refine⟨rfl,fun a ha K hK=>?_⟩;have e3:=ha 3;conv at e3=>rhs;whnf
     clear ha;have hb:=hR.dr.heap HXC.out (by simp);have k0:w1.cell? ⟨w.heap.size,0,none⟩=some (.int .i64 x.base):=by rw[cell_of hb];rfl
     have k1:w1.cell? ⟨w.heap.size,1,none⟩=some (.int .i64 x.fin):=by rw[cell_of hb];rfl
     have k2:w1.cell? ⟨w.heap.size,2,none⟩=some (.slice va vn vc):=by rw[cell_of hb];rfl
     have z1:=lt_of_heap hb;go_simp
     exact hK _ rfl
    refine Lo.done [1,2] (fun u w1 bI hSd hF=>?_);clear hSd;obtain⟨f1,f2, -⟩:=hF;have d1:=(show(fun y _=>y= .pointer (some ⟨m.sb,0,none⟩)) (u 1) w1 from f1);dsimp only at d1;have d2:u 2=_:=f2;clear f1 f2;simp only[List.take_succ_cons,List.take_zero,List.drop_succ_cons,List.drop_zero,ax,Act.put,List.setIfInBounds_toArray,List.set_cons_succ,List.set_cons_zero,Nat.zero_add,Nat.reduceAdd,d2];rw[d1];have Sz:=hide bI.dr;clear d1 d2 bI;go_wp2_with fail
    refine(GY _ base d F A lb gv dir v ms0 m (Xe.out.still Sz.out) hmn gG hfl (.slice va vn vc) x ⟨_,rfl,Su.out.still Sz.out,b1,b2,f1,f2⟩ Sr.out (by rw[Ey.out,HXB.out];exact Int.le_refl _) (fun k hk hlt hm=>(KJ.out k hk).2 hm)).mono ?_;rintro e w9 ⟨rfl,hd⟩;obtain⟨r,hr⟩:∃r,r=aC (oW A dir v (ms0.map SM.abs) m.abs x).1:=⟨_,rfl⟩;rw[←hr];have HR:=hide hr;have HD:=hide hd;clear hr hd;go_wp2
    go_ret
    unfold qG;rw[if_neg (by rw[Sr.out];simp),if_neg (by simp only[SM.abs];rw[←HZ.out];omega)];rw[←HR.out];exact⟨rfl,HD.out.before (Xd.out.same Sz.out)⟩
  ·have auo:z=0:=by omega
   go_wp2_with fail
   refine gU 3 [] (by kernel_rfl) rfl ?_;apply Lo.r0 1 rfl 0 (by intro u;conv=>lhs;whnf) rfl
   ·intro a w1 hR e0 K hK
    go_simp
    exact hK _ rfl
   refine Lo.run 2 rfl rfl [0] (fun y _=>y= .pointer (some ⟨m.sb,0,none⟩)) (by kernel_rfl) (fun x w w' h hR=>?_) (fun _ _ h=>h) (fun u w1 hR hF=>?_) ?_
   ·exact h
   ·obtain⟨h0, -⟩:=hF
    refine⟨rfl,fun a ha K hK=>?_⟩;have e38:=(ha 38).trans h0;clear ha h0;go_simp
    refine(last_any _ base d F A lb gv dir v ms0 m (Xe.out.still hR.dr) (by omega)).mono ?_;rintro e w8 ⟨rfl,ht8⟩;exact hK _ _ rfl ht8
   refine Lo.df 3 rfl rfl [] (.agg #[.int .i64 x.base, .int .i64 x.fin, .slice va vn vc]) (by kernel_rfl) (fun u w1 hR hF=>?_) (Turn.refl _) ?_
   ·clear hF
    refine⟨rfl,fun a ha K hK=>?_⟩;have e3:=ha 3;conv at e3=>rhs;whnf
    clear ha;have hb:=hR.dr.heap HXC.out (by simp);have k0:w1.cell? ⟨w.heap.size,0,none⟩=some (.int .i64 x.base):=by rw[cell_of hb];rfl
    have k1:w1.cell? ⟨w.heap.size,1,none⟩=some (.int .i64 x.fin):=by rw[cell_of hb];rfl
    have k2:w1.cell? ⟨w.heap.size,2,none⟩=some (.slice va vn vc):=by rw[cell_of hb];rfl
    have z1:=lt_of_heap hb;go_simp
    exact hK _ rfl
   refine Lo.done [1,2] (fun u w1 bI hSd hF=>?_);clear hSd;obtain⟨f1,f2, -⟩:=hF;have d1:=(show(fun y _=>y= .pointer (some ⟨m.sb,0,none⟩)) (u 1) w1 from f1);dsimp only at d1;have d2:u 2=_:=f2;clear f1 f2;simp only[List.take_succ_cons,List.take_zero,List.drop_succ_cons,List.drop_zero,ax,Act.put,List.setIfInBounds_toArray,List.set_cons_succ,List.set_cons_zero,Nat.zero_add,Nat.reduceAdd,d2];rw[d1];have Sz:=hide bI.dr;clear d1 d2 bI;go_wp2_with fail
   refine(GY _ base d F A lb gv dir v ms0 m (Xe.out.still Sz.out) hmn gG hfl (.slice va vn vc) x ⟨_,rfl,Su.out.still Sz.out,b1,b2,f1,f2⟩ Sr.out (by rw[Ey.out,HXB.out];exact Int.le_refl _) (fun k hk hlt hm=>(KJ.out k hk).2 hm)).mono ?_;rintro e w9 ⟨rfl,hd⟩;obtain⟨r,hr⟩:∃r,r=aC (oW A dir v (ms0.map SM.abs) m.abs x).1:=⟨_,rfl⟩;rw[←hr];have HR:=hide hr;have HD:=hide hd;clear hr hd;go_wp2
   go_ret
   unfold qG;rw[if_neg (by rw[Sr.out];simp),if_neg (by simp only[SM.abs];rw[←HZ.out];omega)];rw[←HR.out];exact⟨rfl,HD.out.before (Xd.out.same Sz.out)⟩
 ·have hne:As.oN (Bt.aQ x)= .iface 45 (.int .i64 (Bt.aQ x)):=by unfold As.oN;rw[if_neg he]
  rw[hne];have HE:=hide he;clear he hne;go_wp2
  go_ret
  unfold qG;rw[if_pos HE.out];exact⟨by unfold aC;rw[if_neg HE.out];rfl,by have:=H.out.quiet UH.out;rw[List.map_append]at this;exact this⟩
def fF(c:Int)(v:LV):LV:=if c=14 then {v with down:=true}else v
theorem rD(w:World)(base d:Nat)(F:List Nat)(A:DA)(lb:Nat)(gv:Value)(dir:ByteArray)(v:LV)(ms:List SM)(h:az w base d F A lb gv dir v ms)(c:Int)(hg:As.iq w):
 Calls Tryz.prog 32 #[.pointer (some ⟨lb,0,none⟩), .iface 45 (.int .i64 c)] w fun e w'=>e= .returned (.iface 45 (.int .i64 c))∧ig w w' base d (aJ F lb gv ms) A lb dir (fF c v) (ms.map SM.abs):=by
 have H:=hide h;have HG:=hide hg;clear h hg;by_cases hc:c=14
 ·subst hc
  go_enter Tryz.func32,Tryz.ntmps32
  go_wp2_with fail
  refine(As.rC 14 w HG.out).mono ?_;rintro e w1 ⟨rfl,hb⟩;have HT:=hide (Turn.of_below hb []);have hl1:=H.out.still (Turn.of_below hb []);have c6:=hl1.c6;have f6:=hl1.fr 6;have hlb:=lt_of_heap hl1.box;have HL1:=hide hl1;clear hb hl1;go_wp2
  go_ret
  have e:fF 14 v={v with down:=true}:=by unfold fF;rw[if_pos rfl]
  rw[e];refine⟨rfl,F,gv,ms,HL1.out.xK (i:=6) (u:= .bool true) (v':={v with down:=true}) rfl,rfl,?_,fun _ hk=> .inl hk⟩;exact(HT.out.mono (T:=aJ F lb gv ms) (by simp)).setCell (.inl (ay.2 (.inl rfl))) _
 ·have HC:=hide hc
  have hcb:(c==14)=false:=by rw[beq_eq_false_iff_ne];exact hc
  go_enter Tryz.func32,Tryz.ntmps32
  go_wp2_with fail
  refine(As.rC c w HG.out).mono ?_;rintro e w1 ⟨rfl,hb⟩;have HT:=hide (Turn.of_below hb []);clear hb;go_wp2
  go_ret
  have e:fF c v=v:=by unfold fF;rw[if_neg HC.out]
  rw[e];exact⟨rfl,H.out.quiet HT.out⟩
theorem SA(w:World)(base d:Nat)(F:List Nat)(A:DA)(lb:Nat)(gv:Value)(dir:ByteArray)(v:LV)(ms:List SM)(h:az w base d F A lb gv dir v ms)(hd:v.down=true)(vr:Value):
 Calls Tryz.prog 12 #[.pointer (some ⟨lb,0,none⟩),vr] w fun e w'=>e= .returned (.tuple #[.int .i64 0,bQ 6])∧w=w':=by
 have c6:=h.c6;rw[hd]at c6;have hlb:=lt_of_heap h.box;clear h hd;go_enter Tryz.func12,Tryz.ntmps12
 go_wp2
 go_ret2
 exact⟨rfl,rfl⟩
def Lm(c:Int)(n:Nat):Int:=if c=0 then(n:Int)else 0
def rX(A:DA)(dir:ByteArray)(v:LV)(n:Nat)(ss0:List (Nat×List Bt.aB))(m:Nat×List Bt.aB)(rs:List Bt.Rec):Int×DA×LV×List (Nat×List Bt.aB):=
 ((qG A dir v n ss0 m (cO n rs)).1,(qG A dir v n ss0 m (cO n rs)).2.1,fF (qG A dir v n ss0 m (cO n rs)).1 (qG A dir v n ss0 m (cO n rs)).2.2.1,(qG A dir v n ss0 m (cO n rs)).2.2.2)
theorem GZ(w:World)(base d:Nat)(F:List Nat)(A:DA)(lb:Nat)(gv:Value)(dir:ByteArray)(v:LV)(ms0:List SM)(m:SM)(h:az w base d F A lb gv dir v (ms0++[m]))(hl:ms0.length≤900000)(hmn:m.n≤1099511627776)(gG:dir.size≤1000)(hfl:(flat m.xs).length≤1048576)(hmo:v.most≤1048576∧0≤v.most)(hdn:v.down=false)
 (n:Nat)(hn:n≤1099511627776)(hnx:ae m.n m.xs=n)(hv:∀Z,Turn (aJ F lb gv (ms0++[m])) w Z→Sn.jG Z∧As.iq Z)
 (vr:Value)(rs:List Bt.Rec)(hr:bF w vr rs)(hrl:rs.length≤1000000):
 Calls Tryz.prog 12 #[.pointer (some ⟨lb,0,none⟩),vr] w fun e w'=>
  e= .returned (.tuple #[.int .i64 (Lm (rX A dir v n (ms0.map SM.abs) m.abs rs).1 n),aC (rX A dir v n (ms0.map SM.abs) m.abs rs).1])∧
  ig w w' base d (aJ F lb gv (ms0++[m])) (rX A dir v n (ms0.map SM.abs) m.abs rs).2.1 lb dir (rX A dir v n (ms0.map SM.abs) m.abs rs).2.2.1 (rX A dir v n (ms0.map SM.abs) m.abs rs).2.2.2:=by
 have aah:=Sg.dw m.xs;have H:=hide h;have HV:=hide hv;have Ey:=hide hnx;have sS:=hide hr;have c6:=h.c6;rw[hdn]at c6;have hlb:=lt_of_heap h.box;have sN:Hid (∀k∈aJ F lb gv (ms0++[m]),k<w.heap.size):=fun k hk=>(h.lt k hk).2
 clear h hv hnx hr hdn;go_enter Tryz.func12,Tryz.ntmps12
 go_wp2_with fail
 refine(kD w base d F A lb gv dir v ms0 m H.out (by omega) (by omega)).mono ?_;rintro e w1 ⟨rfl,ht1⟩;rw[Ey.out];have HT1:=hide ht1;clear ht1 c6 hlb;go_wp2_with fail
 refine(Ll _ (n:Int) vr rs (sS.out.still HT1.out) (by omega) (by omega) hrl).mono ?_;rintro e w2 ⟨sv,rfl,Pe,ht2⟩;obtain⟨sa,sc,hsv, -, -⟩:=Pe.form;rw[ou]at hsv;subst hsv;have HT2:=hide (HT1.out.same ht2);have dI:=hide Pe;have hw1:=HT1.out.size;clear Pe ht2;obtain⟨w3,hw3⟩:∃w3,w3=w2.alloc (.cells #[.int .i64 (n:Int), .int .i64 ((n:Int)+rs.length), .slice sa rs.length sc] 71):=⟨_,rfl⟩;have ht3:Turn [] w2 w3:=by rw[hw3];exact(Turn.refl [] w2).alloc _
 have hX3:w3.heap[w2.heap.size]? =some (.cells #[.int .i64 (n:Int), .int .i64 ((n:Int)+rs.length), .slice sa rs.length sc] 71 (0,0)):=by rw[hw3];exact ai w2 _
 have hok:∀r∈gp (n:Int) rs,iQ r:=QY (n:Int) rs (fun r hr=>by obtain⟨j,hj,rfl⟩:=List.mem_iff_getElem.1 hr;exact sS.out.ok hj) (by omega) (by omega) hrl;have aib:bF w3 (.slice sa rs.length sc) (gp (n:Int) rs):=eX.recs (base:=w1.heap.size) (dI.out.still ht3) hok;have aau:∀k∈(Value.slice sa rs.length sc).ownBlock,w1.heap.size≤k∧k<w3.heap.size:=fun k hk=>⟨(dI.out.lt k hk).1,by have:=(dI.out.lt k hk).2;have:=ht3.size;omega⟩
 have hw2:=HT2.out.size;have hla:=Sm w3 base d F A lb gv dir v ms0 m (H.out.still (HT2.out.same ht3)) hl hmn gG hfl hmo n hn Ey.out (fun Z hZ=>(HV.out Z (((HT2.out.same ht3).mono (T:=aJ F lb gv (ms0++[m])) (by simp)).same hZ)).1)
  sa rs.length sc (cO n rs) ⟨_,rfl,aib,by show _≤(n:Int);omega,by show(n:Int)≤_;omega,by show _≤(n:Int)+_;omega,by show(n:Int)+_≤_;omega⟩ rfl (fun k hk=>⟨(aau k hk).2,fun hm=>by have:=(aau k hk).1;have:=sN.out k hm;omega⟩)
 have HT3:=hide (HT2.out.same ht3);have HX3:=hide hX3;have HLA:=hide hla;clear ht3 hX3 hok aib aau hla;go_wp2_with fail
 rw[←hw3];clear hw3;obtain⟨c,hc⟩:∃c,c=(qG A dir v n (ms0.map SM.abs) m.abs (cO n rs)).1:=⟨_,rfl⟩;refine HLA.out.mono ?_;rintro e w4 ⟨rfl,hd⟩;rw[←hc];obtain⟨F4,gv4,ms4,hl4,hm4,ht4,hf4⟩:=hd.before HT3.out;have hX4:=hd.turn.heap HX3.out (fun hm=>by have:=sN.out _ hm;omega);have HC:=hide hc;have HL4:=hide hl4;have HM4:=hide hm4;have HT4:=hide ht4;have HF4:=hide hf4;have HX4:=hide hX4;by_cases hc0:c=0
 ·have hr0:aC c= .nilIface:=by rw[hc0];rfl
  rw[hr0];have k0:w4.cell? ⟨w2.heap.size,0,none⟩=some (.int .i64 (n:Int)):=by rw[cell_of hX4];rfl
  have z4:=lt_of_heap hX4;have HC0:=hide hc0;clear hc hc0 hr0 hl4 hm4 ht4 hf4 hX4 hd HLA;go_wp2
  go_ret2
  unfold rX;simp only;have ho:Lm c n=(n:Int):=by unfold Lm;rw[if_pos HC0.out]
  rw[←HC.out,ho,HC0.out];refine⟨rfl,F4,gv4,ms4,?_,HM4.out,HT4.out,HF4.out⟩;unfold fF;rw[if_neg (by omega)];exact HL4.out
 ·have hr0:aC c= .iface 45 (.int .i64 c):=by unfold aC;rw[if_neg hc0];rfl
  rw[hr0];have hno:=rD w4 base d F4 _ lb gv4 dir _ ms4 hl4 c (HV.out w4 ht4).2;have Qr:=hide hno;have HC0:=hide hc0;have HR0:=hide hr0;clear hc hc0 hr0 hl4 hm4 ht4 hf4 hX4 hd HLA hno;go_wp2_with fail
  refine Qr.out.mono ?_;rintro e w5 ⟨rfl,hd5⟩;rw[HM4.out]at hd5;have HD5:=hide (hd5.then HT4.out HF4.out);clear hd5 Qr;go_wp2
  go_ret2
  unfold rX;simp only;have ho:Lm c n=0:=by unfold Lm;rw[if_neg HC0.out]
  rw[←HC.out,ho,HR0.out];exact⟨rfl,HD5.out⟩
end Lg
end
section
open Dk (DA FA aH)
open Sg (Chain flat ae)
namespace Lg
def bJ(dir:ByteArray)(n:Nat):List UInt8:=(Sn.nameB dir n).data.toList
theorem fK{dir:ByteArray}{n m:Nat}(hn:n≤1099511627776)(hm:m≤1099511627776)(h:bJ dir n=bJ dir m):n=m:=
 Sn.RD (d:=dir.data.toList) hn hm h
structure bK(A:DA)(room:Nat)(dir:ByteArray)(ss:List (Nat×List Bt.aB)):Prop where
 lim:A.limited=false
 room:A.room=room
 files:A.files.map (fun f=>(f.name,f.bytes))=ss.map (fun p=>(bJ dir p.1,flat p.2))
 base:∀p∈ss,p.1≤1099511627776
 nd:(ss.map (·.1)).Nodup
theorem kQ:∀ss:List (Nat×List Bt.aB),(flat (af ss)).length=(ss.map (fun p=>(flat p.2).length)).sum
 |[]=>by simp[af,flat]
 |p::r=>by
  have h:=kQ r;unfold af at h⊢;rw[List.flatMap_cons,Sg.aP,List.length_append,h,List.map_cons,List.sum_cons]
theorem Xh{ss:List (Nat×List Bt.aB)}(h:(ss.map (·.1)).Nodup){p q:Nat×List Bt.aB}(hp:p∈ss)(hq:q∈ss)(e:p.1=q.1):p=q:=by
 induction ss with
 |nil=>simp at hp
 |cons a r ih=>
  rw[List.map_cons,List.nodup_cons]at h;rcases List.mem_cons.1 hp with rfl|hpr
  ·rcases List.mem_cons.1 hq with rfl|hq
   ·rfl
   ·exact absurd (show p.1∈r.map (·.1)from List.mem_map.2 ⟨q,hq,e.symm⟩) h.1
  ·rcases List.mem_cons.1 hq with rfl|hq
   ·exact absurd (show q.1∈r.map (·.1)from List.mem_map.2 ⟨p,hpr,e⟩) h.1
   ·exact ih h.2 hpr hq
section
variable {A:DA} {room:Nat} {dir:ByteArray} {ss ss0:List (Nat×List Bt.aB)} {p m:Nat×List Bt.aB}
theorem bK.fails(h:bK A room dir ss):A.fails=false:=by unfold DA.fails;rw[h.lim];rfl
theorem bK.tick(h:bK A room dir ss):A.tick=A:=by unfold DA.tick;rw[h.lim];rfl
theorem bK.find(h:bK A room dir ss)(nm:List UInt8):(A.file nm).map (fun f=>(f.name,f.bytes))=(ss.find? (fun p=>bJ dir p.1==nm)).map (fun p=>(bJ dir p.1,flat p.2)):=by
 have h1:(A.files.map (fun f=>(f.name,f.bytes))).find? (fun q=>q.1==nm)=(A.file nm).map (fun f=>(f.name,f.bytes)):=by
  rw[List.find?_map];rfl
 have h2:(ss.map (fun p=>(bJ dir p.1,flat p.2))).find? (fun q=>q.1==nm)=(ss.find? (fun p=>bJ dir p.1==nm)).map (fun p=>(bJ dir p.1,flat p.2)):=by
  rw[List.find?_map];rfl
 rw[←h1,h.files,h2]
theorem bK.SB(h:bK A room dir ss)(hp:p∈ss):ss.find? (fun q=>bJ dir q.1==bJ dir p.1)=some p:=by
 cases hf:ss.find? (fun q=>bJ dir q.1==bJ dir p.1)with
 |none=>
  have:=List.find?_eq_none.1 hf p hp;simp at this
 |some q=>
  have h1:=List.find?_some hf;have h2:=List.mem_of_find?_eq_some hf;rw[beq_iff_eq]at h1;rw[Xh h.nd h2 hp (fK (h.base q h2) (h.base p hp) h1)]
theorem bK.file(h:bK A room dir ss)(hp:p∈ss):∃f,A.file (bJ dir p.1)=some f∧f.bytes=flat p.2:=by
 have h1:=h.find (bJ dir p.1);rw[h.SB hp]at h1;simp only[Option.map_some]at h1;obtain⟨f,hf,e⟩:=Option.map_eq_some_iff.1 h1;exact⟨f,hf,congrArg Prod.snd e⟩
theorem bK.has(h:bK A room dir ss)(hp:p∈ss):A.has (bJ dir p.1)=true:=by
 obtain⟨f,hf, -⟩:=h.file hp;rw[Dk.kz,hf];rfl
theorem bK.Xi(h:bK A room dir ss){n:Nat}(hn:n≤1099511627776)(hno:n∉ss.map (·.1)):A.has (bJ dir n)=false:=by
 have h1:=h.find (bJ dir n);have h2:ss.find? (fun p=>bJ dir p.1==bJ dir n)=none:=by
  rw[List.find?_eq_none];intro q hq;simp only[beq_iff_eq];intro e;exact hno (List.mem_map.2 ⟨q,hq,fK (h.base q hq) hn e⟩)
 rw[h2]at h1;rw[Dk.kz];cases hf:A.file (bJ dir n)with
 |none=>rfl
 |some f=>rw[hf]at h1;simp at h1
theorem bK.len(h:bK A room dir ss):A.files.length=ss.length:=by
 have:=congrArg List.length h.files;simpa using this
theorem bK.used(h:bK A room dir ss):aH A.files=(flat (af ss)).length:=by
 rw[kQ];have:=congrArg (fun l:List (List UInt8×List UInt8)=>(l.map (fun q=>q.2.length)).sum) h.files;simpa[aH,Function.comp_def]using this
theorem bK.make(h:bK A room dir ss){n:Nat}(hn:n≤1099511627776)(hno:n∉ss.map (·.1))(hok:Dk.nameB (Sn.nameB dir n)=true)(hl:ss.length<200):(A.make (Sn.nameB dir n)).1=0∧bK (A.make (Sn.nameB dir n)).2 room dir (ss++[(n,[])]):=by
 have e:A.make (Sn.nameB dir n)=(0,{A.tick with files:=A.files++[⟨(Sn.nameB dir n).data.toList,[],0⟩]}):=by
  unfold DA.make;rw[h.fails,hok,show A.has (Sn.nameB dir n).data.toList=false from h.Xi hn hno,h.len,if_neg (by simp),if_neg (by simp),if_neg (by simp),if_neg (by omega)]
 rw[e,h.tick];refine⟨rfl,h.lim,h.room,?_,fun q hq=>?_,?_⟩
 ·simp only[List.map_append,h.files,List.map_cons,List.map_nil]
  rfl
 ·rcases List.mem_append.1 hq with hq|hq
  ·exact h.base q hq
  ·obtain rfl:=List.mem_singleton.1 hq
   exact hn
 ·rw[List.map_append,List.nodup_append]
  refine⟨h.nd,by simp,fun a ha b hb=>?_⟩;simp only[List.map_cons,List.map_nil,List.mem_singleton]at hb;subst hb;rintro rfl;exact hno ha
theorem bK.upd(h:bK A room dir (ss0++[m]))(g:FA→FA)(hg:∀f,(g f).name=f.name)(xs':List Bt.aB)(hb:∀f:FA,f.bytes=flat m.2→(g f).bytes=flat xs'):bK (A.upd (bJ dir m.1) g) room dir (ss0++[(m.1,xs')]):=by
 refine⟨h.lim,h.room,?_,fun q hq=>?_,by have:=h.nd;rw[List.map_append]at this⊢;exact this⟩
 ·have hfs:=h.files
  have hm0:∀q∈ss0,q.1≠m.1:=fun q hq e=>by
   have:=h.nd;rw[List.map_append,List.nodup_append]at this;exact this.2.2 q.1 (List.mem_map.2 ⟨q,hq,rfl⟩) m.1 (by simp) e
  rw[List.map_append,List.map_singleton]at hfs;obtain⟨f0,f1,hf,h0,h1⟩:=List.map_eq_append_iff.1 hfs;obtain⟨f,f2,rfl,h2,h3⟩:=List.map_eq_cons_iff.1 h1;obtain rfl:=List.map_eq_nil_iff.1 h3;unfold DA.upd Dk.fO;rw[hf];have hfn:f.name=bJ dir m.1:=congrArg Prod.fst h2;have hfb:f.bytes=flat m.2:=congrArg Prod.snd h2;have acs:f0.map (fun f=>if f.name==bJ dir m.1 then g f else f)=f0:=by
   have:f0.map (fun f=>if f.name==bJ dir m.1 then g f else f)=f0.map id:=by
    apply List.map_congr_left;intro x hx;have hx2:(x.name,x.bytes)∈ss0.map (fun p=>(bJ dir p.1,flat p.2)):=by rw[←h0];exact List.mem_map.2 ⟨x,hx,rfl⟩
    obtain⟨q,hq,e⟩:=List.mem_map.1 hx2;have e1:bJ dir q.1=x.name:=congrArg Prod.fst e;have:(x.name==bJ dir m.1)=false:=by
     rw[beq_eq_false_iff_ne,←e1];intro he;exact hm0 q hq (fK (h.base q (by simp[hq])) (h.base m (by simp)) he)
    rw[this];rfl
   rw[this,List.map_id]
  simp only[List.map_append,List.map_cons,List.map_nil];rw[acs,h0,hfn];simp only[beq_self_eq_true,if_true];rw[hg f,hb f hfb,hfn]
 ·rcases List.mem_append.1 hq with hq|hq
  ·exact h.base q (by simp[hq])
  ·obtain rfl:=List.mem_singleton.1 hq
   exact h.base m (by simp)
theorem bK.sync(h:bK A room dir (ss0++[m])):(A.sync (bJ dir m.1)).1=0∧bK (A.sync (bJ dir m.1)).2 room dir (ss0++[m]):=by
 have e:A.sync (bJ dir m.1)=(0,A.tick.upd (bJ dir m.1) (fun f=>{f with safe:=f.bytes.length})):=by
  unfold DA.sync;rw[h.fails,h.has (p:=m) (by simp),if_neg (by simp),if_neg (by simp)]
 rw[e,h.tick];exact⟨rfl,h.upd (fun f=>{f with safe:=f.bytes.length}) (fun _=>rfl) m.2 (fun f hf=>hf)⟩
theorem bK.add(h:bK A room dir (ss0++[m]))(x:Bt.aB)(hr:(flat (af (ss0++[m]))).length+(Bt.ah x).length≤room):(A.add (bJ dir m.1) (Bt.ah x)).1=0∧bK (A.add (bJ dir m.1) (Bt.ah x)).2 room dir (ss0++[(m.1,m.2++[x])]):=by
 have e:A.add (bJ dir m.1) (Bt.ah x)=(0,A.tick.upd (bJ dir m.1) (fun f=>{f with bytes:=f.bytes++Bt.ah x})):=by
  unfold DA.add;rw[h.fails,h.has (p:=m) (by simp),h.used,h.room,if_neg (by simp),if_neg (by simp),if_neg (by omega)]
 rw[e,h.tick];exact⟨rfl,h.upd (fun f=>{f with bytes:=f.bytes++Bt.ah x}) (fun _=>rfl) (m.2++[x]) (fun f hf=>by rw[Sg.aP,Sg.gB,←hf])⟩
end
structure GInv(A:DA)(room:Nat)(dir:ByteArray)(st n:Nat)(ss0:List (Nat×List Bt.aB))(m:Nat×List Bt.aB):Prop where
 disk:bK A room dir (ss0++[m])
 chains:∀p∈ss0++[m],Chain p.1 p.2
 chain:Chain st (af (ss0++[m]))
 next:ae m.1 m.2=n
 lK:∀x∈af (ss0++[m]),x.fin≤n
 keys:∀p∈ss0,p.1<m.1
 le:m.1≤n
 st:st≤n
 Jn:((ss0++[m]).map (·.1)).Pairwise (· < ·)
theorem uo:∀{xs:List Bt.aB} {b n:Int},b≤n→(∀x∈xs,x.fin≤n)→ae b xs≤n
 |[],b,n,h,_=>by simpa[ae]using h
 |x::r,b,n,h,hf=>by
  rw[Sg.lI];exact uo (hf x (by simp)) (fun y hy=>hf y (by simp[hy]))
theorem aV(ss0:List (Nat×List Bt.aB))(m:Nat×List Bt.aB):af (ss0++[m])=af ss0++m.2:=by
 unfold af;rw[List.flatMap_append];simp
theorem GInv.ok{A:DA}{room:Nat}{dir:ByteArray}{st n:Nat}{ss0:List (Nat×List Bt.aB)}{m:Nat×List Bt.aB}(h:GInv A room dir st n ss0 m)(hl:(ss0++[m]).length≤1000):sW A dir (ss0++[m]):=
 ⟨h.disk.base,fun p hp=>h.disk.file hp,h.chains,hl⟩
section
variable {A:DA} {room:Nat} {dir:ByteArray} {st n:Nat} {ss0:List (Nat×List Bt.aB)} {m:Nat×List Bt.aB} {v:LV} {x:Bt.aB}
theorem GInv.put(h:GInv A room dir st n ss0 m)(hx:Bt.aQ x=0)(hb:x.base=n){n':Nat}(hf:x.fin=n')(hr:(flat (af (ss0++[m]))).length+(Bt.ah x).length≤room)(v:LV):
 ∃A',oW A dir v ss0 m x=(0,A',v,ss0++[(m.1,m.2++[x])])∧GInv A' room dir st n' ss0 (m.1,m.2++[x])∧af (ss0++[(m.1,m.2++[x])])=af (ss0++[m])++[x]:=by
 obtain⟨h1,h2⟩:=h.disk.add x hr;have hlt:=ru hx;have hnn:n<n':=by omega
 have hbl:af (ss0++[(m.1,m.2++[x])])=af (ss0++[m])++[x]:=by rw[aV,aV,List.append_assoc]
 refine⟨_,?_,⟨h2,fun p hp=>?_,?_,?_,fun y hy=>?_,h.keys,by have:=h.le;simp only;omega,by have:=h.st;omega,by have:=h.Jn;rw[List.map_append]at this⊢;exact this⟩,hbl⟩
 ·unfold oW
  rw[show A.add (Sn.nameB dir m.1).data.toList (Bt.ah x)=A.add (bJ dir m.1) (Bt.ah x)from rfl,h1,if_pos rfl]
 ·rcases List.mem_append.1 hp with hp|hp
  ·exact h.chains p (by simp[hp])
  ·obtain rfl:=List.mem_singleton.1 hp
   exact Sg.kL (h.chains m (by simp)) hx (by rw[h.next,hb];exact Int.le_refl _)
 ·rw[hbl]
  exact Sg.kL h.chain hx (by rw[hb];exact uo (by have:=h.st;omega) h.lK)
 ·simp only
  rw[Sg.dG,hf]
 ·rw[hbl]at hy
  rcases List.mem_append.1 hy with hy|hy
  ·have:=h.lK y hy;omega
  ·obtain rfl:=List.mem_singleton.1 hy
   omega
theorem GInv.roll(h:GInv A room dir st n ss0 m)(hn:n≤1099511627776)(hz:0<(flat m.2).length)(hok:Dk.nameB (Sn.nameB dir n)=true)(hl:(ss0++[m]).length<200)(v:LV):
 ∃A',iJ A dir v n m (ss0++[m])=(0,A',{v with safe:=(n:Int)},ss0++[m]++[(n,[])])∧GInv A' room dir st n (ss0++[m]) (n,[])∧af (ss0++[m]++[(n,[])])=af (ss0++[m]):=by
 obtain⟨h1,h2⟩:=h.disk.sync;have hmn:m.1<n:=by
  cases hm2:m.2 with
  |nil=>rw[hm2]at hz;simp[flat]at hz
  |cons y r=>
   have hc:=h.chains m (by simp);rw[hm2]at hc;have h3:=Sg.kM hc y (by simp);have h4:=h.lK y (by rw[aV,hm2];simp);omega
 have hno:n∉(ss0++[m]).map (·.1):=by
  intro hc;obtain⟨p,hp,e⟩:=List.mem_map.1 hc;rcases List.mem_append.1 hp with hp|hp
  ·have:=h.keys p hp;omega
  ·obtain rfl:=List.mem_singleton.1 hp
   omega
 obtain⟨h3,h4⟩:=h2.make hn hno hok hl;have hbl:af (ss0++[m]++[(n,[])])=af (ss0++[m]):=by rw[aV,List.append_nil]
 refine⟨_,?_,⟨h4,fun p hp=>?_,?_,by simp[ae],?_,fun p hp=>?_,Nat.le_refl _,h.st,?_⟩,hbl⟩
 ·unfold iJ dX
  rw[show A.sync (Sn.nameB dir m.1).data.toList=A.sync (bJ dir m.1)from rfl,if_pos h1,h3,if_pos rfl]
 ·rcases List.mem_append.1 hp with hp|hp
  ·exact h.chains p hp
  ·obtain rfl:=List.mem_singleton.1 hp
   trivial
 ·rw[hbl];exact h.chain
 ·rw[hbl];exact h.lK
 ·simp only
  rcases List.mem_append.1 hp with hp|hp
  ·have:=h.keys p hp;omega
  ·obtain rfl:=List.mem_singleton.1 hp
   exact hmn
 ·rw[List.map_append,List.pairwise_append]
  refine⟨h.Jn,by simp,fun a ha b hb=>?_⟩;obtain rfl:b=n:=by simpa using hb
  obtain⟨p,hp,rfl⟩:=List.mem_map.1 ha;rcases List.mem_append.1 hp with hp|hp
  ·have:=h.keys p hp;omega
  ·obtain rfl:=List.mem_singleton.1 hp
   exact hmn
theorem DR(x:Bt.aB):Bt.aQ x≠14:=by
 have aaK:∀(rs:List Bt.Rec) (lo hi:Int),Bt.bG rs lo hi≤4:=by
  intro rs;induction rs with
  |nil=>intro lo hi;simp[Bt.bG]
  |cons r rs ih=>
   intro lo hi;unfold Bt.bG;split
   ·exact ih _ _
   ·unfold Bt.dR
    split
    ·omega
    ·split
     ·omega
     ·split<;>omega
 have hc:Bt.chk x≤4:=by
  unfold Bt.chk;split
  ·omega
  ·split
   ·omega
   ·split
    ·omega
    ·exact aaK _ _ _
 unfold Bt.aQ;split
 ·split<;>omega
 ·omega
theorem GInv.add(h:GInv A room dir st n ss0 m)(hn:n≤1099511627776)(rs:List Bt.Rec)(hx:Bt.aQ (cO n rs)=0)(hok:Dk.nameB (Sn.nameB dir n)=true)(hl:(ss0++[m]).length<200)(hr:(flat (af (ss0++[m]))).length+(Bt.ah (cO n rs)).length≤room)(v:LV):
 ∃A' v' ss0' m',rX A dir v n ss0 m rs=(0,A',v',ss0'++[m'])∧v'.start=v.start∧v'.most=v.most∧v'.down=v.down∧GInv A' room dir st (n+rs.length) ss0' m'∧af (ss0'++[m'])=af (ss0++[m])++[cO n rs]∧ss0'.length≤ss0.length+1:=by
 unfold rX qG;rw[if_neg (by rw[hx];simp)];have hno:∀w:LV,fF 0 w=w:=fun w=>by unfold fF;rw[if_neg (by omega)]
 by_cases hc:0<(flat m.2).length∧v.most<((flat m.2).length+(Bt.ah (cO n rs)).length:Nat)
 ·rw[if_pos hc]
  obtain⟨A1,e1,g1,b1⟩:=h.roll hn hc.1 hok hl v;rw[e1,if_neg (fun hc2=>hc2 rfl)];obtain⟨A2,e2,g2,b2⟩:=g1.put (x:=cO n rs) hx rfl (n':=n+rs.length) (by show((n:Int)+rs.length)=_;omega) (by rw[b1];exact hr) {v with safe:=(n:Int)};simp only;rw[e2];exact⟨A2,{v with safe:=(n:Int)},_,_,by rw[hno],rfl,rfl,rfl,g2,by rw[b2,b1],by simp⟩
 ·rw[if_neg hc]
  obtain⟨A2,e2,g2,b2⟩:=h.put (x:=cO n rs) hx rfl (n':=n+rs.length) (by show((n:Int)+rs.length)=_;omega) hr v;rw[e2];exact⟨A2,v,_,_,by rw[hno],rfl,rfl,rfl,g2,b2,by omega⟩
theorem Jo(rs:List Bt.Rec)(hx:Bt.aQ (cO n rs)≠0)(v:LV):rX A dir v n ss0 m rs=(Bt.aQ (cO n rs),A,v,ss0++[m]):=by
 unfold rX qG;rw[if_pos hx];simp only;unfold fF;rw[if_neg (DR _)]
end
section
variable {A:DA} {room:Nat} {dir:ByteArray} {st n:Nat} {ss ss0:List (Nat×List Bt.aB)} {p m:Nat×List Bt.aB}
theorem bK.remove(h:bK A room dir (p::ss)):(A.remove (bJ dir p.1)).1=0∧bK (A.remove (bJ dir p.1)).2 room dir ss:=by
 have e:A.remove (bJ dir p.1)=(0,{A.tick with files:=Dk.dm A.files (bJ dir p.1)}):=by
  unfold DA.remove;rw[h.fails,h.has (p:=p) (by simp),if_neg (by simp),if_neg (by simp)]
 rw[e,h.tick];have hfs:=h.files;rw[List.map_cons]at hfs;obtain⟨f,fs,hf,h1,h2⟩:=List.map_eq_cons_iff.1 hfs;have hfn:f.name=bJ dir p.1:=congrArg Prod.fst h1;have hnd:=h.nd;rw[List.map_cons,List.nodup_cons]at hnd;have aaw:Dk.dm A.files (bJ dir p.1)=fs:=by
  unfold Dk.dm;rw[hf,List.filter_cons,if_neg (by simp[hfn]),List.filter_eq_self];intro x hx;have hx2:(x.name,x.bytes)∈ss.map (fun p=>(bJ dir p.1,flat p.2)):=by rw[←h2];exact List.mem_map.2 ⟨x,hx,rfl⟩
  obtain⟨q,hq,e⟩:=List.mem_map.1 hx2;have e1:bJ dir q.1=x.name:=congrArg Prod.fst e;have:(x.name==bJ dir p.1)=false:=by
   rw[beq_eq_false_iff_ne,←e1];intro he;exact hnd.1 (List.mem_map.2 ⟨q,hq,fK (h.base q (by simp[hq])) (h.base p (by simp)) he⟩)
  rw[this];rfl
 exact⟨rfl,h.lim,h.room,by show(Dk.dm A.files (bJ dir p.1)).map _=_;rw[aaw];exact h2,fun q hq=>h.base q (by simp[hq]),hnd.2⟩
def dH(ss0:List (Nat×List Bt.aB))(m:Nat×List Bt.aB):Nat:=match ss0 with
 |[]=>m.1
 |q::_=>q.1
theorem SC{xs:List Bt.aB}{b c:Int}(h:Chain b xs)(hc:∀x∈xs,c≤x.base):Chain c xs:=by
 cases xs with
 |nil=>trivial
 |cons x r=>exact⟨h.1,hc x (by simp),h.2.2⟩
theorem gQ(p:Nat×List Bt.aB)(ss:List (Nat×List Bt.aB)):af (p::ss)=p.2++af ss:=by
 unfold af;rw[List.flatMap_cons]
theorem tC(h:((ss0++[m]).map (·.1)).Pairwise (· < ·)):∀p∈ss0++[m],dH ss0 m≤p.1:=by
 cases ss0 with
 |nil=>
  intro p hp;obtain rfl:p=m:=by simpa using hp
  exact Nat.le_refl _
 |cons q r=>
  intro p hp;rw[List.cons_append,List.map_cons,List.pairwise_cons]at h;rw[List.cons_append]at hp;rcases List.mem_cons.1 hp with rfl|hp
  ·exact Nat.le_refl _
  ·exact Nat.le_of_lt (h.1 p.1 (List.mem_map.2 ⟨p,hp,rfl⟩))
theorem GInv.tail(h:GInv A room dir st n (p::ss0) m):(A.remove (bJ dir p.1)).1=0∧GInv (A.remove (bJ dir p.1)).2 room dir (dH ss0 m) n ss0 m∧p.1<dH ss0 m:=by
 obtain⟨h1,h2⟩:=bK.remove (p:=p) (ss:=ss0++[m]) h.disk;have hs:=h.Jn;rw[List.cons_append,List.map_cons,List.pairwise_cons]at hs;have hc:=h.chain;rw[List.cons_append,gQ,Sg.dM]at hc;have hcs:∀q∈ss0++[m],Chain q.1 q.2:=fun q hq=>h.chains q (by rw[List.cons_append];exact List.mem_cons_of_mem _ hq)
 have hhd:dH ss0 m∈(ss0++[m]).map (·.1):=by
  cases ss0 with
  |nil=>simp[dH]
  |cons q r=>simp[dH]
 refine⟨h1,⟨h2,hcs,SC hc.2 (fun x hx=>?_),h.next,fun x hx=>h.lK x (by rw[List.cons_append,gQ];exact List.mem_append_right _ hx),fun q hq=>h.keys q (by simp[hq]),h.le,?_,hs.2⟩,hs.1 _ hhd⟩
 ·obtain⟨q,hq,hx⟩:=List.mem_flatMap.1 hx
  have h3:=oP (hcs q hq) x hx;have h4:=tC hs.2 q hq;omega
 ·have:=tC hs.2 m (by simp)
  have:=h.le;omega
theorem GInv.addK(h:GInv A room dir st n ss0 m)(hn:n≤1099511627776)(rs:List Bt.Rec)(hx:Bt.aQ (cO n rs)=0)(hok:Dk.nameB (Sn.nameB dir n)=true)(hl:(ss0++[m]).length<200)(hr:(flat (af (ss0++[m]))).length+(Bt.ah (cO n rs)).length≤room)(v:LV):
 ∃A' v' ss0' m',rX A dir v n ss0 m rs=(0,A',v',ss0'++[m'])∧v'.start=v.start∧v'.most=v.most∧v'.down=v.down∧GInv A' room dir st (n+rs.length) ss0' m'∧af (ss0'++[m'])=af (ss0++[m])++[cO n rs]∧ss0'.length≤ss0.length+1∧dH ss0' m'=dH ss0 m:=by
 unfold rX qG;rw[if_neg (by rw[hx];simp)];have hno:∀w:LV,fF 0 w=w:=fun w=>by unfold fF;rw[if_neg (by omega)]
 by_cases hc:0<(flat m.2).length∧v.most<((flat m.2).length+(Bt.ah (cO n rs)).length:Nat)
 ·rw[if_pos hc]
  obtain⟨A1,e1,g1,b1⟩:=h.roll hn hc.1 hok hl v;rw[e1,if_neg (fun hc2=>hc2 rfl)];obtain⟨A2,e2,g2,b2⟩:=g1.put (x:=cO n rs) hx rfl (n':=n+rs.length) (by show((n:Int)+rs.length)=_;omega) (by rw[b1];exact hr) {v with safe:=(n:Int)};simp only;rw[e2];exact⟨A2,{v with safe:=(n:Int)},_,_,by rw[hno],rfl,rfl,rfl,g2,by rw[b2,b1],by simp,by cases ss0<;>rfl⟩
 ·rw[if_neg hc]
  obtain⟨A2,e2,g2,b2⟩:=h.put (x:=cO n rs) hx rfl (n':=n+rs.length) (by show((n:Int)+rs.length)=_;omega) hr v;rw[e2];exact⟨A2,v,_,_,by rw[hno],rfl,rfl,rfl,g2,b2,by omega,by cases ss0<;>rfl⟩
end
end Lg
end
section
set_option maxRecDepth 100000
attribute [local go_sem] Oper.semAt_some
open Dk (DA aj Parts dA aC bQ)
open Sg (aS aA dV Both Came ae flat Chain)
namespace Lg
structure DT(w:World)(lb B0 B1 B2 B3:Nat)(now ak bytes:Int):Prop where
 b0:w.heap[B0]? =some (.cells #[.pointer (some ⟨lb,0,none⟩)] 30 (0,0))
 b1:w.heap[B1]? =some (.cells #[.int .i64 now] 3 (0,0))
 b2:w.heap[B2]? =some (.cells #[.int .i64 ak] 3 (0,0))
 b3:w.heap[B3]? =some (.cells #[.int .i64 bytes] 3 (0,0))
theorem az.o8{w:World}{base d lb:Nat}{F:List Nat}{A:DA}{gv:Value}{dir:ByteArray}{v:LV}{ms:List SM}(h:az w base d F A lb gv dir v ms){k:Nat}{cs:Array Value}{T:TypeId}{fr:Nat×Nat}(e:w.heap[k]? =some (.cells cs T fr))
 (h1:T≠58) (h2:T≠61) (h3:T≠87) (h4:T≠110) (h5:T≠48) (h6:T≠98) (h7:T≠5):k∉aJ F lb gv ms:=by
 intro hm;rcases ay.1 hm with rfl|hm|⟨x,hx,hm⟩|hm
 ·exact aW h.box e (fun q=>h1 q.symm) rfl
 ·obtain⟨cs',e'⟩:=h.row.kind k hm
  exact aW e' e (fun q=>h2 q.symm) rfl
 ·obtain⟨cs',T',e',hT⟩:=qC (h.jo x hx) k hm
  rcases hT with rfl|rfl
  ·exact aW e' e (fun q=>h3 q.symm) rfl
  ·exact aW e' e (fun q=>h4 q.symm) rfl
 ·rcases oJ h.disk hm e with q|q|q
  ·exact h5 q
  ·exact h6 q
  ·exact h7 q
theorem DT.kept{w w':World}{base d lb B0 B1 B2 B3:Nat}{F:List Nat}{A:DA}{gv:Value}{dir:ByteArray}{v:LV}{ms:List SM}{now ak bytes:Int}(hb:DT w lb B0 B1 B2 B3 now ak bytes)(h:az w base d F A lb gv dir v ms)(ht:Turn (aJ F lb gv ms) w w'):DT w' lb B0 B1 B2 B3 now ak bytes:=
 ⟨ht.heap hb.b0 (h.o8 hb.b0 (by decide) (by decide) (by decide) (by decide) (by decide) (by decide) (by decide)),
  ht.heap hb.b1 (h.o8 hb.b1 (by decide) (by decide) (by decide) (by decide) (by decide) (by decide) (by decide)),
  ht.heap hb.b2 (h.o8 hb.b2 (by decide) (by decide) (by decide) (by decide) (by decide) (by decide) (by decide)),
  ht.heap hb.b3 (h.o8 hb.b3 (by decide) (by decide) (by decide) (by decide) (by decide) (by decide) (by decide))⟩
theorem DT.still{w w':World}{lb B0 B1 B2 B3:Nat}{now ak bytes:Int}(hb:DT w lb B0 B1 B2 B3 now ak bytes)(ht:Turn [] w w'):DT w' lb B0 B1 B2 B3 now ak bytes:=
 ⟨ht.heap hb.b0 (by simp),ht.heap hb.b1 (by simp),ht.heap hb.b2 (by simp),ht.heap hb.b3 (by simp)⟩
theorem DT.cells{w:World}{lb B0 B1 B2 B3:Nat}{now ak bytes:Int}(hb:DT w lb B0 B1 B2 B3 now ak bytes):w.cell? ⟨B0,0,none⟩=some (.pointer (some ⟨lb,0,none⟩))∧w.cell? ⟨B1,0,none⟩=some (.int .i64 now)∧w.cell? ⟨B2,0,none⟩=some (.int .i64 ak)∧w.cell? ⟨B3,0,none⟩=some (.int .i64 bytes):=
 ⟨by rw[cell_of hb.b0];rfl,by rw[cell_of hb.b1];rfl,by rw[cell_of hb.b2];rfl,by rw[cell_of hb.b3];rfl⟩
theorem SE(w:World)(base d:Nat)(F:List Nat)(A:DA)(lb:Nat)(gv:Value)(dir:ByteArray)(v:LV)(ms:List SM)(h:az w base d F A lb gv dir v ms)(hok:sW A dir (ms.map SM.abs))(B0 B1 B2 B3:Nat)(now ak bytes:Int)(hb:DT w lb B0 B1 B2 B3 now ak bytes)(m:SM)(hm:m∈ms)(x:Value):
 Calls Tryz.prog 45 #[.pointer (some ⟨m.sb,0,none⟩),x, .pointer (some ⟨B2,0,none⟩), .pointer (some ⟨B1,0,none⟩), .pointer (some ⟨B3,0,none⟩), .pointer (some ⟨B0,0,none⟩)] w fun e w'=>∃b,e= .returned (.bool b)∧Turn [] w w':=by
 have wM:m.abs∈ms.map SM.abs:=List.mem_map_of_mem hm;have hfs:(flat m.xs).length≤1048576:=iM h.disk hok wM;have hfl:=Sg.dw m.xs;have afS:=fun(Z:World) (hZ:Turn [] w Z)=>Sg.rf Z base d m.sb m.sv _ m.n _ ((h.jo m hm).still hZ) (by rw[Sg.gW];omega)
 obtain⟨L,hL⟩:∃L,L=Sg.iL (dV 0 (-1) m.xs):=⟨_,rfl⟩;rw[←hL]at afS;have ai7:=fun(Z:World) (hZ:Turn [] w Z)=>Sg.size_any Z base d m.sb m.sv _ m.n _ ((h.jo m hm).still hZ) (by rw[Sg.gW];omega) (by rw[Sg.dP];omega)
 obtain⟨S,hS⟩:∃S,S=Sg.nR (dV 0 (-1) m.xs):=⟨_,rfl⟩;rw[←hS]at ai7;have agO:=fun(Z:World) (hZ:Turn [] w Z)=>RS Z base d F A lb gv dir v ms (h.still hZ) hok
 have hc0:=fun(Z:World) (hZ:Turn [] w Z)=>(hb.still hZ).cells
 obtain⟨N,hN⟩:∃N,N=wP ms:=⟨_,rfl⟩;rw[←hN]at agO;have sN:=hide afS;have Rx:=hide ai7;have nX:=hide agO;have HC:=hide hc0;have z0:=lt_of_heap hb.b0;have z1:=lt_of_heap hb.b1;have z2:=lt_of_heap hb.b2;have z3:=lt_of_heap hb.b3;clear hN wM hfs hfl afS hL ai7 hS agO hc0 hb hok h hm;by_cases ha:0≤ak
 ·go_enter Tryz.func45,Tryz.ntmps45
  go_wp2
  refine jT [] (by kernel_rfl) rfl ?_;apply Lo.r0 1 rfl 2 (by intro u;conv=>lhs;whnf) rfl
  ·intro a w1 hR e2 K hK
   obtain⟨k0,k1,k2,k3⟩:=HC.out w1 hR.dr;go_simp
   exact hK _ rfl
  refine Lo.df 2 rfl rfl [0] (.bool (true)) (by kernel_rfl) (fun u w1 hR hF=>?_) (Turn.refl _) ?_
  ·obtain⟨h0, -⟩:=hF
   refine⟨rfl,fun a ha K hK=>?_⟩;have e10:=(ha 10).trans h0;clear ha h0;go_simp
   refine hK _ ?_;simp[ha]
  apply Lo.r1 3 rfl 11 1 (fun _=>rfl) rfl (by kernel_rfl)
  ·intro a w1 hR e11 K hK
   go_simp
   exact hK _ rfl
  apply Lo.q0 4 rfl 2 0 rfl rfl (fun _=>rfl) rfl (by intro u;conv=>lhs;whnf) rfl (by kernel_rfl)
  ·intro a w1 hR e0 K hK
   go_simp
   exact hK _ rfl
  refine Lo.run 5 rfl rfl [2,3] (fun y w'=>y= .int .i64 L) (by kernel_rfl) (fun x w w' h hR=>?_) (fun _ _ h=>h) (fun u w1 hR hF=>?_) ?_
  ·exact h
  ·obtain⟨h2,h3, -⟩:=hF
   refine⟨.inl ⟨true,h2,rfl⟩,fun a ha K hK=>?_⟩;have e13:=(ha 13).trans h3;clear ha h2 h3;go_simp
   refine(sN.out w1 hR.dr).mono ?_;rintro e w5 ⟨rfl,ht5⟩;exact hK _ _ rfl ht5
  apply Lo.q0 6 rfl 2 3 rfl rfl (fun _=>rfl) rfl (by intro u;conv=>lhs;whnf) rfl (by kernel_rfl)
  ·intro a w1 hR e3 K hK
   obtain⟨k0,k1,k2,k3⟩:=HC.out w1 hR.dr;go_simp
   exact hK _ rfl
  apply Lo.q0 7 rfl 2 2 rfl rfl (fun _=>rfl) rfl (by intro u;conv=>lhs;whnf) rfl (by kernel_rfl)
  ·intro a w1 hR e2 K hK
   obtain⟨k0,k1,k2,k3⟩:=HC.out w1 hR.dr;go_simp
   exact hK _ rfl
  apply Lo.q2 8 rfl 2 15 5 16 6 rfl rfl (fun _=>rfl) rfl (fun _=>rfl) (fun _=>rfl) rfl rfl rfl (by kernel_rfl)
  ·intro a w1 hR e15 e16 K hK
   go_simp
   exact hK _ rfl
  apply Lo.lu 9 rfl rfl [2,4,7] (by kernel_rfl) (Turn.refl _);apply Exists.intro;apply And.intro
  ·intro u w1 hR hF
   obtain⟨h2,h4,h7, -⟩:=hF;refine⟨.inl ⟨true,h2,rfl⟩,fun a ha K hK=>?_⟩;have e14:a.tmps.getD 14 undef=u 4:=ha 14;have e17:=(ha 17).trans h7;have h4:=(show(fun y w'=>y= .int .i64 L) (u 4) w1 from h4);dsimp only at h4;clear ha h2 h7;go_simp
   exact hK _ rfl
  apply Lo.r2 10 rfl 12 2 18 8 (fun _=>rfl) (fun _=>rfl) rfl rfl (by kernel_rfl)
  ·intro a w1 hR e12 e18 K hK
   go_simp
   exact hK _ rfl
  apply Lo.r1 11 rfl 19 9 (fun _=>rfl) rfl (by kernel_rfl)
  ·intro a w1 hR e19 K hK
   go_simp
   exact hK _ rfl
  refine Lo.done [10] (fun u w1 bI hSd hF=>?_);clear hSd;obtain⟨f10, -⟩:=hF;have d10:u 10=_:=f10;clear f10;simp only[ax,Act.put,List.setIfInBounds_toArray,List.set_cons_succ,List.set_cons_zero,Nat.zero_add,Nat.reduceAdd,d10];have HT1:=hide bI.dr;obtain⟨wa,rfl⟩:∃wa,wa=w1:=⟨_,rfl⟩;clear d10 bI;obtain⟨old,acy⟩:∃old:Bool,old=decide (L<IntKind.i64.wrap (now-ak)):=⟨_,rfl⟩;rw[←acy];clear acy;cases old
  ·by_cases hby:0≤bytes
   ·go_wp2
    refine jT [] (by kernel_rfl) rfl ?_;apply Lo.r0 1 rfl 9 (by intro u;conv=>lhs;whnf) rfl
    ·intro a w1 hR e9 K hK
     go_simp
     exact hK _ rfl
    apply Lo.r1 2 rfl 20 0 (fun _=>rfl) rfl (by kernel_rfl)
    ·intro a w1 hR e20 K hK
     go_simp
     exact hK _ rfl
    apply Lo.q0 3 rfl 1 4 rfl rfl (fun _=>rfl) rfl (by intro u;conv=>lhs;whnf) rfl (by kernel_rfl)
    ·intro a w1 hR e4 K hK
     obtain⟨k0,k1,k2,k3⟩:=HC.out w1 (HT1.out.same hR.dr);go_simp
     exact hK _ rfl
    refine Lo.df 4 rfl rfl [1,2] (.bool (true)) (by kernel_rfl) (fun u w1 hR hF=>?_) (Turn.refl _) ?_
    ·obtain⟨h1,h2, -⟩:=hF
     refine⟨.inl ⟨false,h1,rfl⟩,fun a ha K hK=>?_⟩;have e22:=(ha 22).trans h2;clear ha h1 h2;go_simp
     refine hK _ ?_;simp[hby]
    apply Lo.q1 5 rfl 1 23 3 rfl rfl (fun _=>rfl) rfl (fun _=>rfl) rfl rfl (by kernel_rfl)
    ·intro a w1 hR e23 K hK
     go_simp
     exact hK _ rfl
    apply Lo.q0 6 rfl 4 5 rfl rfl (fun _=>rfl) rfl (by intro u;conv=>lhs;whnf) rfl (by kernel_rfl)
    ·intro a w1 hR e5 K hK
     obtain⟨k0,k1,k2,k3⟩:=HC.out w1 (HT1.out.same hR.dr);go_simp
     exact hK _ rfl
    refine Lo.run 7 rfl rfl [4,5] (fun y w'=>y= .int .i64 (N:Int)) (by kernel_rfl) (fun x w w' h hR=>?_) (fun _ _ h=>h) (fun u w1 hR hF=>?_) ?_
    ·exact h
    ·obtain⟨h4,h5, -⟩:=hF
     refine⟨.inl ⟨true,h4,rfl⟩,fun a ha K hK=>?_⟩;have e25:=(ha 25).trans h5;clear ha h4 h5;go_simp
     refine(nX.out w1 (HT1.out.same hR.dr)).mono ?_;rintro e w5 ⟨rfl, -,ht5⟩;exact hK _ _ rfl ht5
    apply Lo.q0 8 rfl 4 0 rfl rfl (fun _=>rfl) rfl (by intro u;conv=>lhs;whnf) rfl (by kernel_rfl)
    ·intro a w1 hR e0 K hK
     go_simp
     exact hK _ rfl
    refine Lo.run 9 rfl rfl [4,7] (fun y w'=>y= .int .i64 (S:Int)) (by kernel_rfl) (fun x w w' h hR=>?_) (fun _ _ h=>h) (fun u w1 hR hF=>?_) ?_
    ·exact h
    ·obtain⟨h4,h7, -⟩:=hF
     refine⟨.inl ⟨true,h4,rfl⟩,fun a ha K hK=>?_⟩;have e27:=(ha 27).trans h7;clear ha h4 h7;go_simp
     refine(Rx.out w1 (HT1.out.same hR.dr)).mono ?_;rintro e w5 ⟨rfl,ht5⟩;exact hK _ _ rfl ht5
    apply Lo.lu 10 rfl rfl [4,6,8] (by kernel_rfl) (Turn.refl _);apply Exists.intro;apply And.intro
    ·intro u w1 hR hF
     obtain⟨h4,h6,h8, -⟩:=hF;refine⟨.inl ⟨true,h4,rfl⟩,fun a ha K hK=>?_⟩;have e26:a.tmps.getD 26 undef=u 6:=ha 26;have e28:a.tmps.getD 28 undef=u 8:=ha 28;have h6:=(show(fun y w'=>y= .int .i64 (N:Int)) (u 6) w1 from h6);dsimp only at h6;have h8:=(show(fun y w'=>y= .int .i64 (S:Int)) (u 8) w1 from h8);dsimp only at h8;clear ha h4;go_simp
     exact hK _ rfl
    apply Lo.q0 11 rfl 4 4 rfl rfl (fun _=>rfl) rfl (by intro u;conv=>lhs;whnf) rfl (by kernel_rfl)
    ·intro a w1 hR e4 K hK
     obtain⟨k0,k1,k2,k3⟩:=HC.out w1 (HT1.out.same hR.dr);go_simp
     exact hK _ rfl
    apply Lo.q2 12 rfl 4 29 9 30 10 rfl rfl (fun _=>rfl) rfl (fun _=>rfl) (fun _=>rfl) rfl rfl rfl (by kernel_rfl)
    ·intro a w1 hR e29 e30 K hK
     go_simp
     exact hK _ rfl
    apply Lo.q2 13 rfl 1 24 4 31 11 rfl rfl (fun _=>rfl) rfl (fun _=>rfl) (fun _=>rfl) rfl rfl rfl (by kernel_rfl)
    ·intro a w1 hR e24 e31 K hK
     go_simp
     exact hK _ rfl
    apply Lo.r2 14 rfl 21 1 32 12 (fun _=>rfl) (fun _=>rfl) rfl rfl (by kernel_rfl)
    ·intro a w1 hR e21 e32 K hK
     go_simp
     exact hK _ rfl
    apply Lo.r1 15 rfl 33 13 (fun _=>rfl) rfl (by kernel_rfl)
    ·intro a w1 hR e33 K hK
     go_simp
     exact hK _ rfl
    refine Lo.done [14] (fun u w1 bI hSd hF=>?_);clear hSd;obtain⟨f14, -⟩:=hF;have d14:u 14=_:=f14;clear f14;simp only[ax,Act.put,List.setIfInBounds_toArray,List.set_cons_succ,List.set_cons_zero,Nat.zero_add,Nat.reduceAdd,d14];have HT2:=hide (HT1.out.same bI.dr);clear d14 bI;go_wp2
    go_ret
    exact⟨_,rfl,HT2.out⟩
   ·go_wp2
    refine jT [] (by kernel_rfl) rfl ?_;apply Lo.r0 1 rfl 9 (by intro u;conv=>lhs;whnf) rfl
    ·intro a w1 hR e9 K hK
     go_simp
     exact hK _ rfl
    apply Lo.r1 2 rfl 20 0 (fun _=>rfl) rfl (by kernel_rfl)
    ·intro a w1 hR e20 K hK
     go_simp
     exact hK _ rfl
    apply Lo.q0 3 rfl 1 4 rfl rfl (fun _=>rfl) rfl (by intro u;conv=>lhs;whnf) rfl (by kernel_rfl)
    ·intro a w1 hR e4 K hK
     obtain⟨k0,k1,k2,k3⟩:=HC.out w1 (HT1.out.same hR.dr);go_simp
     exact hK _ rfl
    refine Lo.df 4 rfl rfl [1,2] (.bool (false)) (by kernel_rfl) (fun u w1 hR hF=>?_) (Turn.refl _) ?_
    ·obtain⟨h1,h2, -⟩:=hF
     refine⟨.inl ⟨false,h1,rfl⟩,fun a ha K hK=>?_⟩;have e22:=(ha 22).trans h2;clear ha h1 h2;go_simp
     refine hK _ ?_;simp;omega
    apply Lo.q1 5 rfl 1 23 3 rfl rfl (fun _=>rfl) rfl (fun _=>rfl) rfl rfl (by kernel_rfl)
    ·intro a w1 hR e23 K hK
     go_simp
     exact hK _ rfl
    refine Lo.pass 6 rfl rfl [4] (by kernel_rfl) (Turn.refl _) (fun u w1 hR hF=> .inl ⟨false,hF.1,rfl⟩) ?_;refine Lo.pass 7 rfl rfl [4] (by kernel_rfl) (Turn.refl _) (fun u w1 hR hF=> .inl ⟨false,hF.1,rfl⟩) ?_;refine Lo.pass 8 rfl rfl [4] (by kernel_rfl) (Turn.refl _) (fun u w1 hR hF=> .inl ⟨false,hF.1,rfl⟩) ?_;refine Lo.pass 9 rfl rfl [4] (by kernel_rfl) (Turn.refl _) (fun u w1 hR hF=> .inl ⟨false,hF.1,rfl⟩) ?_;refine Lo.pass 10 rfl rfl [4] (by kernel_rfl) (Turn.refl _) (fun u w1 hR hF=> .inl ⟨false,hF.1,rfl⟩) ?_;refine Lo.pass 11 rfl rfl [4] (by kernel_rfl) (Turn.refl _) (fun u w1 hR hF=> .inl ⟨false,hF.1,rfl⟩) ?_;refine Lo.pass 12 rfl rfl [4] (by kernel_rfl) (Turn.refl _) (fun u w1 hR hF=> .inl ⟨false,hF.1,rfl⟩) ?_;apply Lo.q2 13 rfl 1 24 4 31 11 rfl rfl (fun _=>rfl) rfl (fun _=>rfl) (fun _=>rfl) rfl rfl rfl (by kernel_rfl)
    ·intro a w1 hR e24 e31 K hK
     go_simp
     exact hK _ rfl
    apply Lo.r2 14 rfl 21 1 32 12 (fun _=>rfl) (fun _=>rfl) rfl rfl (by kernel_rfl)
    ·intro a w1 hR e21 e32 K hK
     go_simp
     exact hK _ rfl
    apply Lo.r1 15 rfl 33 13 (fun _=>rfl) rfl (by kernel_rfl)
    ·intro a w1 hR e33 K hK
     go_simp
     exact hK _ rfl
    refine Lo.done [14] (fun u w1 bI hSd hF=>?_);clear hSd;obtain⟨f14, -⟩:=hF;have d14:u 14=_:=f14;clear f14;simp only[ax,Act.put,List.setIfInBounds_toArray,List.set_cons_succ,List.set_cons_zero,Nat.zero_add,Nat.reduceAdd,d14];have HT2:=hide (HT1.out.same bI.dr);clear d14 bI;go_wp2
    go_ret
    exact⟨_,rfl,HT2.out⟩
  ·go_wp2
   refine jT [] (by kernel_rfl) rfl ?_;apply Lo.r0 1 rfl 9 (by intro u;conv=>lhs;whnf) rfl
   ·intro a w1 hR e9 K hK
    go_simp
    exact hK _ rfl
   apply Lo.r1 2 rfl 20 0 (fun _=>rfl) rfl (by kernel_rfl)
   ·intro a w1 hR e20 K hK
    go_simp
    exact hK _ rfl
   refine Lo.pass 3 rfl rfl [1] (by kernel_rfl) (Turn.refl _) (fun u w1 hR hF=> .inl ⟨true,hF.1,rfl⟩) ?_;refine Lo.pass 4 rfl rfl [1] (by kernel_rfl) (Turn.refl _) (fun u w1 hR hF=> .inl ⟨true,hF.1,rfl⟩) ?_;refine Lo.pass 5 rfl rfl [1] (by kernel_rfl) (Turn.refl _) (fun u w1 hR hF=> .inl ⟨true,hF.1,rfl⟩) ?_;refine Lo.pass 6 rfl rfl [4] (by kernel_rfl) (Turn.refl _) (fun u w1 hR hF=> .inr ⟨hF.1,rfl⟩) ?_;refine Lo.pass 7 rfl rfl [4] (by kernel_rfl) (Turn.refl _) (fun u w1 hR hF=> .inr ⟨hF.1,rfl⟩) ?_;refine Lo.pass 8 rfl rfl [4] (by kernel_rfl) (Turn.refl _) (fun u w1 hR hF=> .inr ⟨hF.1,rfl⟩) ?_;refine Lo.pass 9 rfl rfl [4] (by kernel_rfl) (Turn.refl _) (fun u w1 hR hF=> .inr ⟨hF.1,rfl⟩) ?_;refine Lo.pass 10 rfl rfl [4] (by kernel_rfl) (Turn.refl _) (fun u w1 hR hF=> .inr ⟨hF.1,rfl⟩) ?_;refine Lo.pass 11 rfl rfl [4] (by kernel_rfl) (Turn.refl _) (fun u w1 hR hF=> .inr ⟨hF.1,rfl⟩) ?_;refine Lo.pass 12 rfl rfl [4] (by kernel_rfl) (Turn.refl _) (fun u w1 hR hF=> .inr ⟨hF.1,rfl⟩) ?_;refine Lo.pass 13 rfl rfl [1] (by kernel_rfl) (Turn.refl _) (fun u w1 hR hF=> .inl ⟨true,hF.1,rfl⟩) ?_;apply Lo.r2 14 rfl 21 1 32 12 (fun _=>rfl) (fun _=>rfl) rfl rfl (by kernel_rfl)
   ·intro a w1 hR e21 e32 K hK
    go_simp
    exact hK _ rfl
   apply Lo.r1 15 rfl 33 13 (fun _=>rfl) rfl (by kernel_rfl)
   ·intro a w1 hR e33 K hK
    go_simp
    exact hK _ rfl
   refine Lo.done [14] (fun u w1 bI hSd hF=>?_);clear hSd;obtain⟨f14, -⟩:=hF;have d14:u 14=_:=f14;clear f14;simp only[ax,Act.put,List.setIfInBounds_toArray,List.set_cons_succ,List.set_cons_zero,Nat.zero_add,Nat.reduceAdd,d14];have HT2:=hide (HT1.out.same bI.dr);clear d14 bI;go_wp2
   go_ret
   exact⟨_,rfl,HT2.out⟩
 ·go_enter Tryz.func45,Tryz.ntmps45
  go_wp2
  refine jT [] (by kernel_rfl) rfl ?_;apply Lo.r0 1 rfl 2 (by intro u;conv=>lhs;whnf) rfl
  ·intro a w1 hR e2 K hK
   obtain⟨k0,k1,k2,k3⟩:=HC.out w1 hR.dr;go_simp
   exact hK _ rfl
  refine Lo.df 2 rfl rfl [0] (.bool (false)) (by kernel_rfl) (fun u w1 hR hF=>?_) (Turn.refl _) ?_
  ·obtain⟨h0, -⟩:=hF
   refine⟨rfl,fun a ha K hK=>?_⟩;have e10:=(ha 10).trans h0;clear ha h0;go_simp
   refine hK _ ?_;simp;omega
  apply Lo.r1 3 rfl 11 1 (fun _=>rfl) rfl (by kernel_rfl)
  ·intro a w1 hR e11 K hK
   go_simp
   exact hK _ rfl
  refine Lo.pass 4 rfl rfl [2] (by kernel_rfl) (Turn.refl _) (fun u w1 hR hF=> .inl ⟨false,hF.1,rfl⟩) ?_;refine Lo.pass 5 rfl rfl [2] (by kernel_rfl) (Turn.refl _) (fun u w1 hR hF=> .inl ⟨false,hF.1,rfl⟩) ?_;refine Lo.pass 6 rfl rfl [2] (by kernel_rfl) (Turn.refl _) (fun u w1 hR hF=> .inl ⟨false,hF.1,rfl⟩) ?_;refine Lo.pass 7 rfl rfl [2] (by kernel_rfl) (Turn.refl _) (fun u w1 hR hF=> .inl ⟨false,hF.1,rfl⟩) ?_;refine Lo.pass 8 rfl rfl [2] (by kernel_rfl) (Turn.refl _) (fun u w1 hR hF=> .inl ⟨false,hF.1,rfl⟩) ?_;refine Lo.pass 9 rfl rfl [2] (by kernel_rfl) (Turn.refl _) (fun u w1 hR hF=> .inl ⟨false,hF.1,rfl⟩) ?_;apply Lo.r2 10 rfl 12 2 18 8 (fun _=>rfl) (fun _=>rfl) rfl rfl (by kernel_rfl)
  ·intro a w1 hR e12 e18 K hK
   go_simp
   exact hK _ rfl
  apply Lo.r1 11 rfl 19 9 (fun _=>rfl) rfl (by kernel_rfl)
  ·intro a w1 hR e19 K hK
   go_simp
   exact hK _ rfl
  refine Lo.done [10] (fun u w1 bI hSd hF=>?_);clear hSd;obtain⟨f10, -⟩:=hF;have d10:u 10=_:=f10;clear f10;simp only[ax,Act.put,List.setIfInBounds_toArray,List.set_cons_succ,List.set_cons_zero,Nat.zero_add,Nat.reduceAdd,d10];have HT1:=hide bI.dr;obtain⟨wa,rfl⟩:∃wa,wa=w1:=⟨_,rfl⟩;clear d10 bI;by_cases hby:0≤bytes
  ·go_wp2
   refine jT [] (by kernel_rfl) rfl ?_;apply Lo.r0 1 rfl 9 (by intro u;conv=>lhs;whnf) rfl
   ·intro a w1 hR e9 K hK
    go_simp
    exact hK _ rfl
   apply Lo.r1 2 rfl 20 0 (fun _=>rfl) rfl (by kernel_rfl)
   ·intro a w1 hR e20 K hK
    go_simp
    exact hK _ rfl
   apply Lo.q0 3 rfl 1 4 rfl rfl (fun _=>rfl) rfl (by intro u;conv=>lhs;whnf) rfl (by kernel_rfl)
   ·intro a w1 hR e4 K hK
    obtain⟨k0,k1,k2,k3⟩:=HC.out w1 (HT1.out.same hR.dr);go_simp
    exact hK _ rfl
   refine Lo.df 4 rfl rfl [1,2] (.bool (true)) (by kernel_rfl) (fun u w1 hR hF=>?_) (Turn.refl _) ?_
   ·obtain⟨h1,h2, -⟩:=hF
    refine⟨.inl ⟨false,h1,rfl⟩,fun a ha K hK=>?_⟩;have e22:=(ha 22).trans h2;clear ha h1 h2;go_simp
    refine hK _ ?_;simp[hby]
   apply Lo.q1 5 rfl 1 23 3 rfl rfl (fun _=>rfl) rfl (fun _=>rfl) rfl rfl (by kernel_rfl)
   ·intro a w1 hR e23 K hK
    go_simp
    exact hK _ rfl
   apply Lo.q0 6 rfl 4 5 rfl rfl (fun _=>rfl) rfl (by intro u;conv=>lhs;whnf) rfl (by kernel_rfl)
   ·intro a w1 hR e5 K hK
    obtain⟨k0,k1,k2,k3⟩:=HC.out w1 (HT1.out.same hR.dr);go_simp
    exact hK _ rfl
   refine Lo.run 7 rfl rfl [4,5] (fun y w'=>y= .int .i64 (N:Int)) (by kernel_rfl) (fun x w w' h hR=>?_) (fun _ _ h=>h) (fun u w1 hR hF=>?_) ?_
   ·exact h
   ·obtain⟨h4,h5, -⟩:=hF
    refine⟨.inl ⟨true,h4,rfl⟩,fun a ha K hK=>?_⟩;have e25:=(ha 25).trans h5;clear ha h4 h5;go_simp
    refine(nX.out w1 (HT1.out.same hR.dr)).mono ?_;rintro e w5 ⟨rfl, -,ht5⟩;exact hK _ _ rfl ht5
   apply Lo.q0 8 rfl 4 0 rfl rfl (fun _=>rfl) rfl (by intro u;conv=>lhs;whnf) rfl (by kernel_rfl)
   ·intro a w1 hR e0 K hK
    go_simp
    exact hK _ rfl
   refine Lo.run 9 rfl rfl [4,7] (fun y w'=>y= .int .i64 (S:Int)) (by kernel_rfl) (fun x w w' h hR=>?_) (fun _ _ h=>h) (fun u w1 hR hF=>?_) ?_
   ·exact h
   ·obtain⟨h4,h7, -⟩:=hF
    refine⟨.inl ⟨true,h4,rfl⟩,fun a ha K hK=>?_⟩;have e27:=(ha 27).trans h7;clear ha h4 h7;go_simp
    refine(Rx.out w1 (HT1.out.same hR.dr)).mono ?_;rintro e w5 ⟨rfl,ht5⟩;exact hK _ _ rfl ht5
   apply Lo.lu 10 rfl rfl [4,6,8] (by kernel_rfl) (Turn.refl _);apply Exists.intro;apply And.intro
   ·intro u w1 hR hF
    obtain⟨h4,h6,h8, -⟩:=hF;refine⟨.inl ⟨true,h4,rfl⟩,fun a ha K hK=>?_⟩;have e26:a.tmps.getD 26 undef=u 6:=ha 26;have e28:a.tmps.getD 28 undef=u 8:=ha 28;have h6:=(show(fun y w'=>y= .int .i64 (N:Int)) (u 6) w1 from h6);dsimp only at h6;have h8:=(show(fun y w'=>y= .int .i64 (S:Int)) (u 8) w1 from h8);dsimp only at h8;clear ha h4;go_simp
    exact hK _ rfl
   apply Lo.q0 11 rfl 4 4 rfl rfl (fun _=>rfl) rfl (by intro u;conv=>lhs;whnf) rfl (by kernel_rfl)
   ·intro a w1 hR e4 K hK
    obtain⟨k0,k1,k2,k3⟩:=HC.out w1 (HT1.out.same hR.dr);go_simp
    exact hK _ rfl
   apply Lo.q2 12 rfl 4 29 9 30 10 rfl rfl (fun _=>rfl) rfl (fun _=>rfl) (fun _=>rfl) rfl rfl rfl (by kernel_rfl)
   ·intro a w1 hR e29 e30 K hK
    go_simp
    exact hK _ rfl
   apply Lo.q2 13 rfl 1 24 4 31 11 rfl rfl (fun _=>rfl) rfl (fun _=>rfl) (fun _=>rfl) rfl rfl rfl (by kernel_rfl)
   ·intro a w1 hR e24 e31 K hK
    go_simp
    exact hK _ rfl
   apply Lo.r2 14 rfl 21 1 32 12 (fun _=>rfl) (fun _=>rfl) rfl rfl (by kernel_rfl)
   ·intro a w1 hR e21 e32 K hK
    go_simp
    exact hK _ rfl
   apply Lo.r1 15 rfl 33 13 (fun _=>rfl) rfl (by kernel_rfl)
   ·intro a w1 hR e33 K hK
    go_simp
    exact hK _ rfl
   refine Lo.done [14] (fun u w1 bI hSd hF=>?_);clear hSd;obtain⟨f14, -⟩:=hF;have d14:u 14=_:=f14;clear f14;simp only[ax,Act.put,List.setIfInBounds_toArray,List.set_cons_succ,List.set_cons_zero,Nat.zero_add,Nat.reduceAdd,d14];have HT2:=hide (HT1.out.same bI.dr);clear d14 bI;go_wp2
   go_ret
   exact⟨_,rfl,HT2.out⟩
  ·go_wp2
   refine jT [] (by kernel_rfl) rfl ?_;apply Lo.r0 1 rfl 9 (by intro u;conv=>lhs;whnf) rfl
   ·intro a w1 hR e9 K hK
    go_simp
    exact hK _ rfl
   apply Lo.r1 2 rfl 20 0 (fun _=>rfl) rfl (by kernel_rfl)
   ·intro a w1 hR e20 K hK
    go_simp
    exact hK _ rfl
   apply Lo.q0 3 rfl 1 4 rfl rfl (fun _=>rfl) rfl (by intro u;conv=>lhs;whnf) rfl (by kernel_rfl)
   ·intro a w1 hR e4 K hK
    obtain⟨k0,k1,k2,k3⟩:=HC.out w1 (HT1.out.same hR.dr);go_simp
    exact hK _ rfl
   refine Lo.df 4 rfl rfl [1,2] (.bool (false)) (by kernel_rfl) (fun u w1 hR hF=>?_) (Turn.refl _) ?_
   ·obtain⟨h1,h2, -⟩:=hF
    refine⟨.inl ⟨false,h1,rfl⟩,fun a ha K hK=>?_⟩;have e22:=(ha 22).trans h2;clear ha h1 h2;go_simp
    refine hK _ ?_;simp;omega
   apply Lo.q1 5 rfl 1 23 3 rfl rfl (fun _=>rfl) rfl (fun _=>rfl) rfl rfl (by kernel_rfl)
   ·intro a w1 hR e23 K hK
    go_simp
    exact hK _ rfl
   refine Lo.pass 6 rfl rfl [4] (by kernel_rfl) (Turn.refl _) (fun u w1 hR hF=> .inl ⟨false,hF.1,rfl⟩) ?_;refine Lo.pass 7 rfl rfl [4] (by kernel_rfl) (Turn.refl _) (fun u w1 hR hF=> .inl ⟨false,hF.1,rfl⟩) ?_;refine Lo.pass 8 rfl rfl [4] (by kernel_rfl) (Turn.refl _) (fun u w1 hR hF=> .inl ⟨false,hF.1,rfl⟩) ?_;refine Lo.pass 9 rfl rfl [4] (by kernel_rfl) (Turn.refl _) (fun u w1 hR hF=> .inl ⟨false,hF.1,rfl⟩) ?_;refine Lo.pass 10 rfl rfl [4] (by kernel_rfl) (Turn.refl _) (fun u w1 hR hF=> .inl ⟨false,hF.1,rfl⟩) ?_;refine Lo.pass 11 rfl rfl [4] (by kernel_rfl) (Turn.refl _) (fun u w1 hR hF=> .inl ⟨false,hF.1,rfl⟩) ?_;refine Lo.pass 12 rfl rfl [4] (by kernel_rfl) (Turn.refl _) (fun u w1 hR hF=> .inl ⟨false,hF.1,rfl⟩) ?_;apply Lo.q2 13 rfl 1 24 4 31 11 rfl rfl (fun _=>rfl) rfl (fun _=>rfl) (fun _=>rfl) rfl rfl rfl (by kernel_rfl)
   ·intro a w1 hR e24 e31 K hK
    go_simp
    exact hK _ rfl
   apply Lo.r2 14 rfl 21 1 32 12 (fun _=>rfl) (fun _=>rfl) rfl rfl (by kernel_rfl)
   ·intro a w1 hR e21 e32 K hK
    go_simp
    exact hK _ rfl
   apply Lo.r1 15 rfl 33 13 (fun _=>rfl) rfl (by kernel_rfl)
   ·intro a w1 hR e33 K hK
    go_simp
    exact hK _ rfl
   refine Lo.done [14] (fun u w1 bI hSd hF=>?_);clear hSd;obtain⟨f14, -⟩:=hF;have d14:u 14=_:=f14;clear f14;simp only[ax,Act.put,List.setIfInBounds_toArray,List.set_cons_succ,List.set_cons_zero,Nat.zero_add,Nat.reduceAdd,d14];have HT2:=hide (HT1.out.same bI.dr);clear d14 bI;go_wp2
   go_ret
   exact⟨_,rfl,HT2.out⟩
theorem UO:(Tryz.prog.info? 61).map (fun i=>(i.zero,i.size,i.bytes))=some (some (.pointer none),1,8):=by kernel_rfl
theorem EG:∃i,Tryz.prog.info? 61=some i∧i.zero=some (.pointer none)∧i.size=1∧i.bytes≤1000:=by
 obtain⟨i,hi,e⟩:=Option.map_eq_some_iff.1 UO;simp only[Prod.mk.injEq]at e;exact⟨i,hi,e.1,e.2.1,by omega⟩
theorem aO.beyond{α:Type}{T:TypeId}{n:Nat}{enc:α→List Value}{w:World}{base g l c:Nat}{xs:List α}(h:aO T n enc w base (.slice (some ⟨g,0,none⟩) l c) xs){o:Nat}(ho:xs.length*n≤o)(u:Value):aO T n enc (w.setCell ⟨g,o,none⟩ u) base (.slice (some ⟨g,0,none⟩) l c) xs:=by
 rcases h with⟨e, -⟩|⟨g',cap,cur,e,hb,hg,h1,h2,h3,h4⟩
 ·simp at e
 ·simp only[Value.slice.injEq,Option.some.injEq,Addr.mk.injEq]at e
  obtain⟨⟨rfl, -, -⟩,rfl,rfl⟩:=e;refine .inr ⟨g,c,_,rfl,hb,heap_set hg _ u,h1,by rw[Array.size_setIfInBounds];exact h2,h3,?_⟩;rw[Array.toList_setIfInBounds,List.take_set_of_le ho,h4]
theorem DU{α:Type}{T:TypeId}{n:Nat}{enc:α→List Value}{P:Program}(t ty:TypeId)(ht:P.underlying t=some (.slice T))(i:TypeInfo)(hi:P.info? T=some i)(aay:i.size=n)(hn:∀x,(enc x).length=n)(adK:∀x,∀u∈enc x,u.oneCell'=true)
 (w:World)(base g cap:Nat)(a:Addr)(c:Nat)(xs ys:List α)(Pe:aO T n enc w base (.slice (some ⟨g,0,none⟩) xs.length cap) xs)(hx:∀j u,(ys.flatMap enc)[j]? =some u→w.cell? (a.add j)=some u) (aaz:xs.length+ys.length≤cap):
 ∃w',(Builtin.append_ #[t,t] ty #[.slice (some ⟨g,0,none⟩) xs.length cap, .slice (some a) ys.length c]).run P w= .ok (.slice (some ⟨g,0,none⟩) (xs.length+ys.length) cap) w'∧aO T n enc w' base (.slice (some ⟨g,0,none⟩) (xs.length+ys.length) cap) (xs++ys)∧Turn [g] w w':=by
 have Qz:∀u∈ys.flatMap enc,u.oneCell'=true:=fun u hu=>by
  obtain⟨x, -,hx⟩:=List.mem_flatMap.1 hu;exact adK x u hx
 have hl:(ys.flatMap enc).length=ys.length*i.size:=by rw[bM hn,aay]
 rcases Pe with⟨e, -⟩|⟨g',cap',cur,e,hb,hg,h1,h2,h3,h4⟩
 ·simp at e
 ·simp only[Value.slice.injEq,Option.some.injEq,Addr.mk.injEq,true_and]at e
  obtain⟨⟨rfl, -⟩,rfl⟩:=e;have aa8:(xs.length+ys.length)*n≤cur.size:=Nat.le_trans (Nat.mul_le_mul_right _ aaz) h2;have hr:=run_append_room (P:=P) w t ty T i ht hi g xs.length cap cur hg a ys.length c (ys.flatMap enc) hl hx Qz aaz (by rw[aay,bM hn];rw[Nat.add_mul]at aa8;omega);rw[aay]at hr;have hfl:(xs.flatMap enc++ys.flatMap enc).length=(xs++ys).length*n:=by rw[List.length_append,bM hn,bM hn,List.length_append,Nat.add_mul]
  refine⟨_,hr, .inr ⟨g,cap,_,by simp,hb,setRow_heap w g cur _ T _ hg,by simpa using aaz,?_,h3,?_⟩,⟨rfl,rfl,rfl,by simp,fun k _ hk=>setRow_other w g k _ (fun e=>hk (by simp[e]))⟩⟩
  ·simp[bM hn]
   rw[Nat.add_mul]at aa8;have hcs:xs.length*n≤cur.size:=by omega
   rw[Nat.min_eq_left hcs];omega
  ·simp only[h4,List.append_assoc]
   rw[←List.append_assoc,List.take_append_of_le_length (by rw[hfl];exact Nat.le_refl _),List.take_of_length_le (by rw[hfl];exact Nat.le_refl _)];simp
theorem UQ(w:World):(zeroValue 61).run Tryz.prog w= .ok (.pointer none) w:=by kernel_rfl
theorem G5(w:World)(base g cap:Nat)(m0:SM)(ms:List SM)(Pe:aO 61 1 DL w base (.slice (some ⟨g,0,none⟩) (m0::ms).length cap) (m0::ms))(h0:0<ms.length)(hl:ms.length≤100000):
 Calls Tryz.prog 74 #[.slice (some ⟨g,0,none⟩) (m0::ms).length cap, .int .i64 0, .int .i64 1] w fun e w'=>e= .returned (.slice (some ⟨g,0,none⟩) ms.length cap)∧aO 61 1 DL w' base (.slice (some ⟨g,0,none⟩) ms.length cap) ms∧Turn [g] w w':=by
 have hmx:maxLen=9223372036854775807:=by simp[maxLen]
 obtain⟨a',c',e',hlc,hcm⟩:=Pe.form;simp only[Value.slice.injEq,true_and]at e';obtain⟨-,rfl⟩:=e';rw[hmx]at hcm;rw[List.length_cons]at hlc⊢;have dI:=hide Pe;clear Pe;go_enter Tryz.func74,Tryz.ntmps74
 go_wp2
 refine gU 6 [] (by kernel_rfl) rfl ?_;apply Lo.r0 1 rfl 0 (by intro u;conv=>lhs;whnf) rfl
 ·intro a w1 hR e0 K hK
  go_simp
  exact hK _ rfl
 apply Lo.r0 2 rfl 1 (by intro u;conv=>lhs;whnf) rfl
 ·intro a w1 hR e1 K hK
  go_simp
  exact hK _ rfl
 apply Lo.r2 3 rfl 20 0 21 1 (fun _=>rfl) (fun _=>rfl) rfl rfl (by kernel_rfl)
 ·intro a w1 hR e20 e21 K hK
  go_simp
  exact hK _ rfl
 apply Lo.r0 4 rfl 0 (by intro u;conv=>lhs;whnf) rfl
 ·intro a w1 hR e0 K hK
  go_simp
  exact hK _ rfl
 apply Lo.r0 5 rfl 2 (by intro u;conv=>lhs;whnf) rfl
 ·intro a w1 hR e2 K hK
  go_simp
  exact hK _ rfl
 refine Lo.df 6 rfl rfl [3,4] (.slice (some ⟨g,1,none⟩) ms.length (cap-1)) (by kernel_rfl) (fun u w1 hR hF=>?_) (Turn.refl _) ?_
 ·obtain⟨h3,h4, -⟩:=hF
  refine⟨rfl,fun a ha K hK=>?_⟩;have e23:=(ha 23).trans h3;have e24:=(ha 24).trans h4;clear ha h3 h4;have h1:(1:Int)≤(ms.length:Int)+1:=by omega
  have h2:¬cap=1:=by omega
  go_simp
  exact hK _ rfl
 refine Lo.done [2,5] (fun u w1 bI hSd hF=>?_);clear hSd;obtain⟨f2,f5, -⟩:=hF;have d2:u 2=_:=f2;have d5:u 5=_:=f5;clear f2 f5;simp only[List.take_succ_cons,List.take_zero,List.drop_succ_cons,List.drop_zero,ax,Act.put,List.setIfInBounds_toArray,List.set_cons_succ,List.set_cons_zero,Nat.zero_add,Nat.reduceAdd,d2,d5];have ht1:=bI.dr;have aa2:=dI.out.still ht1;obtain⟨i,hi,hz,hs,hby⟩:=EG;have acC:aO 61 1 DL w1 base (.slice (some ⟨g,0,none⟩) ([]:List SM).length cap) []:=by
  rcases aa2 with⟨e, -⟩|⟨g',cap',cur,e,hb,hg,h1,h2,h3,h4⟩
  ·simp at e
  ·simp only[Value.slice.injEq,Option.some.injEq,Addr.mk.injEq,true_and]at e
   obtain⟨⟨rfl, -⟩,rfl⟩:=e;exact .inr ⟨g,cap,cur,rfl,hb,hg,Nat.zero_le _,h2,h3,by simp⟩
 have ags:∀j u,(ms.flatMap DL)[j]? =some u→w1.cell? ((⟨g,1,none⟩:Addr).add j)=some u:=fun j u hu=>by
  have hj:j<ms.length:=by have:=(List.getElem?_eq_some_iff.1 hu).1;rw[bM fJ]at this;omega
  obtain⟨g',cap',e,hc, -⟩:=aa2.at fJ (j:=j+1) (by simpa using hj);simp only[Value.slice.injEq,Option.some.injEq,Addr.mk.injEq,true_and]at e;obtain⟨⟨rfl, -⟩,rfl⟩:=e;have h5:=hc 0 (by omega);have h6:=vU fJ ms j 0 hj (by omega);simp only[Nat.mul_one,Nat.add_zero]at h5 h6;rw[hu]at h6;rw[Addr.add_lit,show 1+j=j+1 by omega,h5,List.getElem_cons_succ];exact h6.symm
 obtain⟨w7,hr7,aai,ht7⟩:=DU (P:=Tryz.prog) 56 56 Tryz.underlying56 i hi hs fJ (fun x u hu=>by simp[DL]at hu;subst hu;rfl) w1 base g cap ⟨g,1,none⟩ (cap-1) [] ms acC ags (by simp;omega);simp only[List.length_nil,Nat.zero_add,List.nil_append]at hr7 aai;have hcl:∀ty,(Builtin.clear_ #[56] ty #[.slice (some ⟨g,ms.length,none⟩) 1 (cap-ms.length)]).run Tryz.prog w7= .ok (.tuple #[]) (w7.setCell ⟨g,ms.length,none⟩ (.pointer none)):=by
  intro ty;have hin:(w7.cell? ⟨g,ms.length,none⟩).isSome=true∧w7.frozen? ⟨g,ms.length,none⟩=false:=by
   rcases aai with⟨e, -⟩|⟨g',cap',cur,e,hb,hg,h1,h2,h3,h4⟩
   ·simp at e
   ·simp only[Value.slice.injEq,Option.some.injEq,Addr.mk.injEq,true_and]at e
    obtain⟨⟨rfl, -⟩,rfl⟩:=e;refine⟨?_,au hg _⟩;rw[cell_of hg,Array.getElem?_eq_getElem (by omega)];rfl
  exact Lib.run_clear_slice w7 56 61 ty (.pointer none) Tryz.underlying56 (fun w=>UQ w) rfl rfl g ms.length 1 (cap-ms.length) (by omega) (fun j hj=>by cases j with|zero=>exact hin.1|succ j=>omega) (fun j hj=>by cases j with|zero=>exact hin.2|succ j=>omega)
 have hcn:¬cap=ms.length:=by omega
 have hln:(ms.length:Int)≤(ms.length:Int)+1:=by omega
 have HR7:=hide hr7;have lF:=hide aai;have HT7:=hide ((ht1.mono (T:=[g]) (by simp)).same ht7);have aic:=aO.beyond lF.out (o:=ms.length) (by omega) (.pointer none);have Zf:=hide aic;have HT8:=hide (HT7.out.setCell (p:=⟨g,ms.length,none⟩) (.inl (by simp)) (.pointer none));clear d2 d5 bI ht1 aa2 acC ags hr7 aai ht7 hi hz hs hby aic;go_wp2_with (at_builtin;go_must (refine bU rfl rfl rfl rfl HR7.out ?_))
 go_ret
 exact⟨rfl,Zf.out,HT8.out⟩
theorem az.tail{w w3:World}{base d lb g n cap:Nat}{F:List Nat}{A:DA}{dir:ByteArray}{v:LV}{m0:SM}{ms:List SM}(h:az w base d F A lb (.slice (some ⟨g,0,none⟩) n cap) dir v (m0::ms))(ht:Turn [g] w w3)
 (hr:aO 61 1 DL w3 base (.slice (some ⟨g,0,none⟩) ms.length cap) ms):az (w3.setCell ⟨lb,3,none⟩ (.slice (some ⟨g,0,none⟩) ms.length cap)) base d F A lb (.slice (some ⟨g,0,none⟩) ms.length cap) dir v ms:=by
 have hgo:g∈(Value.slice (some ⟨g,0,none⟩) n cap).ownBlock:=by simp[Value.ownBlock]
 have hlg:lb≠g:=fun e=>h.Fq (by rw[e];exact hgo)
 have ht2:Turn [lb] w3 (w3.setCell ⟨lb,3,none⟩ (.slice (some ⟨g,0,none⟩) ms.length cap)):=(Turn.refl _ _).setCell (.inl (by simp)) _;have hap:=h.apart;rw[List.pairwise_cons]at hap;refine⟨(h.disk.kept ht (fun k hk hm=>?_)).kept ht2 (fun k hk hm=>?_),?_,hr.kept ht2 (fun k hk hm=>?_),h.low,fun m hm=>((h.jo m (by simp[hm])).kept ht (fun k hk hm'=>?_)).kept ht2 (fun k hk hm'=>?_),hap.2⟩
 ·obtain rfl:=List.mem_singleton.1 hm
  exact h.O8 _ hgo hk
 ·obtain rfl:=List.mem_singleton.1 hm
  exact h.vk hk
 ·rw[heap_set (ht.heap h.box (by simpa using hlg))]
  rfl
 ·obtain rfl:=List.mem_singleton.1 hm
  simp[Value.ownBlock]at hk;exact hlg hk.symm
 ·obtain rfl:=List.mem_singleton.1 hm'
  exact h.La (m:=m) (by simp[hm]) _ hgo hk
 ·obtain rfl:=List.mem_singleton.1 hm'
  exact h.GR (m:=m) (by simp[hm]) hk
def stI(ss0:List (Nat×List Bt.aB))(mm:Nat×List Bt.aB)(i:Nat):Nat:=if i=0 then 0 else dH (ss0.drop i) mm
def Yg(w wr:World)(base d lb:Nat)(dir:ByteArray)(G:List Nat)(room nn:Nat)(ss0:List (Nat×List Bt.aB))(mm:Nat×List Bt.aB)(mo:Int)(dn:Bool)(i:Nat):Prop:=
 ∃F gv v ms A,az wr base d F A lb gv dir v ms∧ms.map SM.abs=ss0.drop i++[mm]∧GInv A room dir (stI ss0 mm i) nn (ss0.drop i) mm∧(v.start=stI ss0 mm i∧v.most=mo∧v.down=dn)∧Turn G w wr∧∀k∈aJ F lb gv ms,k∈G∨w.heap.size≤k
theorem Yg.still{w wr w':World}{base d lb:Nat}{dir:ByteArray}{G:List Nat}{room nn:Nat}{ss0:List (Nat×List Bt.aB)}{mm:Nat×List Bt.aB}{mo:Int}{dn:Bool}{i:Nat}(h:Yg w wr base d lb dir G room nn ss0 mm mo dn i)(ht:Turn [] wr w'):Yg w w' base d lb dir G room nn ss0 mm mo dn i:=by
 obtain⟨F,gv,v,ms,A,h1,h2,h3,h4,h5,h6⟩:=h;exact⟨F,gv,v,ms,A,h1.still ht,h2,h3,h4,h5.same (ht.mono (by simp)),h6⟩
end Lg
end
section
set_option maxRecDepth 100000
attribute [local go_sem] Oper.semAt_some
open Dk (DA aj Parts dA aC bQ)
open Sg (aS aA dV Both Came ae flat Pl dK oH empty_any)
namespace Lg
def aN(file:ByteArray):ByteArray:=(⟨(Lib.trimSuffix file.data.toList [46,108,111,103]).toArray⟩:ByteArray)++⟨#[46,110,101,119]⟩
theorem Fv(l p:List UInt8):(Lib.trimSuffix l p).length≤l.length:=by
 unfold Lib.trimSuffix;split<;>simp
theorem wR(file:ByteArray):(aN file).size≤file.size+4:=by
 unfold aN;rw[ByteArray.size_append];have h:=Fv file.data.toList [46,108,111,103];have e1:(⟨(Lib.trimSuffix file.data.toList [46,108,111,103]).toArray⟩:ByteArray).size=(Lib.trimSuffix file.data.toList [46,108,111,103]).length:=by show Array.size _=_;simp
 have e2:(⟨#[46,110,101,119]⟩:ByteArray).size=4:=rfl;have e3:file.data.toList.length=file.size:=by simp
 omega
def oQ(A:DA)(nm:List UInt8):Int×DA:=if 0≤A.sizeOf nm then A.remove nm else(0,A)
def eQ(A:DA)(file:ByteArray):Int×DA:=if (oQ A file.data.toList).1≠0 then oQ A file.data.toList else(oQ A file.data.toList).2.make file
theorem Jp{w w1 w':World}{base d:Nat}{F F1:List Nat}{A':DA}(ht:Turn F w w1)(hf:∀k∈F1,k∈F∨w.heap.size≤k)(h:dA w1 w' base d F1 A'):dA w w' base d F A':=by
 obtain⟨F',hd,ht2,hf2⟩:=h;exact⟨F',hd,ht.trans ht2 hf,fun k hk=>(hf2 k hk).elim (hf k) (fun h=> .inr (Nat.le_trans ht.size h))⟩
theorem DV{w w1 w':World}{base d:Nat}{F F1:List Nat}{A':DA}{sb:Nat}{file:ByteArray}{b0:Int}(ht:Turn F w w1)(hf:∀k∈F1,k∈F∨w.heap.size≤k)(h:dK w1 w' base d F1 A' sb file b0):dK w w' base d F A' sb file b0:=by
 obtain⟨F',hd,ht2,hf2,hs⟩:=h;exact⟨F',hd,ht.trans ht2 hf,fun k hk=>(hf2 k hk).elim (hf k) (fun h=> .inr (Nat.le_trans ht.size h)),Nat.le_trans ht.size hs⟩
def Lp(w w1:World)(base d:Nat)(F:List Nat)(A':DA)(sb:Nat)(sv:Value)(file:ByteArray)(b0:Int)(ps:List Pl):Prop:=
 ∃F1,Both w1 base d F1 A' sb sv file b0 ps∧Turn F w w1∧∀k∈F1,k∈F∨w.heap.size≤k
theorem G6{w w':World}{base d sb:Nat}{F:List Nat}{A A':DA}{sv:Value}{file:ByteArray}{b0:Int}{ps:List Pl}(h:Both w base d F A sb sv file b0 ps)(hd:dA w w' base d F A'):Lp w w' base d F A' sb sv file b0 ps:=by
 obtain⟨F',hd,ht,hf⟩:=hd;exact⟨F',⟨hd,h.jh.kept ht h.sep,fun k hk hm=>(hf k hm).elim (h.sep k hk) (fun h'=>by have:=(h.jh.lt k hk).2;omega)⟩,ht,hf⟩
theorem SG(w:World)(base d:Nat)(F:List Nat)(A:DA)(sb:Nat)(sv:Value)(file:ByteArray)(b0:Int)(ps:List Pl)(h:Both w base d F A sb sv file b0 ps)(hfs:file.size≤10000):
 Calls Tryz.prog 154 #[.pointer (some ⟨sb,0,none⟩)] w fun e w'=>
  ((eQ A (aN file)).1≠0∧e= .returned (.tuple #[.pointer none,aC (eQ A (aN file)).1])∧dA w w' base d F (eQ A (aN file)).2)∨
  ((eQ A (aN file)).1=0∧∃sb2,e= .returned (.tuple #[.pointer (some ⟨sb2,0,none⟩), .nilIface])∧dK w w' base d F (eQ A (aN file)).2 sb2 (aN file) b0):=by
 have hmx:maxLen=9223372036854775807:=by simp[maxLen]
 have H:=hide h;have c0:=h.jh.c0;have c1:=h.jh.c1;have hsb:=lt_of_heap h.jh.box;clear h;have hb4:=wR file;have hbs:(aN file).size≤maxLen:=by omega
 have htr:=Tryz.strings_TrimSuffix file ⟨#[46,108,111,103]⟩ w (by omega);rw[show(⟨#[46,108,111,103]⟩:ByteArray).data.toList=[46,108,111,103]from rfl]at htr;have hsf:=Fv file.data.toList [46,108,111,103];obtain⟨R,hR⟩:∃R:ByteArray,R=⟨(Lib.trimSuffix file.data.toList [46,108,111,103]).toArray⟩:=⟨_,rfl⟩;have hRs:R.size≤10000:=by
  have e1:R.size=(Lib.trimSuffix file.data.toList [46,108,111,103]).length:=by rw[hR];show Array.size _=_;simp
  have e3:file.data.toList.length=file.size:=by simp
  omega
 have hBe:aN file=R++⟨#[46,110,101,119]⟩:=by unfold aN;rw[hR]
 rw[←hR]at htr;have Yh:=hide htr;have Ko:=hide hbs;have HBE:=hide hBe;clear htr hsf hR hbs hBe hb4;obtain⟨B,hB⟩:∃B,B=aN file:=⟨_,rfl⟩;have hBR:R++⟨#[46,110,101,119]⟩=B:=by rw[hB];exact HBE.out.symm
 rw[←hB]at Ko⊢;have xm:=hide hBR;clear hB HBE hBR;have aur:¬(9223372036854775807<R.size+4):=by omega
 go_enter Tryz.func154,Tryz.ntmps154
 go_wp2_with fail
 refine Yh.out.mono ?_;rintro e wa ⟨rfl,rfl⟩;clear Yh;go_wp2_with fail
 rw[xm.out];refine(oH H.out.disk B Ko.out).mono ?_;rintro e wb ⟨rfl,rfl⟩;by_cases hz:0≤A.sizeOf B.data.toList
 ·have hcl:oQ A B.data.toList=A.remove B.data.toList:=if_pos hz
  have NQ:=hide hcl;clear hcl;go_wp2_with fail
  obtain⟨aI,Zg,hp⟩:=H.out.disk;refine(Dk.kN hp B Ko.out).mono ?_;rintro e wc ⟨rfl,hd⟩;obtain⟨c,hc⟩:∃c,c=(A.remove B.data.toList).1:=⟨_,rfl⟩;have HC:=hide hc;rw[←hc];by_cases h0:c=0
  ·have hr:aC c= .nilIface:=by rw[h0];rfl
   rw[hr];obtain⟨F1,hbb,htf,xh⟩:=G6 H.out hd;obtain⟨A1,hA1⟩:∃A1,A1=(A.remove B.data.toList).2:=⟨_,rfl⟩;have UR:eQ A B=A1.make B:=by
    unfold eQ;rw[NQ.out,←HC.out,if_neg (by rw[h0];simp),hA1]
   rw[←hA1]at hbb;have DW:=hide hbb;have Ud:=hide htf;have Xj:=hide xh;have Qs:=hide UR;clear hbb htf xh UR hr h0 hc hd hp hA1 NQ HC;obtain⟨cc,hcc⟩:∃cc,cc=(A1.make B).1:=⟨_,rfl⟩;obtain⟨A2,hA2⟩:∃A2,(A1.make B).2=A2:=⟨_,rfl⟩;have Pg:=hide hcc;have HA2:=hide hA2;clear hA2;by_cases hne:cc≠0
   ·have hr:aC (A1.make B).1= .iface 45 (.int .i64 cc):=by rw[←hcc];unfold aC;rw[if_neg hne];rfl
    have HRR:=hide hr;have BU:=hide hne;clear hr hne hcc;go_wp2
    refine bP 12 (Turn F1) (Turn []) (fun k w=>match k with|0=>(fun w'=>aj w' base d F1 A1) w|_=>(fun w'=>aj w' base d F1 A1∨True) w) [9] (by kernel_rfl) (by kernel_rfl) (by kernel_rfl) (by kernel_rfl) (by kernel_rfl) (by kernel_rfl) (Nat.le_of_ble_eq_true rfl) (by decide) rfl (Turn.refl _) (fun _ _ _ h k=>h.same k) (fun _ _ h=>h.mono (by simp)) ?_ ?_ ?_
    ·intro k a b hk hR
     match k,hk with
     |0,hk=>
      have hk:=(show(fun w'=>aj w' base d F1 A1) a from hk);dsimp only at hk;show(fun w'=>aj w' base d F1 A1) b;dsimp only;first|exact hk.kept hR (by simp)|exact .inr trivial
     |_+1,hk=>
      have hk:=(show(fun w'=>aj w' base d F1 A1∨True) a from hk);dsimp only at hk;show(fun w'=>aj w' base d F1 A1∨True) b;dsimp only;first|exact hk.kept hR (by simp)|exact .inr trivial
    ·show(fun w'=>aj w' base d F1 A1) _
     dsimp only;exact DW.out.disk.kept ((Turn.refl [] wc).drew) (by simp)
    apply Lo.r0 1 rfl 0 (by intro u;conv=>lhs;whnf) rfl
    ·intro a w1 hR e0 K hK
     go_simp
     exact hK _ rfl
    apply Lo.r1 2 rfl 28 0 (fun _=>rfl) rfl (by kernel_rfl)
    ·intro a w1 hR e28 K hK
     go_simp
     exact hK _ rfl
    apply Lo.r1 3 rfl 29 1 (fun _=>rfl) rfl (by kernel_rfl)
    ·intro a w1 hR e29 K hK
     go_simp
     exact hK _ rfl
    apply Lo.r1 4 rfl 30 2 (fun _=>rfl) rfl (by kernel_rfl)
    ·intro a w1 hR e30 K hK
     have hb:=(((Turn.refl [] wc).drew.mono (T:=F1) (by simp)).same hR).heap DW.out.jh.box (DW.out.sep sb (by simp[aA]));have c0:w1.cell? ⟨sb,0,none⟩=some (.pointer (some ⟨d,0,none⟩)):=by rw[cell_of hb];rfl
     have z1:=lt_of_heap hb;go_simp
     exact hK _ rfl
    apply Lo.r0 5 rfl 4 (by intro u;conv=>lhs;whnf) rfl
    ·intro a w1 hR e4 K hK
     go_simp
     exact hK _ rfl
    apply Lo.r0 6 rfl 0 (by intro u;conv=>lhs;whnf) rfl
    ·intro a w1 hR e0 K hK
     go_simp
     exact hK _ rfl
    apply Lo.r1 7 rfl 33 5 (fun _=>rfl) rfl (by kernel_rfl)
    ·intro a w1 hR e33 K hK
     go_simp
     exact hK _ rfl
    apply Lo.r1 8 rfl 34 6 (fun _=>rfl) rfl (by kernel_rfl)
    ·intro a w1 hR e34 K hK
     go_simp
     exact hK _ rfl
    apply Lo.r1 9 rfl 35 7 (fun _=>rfl) rfl (by kernel_rfl)
    ·intro a w1 hR e35 K hK
     have hb:=(((Turn.refl [] wc).drew.mono (T:=F1) (by simp)).same hR).heap DW.out.jh.box (DW.out.sep sb (by simp[aA]));have c0:w1.cell? ⟨sb,2,none⟩=some (.int .i64 b0):=by rw[cell_of hb];rfl
     have z1:=lt_of_heap hb;go_simp
     exact hK _ rfl
    refine Lo.je 10 rfl 0 rfl [3,4,8] (fun x w'=>x= .tuple #[.pointer none, .iface 45 (.int .i64 cc)]∧dA wc w' base d F1 A2) (by kernel_rfl) (fun x w w' h hR=>?_) (.inl (by kernel_rfl)) (fun u w1 hR hS hF=>?_) ?_
    ·exact⟨h.1,gu h.2 hR⟩
    ·obtain⟨h3,h4,h8, -⟩:=hF
     have hS:=(show(fun w'=>aj w' base d F1 A1) w1 from hS);dsimp only at hS;refine⟨rfl,fun a ha K hK=>?_⟩;have e31:=(ha 31).trans h3;have e32:=(ha 32).trans h4;have e36:=(ha 36).trans h8;clear ha h3 h4 h8;go_simp
     have hr0:=((Turn.refl [] wc).drew.mono (T:=F1) (by simp)).same hR;refine(empty_any w1 base d F1 A1 hS B Ko.out b0).mono ?_;rintro e w2 (⟨hne,rfl,hd⟩|⟨he, -⟩)
     ·rw[HRR.out]
      rw[HA2.out]at hd;exact hK _ _ ⟨rfl,um hr0 hd⟩ hd.turn (.inr trivial)
     ·exact absurd (Pg.out.trans he) BU.out
    refine Lo.late 11 rfl rfl [9] (fun x w'=>x= .pointer none∧dA wc w' base d F1 A2) (by kernel_rfl) (fun x w w' h hR=>?_) (by kernel_rfl) (fun u w1 hR hF=>?_) ?_
    ·exact⟨h.1,gu h.2 hR⟩
    ·obtain⟨h9, -⟩:=hF
     refine⟨rfl,fun a ha K hK=>?_⟩;have e37:a.tmps.getD 37 undef=u 9:=ha 37;have h9:=(show(fun x w'=>x= .tuple #[.pointer none, .iface 45 (.int .i64 cc)]∧dA wc w' base d F1 A2) (u 9) w1 from h9);dsimp only at h9;clear ha;obtain⟨e9,BZ⟩:=h9;rw[e9]at e37;go_simp
     exact hK _ _ ⟨rfl,BZ⟩ (Turn.refl _ _)
    refine Lo.df 12 rfl rfl [9] (.iface 45 (.int .i64 cc)) (by kernel_rfl) (fun u w1 hR hF=>?_) (Turn.refl _) ?_
    ·obtain⟨h9, -⟩:=hF
     refine⟨rfl,fun a ha K hK=>?_⟩;have e37:a.tmps.getD 37 undef=u 9:=ha 37;have h9:=(show(fun x w'=>x= .tuple #[.pointer none, .iface 45 (.int .i64 cc)]∧dA wc w' base d F1 A2) (u 9) w1 from h9);dsimp only at h9;clear ha;obtain⟨e9, -⟩:=h9;rw[e9]at e37;go_simp
     exact hK _ rfl
    refine Lo.done [10,11] (fun u w1 bI hSd hF=>?_);have hSd:=(show(fun w'=>aj w' base d F1 A1∨True) w1 from hSd);dsimp only at hSd;obtain⟨f10,f11, -⟩:=hF;have d10:=(show(fun x w'=>x= .pointer none∧dA wc w' base d F1 A2) (u 10) w1 from f10);dsimp only at d10;have d11:u 11=_:=f11;clear f10 f11;simp only[List.take_succ_cons,List.take_zero,List.drop_succ_cons,List.drop_zero,ax,Act.put,List.setIfInBounds_toArray,List.set_cons_succ,List.set_cons_zero,Nat.zero_add,Nat.reduceAdd,d11];obtain⟨e10,agP⟩:=d10;rw[e10];have HD:=hide (Jp Ud.out Xj.out agP);clear d11 e10 agP bI hSd;go_wp2
    go_ret2
    have e0:eQ A B=A1.make B:=Qs.out;rw[e0,HRR.out,HA2.out];exact .inl ⟨by rw[←Pg.out];exact BU.out,rfl,HD.out⟩
   ·have ac8:cc=0:=Classical.not_not.1 hne
    have BU:=hide ac8;clear hne ac8 hcc;go_wp2
    refine bP 12 (Turn F1) (Turn []) (fun k w=>match k with|0=>(fun w'=>aj w' base d F1 A1) w|_=>(fun w'=>aj w' base d F1 A1∨True) w) [9] (by kernel_rfl) (by kernel_rfl) (by kernel_rfl) (by kernel_rfl) (by kernel_rfl) (by kernel_rfl) (Nat.le_of_ble_eq_true rfl) (by decide) rfl (Turn.refl _) (fun _ _ _ h k=>h.same k) (fun _ _ h=>h.mono (by simp)) ?_ ?_ ?_
    ·intro k a b hk hR
     match k,hk with
     |0,hk=>
      have hk:=(show(fun w'=>aj w' base d F1 A1) a from hk);dsimp only at hk;show(fun w'=>aj w' base d F1 A1) b;dsimp only;first|exact hk.kept hR (by simp)|exact .inr trivial
     |_+1,hk=>
      have hk:=(show(fun w'=>aj w' base d F1 A1∨True) a from hk);dsimp only at hk;show(fun w'=>aj w' base d F1 A1∨True) b;dsimp only;first|exact hk.kept hR (by simp)|exact .inr trivial
    ·show(fun w'=>aj w' base d F1 A1) _
     dsimp only;exact DW.out.disk.kept ((Turn.refl [] wc).drew) (by simp)
    apply Lo.r0 1 rfl 0 (by intro u;conv=>lhs;whnf) rfl
    ·intro a w1 hR e0 K hK
     go_simp
     exact hK _ rfl
    apply Lo.r1 2 rfl 28 0 (fun _=>rfl) rfl (by kernel_rfl)
    ·intro a w1 hR e28 K hK
     go_simp
     exact hK _ rfl
    apply Lo.r1 3 rfl 29 1 (fun _=>rfl) rfl (by kernel_rfl)
    ·intro a w1 hR e29 K hK
     go_simp
     exact hK _ rfl
    apply Lo.r1 4 rfl 30 2 (fun _=>rfl) rfl (by kernel_rfl)
    ·intro a w1 hR e30 K hK
     have hb:=(((Turn.refl [] wc).drew.mono (T:=F1) (by simp)).same hR).heap DW.out.jh.box (DW.out.sep sb (by simp[aA]));have c0:w1.cell? ⟨sb,0,none⟩=some (.pointer (some ⟨d,0,none⟩)):=by rw[cell_of hb];rfl
     have z1:=lt_of_heap hb;go_simp
     exact hK _ rfl
    apply Lo.r0 5 rfl 4 (by intro u;conv=>lhs;whnf) rfl
    ·intro a w1 hR e4 K hK
     go_simp
     exact hK _ rfl
    apply Lo.r0 6 rfl 0 (by intro u;conv=>lhs;whnf) rfl
    ·intro a w1 hR e0 K hK
     go_simp
     exact hK _ rfl
    apply Lo.r1 7 rfl 33 5 (fun _=>rfl) rfl (by kernel_rfl)
    ·intro a w1 hR e33 K hK
     go_simp
     exact hK _ rfl
    apply Lo.r1 8 rfl 34 6 (fun _=>rfl) rfl (by kernel_rfl)
    ·intro a w1 hR e34 K hK
     go_simp
     exact hK _ rfl
    apply Lo.r1 9 rfl 35 7 (fun _=>rfl) rfl (by kernel_rfl)
    ·intro a w1 hR e35 K hK
     have hb:=(((Turn.refl [] wc).drew.mono (T:=F1) (by simp)).same hR).heap DW.out.jh.box (DW.out.sep sb (by simp[aA]));have c0:w1.cell? ⟨sb,2,none⟩=some (.int .i64 b0):=by rw[cell_of hb];rfl
     have z1:=lt_of_heap hb;go_simp
     exact hK _ rfl
    refine Lo.je 10 rfl 0 rfl [3,4,8] (fun x w'=>∃s2,x= .tuple #[.pointer (some ⟨s2,0,none⟩), .nilIface]∧dK wc w' base d F1 A2 s2 B b0) (by kernel_rfl) (fun x w w' h hR=>?_) (.inl (by kernel_rfl)) (fun u w1 hR hS hF=>?_) ?_
    ·obtain⟨s2,e,h⟩:=h;exact⟨s2,e,iI h hR⟩
    ·obtain⟨h3,h4,h8, -⟩:=hF
     have hS:=(show(fun w'=>aj w' base d F1 A1) w1 from hS);dsimp only at hS;refine⟨rfl,fun a ha K hK=>?_⟩;have e31:=(ha 31).trans h3;have e32:=(ha 32).trans h4;have e36:=(ha 36).trans h8;clear ha h3 h4 h8;go_simp
     have hr0:=((Turn.refl [] wc).drew.mono (T:=F1) (by simp)).same hR;refine(empty_any w1 base d F1 A1 hS B Ko.out b0).mono ?_;rintro e w2 (⟨hne, -⟩|⟨he,s2,rfl,hfr⟩)
     ·exact absurd (Pg.out.symm.trans BU.out) hne
     ·rw[HA2.out]at hfr
      exact hK _ _ ⟨s2,rfl,tu hr0 hfr⟩ (vz hfr) (.inr trivial)
    refine Lo.late 11 rfl rfl [9] (fun x w'=>∃s2,x= .pointer (some ⟨s2,0,none⟩)∧dK wc w' base d F1 A2 s2 B b0) (by kernel_rfl) (fun x w w' h hR=>?_) (by kernel_rfl) (fun u w1 hR hF=>?_) ?_
    ·obtain⟨s2,e,h⟩:=h;exact⟨s2,e,iI h hR⟩
    ·obtain⟨h9, -⟩:=hF
     refine⟨rfl,fun a ha K hK=>?_⟩;have e37:a.tmps.getD 37 undef=u 9:=ha 37;have h9:=(show(fun x w'=>∃s2,x= .tuple #[.pointer (some ⟨s2,0,none⟩), .nilIface]∧dK wc w' base d F1 A2 s2 B b0) (u 9) w1 from h9);dsimp only at h9;clear ha;obtain⟨s2,e9,BZ⟩:=h9;rw[e9]at e37;go_simp
     exact hK _ _ ⟨s2,rfl,BZ⟩ (Turn.refl _ _)
    refine Lo.df 12 rfl rfl [9] (.nilIface) (by kernel_rfl) (fun u w1 hR hF=>?_) (Turn.refl _) ?_
    ·obtain⟨h9, -⟩:=hF
     refine⟨rfl,fun a ha K hK=>?_⟩;have e37:a.tmps.getD 37 undef=u 9:=ha 37;have h9:=(show(fun x w'=>∃s2,x= .tuple #[.pointer (some ⟨s2,0,none⟩), .nilIface]∧dK wc w' base d F1 A2 s2 B b0) (u 9) w1 from h9);dsimp only at h9;clear ha;obtain⟨s2,e9, -⟩:=h9;rw[e9]at e37;go_simp
     exact hK _ rfl
    refine Lo.done [10,11] (fun u w1 bI hSd hF=>?_);have hSd:=(show(fun w'=>aj w' base d F1 A1∨True) w1 from hSd);dsimp only at hSd;obtain⟨f10,f11, -⟩:=hF;have d10:=(show(fun x w'=>∃s2,x= .pointer (some ⟨s2,0,none⟩)∧dK wc w' base d F1 A2 s2 B b0) (u 10) w1 from f10);dsimp only at d10;have d11:u 11=_:=f11;clear f10 f11;simp only[List.take_succ_cons,List.take_zero,List.drop_succ_cons,List.drop_zero,ax,Act.put,List.setIfInBounds_toArray,List.set_cons_succ,List.set_cons_zero,Nat.zero_add,Nat.reduceAdd,d11];obtain⟨s2,e10,agQ⟩:=d10;rw[e10];have HD:=hide (DV Ud.out Xj.out agQ);clear d11 e10 agQ bI hSd;go_wp2
    go_ret2
    have e0:eQ A B=A1.make B:=Qs.out;rw[e0,HA2.out];exact .inr ⟨by rw[←Pg.out];exact BU.out,s2,rfl,HD.out⟩
  ·have hr:aC c= .iface 45 (.int .i64 c):=by unfold aC;rw[if_neg h0];rfl
   rw[hr];have HR:=hide hr;have H0:=hide h0;have HD:=hide hd;clear hr h0 hc hd hp;go_wp2
   go_ret2
   have e0:eQ A B=A.remove B.data.toList:=by
    unfold eQ;rw[NQ.out,if_pos (by rw[←HC.out];exact H0.out)]
   rw[e0];refine .inl ⟨by rw[←HC.out];exact H0.out,?_,HD.out⟩;rw[←HC.out,HR.out];rfl
 ·obtain⟨F1,hF1⟩:∃F1,F1=F:=⟨_,rfl⟩
  obtain⟨A1,hA1⟩:∃A1,A1=A:=⟨_,rfl⟩;have DW:Hid (Both wa base d F1 A1 sb sv file b0 ps):=by rw[hF1,hA1];exact H
  have Ud:Hid (Turn F wa wa):=hide (Turn.refl _ _);have Xj:Hid (∀k∈F1,k∈F∨wa.heap.size≤k):=by rw[hF1];exact hide (fun k hk=> .inl hk)
  have Qs:Hid (eQ A B=A1.make B):=by
   rw[hA1];unfold eQ oQ;rw[if_neg hz];exact hide (if_neg (by simp))
  clear hF1 hA1;obtain⟨cc,hcc⟩:∃cc,cc=(A1.make B).1:=⟨_,rfl⟩;obtain⟨A2,hA2⟩:∃A2,(A1.make B).2=A2:=⟨_,rfl⟩;have Pg:=hide hcc;have HA2:=hide hA2;clear hA2;by_cases hne:cc≠0
  ·have hr:aC (A1.make B).1= .iface 45 (.int .i64 cc):=by rw[←hcc];unfold aC;rw[if_neg hne];rfl
   have HRR:=hide hr;have BU:=hide hne;clear hr hne hcc;go_wp2
   refine bP 12 (Turn F1) (Turn []) (fun k w=>match k with|0=>(fun w'=>aj w' base d F1 A1) w|_=>(fun w'=>aj w' base d F1 A1∨True) w) [9] (by kernel_rfl) (by kernel_rfl) (by kernel_rfl) (by kernel_rfl) (by kernel_rfl) (by kernel_rfl) (Nat.le_of_ble_eq_true rfl) (by decide) rfl (Turn.refl _) (fun _ _ _ h k=>h.same k) (fun _ _ h=>h.mono (by simp)) ?_ ?_ ?_
   ·intro k a b hk hR
    match k,hk with
    |0,hk=>
     have hk:=(show(fun w'=>aj w' base d F1 A1) a from hk);dsimp only at hk;show(fun w'=>aj w' base d F1 A1) b;dsimp only;first|exact hk.kept hR (by simp)|exact .inr trivial
    |_+1,hk=>
     have hk:=(show(fun w'=>aj w' base d F1 A1∨True) a from hk);dsimp only at hk;show(fun w'=>aj w' base d F1 A1∨True) b;dsimp only;first|exact hk.kept hR (by simp)|exact .inr trivial
   ·show(fun w'=>aj w' base d F1 A1) _
    dsimp only;exact DW.out.disk.kept ((Turn.refl [] wa).drew) (by simp)
   apply Lo.r0 1 rfl 0 (by intro u;conv=>lhs;whnf) rfl
   ·intro a w1 hR e0 K hK
    go_simp
    exact hK _ rfl
   apply Lo.r1 2 rfl 28 0 (fun _=>rfl) rfl (by kernel_rfl)
   ·intro a w1 hR e28 K hK
    go_simp
    exact hK _ rfl
   apply Lo.r1 3 rfl 29 1 (fun _=>rfl) rfl (by kernel_rfl)
   ·intro a w1 hR e29 K hK
    go_simp
    exact hK _ rfl
   apply Lo.r1 4 rfl 30 2 (fun _=>rfl) rfl (by kernel_rfl)
   ·intro a w1 hR e30 K hK
    have hb:=(((Turn.refl [] wa).drew.mono (T:=F1) (by simp)).same hR).heap DW.out.jh.box (DW.out.sep sb (by simp[aA]));have c0:w1.cell? ⟨sb,0,none⟩=some (.pointer (some ⟨d,0,none⟩)):=by rw[cell_of hb];rfl
    have z1:=lt_of_heap hb;go_simp
    exact hK _ rfl
   apply Lo.r0 5 rfl 4 (by intro u;conv=>lhs;whnf) rfl
   ·intro a w1 hR e4 K hK
    go_simp
    exact hK _ rfl
   apply Lo.r0 6 rfl 0 (by intro u;conv=>lhs;whnf) rfl
   ·intro a w1 hR e0 K hK
    go_simp
    exact hK _ rfl
   apply Lo.r1 7 rfl 33 5 (fun _=>rfl) rfl (by kernel_rfl)
   ·intro a w1 hR e33 K hK
    go_simp
    exact hK _ rfl
   apply Lo.r1 8 rfl 34 6 (fun _=>rfl) rfl (by kernel_rfl)
   ·intro a w1 hR e34 K hK
    go_simp
    exact hK _ rfl
   apply Lo.r1 9 rfl 35 7 (fun _=>rfl) rfl (by kernel_rfl)
   ·intro a w1 hR e35 K hK
    have hb:=(((Turn.refl [] wa).drew.mono (T:=F1) (by simp)).same hR).heap DW.out.jh.box (DW.out.sep sb (by simp[aA]));have c0:w1.cell? ⟨sb,2,none⟩=some (.int .i64 b0):=by rw[cell_of hb];rfl
    have z1:=lt_of_heap hb;go_simp
    exact hK _ rfl
   refine Lo.je 10 rfl 0 rfl [3,4,8] (fun x w'=>x= .tuple #[.pointer none, .iface 45 (.int .i64 cc)]∧dA wa w' base d F1 A2) (by kernel_rfl) (fun x w w' h hR=>?_) (.inl (by kernel_rfl)) (fun u w1 hR hS hF=>?_) ?_
   ·exact⟨h.1,gu h.2 hR⟩
   ·obtain⟨h3,h4,h8, -⟩:=hF
    have hS:=(show(fun w'=>aj w' base d F1 A1) w1 from hS);dsimp only at hS;refine⟨rfl,fun a ha K hK=>?_⟩;have e31:=(ha 31).trans h3;have e32:=(ha 32).trans h4;have e36:=(ha 36).trans h8;clear ha h3 h4 h8;go_simp
    have hr0:=((Turn.refl [] wa).drew.mono (T:=F1) (by simp)).same hR;refine(empty_any w1 base d F1 A1 hS B Ko.out b0).mono ?_;rintro e w2 (⟨hne,rfl,hd⟩|⟨he, -⟩)
    ·rw[HRR.out]
     rw[HA2.out]at hd;exact hK _ _ ⟨rfl,um hr0 hd⟩ hd.turn (.inr trivial)
    ·exact absurd (Pg.out.trans he) BU.out
   refine Lo.late 11 rfl rfl [9] (fun x w'=>x= .pointer none∧dA wa w' base d F1 A2) (by kernel_rfl) (fun x w w' h hR=>?_) (by kernel_rfl) (fun u w1 hR hF=>?_) ?_
   ·exact⟨h.1,gu h.2 hR⟩
   ·obtain⟨h9, -⟩:=hF
    refine⟨rfl,fun a ha K hK=>?_⟩;have e37:a.tmps.getD 37 undef=u 9:=ha 37;have h9:=(show(fun x w'=>x= .tuple #[.pointer none, .iface 45 (.int .i64 cc)]∧dA wa w' base d F1 A2) (u 9) w1 from h9);dsimp only at h9;clear ha;obtain⟨e9,BZ⟩:=h9;rw[e9]at e37;go_simp
    exact hK _ _ ⟨rfl,BZ⟩ (Turn.refl _ _)
   refine Lo.df 12 rfl rfl [9] (.iface 45 (.int .i64 cc)) (by kernel_rfl) (fun u w1 hR hF=>?_) (Turn.refl _) ?_
   ·obtain⟨h9, -⟩:=hF
    refine⟨rfl,fun a ha K hK=>?_⟩;have e37:a.tmps.getD 37 undef=u 9:=ha 37;have h9:=(show(fun x w'=>x= .tuple #[.pointer none, .iface 45 (.int .i64 cc)]∧dA wa w' base d F1 A2) (u 9) w1 from h9);dsimp only at h9;clear ha;obtain⟨e9, -⟩:=h9;rw[e9]at e37;go_simp
    exact hK _ rfl
   refine Lo.done [10,11] (fun u w1 bI hSd hF=>?_);have hSd:=(show(fun w'=>aj w' base d F1 A1∨True) w1 from hSd);dsimp only at hSd;obtain⟨f10,f11, -⟩:=hF;have d10:=(show(fun x w'=>x= .pointer none∧dA wa w' base d F1 A2) (u 10) w1 from f10);dsimp only at d10;have d11:u 11=_:=f11;clear f10 f11;simp only[List.take_succ_cons,List.take_zero,List.drop_succ_cons,List.drop_zero,ax,Act.put,List.setIfInBounds_toArray,List.set_cons_succ,List.set_cons_zero,Nat.zero_add,Nat.reduceAdd,d11];obtain⟨e10,agP⟩:=d10;rw[e10];have HD:=hide (Jp Ud.out Xj.out agP);clear d11 e10 agP bI hSd;go_wp2
   go_ret2
   have e0:eQ A B=A1.make B:=Qs.out;rw[e0,HRR.out,HA2.out];exact .inl ⟨by rw[←Pg.out];exact BU.out,rfl,HD.out⟩
  ·have ac8:cc=0:=Classical.not_not.1 hne
   have BU:=hide ac8;clear hne ac8 hcc;go_wp2
   refine bP 12 (Turn F1) (Turn []) (fun k w=>match k with|0=>(fun w'=>aj w' base d F1 A1) w|_=>(fun w'=>aj w' base d F1 A1∨True) w) [9] (by kernel_rfl) (by kernel_rfl) (by kernel_rfl) (by kernel_rfl) (by kernel_rfl) (by kernel_rfl) (Nat.le_of_ble_eq_true rfl) (by decide) rfl (Turn.refl _) (fun _ _ _ h k=>h.same k) (fun _ _ h=>h.mono (by simp)) ?_ ?_ ?_
   ·intro k a b hk hR
    match k,hk with
    |0,hk=>
     have hk:=(show(fun w'=>aj w' base d F1 A1) a from hk);dsimp only at hk;show(fun w'=>aj w' base d F1 A1) b;dsimp only;first|exact hk.kept hR (by simp)|exact .inr trivial
    |_+1,hk=>
     have hk:=(show(fun w'=>aj w' base d F1 A1∨True) a from hk);dsimp only at hk;show(fun w'=>aj w' base d F1 A1∨True) b;dsimp only;first|exact hk.kept hR (by simp)|exact .inr trivial
   ·show(fun w'=>aj w' base d F1 A1) _
    dsimp only;exact DW.out.disk.kept ((Turn.refl [] wa).drew) (by simp)
   apply Lo.r0 1 rfl 0 (by intro u;conv=>lhs;whnf) rfl
   ·intro a w1 hR e0 K hK
    go_simp
    exact hK _ rfl
   apply Lo.r1 2 rfl 28 0 (fun _=>rfl) rfl (by kernel_rfl)
   ·intro a w1 hR e28 K hK
    go_simp
    exact hK _ rfl
   apply Lo.r1 3 rfl 29 1 (fun _=>rfl) rfl (by kernel_rfl)
   ·intro a w1 hR e29 K hK
    go_simp
    exact hK _ rfl
   apply Lo.r1 4 rfl 30 2 (fun _=>rfl) rfl (by kernel_rfl)
   ·intro a w1 hR e30 K hK
    have hb:=(((Turn.refl [] wa).drew.mono (T:=F1) (by simp)).same hR).heap DW.out.jh.box (DW.out.sep sb (by simp[aA]));have c0:w1.cell? ⟨sb,0,none⟩=some (.pointer (some ⟨d,0,none⟩)):=by rw[cell_of hb];rfl
    have z1:=lt_of_heap hb;go_simp
    exact hK _ rfl
   apply Lo.r0 5 rfl 4 (by intro u;conv=>lhs;whnf) rfl
   ·intro a w1 hR e4 K hK
    go_simp
    exact hK _ rfl
   apply Lo.r0 6 rfl 0 (by intro u;conv=>lhs;whnf) rfl
   ·intro a w1 hR e0 K hK
    go_simp
    exact hK _ rfl
   apply Lo.r1 7 rfl 33 5 (fun _=>rfl) rfl (by kernel_rfl)
   ·intro a w1 hR e33 K hK
    go_simp
    exact hK _ rfl
   apply Lo.r1 8 rfl 34 6 (fun _=>rfl) rfl (by kernel_rfl)
   ·intro a w1 hR e34 K hK
    go_simp
    exact hK _ rfl
   apply Lo.r1 9 rfl 35 7 (fun _=>rfl) rfl (by kernel_rfl)
   ·intro a w1 hR e35 K hK
    have hb:=(((Turn.refl [] wa).drew.mono (T:=F1) (by simp)).same hR).heap DW.out.jh.box (DW.out.sep sb (by simp[aA]));have c0:w1.cell? ⟨sb,2,none⟩=some (.int .i64 b0):=by rw[cell_of hb];rfl
    have z1:=lt_of_heap hb;go_simp
    exact hK _ rfl
   refine Lo.je 10 rfl 0 rfl [3,4,8] (fun x w'=>∃s2,x= .tuple #[.pointer (some ⟨s2,0,none⟩), .nilIface]∧dK wa w' base d F1 A2 s2 B b0) (by kernel_rfl) (fun x w w' h hR=>?_) (.inl (by kernel_rfl)) (fun u w1 hR hS hF=>?_) ?_
   ·obtain⟨s2,e,h⟩:=h;exact⟨s2,e,iI h hR⟩
   ·obtain⟨h3,h4,h8, -⟩:=hF
    have hS:=(show(fun w'=>aj w' base d F1 A1) w1 from hS);dsimp only at hS;refine⟨rfl,fun a ha K hK=>?_⟩;have e31:=(ha 31).trans h3;have e32:=(ha 32).trans h4;have e36:=(ha 36).trans h8;clear ha h3 h4 h8;go_simp
    have hr0:=((Turn.refl [] wa).drew.mono (T:=F1) (by simp)).same hR;refine(empty_any w1 base d F1 A1 hS B Ko.out b0).mono ?_;rintro e w2 (⟨hne, -⟩|⟨he,s2,rfl,hfr⟩)
    ·exact absurd (Pg.out.symm.trans BU.out) hne
    ·rw[HA2.out]at hfr
     exact hK _ _ ⟨s2,rfl,tu hr0 hfr⟩ (vz hfr) (.inr trivial)
   refine Lo.late 11 rfl rfl [9] (fun x w'=>∃s2,x= .pointer (some ⟨s2,0,none⟩)∧dK wa w' base d F1 A2 s2 B b0) (by kernel_rfl) (fun x w w' h hR=>?_) (by kernel_rfl) (fun u w1 hR hF=>?_) ?_
   ·obtain⟨s2,e,h⟩:=h;exact⟨s2,e,iI h hR⟩
   ·obtain⟨h9, -⟩:=hF
    refine⟨rfl,fun a ha K hK=>?_⟩;have e37:a.tmps.getD 37 undef=u 9:=ha 37;have h9:=(show(fun x w'=>∃s2,x= .tuple #[.pointer (some ⟨s2,0,none⟩), .nilIface]∧dK wa w' base d F1 A2 s2 B b0) (u 9) w1 from h9);dsimp only at h9;clear ha;obtain⟨s2,e9,BZ⟩:=h9;rw[e9]at e37;go_simp
    exact hK _ _ ⟨s2,rfl,BZ⟩ (Turn.refl _ _)
   refine Lo.df 12 rfl rfl [9] (.nilIface) (by kernel_rfl) (fun u w1 hR hF=>?_) (Turn.refl _) ?_
   ·obtain⟨h9, -⟩:=hF
    refine⟨rfl,fun a ha K hK=>?_⟩;have e37:a.tmps.getD 37 undef=u 9:=ha 37;have h9:=(show(fun x w'=>∃s2,x= .tuple #[.pointer (some ⟨s2,0,none⟩), .nilIface]∧dK wa w' base d F1 A2 s2 B b0) (u 9) w1 from h9);dsimp only at h9;clear ha;obtain⟨s2,e9, -⟩:=h9;rw[e9]at e37;go_simp
    exact hK _ rfl
   refine Lo.done [10,11] (fun u w1 bI hSd hF=>?_);have hSd:=(show(fun w'=>aj w' base d F1 A1∨True) w1 from hSd);dsimp only at hSd;obtain⟨f10,f11, -⟩:=hF;have d10:=(show(fun x w'=>∃s2,x= .pointer (some ⟨s2,0,none⟩)∧dK wa w' base d F1 A2 s2 B b0) (u 10) w1 from f10);dsimp only at d10;have d11:u 11=_:=f11;clear f10 f11;simp only[List.take_succ_cons,List.take_zero,List.drop_succ_cons,List.drop_zero,ax,Act.put,List.setIfInBounds_toArray,List.set_cons_succ,List.set_cons_zero,Nat.zero_add,Nat.reduceAdd,d11];obtain⟨s2,e10,agQ⟩:=d10;rw[e10];have HD:=hide (DV Ud.out Xj.out agQ);clear d11 e10 agQ bI hSd;go_wp2
   go_ret2
   have e0:eQ A B=A1.make B:=Qs.out;rw[e0,HA2.out];exact .inr ⟨by rw[←Pg.out];exact BU.out,s2,rfl,HD.out⟩
end Lg
end
section
set_option maxRecDepth 100000
attribute [local go_sem] Oper.semAt_some
open Dk (DA aj Parts dA aC bQ)
open Sg (aS aA dV Both Came ae flat Chain iG BV Least WO dh)
namespace Lg
theorem Lr(w:World)(lb:Nat):Calls Tryz.prog 32 #[.pointer (some ⟨lb,0,none⟩), .nilIface] w fun e w'=>e= .returned .nilIface∧w=w':=by
 go_enter Tryz.func32,Tryz.ntmps32
 go_wp2_with fail
 refine(As.Jm w).mono ?_;rintro e w1 ⟨rfl,rfl⟩;go_wp2
 go_ret
 exact⟨rfl,rfl⟩
def dS(A:DA)(dir:ByteArray)(v:LV)(m:Nat×List Bt.aB):Int×DA×LV:=
 ((A.sync (Sn.nameB dir m.1).data.toList).1,(A.sync (Sn.nameB dir m.1).data.toList).2,fF (A.sync (Sn.nameB dir m.1).data.toList).1 (jH (A.sync (Sn.nameB dir m.1).data.toList).1 v (ae m.1 m.2)))
theorem Fz(w:World)(base d:Nat)(F:List Nat)(A:DA)(lb:Nat)(gv:Value)(dir:ByteArray)(v:LV)(ms0:List SM)(m:SM)(h:az w base d F A lb gv dir v (ms0++[m]))(hl:ms0.length≤1000000)(hx:m.xs.length≤1000000)(hfs:(Sn.nameB dir m.n).size≤maxLen)(hd:v.down=false)
 (hg:∀Z,Turn (aJ F lb gv (ms0++[m])) w Z→As.iq Z):
 Calls Tryz.prog 21 #[.pointer (some ⟨lb,0,none⟩)] w fun e w'=>e= .returned (aC (dS A dir v m.abs).1)∧
  ig w w' base d (aJ F lb gv (ms0++[m])) (dS A dir v m.abs).2.1 lb dir (dS A dir v m.abs).2.2 ((ms0++[m]).map SM.abs):=by
 have hs:=ku w base d F A lb gv dir v ms0 m h hl hx hfs;have c6:=h.c6;rw[hd]at c6;have hlb:=lt_of_heap h.box;have HG:=hide hg;unfold dS;rw[show m.abs.1=m.n from rfl,show m.abs.2=m.xs from rfl];obtain⟨c,hc⟩:∃c,c=(A.sync (Sn.nameB dir m.n).data.toList).1:=⟨_,rfl⟩;rw[←hc]at hs⊢;have HS:=hide hs;clear hs hc h hg hd;by_cases h0:c=0
 ·subst h0
  rw[show aC 0= .nilIface from rfl]at HS⊢;go_enter Tryz.func21,Tryz.ntmps21
  go_wp2_with fail
  refine HS.out.mono ?_;rintro e w1 ⟨rfl,hd1⟩;have HD1:=hide hd1;clear hd1 HS;go_wp2_with fail
  refine(Lr w1 lb).mono ?_;rintro e w2 ⟨rfl,rfl⟩;go_wp2
  go_ret
  have e:∀v:LV,fF 0 v=v:=fun v=>by unfold fF;rw[if_neg (by omega)]
  rw[e];exact⟨rfl,HD1.out⟩
 ·have hr:aC c= .iface 45 (.int .i64 c):=by unfold aC;rw[if_neg h0];rfl
  rw[hr]at HS⊢;clear hr;go_enter Tryz.func21,Tryz.ntmps21
  go_wp2_with fail
  refine HS.out.mono ?_;rintro e w1 ⟨rfl,F1,gv1,ms1,hl1,hm1,ht1,hf1⟩;have hn:=rD w1 base d F1 _ lb gv1 dir _ ms1 hl1 c (HG.out w1 ht1);have HN:=hide hn;have HM1:=hide hm1;have HT1:=hide ht1;have HF1:=hide hf1;clear hn hl1 hm1 ht1 hf1 HS;go_wp2_with fail
  refine HN.out.mono ?_;rintro e w2 ⟨rfl,F2,gv2,ms2,hl2,hm2,ht2,hf2⟩;have hd:ig w w2 base d (aJ F lb gv (ms0++[m])) (A.sync (Sn.nameB dir m.n).data.toList).2 lb dir (fF c (jH c v (ae (m.n:Int) m.xs))) ((ms0++[m]).map SM.abs):=
   ⟨F2,gv2,ms2,hl2,hm2.trans HM1.out,HT1.out.trans ht2 (fun k hk=>HF1.out k hk),fun k hk=>by
     rcases hf2 k hk with h|h
     ·exact HF1.out k h
     ·exact .inr (Nat.le_trans HT1.out.size h)⟩
  have HD:=hide hd;clear hd hl2 hm2 ht2 hf2 HN;go_wp2
  go_ret
  exact⟨rfl,HD.out⟩
theorem SH{zs:List Bt.aB}{b:Int}(hc:Chain b zs){most:Int}(hm:((flat zs).length:Int)≤most){m k:Nat}(hl:Least zs.length (dh zs b) m)(hs:WO most (zs.drop m) k):(zs.drop m).take k=zs:=by
 have hm0:m=0:=by
  obtain⟨h1,h2, -⟩:=hl;rcases Nat.eq_zero_or_pos m with h|h
  ·exact h
  ·have h3:=h2 0 h
   unfold dh at h3;rw[List.getElem?_eq_getElem (by omega)]at h3;have h4:=Sg.kM hc zs[0] (List.getElem_mem _);simp at h3;omega
 subst hm0;rw[List.drop_zero]at hs⊢;obtain⟨h1, -,h3⟩:=hs;rcases Nat.lt_or_ge k zs.length with h|h
 ·obtain⟨-,h4⟩:=h3 h
  have h5:=congrArg List.length (Sg.qw zs (k+1));rw[List.length_take]at h5;omega
 ·exact List.take_of_length_le h
theorem FB(w:World)(base d:Nat)(F:List Nat)(A:DA)(sb:Nat)(sv:Value)(file:ByteArray)(n:Nat)(xs:List Bt.aB)(h:Both w base d F A sb sv file n (dV 0 (-1) xs))(hfs:file.size≤maxLen)(f:Dk.FA)(hf:A.file file.data.toList=some f)(hfb:f.bytes=flat xs)(hch:Chain n xs):
 Calls Tryz.prog 111 #[.pointer (some ⟨sb,0,none⟩)] w fun e w'=>∃lv ys,e= .returned (.tuple #[lv, .nilIface])∧iG w' w.heap.size lv ys∧ys.map (·.x)=xs∧Turn [] w w':=by
 have hfl:=Sg.dw xs;have WQ:=Sg.oO h.disk hf;rw[hfb]at WQ;have hb0:=Sg.jP w base d sb sv file n _ h.jh;have hsz:=Sg.size_any w base d sb sv file n _ h.jh (by rw[Sg.gW];omega) (by rw[Sg.dP];omega);rw[Sg.dP]at hsz;have hrd:=fun(Z:World) (hZ:Turn [] w Z)=>Sg.Jb Z base d F A sb sv file n xs (h.still hZ) hfs f hf hfb hch (n:Int) ((flat xs).length:Int) (by omega)
 have HB0:=hide hb0;have Rx:=hide hsz;have DF:=hide hrd;have KU:=hide hch;clear h hf hfb hch hb0 hsz hrd;go_enter Tryz.func111,Tryz.ntmps111
 go_wp2_with fail
 refine HB0.out.mono ?_;rintro e w1 ⟨rfl,rfl⟩;go_wp2_with fail
 refine Rx.out.mono ?_;rintro e w2 ⟨rfl,ht2⟩;have HT2:=hide ht2;clear ht2;go_wp2_with fail
 refine(DF.out w2 HT2.out).mono ?_;rintro e w3 ⟨lv,ys,m,k,rfl,hle,hbr,hym,hse,ht3⟩;have hys:ys.map (·.x)=xs:=hym.trans (SH KU.out (Int.le_refl _) hle hse);have ak0:iG w3 w.heap.size lv ys:=⟨hbr.row.jA HT2.out.size,fun y hy=>(hbr.recs y hy).jA HT2.out.size,hbr.ok,hbr.apart⟩;have NP:=hide hys;have xm:=hide ak0;have HT3:=hide (HT2.out.same ht3);clear hle hbr hym hse ht3 hys ak0 DF Rx HB0;go_wp2
 go_ret2
 exact⟨lv,ys,rfl,xm.out,NP.out,HT3.out⟩
end Lg
end
section
set_option maxRecDepth 100000
attribute [local go_sem] Oper.semAt_some
open Dk (DA aj Parts dA aC bQ)
namespace Lg
def pO(w:World)(mb n:Nat)(f:List UInt8→Int):Prop:=
 ∃D:DataW Unit,w.ownsMap Tryz.prog 9 (plainElem Tryz.prog 3) mb n D∧∀nm,D.atKey (.string nm) (.lit (.int .i64 0))= .lit (.int .i64 (f nm))
theorem Zh(w:World):(zeroValue 3).run Tryz.prog w= .ok (.int .i64 0) w:=by kernel_rfl
theorem pO.kept{w w':World}{mb n:Nat}{f:List UInt8→Int}{S:List Nat}(h:pO w mb n f)(ht:Turn S w w')(hn:mb∉S):pO w' mb n f:=by
 obtain⟨D,h1,h2⟩:=h;exact⟨D,Dk.wE h1 ht hn,h2⟩
theorem pO.still{w w':World}{mb n:Nat}{f:List UInt8→Int}(h:pO w mb n f)(ht:Turn [] w w'):pO w' mb n f:=h.kept ht (by simp)
theorem pO.made(w:World):pO (w.alloc (.map #[] 0)) w.heap.size 0 (fun _=>0):=
 ⟨.map [],World.ownsMap_made _ _ _ _,fun nm=>rfl⟩
theorem pO.look{w:World}{mb n:Nat}{f:List UInt8→Int}(h:pO w mb n f){s:ByteArray}(hs:s.size≤maxLen):(Instr.lookup 90 (.map (some mb)) (.string s) false).run Tryz.prog w= .ok (.int .i64 (f s.data.toList)) w:=by
 obtain⟨D,h1,h2⟩:=h;obtain⟨c,acY,hat, -⟩:=h1.lookup_int Dk.law Tryz.underlying90 Tryz.underlying3 (Zh w) (Dk.keyS hs);have e:=(h2 s.data.toList).symm.trans hat;simp only[DataW.lit.injEq,Lit.int.injEq,true_and]at e;rw[acY,e]
theorem pO.put{w:World}{mb n:Nat}{f:List UInt8→Int}(h:pO w mb n f)(hn:n<maxLen){s:ByteArray}(hs:s.size≤maxLen){v:Int}(hv:(Lit.int .i64 v).wf=true):
 ∃w',(Instr.mapUpdate 90 (.map (some mb)) (.string s) (.int .i64 v)).run Tryz.prog w= .ok () w'∧pO w' mb (n+1) (fun x=>if x=s.data.toList then v else f x)∧Turn [mb] w w':=by
 obtain⟨D,h1,h2⟩:=h;obtain⟨w',acY,ho,hg⟩:=h1.update Dk.law Tryz.underlying90 hn (Dk.keyS hs) (plainElem_int Tryz.underlying3 hv);refine⟨w',acY,⟨_,ho,fun nm=>?_⟩,(Turn.refl _ _).grown hg (by intro k hk;cases hk;exact .inl (by simp))⟩;show _=DataW.lit (Lit.int .i64 (if nm=s.data.toList then v else f nm));by_cases e:nm=s.data.toList
 ·subst e
  rw[if_pos rfl];exact atKey_put_same h1.isMap (Dk.isKey _) _ _
 ·rw[if_neg e,atKey_put_other (Dk.Gw e)]
  exact h2 nm
structure mV(w:World)(B0 B1 B2 mb n:Nat)(f:List UInt8→Int)(now ak:Int):Prop where
 b0:w.heap[B0]? =some (.cells #[.map (some mb)] 90 (0,0))
 b1:w.heap[B1]? =some (.cells #[.int .i64 now] 3 (0,0))
 b2:w.heap[B2]? =some (.cells #[.int .i64 ak] 3 (0,0))
 map:pO w mb n f
theorem mV.still{w w':World}{B0 B1 B2 mb n:Nat}{f:List UInt8→Int}{now ak:Int}(h:mV w B0 B1 B2 mb n f now ak)(ht:Turn [] w w'):mV w' B0 B1 B2 mb n f now ak:=
 ⟨ht.heap h.b0 (by simp),ht.heap h.b1 (by simp),ht.heap h.b2 (by simp),h.map.still ht⟩
theorem mV.cells{w:World}{B0 B1 B2 mb n:Nat}{f:List UInt8→Int}{now ak:Int}(h:mV w B0 B1 B2 mb n f now ak):w.cell? ⟨B0,0,none⟩=some (.map (some mb))∧w.cell? ⟨B1,0,none⟩=some (.int .i64 now)∧w.cell? ⟨B2,0,none⟩=some (.int .i64 ak):=
 ⟨by rw[cell_of h.b0];rfl,by rw[cell_of h.b1];rfl,by rw[cell_of h.b2];rfl⟩
def jf(f:List UInt8→Int)(now ak:Int)(r:Bt.Rec):Bool:=r.keyed&&(decide (r.off<f r.key)||(r.gone&&decide (r.time<wrap64 (now-ak))))
theorem FC(w:World)(B0 B1 B2 mb n:Nat)(f:List UInt8→Int)(now ak:Int)(h:mV w B0 B1 B2 mb n f now ak)(r:Bt.Rec)(ok:iQ r):
 Calls Tryz.prog 76 #[.agg (recC r).toArray, .pointer (some ⟨B0,0,none⟩), .pointer (some ⟨B1,0,none⟩), .pointer (some ⟨B2,0,none⟩)] w fun e w'=>e= .returned (.bool (jf f now ak r))∧Turn [] w w':=by
 have hm:maxLen=9223372036854775807:=by simp[maxLen]
 have ht:Turn [] w (w.alloc (.cells (recC r).toArray 52)):=(Turn.refl _ _).alloc _;obtain⟨k0,k1,k2⟩:=h.cells;have acf:=ai w (.cells (recC r).toArray 52);have r0:(w.alloc (.cells (recC r).toArray 52)).cell? ⟨w.heap.size,0,none⟩=some (.int .i64 r.off):=by rw[cell_of acf];rfl
 have r1:(w.alloc (.cells (recC r).toArray 52)).cell? ⟨w.heap.size,1,none⟩=some (.int .i64 r.time):=by rw[cell_of acf];rfl
 have r2:(w.alloc (.cells (recC r).toArray 52)).cell? ⟨w.heap.size,2,none⟩=some (.bool r.keyed):=by rw[cell_of acf];rfl
 have r3:(w.alloc (.cells (recC r).toArray 52)).cell? ⟨w.heap.size,3,none⟩=some (.string ⟨r.key.toArray⟩):=by rw[cell_of acf];rfl
 have r4:(w.alloc (.cells (recC r).toArray 52)).cell? ⟨w.heap.size,4,none⟩=some (.bool r.gone):=by rw[cell_of acf];rfl
 have hlk:=(h.still ht).map.look (s:=⟨r.key.toArray⟩) (by rw[hm];show r.key.toArray.size≤_;simpa using ok.key);rw[show(⟨r.key.toArray⟩:ByteArray).data.toList=r.key from by simp]at hlk;have z0:=lt_of_heap h.b0;have z1:=lt_of_heap h.b1;have z2:=lt_of_heap h.b2;have HT:=hide ht;have HV:Hid (jf f now ak r=(r.keyed&&(decide (r.off<f r.key)||(r.gone&&decide (r.time<wrap64 (now-ak)))))):=rfl;obtain⟨X,hX⟩:∃X,X=f r.key:=⟨_,rfl⟩;rw[←hX]at hlk HV;clear h acf ht hX ok;unfold recC eU at*;rw[HV.out];generalize r.keyed=kb at*
 generalize r.gone=gb at*
 clear HV HT;cases kb
 ·go_enter Tryz.func76,Tryz.ntmps76
  go_wp2
  go_ret
  exact⟨rfl,(Turn.refl [] w).alloc _⟩
 ·by_cases ho:r.off<X
  ·have hd:decide (r.off<X)=true:=by simpa using ho
   rw[hd];clear hd;go_enter Tryz.func76,Tryz.ntmps76
   go_wp2
   go_ret
   exact⟨rfl,(Turn.refl [] w).alloc _⟩
  ·have hd:decide (r.off<X)=false:=by simpa using ho
   rw[hd];clear hd;cases gb
   ·go_enter Tryz.func76,Tryz.ntmps76
    go_wp2
    go_ret
    exact⟨rfl,(Turn.refl [] w).alloc _⟩
   ·go_enter Tryz.func76,Tryz.ntmps76
    go_wp2
    go_ret
    exact⟨by simp,(Turn.refl [] w).alloc _⟩
end Lg
end
end Go.Proofs.YtficbckncieabaaGreatDoor
