/- Lemmas of the claim, part m of 14. -/
import Derived.Test.YtficbckncieabaaGreatDoorMl
import Derived.Test.YtficbckncieabaaGreatDoorMi
import Derived.Test.YtficbckncieabaaGreatDoorMf
import Derived.Deep.CutRange
set_option maxHeartbeats 16000000
namespace Go.Proofs.YtficbckncieabaaGreatDoor
open Go.RowKit Go.Maps
set_option maxRecDepth 100000
set_option linter.unusedSimpArgs false
set_option linter.unusedVariables false
section
set_option linter.unusedSectionVars false
open Dk (DA FA aj Parts dA aC bQ)
open Sg (aS aA dV Both Came ae flat Chain)
namespace Lg
def pY(W w:World)(d wb mo i:Nat):Prop:=∃(lb:Nat) (F:List Nat) (A:DA) (gv:Value) (v:LV) (ms0:List SM) (m:SM) (X:List FA) (y:LW) (va vg vm ve:Value) (js n:Nat),
 az w W.heap.size d F A lb gv aX v (ms0++[m])∧bY w W.heap.size wb d lb (mo:Int) va vg vm ve y∧kF A v (ms0.map SM.abs) m.abs js n i mo X y∧Turn [] W w
def nO(W w:World)(d wb lb mo i:Nat)(va vg vm ve:Value)(y:LW)(c:Int):Prop:=∃(F:List Nat) (A:DA) (gv:Value) (v:LV) (ms0:List SM) (m:SM) (X:List FA) (js n:Nat),
 az w W.heap.size d F A lb gv aX v (ms0++[m])∧bY w W.heap.size wb d lb (mo:Int) va vg vm ve y∧Turn [] W w∧
 ((c=0∧y.down=false∧kF A v (ms0.map SM.abs) m.abs js n (i+1) mo X {y with ends:=y.ends++[n],safe:=max y.safe v.safe,start:=v.start})∨
  (c≠0∧(c=6→y.down=true)∧kF A v (ms0.map SM.abs) m.abs js n (i+1) mo X {y with down:=if c=14 then true else y.down}))
def oV(W w:World)(d wb lb mo i:Nat)(va vg vm ve:Value)(y y2:LW):Prop:=∃(F:List Nat) (A:DA) (gv:Value) (v:LV) (ms0:List SM) (m:SM) (X:List FA) (js n:Nat),
 az w W.heap.size d F A lb gv aX v (ms0++[m])∧bY w W.heap.size wb d lb (mo:Int) va vg vm ve y∧Turn [] W w∧y2.down=false∧
 kF A v (ms0.map SM.abs) m.abs js n (i+1) mo X {y2 with ends:=y2.ends++[n],safe:=max y2.safe v.safe,start:=v.start}
theorem MR(x:Bt.aB):Bt.aQ x≠6:=by
 have aaK:∀(rs:List Bt.Rec) (lo hi:Int),Bt.bG rs lo hi≤4:=by
  intro rs;induction rs with
  |nil=>intro lo hi;simp[Bt.bG]
  |cons r rs ih=>
   intro lo hi;unfold Bt.bG;split
   ·exact ih _ _
   ·unfold Bt.dR
    split
    ·omega
    ·split
     ·omega
     ·split<;>omega
 have hc:Bt.chk x≤4:=by
  unfold Bt.chk;split
  ·omega
  ·split
   ·omega
   ·split
    ·omega
    ·exact aaK _ _ _
 unfold Bt.aQ;split
 ·split<;>omega
 ·omega
section
variable {W w w':World} {d wb lb mo i n js:Nat} {va vg vm ve:Value} {y:LW} {c:Int} {F:List Nat} {A A':DA} {gv:Value} {v v':LV} {ms0:List SM} {m:SM} {X X':List FA}
theorem bY.ge{base:Nat}{mo:Int}(h:bY w base wb d lb mo va vg vm ve y):∀k∈jg wb va vg vm ve,base≤k:=by
 intro k hk;rcases bV.1 hk with rfl|hk|hk|hk|hk
 ·exact h.low
 ·exact(h.kT.lt k hk).1
 ·exact(h.fV.lt k hk).1
 ·exact(h.nH.lt k hk).1
 ·exact(h.lU.lt k hk).1
theorem nO.still(h:nO W w d wb lb mo i va vg vm ve y c)(ht:Turn [] w w'):nO W w' d wb lb mo i va vg vm ve y c:=by
 obtain⟨F,A,gv,v,ms0,m,X,js,n,h1,h2,h3,h4⟩:=h;exact⟨F,A,gv,v,ms0,m,X,js,n,h1.still ht,h2.still ht,h3.same ht,h4⟩
theorem oV.out(h:oV W w d wb lb mo i va vg vm ve y y):nO W w d wb lb mo i va vg vm ve y 0:=by
 obtain⟨F,A,gv,v,ms0,m,X,js,n,h1,h2,h3,h4,h5⟩:=h;exact⟨F,A,gv,v,ms0,m,X,js,n,h1,h2,h3, .inl ⟨rfl,h4,h5⟩⟩
theorem oV.still{y2:LW}(h:oV W w d wb lb mo i va vg vm ve y y2)(ht:Turn [] w w'):oV W w' d wb lb mo i va vg vm ve y y2:=by
 obtain⟨F,A,gv,v,ms0,m,X,js,n,h1,h2,h3,h4⟩:=h;exact⟨F,A,gv,v,ms0,m,X,js,n,h1.still ht,h2.still ht,h3.same ht,h4⟩
theorem oV.law{y2:LW}(h:oV W w d wb lb mo i va vg vm ve y y2):bY w W.heap.size wb d lb (mo:Int) va vg vm ve y∧Turn [] W w:=by
 obtain⟨F,A,gv,v,ms0,m,X,js,n,h1,h2,h3,h4⟩:=h;exact⟨h2,h3⟩
theorem kF.xs(h:kF A v (ms0.map SM.abs) m.abs js n i mo X y)(hi:i≤100):ms0.length≤100∧m.xs.length≤600000∧y.ends.length≤101:=by
 have h1:=h.sl;have h2:=h.fl;have h3:=h.el;have h4:=Sg.dw m.xs;rw[aV,Sg.aP,List.length_append]at h2;rw[List.length_map]at h1;have h5:(flat m.abs.2).length=(flat m.xs).length:=rfl;omega
theorem kF.nx(h:kF A v (ms0.map SM.abs) m.abs js n i mo X y):ae m.n m.xs=(n:Int):=h.inv.qm.next
theorem kF.okS(h:kF A v (ms0.map SM.abs) m.abs js n i mo X y)(hi:i≤100):sW A aX ((ms0++[m]).map SM.abs):=by
 have h1:=h.sl;rw[List.map_append];exact h.inv.ok (by simp at h1⊢;omega)
theorem kF.ndS(h:kF A v (ms0.map SM.abs) m.abs js n i mo X y):(((ms0++[m]).map SM.abs).map (·.1)).Nodup:=by
 rw[List.map_append];exact h.inv.nd
theorem yj(hw:bY w W.heap.size wb d lb (mo:Int) va vg vm ve y)(hl:az w W.heap.size d F A lb gv aX v (ms0++[m]))(ht:Turn [] W w){ss':List (Nat×List Bt.aB)}{m':Nat×List Bt.aB}
 (hd:ig w w' W.heap.size d (aJ F lb gv (ms0++[m])) A' lb aX v' (ss'++[m']))
 (h:(c=0∧y.down=false∧kF A' v' ss' m' js n i mo X' y)∨(c≠0∧(c=6→y.down=true)∧kF A' v' ss' m' js n i mo X' {y with down:=if c=14 then true else y.down})):
 nO W w' d wb lb mo i va vg vm ve y c:=by
 have hw':=hw.kept hd.turn (fun k hk=>hw.apart hl k hk);obtain⟨F',gv',ms',hl',hm',ht',hf'⟩:=hd;obtain⟨ms0',q,rfl,rfl,rfl⟩:=dB hm';refine⟨F',A',gv',v',ms0',q,X',js,n,hl',hw',ht.trans ht' (fun k hk=> .inr (hl.lt k hk).1),?_⟩;rcases h with⟨h1,h2,h3⟩|⟨h1,h2,h3⟩
 ·exact .inl ⟨h1,h2,h3.VU⟩
 ·exact .inr ⟨h1,h2,h3.more⟩
theorem az.nothing(hl:az w W.heap.size d F A lb gv aX v (ms0++[m]))(ht:Turn [] w w'):ig w w' W.heap.size d (aJ F lb gv (ms0++[m])) A lb aX v (ms0.map SM.abs++[m.abs]):=by
 have h:=hl.quiet ht;rw[List.map_append]at h;exact h
theorem Gf{c:Int}(hc:c≠14):({y with down:=if c=14 then true else y.down}:LW)=y:=by rw[if_neg hc]
theorem tN(hw:bY w W.heap.size wb d lb (mo:Int) va vg vm ve y)(hl:az w W.heap.size d F A lb gv aX v (ms0++[m]))(ht:Turn [] W w)(hc:kF A v (ms0.map SM.abs) m.abs js n i mo X y)(hd:v.down=true)(h0:Turn [] w w'):nO W w' d wb lb mo i va vg vm ve y 6:=
 yj hw hl ht (hl.nothing h0) (.inr ⟨by decide,fun _=>hc.dn.trans hd,by rw[Gf (by decide)];exact hc⟩)
theorem kU(h:nO W w d wb lb mo i va vg vm ve y c)(hi:i≤60)(hg:As.iq w):
 Calls Tryz.prog 26 #[.pointer (some ⟨wb,0,none⟩),aC c] w fun e w'=>e= .returned (.bool true)∧pY W w' d wb mo (i+1):=by
 obtain⟨F,A,gv,v,ms0,m,X,js,n,hl,hw,ht,h⟩:=h;rcases h with⟨rfl,hd,hc⟩|⟨h0,h6,hc⟩
 ·obtain⟨x1,x2,x3⟩:=hc.xs (by omega)
  simp only[List.length_append,List.length_singleton]at x3;refine(TD w _ wb d lb mo va vg vm ve y hw hd F A gv aX v ms0 m hl (by omega) (by omega) n hc.nx (by omega)).mono ?_;rintro e w' ⟨ve',rfl,hw',ht', -⟩;exact⟨rfl,lb,F,A,gv,v,ms0,m,X,_,va,vg,vm,ve',js,n,hl.kept ht' (fun k hk hm=>hw.apart hl k hm hk),hw',hc,ht.trans ht' (fun k hk=> .inr (hw.ge k hk))⟩
 ·have e:aC c=bQ c:=by unfold Dk.aC;rw[if_neg h0]
  rw[e];refine(TE w _ wb d lb mo va vg vm ve y hw hg c h0).mono ?_;rintro e w' ⟨rfl,hw',ht'⟩;refine⟨?_,lb,F,A,gv,v,ms0,m,X,_,va,vg,vm,ve,js,n,hl.kept ht' (fun k hk hm=>hw.apart hl k (bV.2 (.inl (List.mem_singleton.1 hm))) hk),hw',hc,ht.trans ht' (fun k hk=> .inr (hw.ge k (bV.2 (.inl (List.mem_singleton.1 hk)))))⟩;by_cases h:c=6
  ·rw[if_pos h,h6 h]
  ·rw[if_neg h]
section
variable (hw:bY w W.heap.size wb d lb (mo:Int) va vg vm ve y) (hl:az w W.heap.size d F A lb gv aX v (ms0++[m])) (ht:Turn [] W w) (hc:kF A v (ms0.map SM.abs) m.abs js n i mo X y) (hi:i≤60) (hg:As.iq W)
include hw hl ht hc hi hg
theorem Qj:Calls Tryz.prog 21 #[.pointer (some ⟨lb,0,none⟩)] w fun e w'=>∃c,e= .returned (aC c)∧nO W w' d wb lb mo i va vg vm ve y c:=by
 have hgz:∀Z,Turn (aJ F lb gv (ms0++[m])) w Z→As.iq Z:=fun Z hZ=>hg.below ((ht.trans hZ (fun k hk=> .inr (hl.lt k hk).1)).nil)
 cases hd:v.down with
 |true=>
  refine(MO w _ d F A lb gv aX v _ hl hd).mono ?_;rintro e w' ⟨rfl,h⟩;exact⟨6,rfl,tN hw hl ht hc hd h⟩
 |false=>
  obtain⟨x1,x2,x3⟩:=hc.xs (by omega)
  refine(Fz w _ d F A lb gv aX v ms0 m hl (by omega) (by omega) (by have:=vF (dir:=aX) (hc.inv.qm.base m.abs (by simp)) (by decide);have hmx:maxLen=9223372036854775807:=by simp[maxLen]
                                                                    show(Sn.nameB aX m.abs.1).size≤maxLen;omega) hd hgz).mono ?_
  rintro e w' ⟨rfl,h⟩;rw[List.map_append,List.map_singleton]at h;rcases hc.inv.Tv v hc.sk with⟨-,A',e1,h1, -⟩|⟨-,e1⟩
  ·rw[e1]at h⊢
   exact⟨0,rfl,yj hw hl ht h (.inl ⟨rfl,hc.dn.trans hd,hc.Vd h1⟩)⟩
  ·rw[e1]at h⊢
   exact⟨14,rfl,yj hw hl ht h (.inr ⟨by decide,fun h=>absurd h (by decide),by rw[if_pos rfl];exact hc.fell⟩)⟩
theorem J3{gr:LV→List (Nat×List Bt.aB)→Bool→Prop}{v0:LV}(h1:v0.most=v.most)(h2:v0.safe=v.safe)(h3:v0.down=v.down)(hd:v.down=false){ss':List (Nat×List Bt.aB)}(h:qM gr aX A v0 ((ms0++[m]).map SM.abs) c A' v' ss')(hdd:ig w w' W.heap.size d (aJ F lb gv (ms0++[m])) A' lb aX v' ss'):nO W w' d wb lb mo i va vg vm ve y c:=by
 rw[List.map_append,List.map_singleton]at h;obtain⟨k,k1,rfl,k3,k4,k5,k6,k7⟩:=hc.inv.aab h rfl;rcases k7 with⟨rfl,k7⟩|⟨rfl,k7, -⟩
 ·exact yj hw hl ht hdd (.inl ⟨rfl,hc.dn.trans hd,hc.dropped k1 k3 (k5.trans h1) (k6.trans h2) (k7.trans h3)⟩)
 ·exact yj hw hl ht hdd (.inr ⟨by decide,fun h=>absurd h (by decide),by rw[if_pos rfl];exact hc.fell.dropped k1 k3 (k5.trans h1) (k6.trans h2) k7⟩)
theorem MS(MF:Nat)(hto:MF≤n):Calls Tryz.prog 22 #[.pointer (some ⟨lb,0,none⟩), .int .i64 (MF:Int)] w fun e w'=>∃c,e= .returned (aC c)∧nO W w' d wb lb mo i va vg vm ve y c:=by
 have hgz:∀Z,Turn (aJ F lb gv (ms0++[m])) w Z→As.iq Z:=fun Z hZ=>hg.below ((ht.trans hZ (fun k hk=> .inr (hl.lt k hk).1)).nil)
 cases hd:v.down with
 |true=>
  refine(JU w _ d F A lb gv aX v _ hl hd _).mono ?_;rintro e w' ⟨rfl,h⟩;exact⟨6,rfl,tN hw hl ht hc hd h⟩
 |false=>
  obtain⟨x1,x2,x3⟩:=hc.xs (by omega);refine(MC w _ d F A lb gv aX v ms0 m hl (by decide) (hc.okS (by omega)) hc.ndS hd (by omega) hgz MF (by rw[hc.nx];omega)).mono ?_;rintro e w' ⟨c,A',v',ss',h,rfl,hdd⟩;exact⟨c,rfl,J3 hw hl ht hc hi hg (v0:={v with start:=max v.start (MF:Int)}) rfl rfl rfl hd h hdd⟩
theorem MV(now ak bytes:Int):Calls Tryz.prog 23 #[.pointer (some ⟨lb,0,none⟩), .int .i64 now, .int .i64 ak, .int .i64 bytes] w fun e w'=>∃x c,e= .returned (.tuple #[.int .i64 x,aC c])∧nO W w' d wb lb mo i va vg vm ve y c∧Turn (aJ F lb gv (ms0++[m])) w w':=by
 have hgz:∀Z,Turn (aJ F lb gv (ms0++[m])) w Z→As.iq Z:=fun Z hZ=>hg.below ((ht.trans hZ (fun k hk=> .inr (hl.lt k hk).1)).nil)
 cases hd:v.down with
 |true=>
  refine(JV w _ d F A lb gv aX v _ hl hd now ak bytes).mono ?_;rintro e w' ⟨rfl,h⟩;exact⟨0,6,rfl,tN hw hl ht hc hd h,h.mono (by simp)⟩
 |false=>
  refine(JW w _ d F A lb gv aX v (ms0++[m]) hl (by simp) (by decide) (hc.okS (by omega)) hc.ndS hd hgz now ak bytes).mono ?_;rintro e w' ⟨c,A',v',ss',x,h,rfl,hdd⟩;exact⟨x,c,rfl,J3 hw hl ht hc hi hg rfl rfl rfl hd h hdd,hdd.turn⟩
theorem Vh(hi6:i<60)(hmo:mo≤1048576)(Qw:Sn.qA W)(vr:Value)(rs:List Bt.Rec)(hrl:rs.length≤60):∃(x c:Int),(c=0→x=(n:Int))∧
 ∀w1,bY w1 W.heap.size wb d lb (mo:Int) va vg vm ve y→az w1 W.heap.size d F A lb gv aX v (ms0++[m])→Turn [] W w1→bF w1 vr rs→
 Calls Tryz.prog 12 #[.pointer (some ⟨lb,0,none⟩),vr] w1 fun e w'=>e= .returned (.tuple #[.int .i64 x,aC c])∧
 ((c=0∧oV W w' d wb lb mo i va vg vm ve y {y with all:=y.all++gp n rs,gone:=y.gone++List.replicate rs.length false,may:=y.may++List.replicate rs.length false})∨(c≠0∧nO W w' d wb lb mo i va vg vm ve y c))∧Turn (aJ F lb gv (ms0++[m])) w1 w':=by
 clear hw hl ht;cases hd:v.down with
 |true=>
  refine⟨0,6,fun h=>absurd h (by decide),fun w1 hw hl ht hr=>?_⟩;refine(SA w1 _ d F A lb gv aX v _ hl hd vr).mono ?_;rintro e w' ⟨rfl,h⟩;subst h;exact⟨rfl, .inr ⟨by decide,tN hw hl ht hc hd (Turn.refl _ _)⟩,Turn.refl _ _⟩
 |false=>
  obtain⟨x1,x2,x3⟩:=hc.xs (by omega);have hfl:=hc.fl;rw[aV,Sg.aP,List.length_append]at hfl;have hf2:(flat m.abs.2).length=(flat m.xs).length:=rfl;have hnn:=hc.nn;have abr:∀w1,az w1 W.heap.size d F A lb gv aX v (ms0++[m])→Turn [] W w1→bF w1 vr rs→_:=fun w1 hl ht hr=>GZ w1 _ d F A lb gv aX v ms0 m hl (by omega) (hc.inv.qm.base m.abs (by simp)) (by decide) (by omega) ⟨by rw[hc.most];omega,by rw[hc.most];omega⟩ hd n (by omega) hc.nx (fun Z hZ=>by
   have h:=(ht.trans hZ (fun k hk=> .inr (hl.lt k hk).1)).nil;exact⟨(Qw.below h).tab,hg.below h⟩) vr rs hr (by omega)
  by_cases hx:Bt.aQ (cO (n:Int) rs)=0
  ·obtain⟨c,A',v',ss0',m',js',e1,h1|h1⟩:=hc.add hd hi6 rs hx hrl
   ·obtain⟨rfl,h2,h3⟩:=h1
    rw[e1]at abr;refine⟨n,0,fun _=>rfl,fun w1 hw hl ht hr=>(abr w1 hl ht hr).mono ?_⟩;rintro e w' ⟨rfl,h⟩;refine⟨rfl, .inl ⟨rfl,?_⟩,h.turn⟩;have hw':=hw.kept h.turn (fun k hk=>hw.apart hl k hk);obtain⟨F',gv',ms',hl',hm',ht',hf'⟩:=h;obtain⟨ms0',q,rfl,rfl,rfl⟩:=dB hm';exact⟨F',A',gv',v',ms0',q,[],js',n+rs.length,hl',hw',ht.trans ht' (fun k hk=> .inr (hl.lt k hk).1),hc.dn.trans hd,h3⟩
   ·obtain⟨rfl,h3⟩:=h1
    rw[e1]at abr;refine⟨0,14,fun h=>absurd h (by decide),fun w1 hw hl ht hr=>(abr w1 hl ht hr).mono ?_⟩;rintro e w' ⟨rfl,h⟩;refine⟨rfl, .inr ⟨by decide,?_⟩,h.turn⟩;have hw':=hw.kept h.turn (fun k hk=>hw.apart hl k hk);obtain⟨F',gv',ms',hl',hm',ht',hf'⟩:=h;obtain⟨ms0',q,rfl,rfl,rfl⟩:=dB hm';exact⟨F',A',gv',v',ms0',q,[],js',n,hl',hw',ht.trans ht' (fun k hk=> .inr (hl.lt k hk).1), .inr ⟨by decide,fun h=>absurd h (by decide),by rw[if_pos rfl];exact h3⟩⟩
  ·rw[Jo rs hx v]at abr
   refine⟨Lm (Bt.aQ (cO (n:Int) rs)) n,Bt.aQ (cO (n:Int) rs),fun h=>absurd h hx,fun w1 hw hl ht hr=>(abr w1 hl ht hr).mono ?_⟩;rintro e w' ⟨rfl,h⟩;exact⟨rfl, .inr ⟨hx,yj hw hl ht h (.inr ⟨hx,fun h=>absurd h (MR _),by rw[Gf (DR _)];exact hc⟩)⟩,h.turn⟩
end
end
end Lg
end
namespace Dk
section
variable {w w':World} {base d:Nat} {F:List Nat} {A A':DA} {aI:Option Nat} {ms ms':List aF} {mb:Nat}
def DA.rO(A:DA)(n:Int):DA:={A with limited:=decide (0≤n),left:=n}
theorem J4(h:Parts w base d F A aI ms)(n:Int)(hn:n≤9223372036854775807):
 Calls Tryz.prog 25 #[.pointer (some ⟨d,0,none⟩), .int .i64 n] w fun e w'=>e= .returned (.tuple #[])∧Parts w' base d F (A.rO n) aI ms∧Turn [d] w w':=by
 have H:Hid (Parts w base d F A aI ms):=h;have c2:=h.c2;have c3:=h.c3;have f2:=h.fr 2;have f3:=h.fr 3;clear h;go_enter Tryz.func25,Tryz.ntmps25
 go_wp2
 go_end0
 have t:Turn [d] w ((w.setCell ⟨d,2,none⟩ (.bool (decide (0≤n)))).setCell ⟨d,3,none⟩ (.int .i64 n)):=((Turn.refl _ _).setCell (by simp) _).setCell (by simp) _;refine⟨rfl,H.out.Gy t ?_ rfl ?_,t⟩
 ·rw[heap_set (heap_set H.out.self 2 _) 3];simp[DA.rO]
 ·have hg:=H.out.good
  exact {room:=hg.room,used:=hg.used,count:=hg.count,names:=hg.names,short:=hg.short,safe:=hg.safe,left:=by intro h;simp[DA.rO]at h;exact⟨h,hn⟩}
end
end Dk
section
set_option linter.unusedSectionVars false
attribute [local go_sem] Oper.semAt_some
open Dk (DA FA aj Parts dA aC bQ)
open Sg (aS aA dV Both Came ae flat Chain)
namespace Lg
def iZ(what a b:Int)(rv fv:Value):Array Value:= #[.int .i64 what, .int .i64 a, .int .i64 b,rv,fv]
theorem kV(w:World)(what a b:Int)(rv fv:Value)(Z:World)(hZ:Turn [] (w.alloc (.cells (iZ what a b rv fv) 41)) Z):Z.cell? ⟨w.heap.size,0,none⟩=some (.int .i64 what)∧Z.cell? ⟨w.heap.size,1,none⟩=some (.int .i64 a)∧Z.cell? ⟨w.heap.size,2,none⟩=some (.int .i64 b)∧Z.cell? ⟨w.heap.size,3,none⟩=some rv∧Z.cell? ⟨w.heap.size,4,none⟩=some fv∧w.heap.size<Z.heap.size:=by
 have h:=hZ.heap (ai w _) (by simp);exact⟨by rw[cell_of h];rfl,by rw[cell_of h];rfl,by rw[cell_of h];rfl,by rw[cell_of h];rfl,by rw[cell_of h];rfl,lt_of_heap h⟩
theorem J5{w:World}{base d lb:Nat}{F:List Nat}{A:DA}{gv:Value}{dir:ByteArray}{v:LV}{ms:List SM}(h:az w base d F A lb gv dir v ms)(n:Int)(hn:n≤9223372036854775807):
 Calls Tryz.prog 25 #[.pointer (some ⟨d,0,none⟩), .int .i64 n] w fun e w'=>e= .returned (.tuple #[])∧ig w w' base d (aJ F lb gv ms) (A.rO n) lb dir v (ms.map SM.abs):=by
 obtain⟨aI,fs,hp⟩:=h.disk;have hd:=hp.iT;refine(Dk.J4 hp n hn).mono ?_;rintro e w' ⟨rfl,h1,h2⟩;exact⟨rfl,h.did (Dk.dA.tick h1 hd h2)⟩
section
variable {W w:World} {d wb lb mo i n js:Nat} {va vg vm ve:Value} {y:LW} {F:List Nat} {A:DA} {gv:Value} {v:LV} {ms0:List SM} {m:SM} {X:List FA}
variable (hw:bY w W.heap.size wb d lb (mo:Int) va vg vm ve y) (hl:az w W.heap.size d F A lb gv aX v (ms0++[m])) (ht:Turn [] W w) (hc:kF A v (ms0.map SM.abs) m.abs js n i mo X y) (hi:i≤60) (hg:As.iq W) (sa sb:Int) (rv fv:Value)
include hw hl ht hc hi hg
theorem XO:Calls Tryz.prog 9 #[.pointer (some ⟨wb,0,none⟩), .agg #[.int .i64 1, .int .i64 sa, .int .i64 sb,rv,fv]] w fun e w'=>e= .returned (.bool true)∧pY W w' d wb mo (i+1):=by
 have t1:Turn [] w (w.alloc (.cells (iZ 1 sa sb rv fv) 41)):=(Turn.refl _ _).alloc _;obtain⟨x0,x1,x2,x3,x4,xz⟩:=kV w 1 sa sb rv fv _ (Turn.refl _ _);obtain⟨c0,c1,c2,c3,c4,c5,c6,c7,c8,c9,cz⟩:=(hw.still t1).cells;have hfo:=Qj (hw.still t1) (hl.still t1) (ht.same t1) hc hi hg;have HFO:=hide hfo;have HG:=hide hg;clear hw hl ht hc hfo hg t1;unfold iZ at*;go_enter Tryz.func9,Tryz.ntmps9
 go_wp2_with fail
 refine HFO.out.mono ?_;rintro e w2 ⟨c,rfl,aaw⟩;clear c0 c1 c2 c3 c4 c5 c6 c7 c8 c9 cz x0 x1 x2 x3 x4 xz;have hg2:As.iq w2:=by
  obtain⟨F,A,gv,v,ms0,m,X,js,n,h1,h2,h3,h4⟩:=aaw;exact HG.out.below h3.nil
 have HO:=hide aaw;have HG2:=hide hg2;clear aaw hg2;go_wp2_with fail
 refine(kU HO.out hi HG2.out).mono ?_;rintro e w3 ⟨rfl,hcr⟩;have vT:=hide hcr;clear hcr;go_wp2
 go_ret
 exact⟨rfl,vT.out⟩
theorem XP:Calls Tryz.prog 9 #[.pointer (some ⟨wb,0,none⟩), .agg #[.int .i64 2, .int .i64 sa, .int .i64 sb,rv,fv]] w fun e w'=>e= .returned (.bool true)∧pY W w' d wb mo (i+1):=by
 have t1:Turn [] w (w.alloc (.cells (iZ 2 sa sb rv fv) 41)):=(Turn.refl _ _).alloc _;obtain⟨x0,x1,x2,x3,x4,xz⟩:=kV w 2 sa sb rv fv _ (Turn.refl _ _);obtain⟨c0,c1,c2,c3,c4,c5,c6,c7,c8,c9,cz⟩:=(hw.still t1).cells;have HW:=hide (hw.still t1);have HL:=hide (hl.still t1);have HT:=hide (ht.same t1);have HC:=hide hc;have HG:=hide hg;have HX:=hide (kV w 2 sa sb rv fv);obtain⟨aa,ca,hva,ajy,ajz⟩:=hw.kT.form;rw[hc.recs.len]at hva ajy;have hmx:maxLen=9223372036854775807:=by simp[maxLen]
 rw[hmx]at ajz;have VW:=hide hva;have hnn:=hc.nn;rw[hva]at c3;clear hw hl ht hc hg t1 hva;unfold iZ at*;go_enter Tryz.func9,Tryz.ntmps9
 go_wp2
 have hpk:=fun Z=>jC sa (n+1) (by omega) (by omega) Z
 rw[show(((n+1:Nat)):Int)=(n:Int)+1 by omega]at hpk;have HPK:=hide hpk;clear hpk c0 c1 c2 c3 c4 c5 c6 c7 c8 c9 cz x0 x1 x2 x3 x4 xz;refine gU 13 [] (by kernel_rfl) rfl ?_;apply Lo.r0 1 rfl 0 (by intro u;conv=>lhs;whnf) rfl
 ·intro a w1 hR e0 K hK
  go_simp
  exact hK _ rfl
 apply Lo.r1 2 rfl 85 0 (fun _=>rfl) rfl (by kernel_rfl)
 ·intro a w1 hR e85 K hK
  go_simp
  exact hK _ rfl
 apply Lo.r1 3 rfl 86 1 (fun _=>rfl) rfl (by kernel_rfl)
 ·intro a w1 hR e86 K hK
  go_simp
  exact hK _ rfl
 apply Lo.r1 4 rfl 87 2 (fun _=>rfl) rfl (by kernel_rfl)
 ·intro a w1 hR e87 K hK
  obtain⟨-,q1, -, -, -, -, -, -, -, -,qz⟩:=(HW.out.still hR.dr).cells;go_simp
  exact hK _ rfl
 apply Lo.r0 5 rfl 3 (by intro u;conv=>lhs;whnf) rfl
 ·intro a w1 hR e3 K hK
  go_simp
  exact hK _ rfl
 apply Lo.r1 6 rfl 89 4 (fun _=>rfl) rfl (by kernel_rfl)
 ·intro a w1 hR e89 K hK
  obtain⟨-,r1, -, -, -,rz⟩:=HX.out w1 hR.dr;go_simp
  exact hK _ rfl
 apply Lo.r0 7 rfl 0 (by intro u;conv=>lhs;whnf) rfl
 ·intro a w1 hR e0 K hK
  go_simp
  exact hK _ rfl
 apply Lo.r1 8 rfl 91 6 (fun _=>rfl) rfl (by kernel_rfl)
 ·intro a w1 hR e91 K hK
  go_simp
  exact hK _ rfl
 apply Lo.r1 9 rfl 92 7 (fun _=>rfl) rfl (by kernel_rfl)
 ·intro a w1 hR e92 K hK
  go_simp
  exact hK _ rfl
 apply Lo.r1 10 rfl 93 8 (fun _=>rfl) rfl (by kernel_rfl)
 ·intro a w1 hR e93 K hK
  obtain⟨-, -, -,q3, -, -, -, -, -, -,qz⟩:=(HW.out.still hR.dr).cells;rw[VW.out]at q3;go_simp
  exact hK _ rfl
 apply Lo.r1 11 rfl 94 9 (fun _=>rfl) rfl (by kernel_rfl)
 ·intro a w1 hR e94 K hK
  go_simp
  exact hK _ rfl
 refine Lo.df 12 rfl rfl [10] (.int .i64 ((n:Int)+1)) (by kernel_rfl) (fun u w1 hR hF=>?_) (Turn.refl _) ?_
 ·obtain⟨h10, -⟩:=hF
  refine⟨rfl,fun a ha K hK=>?_⟩;have e95:=(ha 95).trans h10;clear ha h10;go_simp
  refine hK _ ?_;first|rfl|(congr 1;omega)|(simp[IntKind.wrap,IntKind.bits,IntKind.signed];omega)
 refine Lo.run 13 rfl rfl [5,11] (fun x w'=>∃p:Nat,p≤n∧x= .int .i64 (p:Int)) (by kernel_rfl) (fun x w w' h hR=>?_) (fun _ _ h=>h) (fun u w1 hR hF=>?_) ?_
 ·exact h
 ·obtain⟨h5,h11, -⟩:=hF
  refine⟨rfl,fun a ha K hK=>?_⟩;have e90:=(ha 90).trans h5;have e96:=(ha 96).trans h11;clear ha h5 h11;go_simp
  refine(HPK.out w1).mono ?_;rintro e w2 ⟨⟨p,hp,rfl⟩,rfl⟩;exact hK _ _ ⟨p,by omega,rfl⟩ (Turn.refl _ _)
 refine Lo.done [3,12] (fun u w1 bI hSd hF=>?_);clear hSd;obtain⟨f3,f12, -⟩:=hF;have d3:u 3=_:=f3;have d12:=(show(fun x w'=>∃p:Nat,p≤n∧x= .int .i64 (p:Int)) (u 12) w1 from f12);dsimp only at d12;clear f3 f12;simp only[List.take_succ_cons,List.take_zero,List.drop_succ_cons,List.drop_zero,ax,Act.put,List.setIfInBounds_toArray,List.set_cons_succ,List.set_cons_zero,Nat.zero_add,Nat.reduceAdd,d3];obtain⟨p,hp,e12⟩:=d12;rw[e12];have tr:Turn [] (w.alloc (.cells #[.int .i64 2, .int .i64 sa, .int .i64 sb,rv,fv] 41)) w1:=bI.dr;have hfo:=MS (HW.out.still tr) (HL.out.still tr) (HT.out.same tr) HC.out hi HG.out p hp;have HFO:=hide hfo;clear hfo tr bI e12;go_wp2_with fail
 refine HFO.out.mono ?_;rintro e w2 ⟨c,rfl,aaw⟩;have hg2:As.iq w2:=by
  obtain⟨F,A,gv,v,ms0,m,X,js,n,h1,h2,h3,h4⟩:=aaw;exact HG.out.below h3.nil
 have HO:=hide aaw;have HG2:=hide hg2;clear aaw hg2;go_wp2_with fail
 refine(kU HO.out hi HG2.out).mono ?_;rintro e w3 ⟨rfl,hcr⟩;have vT:=hide hcr;clear hcr;go_wp2
 go_ret
 exact⟨rfl,vT.out⟩
theorem XQ:Calls Tryz.prog 9 #[.pointer (some ⟨wb,0,none⟩), .agg #[.int .i64 3, .int .i64 sa, .int .i64 sb,rv,fv]] w fun e w'=>e= .returned (.bool true)∧pY W w' d wb mo (i+1):=by
 have t1:Turn [] w (w.alloc (.cells (iZ 3 sa sb rv fv) 41)):=(Turn.refl _ _).alloc _;obtain⟨x0,x1,x2,x3,x4,xz⟩:=kV w 3 sa sb rv fv _ (Turn.refl _ _);obtain⟨c0,c1,c2,c3,c4,c5,c6,c7,c8,c9,cz⟩:=(hw.still t1).cells;have HW:=hide (hw.still t1);have HL:=hide (hl.still t1);have HT:=hide (ht.same t1);have HC:=hide hc;have HG:=hide hg;have HX:=hide (kV w 3 sa sb rv fv);have hap:=fun k hk=>(hw.still t1).apart (hl.still t1) k hk
 have hlt:∀k∈aJ F lb gv (ms0++[m]),k<w.heap.size:=fun k hk=>(hl.lt k hk).2
 obtain⟨L,hL⟩:∃L,L=aJ F lb gv (ms0++[m]):=⟨_,rfl⟩;rw[←hL]at hap hlt;have hro:=fun(Z:World) (q1 q2 q3:Int) (h1:bY Z W.heap.size wb d lb (mo:Int) va vg vm ve y) (h2:az Z W.heap.size d F A lb gv aX v (ms0++[m])) (h3:Turn [] W Z)=>MV h1 h2 h3 hc hi hg q1 q2 q3
 rw[←hL]at hro;have Zd:=hide hro;have Z7:=hide hap;have BR:=hide (And.intro hlt (ai w (.cells (iZ 3 sa sb rv fv) 41)));clear hw hl ht hc hg t1 hap hlt hL hro;unfold iZ at*;go_enter Tryz.func9,Tryz.ntmps9
 go_wp2
 clear c0 c1 c2 c3 c4 c5 c6 c7 c8 c9 cz x0 x1 x2 x3 x4 xz;obtain⟨wq,hwq⟩:∃wq,wq=w.alloc (.cells #[.int .i64 3, .int .i64 sa, .int .i64 sb,rv,fv] 41):=⟨_,rfl⟩;rw[←hwq]at HW HL HT HX BR;rw[←hwq];clear hwq;have hcs:∀Z,Turn L wq Z→Z.cell? ⟨wb,1,none⟩=some (.pointer (some ⟨lb,0,none⟩))∧wb<Z.heap.size∧Z.cell? ⟨w.heap.size,1,none⟩=some (.int .i64 sa)∧Z.cell? ⟨w.heap.size,2,none⟩=some (.int .i64 sb)∧w.heap.size<Z.heap.size:=fun Z hZ=>by
  obtain⟨-,q1, -, -, -, -, -, -, -, -,qz⟩:=(HW.out.kept hZ Z7.out).cells;have hb:=hZ.heap BR.out.2 (fun hm=>Nat.lt_irrefl _ (BR.out.1 _ hm));exact⟨q1,qz,by rw[cell_of hb];rfl,by rw[cell_of hb];rfl,lt_of_heap hb⟩
 have yZ:=hide hcs;clear hcs;refine bP 16 (Turn L) (Turn []) (fun k w=>match k with|0=>(fun w'=>(bY w' W.heap.size wb d lb (mo:Int) va vg vm ve y∧az w' W.heap.size d F A lb gv aX v (ms0++[m]))∧Turn [] W w') w|_=>(fun w'=>0≤w'.heap.size) w) [11] (by kernel_rfl) (by kernel_rfl) (by kernel_rfl) (by kernel_rfl) (by kernel_rfl) (by kernel_rfl) (Nat.le_of_ble_eq_true rfl) (by decide) rfl (Turn.refl _) (fun _ _ _ h k=>h.same k) (fun _ _ h=>h.mono (by simp)) ?_ ?_ ?_
 ·intro k a b hk hR
  match k,hk with
  |0,hk=>
   have hk:=(show(fun w'=>(bY w' W.heap.size wb d lb (mo:Int) va vg vm ve y∧az w' W.heap.size d F A lb gv aX v (ms0++[m]))∧Turn [] W w') a from hk);dsimp only at hk;show(fun w'=>(bY w' W.heap.size wb d lb (mo:Int) va vg vm ve y∧az w' W.heap.size d F A lb gv aX v (ms0++[m]))∧Turn [] W w') b;dsimp only;first|exact⟨⟨hk.1.1.still hR,hk.1.2.still hR⟩,hk.2.same hR⟩|exact Nat.zero_le _
  |_+1,hk=>
   have hk:=(show(fun w'=>0≤w'.heap.size) a from hk);dsimp only at hk;show(fun w'=>0≤w'.heap.size) b;dsimp only;first|exact⟨⟨hk.1.1.still hR,hk.1.2.still hR⟩,hk.2.same hR⟩|exact Nat.zero_le _
 ·show(fun w'=>(bY w' W.heap.size wb d lb (mo:Int) va vg vm ve y∧az w' W.heap.size d F A lb gv aX v (ms0++[m]))∧Turn [] W w') _
  dsimp only;exact⟨⟨HW.out.still ((Turn.refl [] wq).drew),HL.out.still ((Turn.refl [] wq).drew)⟩,HT.out.same ((Turn.refl [] wq).drew)⟩
 apply Lo.r0 1 rfl 0 (by intro u;conv=>lhs;whnf) rfl
 ·intro a w1 hR e0 K hK
  go_simp
  exact hK _ rfl
 apply Lo.r1 2 rfl 102 0 (fun _=>rfl) rfl (by kernel_rfl)
 ·intro a w1 hR e102 K hK
  go_simp
  exact hK _ rfl
 apply Lo.r1 3 rfl 103 1 (fun _=>rfl) rfl (by kernel_rfl)
 ·intro a w1 hR e103 K hK
  go_simp
  exact hK _ rfl
 apply Lo.r1 4 rfl 104 2 (fun _=>rfl) rfl (by kernel_rfl)
 ·intro a w1 hR e104 K hK
  obtain⟨q1,qz, -, -, -⟩:=yZ.out w1 hR.dr;go_simp
  exact hK _ rfl
 apply Lo.r0 5 rfl 3 (by intro u;conv=>lhs;whnf) rfl
 ·intro a w1 hR e3 K hK
  go_simp
  exact hK _ rfl
 apply Lo.r1 6 rfl 106 4 (fun _=>rfl) rfl (by kernel_rfl)
 ·intro a w1 hR e106 K hK
  obtain⟨-, -,q1, -,qz⟩:=yZ.out w1 hR.dr;go_simp
  exact hK _ rfl
 refine Lo.run 7 rfl rfl [5] (fun x w'=>∃p:Int,x= .int .i64 p) (by kernel_rfl) (fun x w w' h hR=>?_) (fun _ _ h=>h.mono (by simp)) (fun u w1 hR hF=>?_) ?_
 ·exact h
 ·obtain⟨h5, -⟩:=hF
  refine⟨rfl,fun a ha K hK=>?_⟩;have e107:=(ha 107).trans h5;clear ha h5;go_simp
  refine(jC sa 1000 (by omega) (by omega) w1).mono ?_;rintro e w2 ⟨⟨p,hp,rfl⟩,rfl⟩;exact hK _ _ ⟨p,rfl⟩ (Turn.refl _ _)
 apply Lo.r0 8 rfl 3 (by intro u;conv=>lhs;whnf) rfl
 ·intro a w1 hR e3 K hK
  go_simp
  exact hK _ rfl
 apply Lo.r1 9 rfl 109 7 (fun _=>rfl) rfl (by kernel_rfl)
 ·intro a w1 hR e109 K hK
  obtain⟨-, -, -,q1,qz⟩:=yZ.out w1 hR.dr;go_simp
  exact hK _ rfl
 refine Lo.run 10 rfl rfl [8] (fun x w'=>∃p:Int,x= .int .i64 p) (by kernel_rfl) (fun x w w' h hR=>?_) (fun _ _ h=>h.mono (by simp)) (fun u w1 hR hF=>?_) ?_
 ·exact h
 ·obtain⟨h8, -⟩:=hF
  refine⟨rfl,fun a ha K hK=>?_⟩;have e110:=(ha 110).trans h8;clear ha h8;go_simp
  refine(jC sb 1000 (by omega) (by omega) w1).mono ?_;rintro e w2 ⟨⟨p,hp,rfl⟩,rfl⟩;exact hK _ _ ⟨p,rfl⟩ (Turn.refl _ _)
 refine Lo.run 11 rfl rfl [9] (fun x w'=>∃p:Int,x= .int .i64 p) (by kernel_rfl) (fun x w w' h hR=>?_) (fun _ _ h=>h.mono (by simp)) (fun u w1 hR hF=>?_) ?_
 ·exact h
 ·obtain⟨h9, -⟩:=hF
  refine⟨rfl,fun a ha K hK=>?_⟩;have e111:a.tmps.getD 111 undef=u 9:=ha 111;have h9:=(show(fun x w'=>∃p:Int,x= .int .i64 p) (u 9) w1 from h9);dsimp only at h9;clear ha;obtain⟨p,e9⟩:=h9;rw[e9]at e111;go_simp
  exact hK _ _ ⟨_,rfl⟩ (Turn.refl _ _)
 refine Lo.je 12 rfl 0 rfl [3,6,10] (fun x w'=>∃(r c:Int),x= .tuple #[.int .i64 r,aC c]∧nO W w' d wb lb mo i va vg vm ve y c) (by kernel_rfl) (fun x w w' h hR=>?_) (.inl (by kernel_rfl)) (fun u w1 hR hS hF=>?_) ?_
 ·obtain⟨r,c,e,ho⟩:=h;exact⟨r,c,e,ho.still hR⟩
 ·obtain⟨h3,h6,h10, -⟩:=hF
  have hS:=(show(fun w'=>(bY w' W.heap.size wb d lb (mo:Int) va vg vm ve y∧az w' W.heap.size d F A lb gv aX v (ms0++[m]))∧Turn [] W w') w1 from hS);dsimp only at hS;refine⟨rfl,fun a ha K hK=>?_⟩;have e105:=(ha 105).trans h3;have e108:a.tmps.getD 108 undef=u 6:=ha 108;have e112:a.tmps.getD 112 undef=u 10:=ha 112;have h6:=(show(fun x w'=>∃p:Int,x= .int .i64 p) (u 6) w1 from h6);dsimp only at h6;have h10:=(show(fun x w'=>∃p:Int,x= .int .i64 p) (u 10) w1 from h10);dsimp only at h10;clear ha h3;obtain⟨p,e6⟩:=h6;rw[e6]at e108;obtain⟨q,e10⟩:=h10;rw[e10]at e112;go_simp
  refine(Zd.out w1 p q (-1) hS.1.1 hS.1.2 hS.2).mono ?_;rintro e w2 ⟨r,c,rfl,ho,htl⟩;exact hK _ _ ⟨r,c,rfl,ho⟩ htl (Nat.zero_le _)
 refine Lo.late 13 rfl rfl [11] (fun x w'=>∃(r c:Int),x= .tuple #[.int .i64 r,aC c]∧nO W w' d wb lb mo i va vg vm ve y c) (by kernel_rfl) (fun x w w' h hR=>?_) (by kernel_rfl) (fun u w1 hR hF=>?_) ?_
 ·obtain⟨r,c,e,ho⟩:=h;exact⟨r,c,e,ho.still hR⟩
 ·obtain⟨h11, -⟩:=hF
  refine⟨rfl,fun a ha K hK=>?_⟩;have e113:a.tmps.getD 113 undef=u 11:=ha 113;have h11:=(show(fun x w'=>∃(r c:Int),x= .tuple #[.int .i64 r,aC c]∧nO W w' d wb lb mo i va vg vm ve y c) (u 11) w1 from h11);dsimp only at h11;clear ha;obtain⟨r,c,e11,ho⟩:=h11;rw[e11]at e113;go_simp
  exact hK _ _ ⟨r,c,rfl,ho⟩ (Turn.refl _ _)
 refine Lo.late 14 rfl rfl [12] (fun x w'=>0≤w'.heap.size) (by kernel_rfl) (fun x w w' h hR=>?_) (by kernel_rfl) (fun u w1 hR hF=>?_) ?_
 ·exact Nat.zero_le _
 ·obtain⟨h12, -⟩:=hF
  refine⟨rfl,fun a ha K hK=>?_⟩;have e101:a.tmps.getD 101 undef=u 12:=ha 101;have h12:=(show(fun x w'=>∃(r c:Int),x= .tuple #[.int .i64 r,aC c]∧nO W w' d wb lb mo i va vg vm ve y c) (u 12) w1 from h12);dsimp only at h12;clear ha;obtain⟨r,c,e11,ho⟩:=h12;rw[e11]at e101;go_simp
  exact hK _ _ (Nat.zero_le _) (Turn.refl _ _)
 refine Lo.late 15 rfl rfl [12] (fun x w'=>∃(c:Int),x=aC c∧nO W w' d wb lb mo i va vg vm ve y c) (by kernel_rfl) (fun x w w' h hR=>?_) (by kernel_rfl) (fun u w1 hR hF=>?_) ?_
 ·obtain⟨c,e,ho⟩:=h;exact⟨c,e,ho.still hR⟩
 ·obtain⟨h12, -⟩:=hF
  refine⟨rfl,fun a ha K hK=>?_⟩;have e101:a.tmps.getD 101 undef=u 12:=ha 101;have h12:=(show(fun x w'=>∃(r c:Int),x= .tuple #[.int .i64 r,aC c]∧nO W w' d wb lb mo i va vg vm ve y c) (u 12) w1 from h12);dsimp only at h12;clear ha;obtain⟨r,c,e11,ho⟩:=h12;rw[e11]at e101;go_simp
  exact hK _ _ ⟨c,rfl,ho⟩ (Turn.refl _ _)
 refine Lo.late 16 rfl rfl [14] (fun x w'=>∃(c:Int),x=aC c∧nO W w' d wb lb mo i va vg vm ve y c) (by kernel_rfl) (fun x w w' h hR=>?_) (by kernel_rfl) (fun u w1 hR hF=>?_) ?_
 ·obtain⟨c,e,ho⟩:=h;exact⟨c,e,ho.still hR⟩
 ·obtain⟨h14, -⟩:=hF
  refine⟨rfl,fun a ha K hK=>?_⟩;have e115:a.tmps.getD 115 undef=u 14:=ha 115;have h14:=(show(fun x w'=>∃(c:Int),x=aC c∧nO W w' d wb lb mo i va vg vm ve y c) (u 14) w1 from h14);dsimp only at h14;clear ha;obtain⟨c,e14,ho⟩:=h14;rw[e14]at e115;go_simp
  exact hK _ _ ⟨c,rfl,ho⟩ (Turn.refl _ _)
 refine Lo.done [15] (fun u w1 bI hSd hF=>?_);have hSd:=(show(fun w'=>0≤w'.heap.size) w1 from hSd);dsimp only at hSd;obtain⟨f15, -⟩:=hF;have d15:=(show(fun x w'=>∃(c:Int),x=aC c∧nO W w' d wb lb mo i va vg vm ve y c) (u 15) w1 from f15);dsimp only at d15;clear f15;simp only[List.take_succ_cons,List.take_zero,List.drop_succ_cons,List.drop_zero,ax,Act.put,List.setIfInBounds_toArray,List.set_cons_succ,List.set_cons_zero,Nat.zero_add,Nat.reduceAdd];obtain⟨c,e15,aaw⟩:=d15;obtain⟨w2,hw2⟩:∃w2,w2=w1:=⟨_,rfl⟩;rw[←hw2]at aaw;rw[e15,←hw2];clear bI hSd e15 hw2;have hg2:As.iq w2:=by
  obtain⟨F,A,gv,v,ms0,m,X,js,n,h1,h2,h3,h4⟩:=aaw;exact HG.out.below h3.nil
 have HO:=hide aaw;have HG2:=hide hg2;clear aaw hg2;go_wp2_with fail
 refine(kU HO.out hi HG2.out).mono ?_;rintro e w3 ⟨rfl,hcr⟩;have vT:=hide hcr;clear hcr;go_wp2
 go_ret
 exact⟨rfl,vT.out⟩
theorem XR:Calls Tryz.prog 9 #[.pointer (some ⟨wb,0,none⟩), .agg #[.int .i64 5, .int .i64 sa, .int .i64 sb,rv,fv]] w fun e w'=>e= .returned (.bool true)∧pY W w' d wb mo (i+1):=by
 have t1:Turn [] w (w.alloc (.cells (iZ 5 sa sb rv fv) 41)):=(Turn.refl _ _).alloc _;obtain⟨x0,x1,x2,x3,x4,xz⟩:=kV w 5 sa sb rv fv _ (Turn.refl _ _);obtain⟨c0,c1,c2,c3,c4,c5,c6,c7,c8,c9,cz⟩:=(hw.still t1).cells;have HW:=hide (hw.still t1);have HL:=hide (hl.still t1);have HT:=hide (ht.same t1);have HC:=hide hc;have HG:=hide hg;have HX:=hide (kV w 5 sa sb rv fv);clear hw hl ht hc hg t1;unfold iZ at*;go_enter Tryz.func9,Tryz.ntmps9
 go_wp2
 clear c0 c1 c2 c3 c4 c5 c6 c7 c8 c9 cz x0 x1 x2 x3 x4 xz;refine gU 7 [] (by kernel_rfl) rfl ?_;apply Lo.r0 1 rfl 0 (by intro u;conv=>lhs;whnf) rfl
 ·intro a w1 hR e0 K hK
  go_simp
  exact hK _ rfl
 apply Lo.r1 2 rfl 128 0 (fun _=>rfl) rfl (by kernel_rfl)
 ·intro a w1 hR e128 K hK
  go_simp
  exact hK _ rfl
 apply Lo.r1 3 rfl 129 1 (fun _=>rfl) rfl (by kernel_rfl)
 ·intro a w1 hR e129 K hK
  go_simp
  exact hK _ rfl
 apply Lo.r1 4 rfl 130 2 (fun _=>rfl) rfl (by kernel_rfl)
 ·intro a w1 hR e130 K hK
  obtain⟨q1, -, -, -, -, -, -, -, -, -,qz⟩:=(HW.out.still hR.dr).cells;go_simp
  exact hK _ rfl
 apply Lo.r0 5 rfl 3 (by intro u;conv=>lhs;whnf) rfl
 ·intro a w1 hR e3 K hK
  go_simp
  exact hK _ rfl
 apply Lo.r1 6 rfl 132 4 (fun _=>rfl) rfl (by kernel_rfl)
 ·intro a w1 hR e132 K hK
  obtain⟨-,r1, -, -, -,rz⟩:=HX.out w1 hR.dr;go_simp
  exact hK _ rfl
 refine Lo.run 7 rfl rfl [5] (fun x w'=>∃p:Nat,p<25∧x= .int .i64 (p:Int)) (by kernel_rfl) (fun x w w' h hR=>?_) (fun _ _ h=>h) (fun u w1 hR hF=>?_) ?_
 ·exact h
 ·obtain⟨h5, -⟩:=hF
  refine⟨rfl,fun a ha K hK=>?_⟩;have e133:=(ha 133).trans h5;clear ha h5;go_simp
  refine(jC sa 25 (by omega) (by omega) w1).mono ?_;rintro e w2 ⟨⟨p,hp,rfl⟩,rfl⟩;exact hK _ _ ⟨p,hp,rfl⟩ (Turn.refl _ _)
 refine Lo.done [3,6] (fun u w1 bI hSd hF=>?_);clear hSd;obtain⟨f3,f6, -⟩:=hF;have d3:u 3=_:=f3;have d6:=(show(fun x w'=>∃p:Nat,p<25∧x= .int .i64 (p:Int)) (u 6) w1 from f6);dsimp only at d6;clear f3 f6;simp only[List.take_succ_cons,List.take_zero,List.drop_succ_cons,List.drop_zero,ax,Act.put,List.setIfInBounds_toArray,List.set_cons_succ,List.set_cons_zero,Nat.zero_add,Nat.reduceAdd,d3];obtain⟨p,hp,e6⟩:=d6;rw[e6];have tr:Turn [] (w.alloc (.cells #[.int .i64 5, .int .i64 sa, .int .i64 sb,rv,fv] 41)) w1:=bI.dr;have hfo:=J5 (HL.out.still tr) (p:Int) (by omega);have HFO:=hide hfo;have HW1:=hide (HW.out.still tr);have HL1:=hide (HL.out.still tr);have HT1:=hide (HT.out.same tr);clear hfo tr bI e6;go_wp2_with fail
 refine HFO.out.mono ?_;rintro e w2 ⟨rfl,hd⟩;have hcr:pY W w2 d wb mo (i+1):=by
  have hw2:=HW1.out.kept hd.turn (fun k hk=>HW1.out.apart HL1.out k hk);obtain⟨F',gv',ms',hl',hm',ht',hf'⟩:=hd;rw[List.map_append,List.map_singleton]at hm';obtain⟨ms0',q,rfl,e1,e2⟩:=dB hm';exact⟨lb,F',_,gv',v,ms0',q,X,y,va,vg,vm,ve,js,n,hl',hw2,by rw[e1,e2];exact(HC.out.same (B:=A.rO p) rfl rfl).more,HT1.out.trans ht' (fun k hk=> .inr (HL1.out.lt k hk).1)⟩
 have vT:=hide hcr;clear hcr hd;go_wp2
 go_ret
 exact⟨rfl,vT.out⟩
theorem XT(q:Int)(e0:(q==0)=false)(e1:(q==1)=false)(e2:(q==2)=false)(e3:(q==3)=false)(e4:(q==4)=false)(e5:(q==5)=false)(e6:(q==6)=false):Calls Tryz.prog 9 #[.pointer (some ⟨wb,0,none⟩), .agg #[.int .i64 q, .int .i64 sa, .int .i64 sb,rv,fv]] w fun e w'=>e= .returned (.bool true)∧pY W w' d wb mo (i+1):=by
 have t1:Turn [] w (w.alloc (.cells (iZ q sa sb rv fv) 41)):=(Turn.refl _ _).alloc _;obtain⟨x0,x1,x2,x3,x4,xz⟩:=kV w q sa sb rv fv _ (Turn.refl _ _);have hcr:pY W (w.alloc (.cells (iZ q sa sb rv fv) 41)) d wb mo (i+1):=⟨lb,F,A,gv,v,ms0,m,X,y,va,vg,vm,ve,js,n,hl.still t1,hw.still t1,hc.more,ht.same t1⟩;have vT:=hide hcr;clear hw hl ht hc hg t1 hcr;unfold iZ at*;go_enter Tryz.func9,Tryz.ntmps9
 go_wp2
 go_ret
 exact⟨rfl,vT.out⟩
end
theorem XU(w:World)(base:Nat)(v:Value)(xs:List Bt.Rec)(x:Bt.Rec)(k:Nat)(Pe:aO 52 6 recC w base v xs)(hk:w.heap[k]? =some (.cells (recC x).toArray 52 (0,0))) (aah:xs.length≤1000000) (aas:base≤w.heap.size):
 ∃v' w',(Builtin.append_ #[34,34] 34 #[v, .slice (some ⟨k,0,none⟩) 1 1]).run Tryz.prog w= .ok v' w'∧aO 52 6 recC w' base v' (xs++[x])∧Turn v.ownBlock.toList w w'∧(∀j∈v'.ownBlock,j∈v.ownBlock∨w.heap.size≤j):=by
 obtain⟨i,z,hi,hz,hzs,hs,hb⟩:=sH;exact jB (P:=Tryz.prog) 34 34 Tryz.underlying34 i z hi hz hzs hs (by omega) bH (by intro x u hu;simp[recC,eU]at hu;rcases hu with rfl|rfl|rfl|rfl|rfl|rfl<;>rfl) w base v xs x k Pe hk aah aas
structure fH(w:World)(base wb d lb:Nat)(mo:Int)(ve:Value)(y:LW)(ca cg cm a g m:Value)(al:List Bt.Rec)(go ma:List Bool):Prop where
 box:w.heap[wb]? =some (.cells (XG d lb mo ca cg cm ve y.safe y.start y.down) 38 (0,0))
 ra:aO 52 6 recC w base a al
 rg:aO 4 1 EL w base g go
 rm:aO 4 1 EL w base m ma
 gm:∀k∈g.ownBlock,k∉m.ownBlock
section
variable {w w':World} {base wb d lb:Nat} {mo:Int} {ve:Value} {y:LW} {ca cg cm a g m:Value} {al:List Bt.Rec} {go ma:List Bool}
theorem fH.still(h:fH w base wb d lb mo ve y ca cg cm a g m al go ma)(ht:Turn [] w w'):fH w' base wb d lb mo ve y ca cg cm a g m al go ma:=
 ⟨ht.heap h.box (by simp),h.ra.still ht,h.rg.still ht,h.rm.still ht,h.gm⟩
theorem fH.cells(h:fH w base wb d lb mo ve y ca cg cm a g m al go ma):w.cell? ⟨wb,3,none⟩=some ca∧w.cell? ⟨wb,4,none⟩=some cg∧w.cell? ⟨wb,5,none⟩=some cm∧wb<w.heap.size∧w.frozen? ⟨wb,3,none⟩=false∧w.frozen? ⟨wb,4,none⟩=false∧w.frozen? ⟨wb,5,none⟩=false:=by
 have e:=h.box;exact⟨by rw[cell_of e];rfl,by rw[cell_of e];rfl,by rw[cell_of e];rfl,lt_of_heap e,au e 3,au e 4,au e 5⟩
theorem fH.Oo(h:fH w base wb d lb mo ve y ca cg cm a g m al go ma):(∀k∈a.ownBlock,k∉[wb])∧(∀k∈g.ownBlock,k∉[wb])∧∀k∈m.ownBlock,k∉[wb]:=by
 refine⟨fun k hk hm=>?_,fun k hk hm=>?_,fun k hk hm=>?_⟩
 ·obtain⟨cs,e⟩:=h.ra.kind k hk
  exact aW e h.box (by decide) (List.mem_singleton.1 hm)
 ·obtain⟨cs,e⟩:=h.rg.kind k hk
  exact aW e h.box (by decide) (List.mem_singleton.1 hm)
 ·obtain⟨cs,e⟩:=h.rm.kind k hk
  exact aW e h.box (by decide) (List.mem_singleton.1 hm)
theorem fH.put(h:fH w base wb d lb mo ve y ca cg cm a g m al go ma){i:Nat}{x ca' cg' cm':Value}(e:(XG d lb mo ca cg cm ve y.safe y.start y.down).setIfInBounds i x=XG d lb mo ca' cg' cm' ve y.safe y.start y.down):fH (w.setCell ⟨wb,i,none⟩ x) base wb d lb mo ve y ca' cg' cm' a g m al go ma∧Turn [wb] w (w.setCell ⟨wb,i,none⟩ x):=by
 have ht:Turn [wb] w (w.setCell ⟨wb,i,none⟩ x):=(Turn.refl _ _).setCell (.inl (by simp)) _;obtain⟨h1,h2,h3⟩:=h.Oo;exact⟨⟨by rw[heap_set h.box,e],h.ra.kept ht h1,h.rg.kept ht h2,h.rm.kept ht h3,h.gm⟩,ht⟩
theorem fH.setA(h:fH w base wb d lb mo ve y ca cg cm a g m al go ma)(ht:Turn a.ownBlock.toList w w'){a':Value}{al':List Bt.Rec}(hr:aO 52 6 recC w' base a' al'):fH w' base wb d lb mo ve y ca cg cm a' g m al' go ma:=by
 have hg:=h.ra.apart h.rg (by decide);have hm:=h.ra.apart h.rm (by decide);exact⟨ht.heap h.box (fun hq=>h.Oo.1 wb (by simpa using hq) (by simp)),hr,h.rg.kept ht (fun k hk hq=>hg k (by simpa using hq) hk),h.rm.kept ht (fun k hk hq=>hm k (by simpa using hq) hk),h.gm⟩
theorem fH.setG(h:fH w base wb d lb mo ve y ca cg cm a g m al go ma)(ht:Turn g.ownBlock.toList w w'){g':Value}{go':List Bool}(hr:aO 4 1 EL w' base g' go')(hn:∀k∈g'.ownBlock,k∈g.ownBlock∨w.heap.size≤k):fH w' base wb d lb mo ve y ca cg cm a g' m al go' ma:=by
 have ha:=h.ra.apart h.rg (by decide);exact⟨ht.heap h.box (fun hq=>h.Oo.2.1 wb (by simpa using hq) (by simp)),h.ra.kept ht (fun k hk hq=>ha k hk (by simpa using hq)),hr,h.rm.kept ht (fun k hk hq=>h.gm k (by simpa using hq) hk),fun k hk hm=>(hn k hk).elim (fun e=>h.gm k e hm) (fun e=>by have:=(h.rm.lt k hm).2;omega)⟩
theorem fH.setM(h:fH w base wb d lb mo ve y ca cg cm a g m al go ma)(ht:Turn m.ownBlock.toList w w'){m':Value}{ma':List Bool}(hr:aO 4 1 EL w' base m' ma')(hn:∀k∈m'.ownBlock,k∈m.ownBlock∨w.heap.size≤k):fH w' base wb d lb mo ve y ca cg cm a g m' al go ma':=by
 have ha:=h.ra.apart h.rm (by decide);exact⟨ht.heap h.box (fun hq=>h.Oo.2.2 wb (by simpa using hq) (by simp)),h.ra.kept ht (fun k hk hq=>ha k hk (by simpa using hq)),h.rg.kept ht (fun k hk hq=>h.gm k hk (by simpa using hq)),hr,fun k hk hm=>(hn k hm).elim (fun e=>h.gm k hk e) (fun e=>by have:=(h.rg.lt k hk).2;omega)⟩
theorem bY.rws{va vg vm:Value}(h:bY w base wb d lb mo va vg vm ve y):fH w base wb d lb mo ve y va vg vm va vg vm y.all y.gone y.may:=⟨h.box,h.kT,h.fV,h.nH,h.gm⟩
theorem fH.law{w0:World}{va vg vm:Value}(h:fH w base wb d lb mo ve y a g m a g m al go ma)(h0:bY w0 base wb d lb mo va vg vm ve y)(ht:Turn (wb::(va.ownBlock.toList++(vg.ownBlock.toList++vm.ownBlock.toList))) w0 w):bY w base wb d lb mo a g m ve {y with all:=al,gone:=go,may:=ma}:=by
 refine⟨h.box,h.ra,h.rg,h.rm,h0.lU.kept ht (fun k hk hq=>?_),h.gm,h0.low⟩;obtain⟨cs,e⟩:=h0.lU.kind k hk;simp only[List.mem_cons,List.mem_append,Option.mem_toList]at hq;rcases hq with rfl|hq|hq|hq
 ·exact aW e h0.box (by decide) rfl
 ·obtain⟨cs',e'⟩:=h0.kT.kind k hq
  exact aW e e' (by decide) rfl
 ·obtain⟨cs',e'⟩:=h0.fV.kind k hq
  exact aW e e' (by decide) rfl
 ·obtain⟨cs',e'⟩:=h0.nH.kind k hq
  exact aW e e' (by decide) rfl
end
theorem oV.told{W w w':World}{d wb lb mo i:Nat}{va vg vm ve a g m:Value}{y y2:LW}{al:List Bt.Rec}{go ma:List Bool}(h:oV W w d wb lb mo i va vg vm ve y y2)(ht:Turn (wb::(va.ownBlock.toList++(vg.ownBlock.toList++vm.ownBlock.toList))) w w')(hs:fH w' W.heap.size wb d lb (mo:Int) ve y a g m a g m al go ma):oV W w' d wb lb mo i a g m ve {y with all:=al,gone:=go,may:=ma} y2:=by
 obtain⟨F,A,gv,v,ms0,q,X,js,n,h1,h2,h3,h4⟩:=h;have hT:Turn (jg wb va vg vm ve) w w':=ht.mono (fun k hk=> .inl (bV.2 (by
  simp only[List.mem_cons,List.mem_append,Option.mem_toList]at hk;rcases hk with hk|hk|hk|hk
  ·exact .inl hk
  ·exact .inr (.inl hk)
  ·exact .inr (.inr (.inl hk))
  ·exact .inr (.inr (.inr (.inl hk))))))
 exact⟨F,A,gv,v,ms0,q,X,js,n,h1.kept hT (fun k hk hm=>h2.apart h1 k hm hk),hs.law h2 ht,h3.trans hT (fun k hk=> .inr (h2.ge k hk)),h4⟩
section
variable {W w:World} {d wb lb mo i n js:Nat} {va vg vm ve:Value} {y:LW} {F:List Nat} {A:DA} {gv:Value} {v:LV} {ms0:List SM} {m:SM} {X:List FA}
variable (hw:bY w W.heap.size wb d lb (mo:Int) va vg vm ve y) (hl:az w W.heap.size d F A lb gv aX v (ms0++[m])) (ht:Turn [] W w) (hc:kF A v (ms0.map SM.abs) m.abs js n i mo X y) (hi:i≤60) (hg:As.iq W) (sa sb:Int) (fv:Value)
include hw hl ht hc hi hg
theorem XV(hi6:i<60)(hmo:mo≤1048576)(Qw:Sn.qA W)(rv:Value)(rs:List Bt.Rec)(hr:∀Z,Turn [] W Z→bF Z rv rs)(hrl:rs.length≤60):Calls Tryz.prog 9 #[.pointer (some ⟨wb,0,none⟩), .agg #[.int .i64 0, .int .i64 sa, .int .i64 sb,rv,fv]] w fun e w'=>e= .returned (.bool true)∧pY W w' d wb mo (i+1):=by
 obtain⟨ra,rc,rfl,Dw,wK, -,NH⟩:=(hr w ht).form;have hmx:maxLen=9223372036854775807:=by simp[maxLen]
 rw[hmx]at wK;have t1:Turn [] w (w.alloc (.cells (iZ 0 sa sb (.slice ra rs.length rc) fv) 41)):=(Turn.refl _ _).alloc _;obtain⟨x0,x1,x2,x3,x4,xz⟩:=kV w 0 sa sb (.slice ra rs.length rc) fv _ (Turn.refl _ _);obtain⟨c0,c1,c2,c3,c4,c5,c6,c7,c8,c9,cz⟩:=(hw.still t1).cells;obtain⟨x,c,hx,abr⟩:=Vh hw hl ht hc hi hg hi6 hmo Qw (.slice ra rs.length rc) rs hrl;have hal:=hc.recs.len;have hgn:=hc.recs.uG;have hmn:=hc.recs.En;have hnn:=hc.nn;have HW:=hide (hw.still t1);have HL:=hide (hl.still t1);have HT:=hide (ht.same t1);have HG:=hide hg;have HR:=hide hr;have hap:=fun k hk=>(hw.still t1).apart (hl.still t1) k hk
 have hlt:∀k∈aJ F lb gv (ms0++[m]),k<w.heap.size:=fun k hk=>(hl.lt k hk).2
 obtain⟨L,hL⟩:∃L,L=aJ F lb gv (ms0++[m]):=⟨_,rfl⟩;rw[←hL]at hap hlt abr;have G7:=hide abr;have HXN:=hide hx;have Z7:=hide hap;have BR:=hide (And.intro hlt (ai w (.cells (iZ 0 sa sb (.slice ra rs.length rc) fv) 41)));clear hw hl ht hc hg t1 hap hlt hL abr hx hr;obtain⟨Y2,hY2⟩:∃Y2:LW,Y2={y with all:=y.all++gp n rs,gone:=y.gone++List.replicate rs.length false,may:=y.may++List.replicate rs.length false}:=⟨_,rfl⟩;rw[←hY2]at G7;have HY2:=hide hY2;clear hY2;unfold iZ at*;go_enter Tryz.func9,Tryz.ntmps9
 go_wp2
 clear c0 c1 c2 c3 c4 c5 c6 c7 c8 c9 cz x0 x1 x2 x3 x4 xz;obtain⟨wq,hwq⟩:∃wq,wq=w.alloc (.cells #[.int .i64 0, .int .i64 sa, .int .i64 sb, .slice ra rs.length rc,fv] 41):=⟨_,rfl⟩;rw[←hwq]at HW HL HT BR;rw[←hwq];clear hwq;obtain⟨B,hB⟩:∃B,B=w.heap.size:=⟨_,rfl⟩;rw[←hB]at BR;rw[←hB];clear hB;have hcs:∀Z,Turn L wq Z→Z.cell? ⟨wb,1,none⟩=some (.pointer (some ⟨lb,0,none⟩))∧wb<Z.heap.size∧Z.cell? ⟨B,3,none⟩=some (.slice ra rs.length rc)∧B<Z.heap.size:=fun Z hZ=>by
  obtain⟨-,q1, -, -, -, -, -, -, -, -,qz⟩:=(HW.out.kept hZ Z7.out).cells;have hb:=hZ.heap BR.out.2 (fun hm=>Nat.lt_irrefl _ (BR.out.1 _ hm));exact⟨q1,qz,by rw[cell_of hb];rfl,lt_of_heap hb⟩
 have yZ:=hide hcs;clear hcs;refine bP 11 (Turn L) (Turn []) (fun k w=>match k with|0=>(fun w'=>(bY w' W.heap.size wb d lb (mo:Int) va vg vm ve y∧az w' W.heap.size d F A lb gv aX v (ms0++[m]))∧Turn [] W w') w|_=>(fun w'=>0≤w'.heap.size) w) [6] (by kernel_rfl) (by kernel_rfl) (by kernel_rfl) (by kernel_rfl) (by kernel_rfl) (by kernel_rfl) (Nat.le_of_ble_eq_true rfl) (by decide) rfl (Turn.refl _) (fun _ _ _ h k=>h.same k) (fun _ _ h=>h.mono (by simp)) ?_ ?_ ?_
 ·intro k a b hk hR
  match k,hk with
  |0,hk=>
   have hk:=(show(fun w'=>(bY w' W.heap.size wb d lb (mo:Int) va vg vm ve y∧az w' W.heap.size d F A lb gv aX v (ms0++[m]))∧Turn [] W w') a from hk);dsimp only at hk;show(fun w'=>(bY w' W.heap.size wb d lb (mo:Int) va vg vm ve y∧az w' W.heap.size d F A lb gv aX v (ms0++[m]))∧Turn [] W w') b;dsimp only;first|exact⟨⟨hk.1.1.still hR,hk.1.2.still hR⟩,hk.2.same hR⟩|exact Nat.zero_le _
  |_+1,hk=>
   have hk:=(show(fun w'=>0≤w'.heap.size) a from hk);dsimp only at hk;show(fun w'=>0≤w'.heap.size) b;dsimp only;first|exact⟨⟨hk.1.1.still hR,hk.1.2.still hR⟩,hk.2.same hR⟩|exact Nat.zero_le _
 ·show(fun w'=>(bY w' W.heap.size wb d lb (mo:Int) va vg vm ve y∧az w' W.heap.size d F A lb gv aX v (ms0++[m]))∧Turn [] W w') _
  dsimp only;exact⟨⟨HW.out.still ((Turn.refl [] wq).drew),HL.out.still ((Turn.refl [] wq).drew)⟩,HT.out.same ((Turn.refl [] wq).drew)⟩
 apply Lo.r0 1 rfl 0 (by intro u;conv=>lhs;whnf) rfl
 ·intro a w1 hR e0 K hK
  go_simp
  exact hK _ rfl
 apply Lo.r1 2 rfl 14 0 (fun _=>rfl) rfl (by kernel_rfl)
 ·intro a w1 hR e14 K hK
  go_simp
  exact hK _ rfl
 apply Lo.r1 3 rfl 15 1 (fun _=>rfl) rfl (by kernel_rfl)
 ·intro a w1 hR e15 K hK
  go_simp
  exact hK _ rfl
 apply Lo.r1 4 rfl 16 2 (fun _=>rfl) rfl (by kernel_rfl)
 ·intro a w1 hR e16 K hK
  obtain⟨q1,qz, -, -⟩:=yZ.out w1 hR.dr;go_simp
  exact hK _ rfl
 apply Lo.r0 5 rfl 3 (by intro u;conv=>lhs;whnf) rfl
 ·intro a w1 hR e3 K hK
  go_simp
  exact hK _ rfl
 apply Lo.r1 6 rfl 18 4 (fun _=>rfl) rfl (by kernel_rfl)
 ·intro a w1 hR e18 K hK
  obtain⟨-, -,q1,qz⟩:=yZ.out w1 hR.dr;go_simp
  exact hK _ rfl
 refine Lo.je 7 rfl 0 rfl [3,5] (fun z w'=>z= .tuple #[.int .i64 x,aC c]∧((c=0∧oV W w' d wb lb mo i va vg vm ve y Y2)∨(c≠0∧nO W w' d wb lb mo i va vg vm ve y c))∧w'.heap[B]? =some (.cells #[.int .i64 0, .int .i64 sa, .int .i64 sb, .slice ra rs.length rc,fv] 41 (0,0))) (by kernel_rfl) (fun x w w' h hR=>?_) (.inl (by kernel_rfl)) (fun u w1 hR hS hF=>?_) ?_
 ·exact⟨h.1,h.2.1.imp (fun k=>⟨k.1,k.2.still hR⟩) (fun k=>⟨k.1,k.2.still hR⟩),hR.heap h.2.2 (by simp)⟩
 ·obtain⟨h3,h5, -⟩:=hF
  have hS:=(show(fun w'=>(bY w' W.heap.size wb d lb (mo:Int) va vg vm ve y∧az w' W.heap.size d F A lb gv aX v (ms0++[m]))∧Turn [] W w') w1 from hS);dsimp only at hS;refine⟨rfl,fun a ha K hK=>?_⟩;have e17:=(ha 17).trans h3;have e19:=(ha 19).trans h5;clear ha h3 h5;go_simp
  refine(G7.out w1 hS.1.1 hS.1.2 hS.2 (HR.out w1 hS.2)).mono ?_;rintro e w2 ⟨rfl,ho,htl⟩;exact hK _ _ ⟨rfl,ho,(hR.dr.same htl).heap BR.out.2 (fun hm=>Nat.lt_irrefl _ (BR.out.1 _ hm))⟩ htl (Nat.zero_le _)
 refine Lo.df 8 rfl rfl [6] (.tuple #[.int .i64 x,aC c]) (by kernel_rfl) (fun u w1 hR hF=>?_) (Turn.refl _) ?_
 ·obtain⟨h6, -⟩:=hF
  refine⟨rfl,fun a ha K hK=>?_⟩;have e20:a.tmps.getD 20 undef=u 6:=ha 20;have h6:=(show(fun z w'=>z= .tuple #[.int .i64 x,aC c]∧((c=0∧oV W w' d wb lb mo i va vg vm ve y Y2)∨(c≠0∧nO W w' d wb lb mo i va vg vm ve y c))∧w'.heap[B]? =some (.cells #[.int .i64 0, .int .i64 sa, .int .i64 sb, .slice ra rs.length rc,fv] 41 (0,0))) (u 6) w1 from h6)
  dsimp only at h6;clear ha;obtain⟨e6, -⟩:=h6;rw[e6]at e20;go_simp
  exact hK _ rfl
 apply Lo.r1 9 rfl 13 7 (fun _=>rfl) rfl (by kernel_rfl)
 ·intro a w1 hR e13 K hK
  go_simp
  exact hK _ rfl
 apply Lo.r1 10 rfl 13 7 (fun _=>rfl) rfl (by kernel_rfl)
 ·intro a w1 hR e13 K hK
  go_simp
  exact hK _ rfl
 apply Lo.r1 11 rfl 21 8 (fun _=>rfl) rfl (by kernel_rfl)
 ·intro a w1 hR e21 K hK
  go_simp
  exact hK _ rfl
 refine Lo.done [6,9,10] (fun u w1 bI hSd hF=>?_);have hSd:=(show(fun w'=>0≤w'.heap.size) w1 from hSd);dsimp only at hSd;obtain⟨f6,f9,f10, -⟩:=hF;have d6:=(show(fun z w'=>z= .tuple #[.int .i64 x,aC c]∧((c=0∧oV W w' d wb lb mo i va vg vm ve y Y2)∨(c≠0∧nO W w' d wb lb mo i va vg vm ve y c))∧w'.heap[B]? =some (.cells #[.int .i64 0, .int .i64 sa, .int .i64 sb, .slice ra rs.length rc,fv] 41 (0,0))) (u 6) w1 from f6)
 dsimp only at d6;have d9:u 9=_:=f9;have d10:u 10=_:=f10;clear f6 f9 f10;simp only[List.take_succ_cons,List.take_zero,List.drop_succ_cons,List.drop_zero,ax,Act.put,List.setIfInBounds_toArray,List.set_cons_succ,List.set_cons_zero,Nat.zero_add,Nat.reduceAdd,d9,d10];obtain⟨-,aaw,hbx⟩:=d6;clear bI hSd;obtain⟨w2,hw2⟩:∃w2,w2=w1:=⟨_,rfl⟩;rw[←hw2]at aaw hbx;rw[←hw2];clear hw2;rcases aaw with⟨rfl,aaw⟩|⟨hne,aaw⟩
 ·obtain rfl:=HXN.out rfl
  rw[show aC 0= .nilIface from rfl];have HO:=hide aaw;have DW:=hide hbx;obtain⟨c0,c1,c2,c3,c4,c5,c6,c7,c8,c9,cz⟩:=aaw.law.1.cells;obtain⟨va1,ca1,hva,hvl,hvm⟩:=aaw.law.1.kT.form;rw[hal]at hva hvl;rw[hmx]at hvm;rw[hva]at c3;have avE:((n:Int)!=(n:Int))=false:=by simp
  have hst:oV W w2 d wb lb mo i va vg vm ve {y with all:=y.all++gp n (rs.take 0),gone:=y.gone++List.replicate 0 false,may:=y.may++List.replicate 0 false} Y2:=by simpa[gp]using aaw
  have HST:=hide hst;clear aaw hbx hva hst;go_wp2
  go_loopw [7] (fun kv wr=>∃(k:Nat) (va' vg' vm':Value),k≤rs.length∧kv= .int .i64 k∧oV W wr d wb lb mo i va' vg' vm' ve {y with all:=y.all++gp n (rs.take k),gone:=y.gone++List.replicate k false,may:=y.may++List.replicate k false} Y2∧wr.heap[B]? =some (.cells #[.int .i64 0, .int .i64 sa, .int .i64 sb, .slice ra rs.length rc,fv] 41 (0,0))) (fun kv _=>rs.length-(intOf kv).toNat)
  case atStart=>exact⟨0,va,vg,vm,Nat.zero_le _,rfl,HST.out,DW.out⟩
  case round=>
   obtain⟨k,va',vg',vm',hk,rfl,hoy,hbk⟩:=hrel;obtain⟨Ol,htw⟩:=hoy.law;have b3:wr.cell? ⟨B,3,none⟩=some (.slice ra rs.length rc):=by rw[cell_of hbk];rfl
   have bz:=lt_of_heap hbk;have XW:=hide hoy;have Cj:=hide Ol;have dO:=hide htw;have Ug:=hide hbk;clear hoy Ol htw hbk c0 c1 c2 c3 c4 c5 c6 c7 c8 c9 cz hvl hvm;by_cases hlt:k<rs.length
   ·obtain⟨p,rfl⟩:=NH k hlt
    obtain⟨g0,g1,g2,g3,g4,g5⟩:=(HR.out wr dO.out).six hlt;obtain⟨r,hr⟩:∃r,r=rs[k]:=⟨_,rfl⟩;have Ye:=hide (Di (n:Int) rs hlt);rw[←hr]at g0 g1 g2 g3 g4 g5 Ye;clear hr;go_upto_region 15 with fail
    obtain⟨w6,hw6⟩:∃w6,w6=wr.alloc (.cells #[.int .i64 ((n:Int)+(k:Int)), .int .i64 r.time, .bool r.keyed, .string ⟨r.key.toArray⟩, .bool r.gone, .string ⟨r.value.toArray⟩] 52):=⟨_,rfl⟩;rw[←hw6];have ht6:Turn [] wr w6:=by rw[hw6];exact(Turn.refl [] wr).alloc _
    obtain⟨r',hr'⟩:∃r':Bt.Rec,r'={r with off:=(n:Int)+(k:Int)}:=⟨_,rfl⟩;have hb6:w6.heap[wr.heap.size]? =some (.cells (recC r').toArray 52 (0,0)):=by rw[hw6,hr'];exact ai wr _
    rw[←hr']at Ye;obtain⟨R0,hR0⟩:∃R0,R0=wr.heap.size:=⟨_,rfl⟩;rw[←hR0]at hb6;rw[←hR0];have hy6:=XW.out.still ht6;have af0:=hy6.law.1;obtain⟨AL,hAL⟩:∃AL,AL=y.all++gp n (rs.take k):=⟨_,rfl⟩;obtain⟨G0,hG0⟩:∃G0,G0=y.gone++List.replicate k false:=⟨_,rfl⟩;obtain⟨M0,hM0⟩:∃M0,M0=y.may++List.replicate k false:=⟨_,rfl⟩;have hrA:aO 52 6 recC w6 W.heap.size va' AL:=by rw[hAL];exact af0.kT
    have hrG:aO 4 1 EL w6 W.heap.size vg' G0:=by rw[hG0];exact af0.fV
    have hrM:aO 4 1 EL w6 W.heap.size vm' M0:=by rw[hM0];exact af0.nH
    have hlA:AL.length≤1000000:=by rw[hAL,List.length_append,ou,List.length_take];omega
    have hgl:G0.length=y.gone.length+k:=by rw[hG0];simp
    have hml:M0.length=y.may.length+k:=by rw[hM0];simp
    have hwz:W.heap.size≤w6.heap.size:=hy6.law.2.size;obtain⟨SS,hSS⟩:∃SS,SS=wb::(va'.ownBlock.toList++(vg'.ownBlock.toList++vm'.ownBlock.toList)):=⟨_,rfl⟩;have hSl:∀q∈SS,q<R0:=fun q hq=>by
     rw[hSS]at hq;simp only[List.mem_cons,List.mem_append,Option.mem_toList]at hq;rw[hR0];rcases hq with rfl|hq|hq|hq
     ·exact lt_of_heap Cj.out.box
     ·exact(Cj.out.kT.lt q hq).2
     ·exact(Cj.out.fV.lt q hq).2
     ·exact(Cj.out.nH.lt q hq).2
    have hSB:B∉SS:=fun hq=>by
     have e:=Ug.out;rw[hSS]at hq;simp only[List.mem_cons,List.mem_append,Option.mem_toList]at hq;rcases hq with hq|hq|hq|hq
     ·rw[hq]at e
      exact aW e Cj.out.box (by decide) rfl
     ·obtain⟨cs',e'⟩:=Cj.out.kT.kind B hq
      exact aW e' e (by decide) rfl
     ·obtain⟨cs',e'⟩:=Cj.out.fV.kind B hq
      exact aW e' e (by decide) rfl
     ·obtain⟨cs',e'⟩:=Cj.out.nH.kind B hq
      exact aW e' e (by decide) rfl
    have al3:=ht6.heap Ug.out (by simp);have hcs:∀Z,Turn SS w6 Z→Z.heap[B]? =some (.cells #[.int .i64 0, .int .i64 sa, .int .i64 sb, .slice (some p) rs.length rc,fv] 41 (0,0))∧Z.heap[R0]? =some (.cells (recC r').toArray 52 (0,0)):=fun Z hZ=>⟨hZ.heap al3 hSB,hZ.heap hb6 (fun hm=>Nat.lt_irrefl _ (hSl _ hm))⟩
    obtain⟨YK,Yr⟩:∃YK:LW,YK={y with all:=y.all++gp n (rs.take k),gone:=y.gone++List.replicate k false,may:=y.may++List.replicate k false}:=⟨_,rfl⟩;rw[←Yr]at hy6 af0;have Qk:=af0.rws;rw[show YK.all=AL from by rw[Yr,hAL],show YK.gone=G0 from by rw[Yr,hG0],show YK.may=M0 from by rw[Yr,hM0]]at Qk;have abH:(∀q∈va'.ownBlock.toList,q∈SS)∧(∀q∈vg'.ownBlock.toList,q∈SS)∧(∀q∈vm'.ownBlock.toList,q∈SS)∧∀q∈[wb],q∈SS:=by
     rw[hSS];exact⟨fun q hq=>List.mem_cons_of_mem _ (List.mem_append_left _ hq),fun q hq=>List.mem_cons_of_mem _ (List.mem_append_right _ (List.mem_append_left _ hq)),fun q hq=>List.mem_cons_of_mem _ (List.mem_append_right _ (List.mem_append_right _ hq)),fun q hq=>by rw[List.mem_singleton.1 hq];exact List.mem_cons_self⟩
    have XX:=hide hcs;have HRA:=hide Qk;have MW:=hide abH;have HY6:=hide hy6;have Sv:=hide hSS;have nX:=hide (And.intro hAL (And.intro hG0 (And.intro hM0 Yr)));have Ua:Hid (∀q∈SS,q<w6.heap.size):=fun q hq=>Nat.lt_trans (hSl q hq) (lt_of_heap hb6)
    clear hw6 ht6 hr' hb6 hR0 hy6 af0 hrA hrG hrM hcs al3 abH hSS hAL hG0 hM0 Yr Qk g0 g1 g2 g3 g4 g5 b3 bz hSl hSB;have HZ6:=hide hwz;clear hwz;refine jM 31 (Turn SS) (Turn []) (fun k u w=>match k with|0=>(fun u w'=>fH w' W.heap.size wb d lb (mo:Int) ve YK va' vg' vm' va' vg' vm' AL G0 M0) u w|1=>(fun u w'=>fH w' W.heap.size wb d lb (mo:Int) ve YK va' vg' vm' (u 9) vg' vm' (AL++[r']) G0 M0) u w|2=>(fun u w'=>fH w' W.heap.size wb d lb (mo:Int) ve YK va' vg' vm' (u 9) (u 15) vm' (AL++[r']) (G0++[false]) M0) u w|3=>(fun u w'=>fH w' W.heap.size wb d lb (mo:Int) ve YK va' vg' vm' (u 9) (u 15) (u 21) (AL++[r']) (G0++[false]) (M0++[false])) u w|4=>(fun u w'=>fH w' W.heap.size wb d lb (mo:Int) ve YK (u 9) vg' vm' (u 9) (u 15) (u 21) (AL++[r']) (G0++[false]) (M0++[false])) u w|5=>(fun u w'=>fH w' W.heap.size wb d lb (mo:Int) ve YK (u 9) (u 15) vm' (u 9) (u 15) (u 21) (AL++[r']) (G0++[false]) (M0++[false])) u w|_=>(fun u w'=>fH w' W.heap.size wb d lb (mo:Int) ve YK (u 9) (u 15) (u 21) (u 9) (u 15) (u 21) (AL++[r']) (G0++[false]) (M0++[false])) u w) [9,15,21,24,27,30] (by kernel_rfl) (by kernel_rfl) (by kernel_rfl) (by kernel_rfl) (by kernel_rfl) (by kernel_rfl) (Nat.le_of_ble_eq_true rfl) (by decide) rfl (Turn.refl _) (fun _ _ _ h k=>h.same k) (fun _ _ h=>h.mono (by simp)) ?_ ?_ ?_ ?_
    ·intro k u a b hk hR
     match k,hk with
     |0,hk=>
      have hk:=(show(fun u w'=>fH w' W.heap.size wb d lb (mo:Int) ve YK va' vg' vm' va' vg' vm' AL G0 M0) u a from hk);dsimp only at hk;show(fun u w'=>fH w' W.heap.size wb d lb (mo:Int) ve YK va' vg' vm' va' vg' vm' AL G0 M0) u b;dsimp only;exact hk.still hR
     |1,hk=>
      have hk:=(show(fun u w'=>fH w' W.heap.size wb d lb (mo:Int) ve YK va' vg' vm' (u 9) vg' vm' (AL++[r']) G0 M0) u a from hk);dsimp only at hk;show(fun u w'=>fH w' W.heap.size wb d lb (mo:Int) ve YK va' vg' vm' (u 9) vg' vm' (AL++[r']) G0 M0) u b;dsimp only;exact hk.still hR
     |2,hk=>
      have hk:=(show(fun u w'=>fH w' W.heap.size wb d lb (mo:Int) ve YK va' vg' vm' (u 9) (u 15) vm' (AL++[r']) (G0++[false]) M0) u a from hk);dsimp only at hk;show(fun u w'=>fH w' W.heap.size wb d lb (mo:Int) ve YK va' vg' vm' (u 9) (u 15) vm' (AL++[r']) (G0++[false]) M0) u b;dsimp only;exact hk.still hR
     |3,hk=>
      have hk:=(show(fun u w'=>fH w' W.heap.size wb d lb (mo:Int) ve YK va' vg' vm' (u 9) (u 15) (u 21) (AL++[r']) (G0++[false]) (M0++[false])) u a from hk);dsimp only at hk;show(fun u w'=>fH w' W.heap.size wb d lb (mo:Int) ve YK va' vg' vm' (u 9) (u 15) (u 21) (AL++[r']) (G0++[false]) (M0++[false])) u b;dsimp only;exact hk.still hR
     |4,hk=>
      have hk:=(show(fun u w'=>fH w' W.heap.size wb d lb (mo:Int) ve YK (u 9) vg' vm' (u 9) (u 15) (u 21) (AL++[r']) (G0++[false]) (M0++[false])) u a from hk);dsimp only at hk;show(fun u w'=>fH w' W.heap.size wb d lb (mo:Int) ve YK (u 9) vg' vm' (u 9) (u 15) (u 21) (AL++[r']) (G0++[false]) (M0++[false])) u b;dsimp only;exact hk.still hR
     |5,hk=>
      have hk:=(show(fun u w'=>fH w' W.heap.size wb d lb (mo:Int) ve YK (u 9) (u 15) vm' (u 9) (u 15) (u 21) (AL++[r']) (G0++[false]) (M0++[false])) u a from hk);dsimp only at hk;show(fun u w'=>fH w' W.heap.size wb d lb (mo:Int) ve YK (u 9) (u 15) vm' (u 9) (u 15) (u 21) (AL++[r']) (G0++[false]) (M0++[false])) u b;dsimp only;exact hk.still hR
     |_+6,hk=>
      have hk:=(show(fun u w'=>fH w' W.heap.size wb d lb (mo:Int) ve YK (u 9) (u 15) (u 21) (u 9) (u 15) (u 21) (AL++[r']) (G0++[false]) (M0++[false])) u a from hk);dsimp only at hk;show(fun u w'=>fH w' W.heap.size wb d lb (mo:Int) ve YK (u 9) (u 15) (u 21) (u 9) (u 15) (u 21) (AL++[r']) (G0++[false]) (M0++[false])) u b;dsimp only;exact hk.still hR
    ·intro k u i9 y9 w9 hn hk
     match k,hn,hk with
     |0,hn,hk=>
      have hk:=(show(fun u w'=>fH w' W.heap.size wb d lb (mo:Int) ve YK va' vg' vm' va' vg' vm' AL G0 M0) u w9 from hk);dsimp only at hk;show(fun u w'=>fH w' W.heap.size wb d lb (mo:Int) ve YK va' vg' vm' va' vg' vm' AL G0 M0) (upd u i9 y9) w9;dsimp only;exact hk
     |1,hn,hk=>
      have e9:upd u i9 y9 9=u 9:=upd_ne (fun h=>hn 0 (by omega) (by rw[←h];rfl));have hk:=(show(fun u w'=>fH w' W.heap.size wb d lb (mo:Int) ve YK va' vg' vm' (u 9) vg' vm' (AL++[r']) G0 M0) u w9 from hk);dsimp only at hk;show(fun u w'=>fH w' W.heap.size wb d lb (mo:Int) ve YK va' vg' vm' (u 9) vg' vm' (AL++[r']) G0 M0) (upd u i9 y9) w9;dsimp only;try simp only[e9]
      exact hk
     |2,hn,hk=>
      have e9:upd u i9 y9 9=u 9:=upd_ne (fun h=>hn 0 (by omega) (by rw[←h];rfl));have e15:upd u i9 y9 15=u 15:=upd_ne (fun h=>hn 1 (by omega) (by rw[←h];rfl));have hk:=(show(fun u w'=>fH w' W.heap.size wb d lb (mo:Int) ve YK va' vg' vm' (u 9) (u 15) vm' (AL++[r']) (G0++[false]) M0) u w9 from hk);dsimp only at hk;show(fun u w'=>fH w' W.heap.size wb d lb (mo:Int) ve YK va' vg' vm' (u 9) (u 15) vm' (AL++[r']) (G0++[false]) M0) (upd u i9 y9) w9;dsimp only;try simp only[e9,e15]
      exact hk
     |3,hn,hk=>
      have e9:upd u i9 y9 9=u 9:=upd_ne (fun h=>hn 0 (by omega) (by rw[←h];rfl));have e15:upd u i9 y9 15=u 15:=upd_ne (fun h=>hn 1 (by omega) (by rw[←h];rfl));have e21:upd u i9 y9 21=u 21:=upd_ne (fun h=>hn 2 (by omega) (by rw[←h];rfl));have hk:=(show(fun u w'=>fH w' W.heap.size wb d lb (mo:Int) ve YK va' vg' vm' (u 9) (u 15) (u 21) (AL++[r']) (G0++[false]) (M0++[false])) u w9 from hk);dsimp only at hk;show(fun u w'=>fH w' W.heap.size wb d lb (mo:Int) ve YK va' vg' vm' (u 9) (u 15) (u 21) (AL++[r']) (G0++[false]) (M0++[false])) (upd u i9 y9) w9;dsimp only;try simp only[e9,e15,e21]
      exact hk
     |4,hn,hk=>
      have e9:upd u i9 y9 9=u 9:=upd_ne (fun h=>hn 0 (by omega) (by rw[←h];rfl));have e15:upd u i9 y9 15=u 15:=upd_ne (fun h=>hn 1 (by omega) (by rw[←h];rfl));have e21:upd u i9 y9 21=u 21:=upd_ne (fun h=>hn 2 (by omega) (by rw[←h];rfl));have e24:upd u i9 y9 24=u 24:=upd_ne (fun h=>hn 3 (by omega) (by rw[←h];rfl));have hk:=(show(fun u w'=>fH w' W.heap.size wb d lb (mo:Int) ve YK (u 9) vg' vm' (u 9) (u 15) (u 21) (AL++[r']) (G0++[false]) (M0++[false])) u w9 from hk);dsimp only at hk;show(fun u w'=>fH w' W.heap.size wb d lb (mo:Int) ve YK (u 9) vg' vm' (u 9) (u 15) (u 21) (AL++[r']) (G0++[false]) (M0++[false])) (upd u i9 y9) w9;dsimp only;try simp only[e9,e15,e21,e24]
      exact hk
     |5,hn,hk=>
      have e9:upd u i9 y9 9=u 9:=upd_ne (fun h=>hn 0 (by omega) (by rw[←h];rfl));have e15:upd u i9 y9 15=u 15:=upd_ne (fun h=>hn 1 (by omega) (by rw[←h];rfl));have e21:upd u i9 y9 21=u 21:=upd_ne (fun h=>hn 2 (by omega) (by rw[←h];rfl));have e24:upd u i9 y9 24=u 24:=upd_ne (fun h=>hn 3 (by omega) (by rw[←h];rfl));have e27:upd u i9 y9 27=u 27:=upd_ne (fun h=>hn 4 (by omega) (by rw[←h];rfl));have hk:=(show(fun u w'=>fH w' W.heap.size wb d lb (mo:Int) ve YK (u 9) (u 15) vm' (u 9) (u 15) (u 21) (AL++[r']) (G0++[false]) (M0++[false])) u w9 from hk);dsimp only at hk;show(fun u w'=>fH w' W.heap.size wb d lb (mo:Int) ve YK (u 9) (u 15) vm' (u 9) (u 15) (u 21) (AL++[r']) (G0++[false]) (M0++[false])) (upd u i9 y9) w9;dsimp only;try simp only[e9,e15,e21,e24,e27]
      exact hk
     |_+6,hn,hk=>
      have e9:upd u i9 y9 9=u 9:=upd_ne (fun h=>hn 0 (by omega) (by rw[←h];rfl));have e15:upd u i9 y9 15=u 15:=upd_ne (fun h=>hn 1 (by omega) (by rw[←h];rfl));have e21:upd u i9 y9 21=u 21:=upd_ne (fun h=>hn 2 (by omega) (by rw[←h];rfl));have e24:upd u i9 y9 24=u 24:=upd_ne (fun h=>hn 3 (by omega) (by rw[←h];rfl));have e27:upd u i9 y9 27=u 27:=upd_ne (fun h=>hn 4 (by omega) (by rw[←h];rfl));have e30:upd u i9 y9 30=u 30:=upd_ne (fun h=>hn 5 (by omega) (by rw[←h];rfl));have hk:=(show(fun u w'=>fH w' W.heap.size wb d lb (mo:Int) ve YK (u 9) (u 15) (u 21) (u 9) (u 15) (u 21) (AL++[r']) (G0++[false]) (M0++[false])) u w9 from hk);dsimp only at hk;show(fun u w'=>fH w' W.heap.size wb d lb (mo:Int) ve YK (u 9) (u 15) (u 21) (u 9) (u 15) (u 21) (AL++[r']) (G0++[false]) (M0++[false])) (upd u i9 y9) w9;dsimp only;try simp only[e9,e15,e21,e24,e27,e30]
      exact hk
    ·intro u
     show(fun u w'=>fH w' W.heap.size wb d lb (mo:Int) ve YK va' vg' vm' va' vg' vm' AL G0 M0) u _;dsimp only;exact HRA.out.still ((Turn.refl [] _).drew)
    apply Lo.r0 1 rfl 0 (by intro u;conv=>lhs;whnf) rfl
    ·intro a w1 hR e0 K hK
     go_simp
     exact hK _ rfl
    apply Lo.r0 2 rfl 0 (by intro u;conv=>lhs;whnf) rfl
    ·intro a w1 hR e0 K hK
     go_simp
     exact hK _ rfl
    apply Lo.r0 3 rfl 0 (by intro u;conv=>lhs;whnf) rfl
    ·intro a w1 hR e0 K hK
     go_simp
     exact hK _ rfl
    apply Lo.r0 4 rfl 0 (by intro u;conv=>lhs;whnf) rfl
    ·intro a w1 hR e0 K hK
     go_simp
     exact hK _ rfl
    apply Lo.r1 5 rfl 51 3 (fun _=>rfl) rfl (by kernel_rfl)
    ·intro a w1 hR e51 K hK
     go_simp
     exact hK _ rfl
    apply Lo.r1 6 rfl 52 4 (fun _=>rfl) rfl (by kernel_rfl)
    ·intro a w1 hR e52 K hK
     go_simp
     exact hK _ rfl
    refine Lo.OE 7 rfl rfl 0 (by kernel_rfl) [5] (va') (by kernel_rfl) (fun u w1 hR hP hF=>?_) (Turn.refl _) ?_
    ·obtain⟨h5, -⟩:=hF
     have hP:(fun u w'=>fH w' W.heap.size wb d lb (mo:Int) ve YK va' vg' vm' va' vg' vm' AL G0 M0) u w1:=by
      obtain⟨k,hk,hP⟩:=hP;match k,hk,hP with
      |0,_,hP=>exact hP
      |k+1,hk,_=>exact absurd hk (by omega)
     dsimp only at hP;refine⟨rfl,fun a ha K hK=>?_⟩;have e53:=(ha 53).trans h5;clear ha h5;obtain⟨q3, -, -,qz, -⟩:=hP.cells;go_simp
     exact hK _ rfl
    refine Lo.df 8 rfl rfl [] (.agg (recC r').toArray) (by kernel_rfl) (fun u w1 hR hF=>?_) (Turn.refl _) ?_
    ·clear hF
     refine⟨rfl,fun a ha K hK=>?_⟩;have e8:=ha 8;conv at e8=>rhs;whnf
     clear ha;have hq:=(XX.out w1 hR.dr).2;have q0:w1.cell? ⟨R0,0,none⟩=some (.int .i64 r'.off):=by rw[cell_of hq];rfl
     have q1:w1.cell? ⟨R0,1,none⟩=some (.int .i64 r'.time):=by rw[cell_of hq];rfl
     have q2:w1.cell? ⟨R0,2,none⟩=some (.bool r'.keyed):=by rw[cell_of hq];rfl
     have q3:w1.cell? ⟨R0,3,none⟩=some (.string ⟨r'.key.toArray⟩):=by rw[cell_of hq];rfl
     have q4:w1.cell? ⟨R0,4,none⟩=some (.bool r'.gone):=by rw[cell_of hq];rfl
     have q5:w1.cell? ⟨R0,5,none⟩=some (.string ⟨r'.value.toArray⟩):=by rw[cell_of hq];rfl
     have qz:=lt_of_heap hq;go_simp
     exact hK _ rfl
    refine Lo.run 9 rfl rfl [7] (fun x w'=>∃q,x= .slice (some ⟨q,0,none⟩) 1 1∧w'.heap[q]? =some (.cells (recC r').toArray 52 (0,0))∧w6.heap.size≤q) (by kernel_rfl) (fun x w w' h hR=>?_) (fun _ _ h=>h.mono (by simp)) (fun u w1 hR hF=>?_) ?_
    ·obtain⟨q,h1,h2,h3⟩:=h;exact⟨q,h1,hR.heap h2 (fun hm=>by have:=Ua.out q hm;omega),h3⟩
    ·obtain⟨h7, -⟩:=hF
     refine⟨rfl,fun a ha K hK=>?_⟩;have e55:=(ha 55).trans h7;clear ha h7;have e55':a.tmps[55]?.getD undef= .agg (recC r').toArray:=by rw[←Array.getD_eq_getD_getElem?,e55]
     go_simp
     exact hK _ _ ⟨w1.heap.size,rfl,ai w1 _,hR.size⟩ ((Turn.refl [] _).alloc _)
    refine Lo.je 10 rfl 0 rfl [6,8] (fun x w'=>0≤w'.heap.size) (by kernel_rfl) (fun x w w' h hR=>?_) (.inr (fun x w w' h hR=>by exact Nat.zero_le _)) (fun u w1 hR hS hF=>?_) ?_
    ·exact Nat.zero_le _
    ·obtain⟨h6,h8, -⟩:=hF
     have hS:=(show(fun u w'=>fH w' W.heap.size wb d lb (mo:Int) ve YK va' vg' vm' va' vg' vm' AL G0 M0) u w1 from hS);dsimp only at hS;refine⟨rfl,fun a ha K hK=>?_⟩;have e54:=(ha 54).trans h6;have e56:a.tmps.getD 56 undef=u 8:=ha 56;have h8:=(show(fun x w'=>∃q,x= .slice (some ⟨q,0,none⟩) 1 1∧w'.heap[q]? =some (.cells (recC r').toArray 52 (0,0))∧w6.heap.size≤q) (u 8) w1 from h8)
     dsimp only at h8;clear ha h6;obtain⟨kk,hx8,hc8, -⟩:=h8;rw[hx8]at e56;have hs6:=HZ6.out;have hs7:=hR.size;obtain⟨v7,w7,hr7,aai,ht7,aaq⟩:=XU w1 W.heap.size va' AL r' kk hS.ra hc8 hlA (by simp at hs7;omega);exact Sn.kC rfl e54 e56 hr7 (hK _ _ (Nat.zero_le _) (ht7.mono (fun q hq=> .inl (MW.out.1 q hq))) (hS.setA ht7 aai))
    apply Lo.r0 11 rfl 0 (by intro u;conv=>lhs;whnf) rfl
    ·intro a w1 hR e0 K hK
     go_simp
     exact hK _ rfl
    apply Lo.r1 12 rfl 58 10 (fun _=>rfl) rfl (by kernel_rfl)
    ·intro a w1 hR e58 K hK
     go_simp
     exact hK _ rfl
    apply Lo.r1 13 rfl 59 11 (fun _=>rfl) rfl (by kernel_rfl)
    ·intro a w1 hR e59 K hK
     go_simp
     exact hK _ rfl
    refine Lo.OE 14 rfl rfl 1 (by kernel_rfl) [12] (vg') (by kernel_rfl) (fun u w1 hR hP hF=>?_) (Turn.refl _) ?_
    ·obtain⟨h12, -⟩:=hF
     have hP:(fun u w'=>fH w' W.heap.size wb d lb (mo:Int) ve YK va' vg' vm' va' vg' vm' AL G0 M0) u w1∨(fun u w'=>fH w' W.heap.size wb d lb (mo:Int) ve YK va' vg' vm' (u 9) vg' vm' (AL++[r']) G0 M0) u w1:=by
      obtain⟨k,hk,hP⟩:=hP;match k,hk,hP with
      |0,_,hP=>exact(.inl hP)
      |1,_,hP=>exact(.inr (hP))
      |k+2,hk,_=>exact absurd hk (by omega)
     dsimp only at hP;refine⟨rfl,fun a ha K hK=>?_⟩;have e60:=(ha 60).trans h12;clear ha h12;obtain⟨-,q3, -,qz, -⟩:w1.cell? ⟨wb,3,none⟩=some va'∧w1.cell? ⟨wb,4,none⟩=some vg'∧w1.cell? ⟨wb,5,none⟩=some vm'∧wb<w1.heap.size∧True:=by
      rcases hP with hP|hP
      ·obtain⟨a1,a2,a3,a4, -⟩:=hP.cells;exact⟨a1,a2,a3,a4,trivial⟩
      ·obtain⟨a1,a2,a3,a4, -⟩:=hP.cells;exact⟨a1,a2,a3,a4,trivial⟩
     clear hP;go_simp
     exact hK _ rfl
    refine Lo.run 15 rfl rfl [] (fun x w'=>∃q,x= .slice (some ⟨q,0,none⟩) 1 1∧w'.heap[q]? =some (.cells (EL false).toArray 4 (0,0))∧w6.heap.size≤q) (by kernel_rfl) (fun x w w' h hR=>?_) (fun _ _ h=>h.mono (by simp)) (fun u w1 hR hF=>?_) ?_
    ·obtain⟨q,h1,h2,h3⟩:=h;exact⟨q,h1,hR.heap h2 (fun hm=>by have:=Ua.out q hm;omega),h3⟩
    ·clear hF
     refine⟨rfl,fun a ha K hK=>?_⟩;clear ha;go_simp
     exact hK _ _ ⟨w1.heap.size,rfl,ai w1 _,hR.size⟩ ((Turn.refl [] _).alloc _)
    refine Lo.je 16 rfl 1 rfl [13,14] (fun x w'=>0≤w'.heap.size) (by kernel_rfl) (fun x w w' h hR=>?_) (.inr (fun x w w' h hR=>by exact Nat.zero_le _)) (fun u w1 hR hS hF=>?_) ?_
    ·exact Nat.zero_le _
    ·obtain⟨h13,h14, -⟩:=hF
     have hS:=(show(fun u w'=>fH w' W.heap.size wb d lb (mo:Int) ve YK va' vg' vm' (u 9) vg' vm' (AL++[r']) G0 M0) u w1 from hS);dsimp only at hS;refine⟨rfl,fun a ha K hK=>?_⟩;have e61:=(ha 61).trans h13;have e62:a.tmps.getD 62 undef=u 14:=ha 62;have h14:=(show(fun x w'=>∃q,x= .slice (some ⟨q,0,none⟩) 1 1∧w'.heap[q]? =some (.cells (EL false).toArray 4 (0,0))∧w6.heap.size≤q) (u 14) w1 from h14)
     dsimp only at h14;clear ha h13;obtain⟨kk,hx8,hc8, -⟩:=h14;rw[hx8]at e62;have hs6:=HZ6.out;have hs7:=hR.size;obtain⟨v7,w7,hr7,aai,ht7,aaq⟩:=TF w1 W.heap.size vg' G0 false kk hS.rg hc8 (by rw[hgl];omega) (by simp at hs7;omega);exact Sn.kC rfl e61 e62 hr7 (hK _ _ (Nat.zero_le _) (ht7.mono (fun q hq=> .inl (MW.out.2.1 q hq))) (hS.setG ht7 aai aaq))
    apply Lo.r0 17 rfl 0 (by intro u;conv=>lhs;whnf) rfl
    ·intro a w1 hR e0 K hK
     go_simp
     exact hK _ rfl
    apply Lo.r1 18 rfl 64 16 (fun _=>rfl) rfl (by kernel_rfl)
    ·intro a w1 hR e64 K hK
     go_simp
     exact hK _ rfl
    apply Lo.r1 19 rfl 65 17 (fun _=>rfl) rfl (by kernel_rfl)
    ·intro a w1 hR e65 K hK
     go_simp
     exact hK _ rfl
    refine Lo.OE 20 rfl rfl 2 (by kernel_rfl) [18] (vm') (by kernel_rfl) (fun u w1 hR hP hF=>?_) (Turn.refl _) ?_
    ·obtain⟨h18, -⟩:=hF
     have hP:(fun u w'=>fH w' W.heap.size wb d lb (mo:Int) ve YK va' vg' vm' va' vg' vm' AL G0 M0) u w1∨(fun u w'=>fH w' W.heap.size wb d lb (mo:Int) ve YK va' vg' vm' (u 9) vg' vm' (AL++[r']) G0 M0) u w1∨(fun u w'=>fH w' W.heap.size wb d lb (mo:Int) ve YK va' vg' vm' (u 9) (u 15) vm' (AL++[r']) (G0++[false]) M0) u w1:=by
      obtain⟨k,hk,hP⟩:=hP;match k,hk,hP with
      |0,_,hP=>exact(.inl hP)
      |1,_,hP=>exact(.inr (.inl hP))
      |2,_,hP=>exact(.inr (.inr (hP)))
      |k+3,hk,_=>exact absurd hk (by omega)
     dsimp only at hP;refine⟨rfl,fun a ha K hK=>?_⟩;have e66:=(ha 66).trans h18;clear ha h18;obtain⟨-, -,q3,qz, -⟩:w1.cell? ⟨wb,3,none⟩=some va'∧w1.cell? ⟨wb,4,none⟩=some vg'∧w1.cell? ⟨wb,5,none⟩=some vm'∧wb<w1.heap.size∧True:=by
      rcases hP with hP|hP|hP
      ·obtain⟨a1,a2,a3,a4, -⟩:=hP.cells;exact⟨a1,a2,a3,a4,trivial⟩
      ·obtain⟨a1,a2,a3,a4, -⟩:=hP.cells;exact⟨a1,a2,a3,a4,trivial⟩
      ·obtain⟨a1,a2,a3,a4, -⟩:=hP.cells;exact⟨a1,a2,a3,a4,trivial⟩
     clear hP;go_simp
     exact hK _ rfl
    refine Lo.run 21 rfl rfl [] (fun x w'=>∃q,x= .slice (some ⟨q,0,none⟩) 1 1∧w'.heap[q]? =some (.cells (EL false).toArray 4 (0,0))∧w6.heap.size≤q) (by kernel_rfl) (fun x w w' h hR=>?_) (fun _ _ h=>h.mono (by simp)) (fun u w1 hR hF=>?_) ?_
    ·obtain⟨q,h1,h2,h3⟩:=h;exact⟨q,h1,hR.heap h2 (fun hm=>by have:=Ua.out q hm;omega),h3⟩
    ·clear hF
     refine⟨rfl,fun a ha K hK=>?_⟩;clear ha;go_simp
     exact hK _ _ ⟨w1.heap.size,rfl,ai w1 _,hR.size⟩ ((Turn.refl [] _).alloc _)
    refine Lo.je 22 rfl 2 rfl [19,20] (fun x w'=>0≤w'.heap.size) (by kernel_rfl) (fun x w w' h hR=>?_) (.inr (fun x w w' h hR=>by exact Nat.zero_le _)) (fun u w1 hR hS hF=>?_) ?_
    ·exact Nat.zero_le _
    ·obtain⟨h19,h20, -⟩:=hF
     have hS:=(show(fun u w'=>fH w' W.heap.size wb d lb (mo:Int) ve YK va' vg' vm' (u 9) (u 15) vm' (AL++[r']) (G0++[false]) M0) u w1 from hS);dsimp only at hS;refine⟨rfl,fun a ha K hK=>?_⟩;have e67:=(ha 67).trans h19;have e68:a.tmps.getD 68 undef=u 20:=ha 68;have h20:=(show(fun x w'=>∃q,x= .slice (some ⟨q,0,none⟩) 1 1∧w'.heap[q]? =some (.cells (EL false).toArray 4 (0,0))∧w6.heap.size≤q) (u 20) w1 from h20)
     dsimp only at h20;clear ha h19;obtain⟨kk,hx8,hc8, -⟩:=h20;rw[hx8]at e68;have hs6:=HZ6.out;have hs7:=hR.size;obtain⟨v7,w7,hr7,aai,ht7,aaq⟩:=TF w1 W.heap.size vm' M0 false kk hS.rm hc8 (by rw[hml];omega) (by simp at hs7;omega);exact Sn.kC rfl e67 e68 hr7 (hK _ _ (Nat.zero_le _) (ht7.mono (fun q hq=> .inl (MW.out.2.2.1 q hq))) (hS.setM ht7 aai aaq))
    apply Lo.r1 23 rfl 48 0 (fun _=>rfl) rfl (by kernel_rfl)
    ·intro a w1 hR e48 K hK
     go_simp
     exact hK _ rfl
    apply Lo.r1 24 rfl 70 22 (fun _=>rfl) rfl (by kernel_rfl)
    ·intro a w1 hR e70 K hK
     go_simp
     exact hK _ rfl
    refine Lo.je 25 rfl 3 rfl [23,9] (fun x w'=>0≤w'.heap.size) (by kernel_rfl) (fun x w w' h hR=>?_) (.inr (fun x w w' h hR=>by exact Nat.zero_le _)) (fun u w1 hR hS hF=>?_) ?_
    ·exact Nat.zero_le _
    ·obtain⟨h23,h9, -⟩:=hF
     have hS:=(show(fun u w'=>fH w' W.heap.size wb d lb (mo:Int) ve YK va' vg' vm' (u 9) (u 15) (u 21) (AL++[r']) (G0++[false]) (M0++[false])) u w1 from hS);dsimp only at hS;refine⟨rfl,fun a ha K hK=>?_⟩;have e71:=(ha 71).trans h23;have e57:a.tmps.getD 57 undef=u 9:=ha 57;have h9:=(show(fun x w'=>0≤w'.heap.size) (u 9) w1 from h9);dsimp only at h9;clear ha h23;obtain⟨q3,q4,q5,qz,f3,f4,f5⟩:=hS.cells;obtain⟨a9,c9,e9, -, -⟩:=hS.ra.form;obtain⟨l9,hl9⟩:∃l9,l9=(AL++[r']).length:=⟨_,rfl⟩;rw[←hl9]at e9;clear hl9;rw[e9]at e57;obtain⟨aa4,htp⟩:=hS.put (i:=3) (x:=u 9) rfl;rw[e9]at htp;have xN:=hide aa4;clear aa4 hS;go_simp
     rw[←e9]at htp⊢;exact hK undef _ (Nat.zero_le _) (htp.mono (fun q hq=> .inl (MW.out.2.2.2 q hq))) xN.out
    apply Lo.r1 26 rfl 49 1 (fun _=>rfl) rfl (by kernel_rfl)
    ·intro a w1 hR e49 K hK
     go_simp
     exact hK _ rfl
    apply Lo.r1 27 rfl 72 25 (fun _=>rfl) rfl (by kernel_rfl)
    ·intro a w1 hR e72 K hK
     go_simp
     exact hK _ rfl
    refine Lo.je 28 rfl 4 rfl [26,15] (fun x w'=>0≤w'.heap.size) (by kernel_rfl) (fun x w w' h hR=>?_) (.inr (fun x w w' h hR=>by exact Nat.zero_le _)) (fun u w1 hR hS hF=>?_) ?_
    ·exact Nat.zero_le _
    ·obtain⟨h26,h15, -⟩:=hF
     have hS:=(show(fun u w'=>fH w' W.heap.size wb d lb (mo:Int) ve YK (u 9) vg' vm' (u 9) (u 15) (u 21) (AL++[r']) (G0++[false]) (M0++[false])) u w1 from hS);dsimp only at hS;refine⟨rfl,fun a ha K hK=>?_⟩;have e73:=(ha 73).trans h26;have e63:a.tmps.getD 63 undef=u 15:=ha 63;have h15:=(show(fun x w'=>0≤w'.heap.size) (u 15) w1 from h15);dsimp only at h15;clear ha h26;obtain⟨q3,q4,q5,qz,f3,f4,f5⟩:=hS.cells;obtain⟨a9,c9,e9, -, -⟩:=hS.rg.form;obtain⟨l9,hl9⟩:∃l9,l9=(G0++[false]).length:=⟨_,rfl⟩;rw[←hl9]at e9;clear hl9;rw[e9]at e63;obtain⟨aa4,htp⟩:=hS.put (i:=4) (x:=u 15) rfl;rw[e9]at htp;have xN:=hide aa4;clear aa4 hS;go_simp
     rw[←e9]at htp⊢;exact hK undef _ (Nat.zero_le _) (htp.mono (fun q hq=> .inl (MW.out.2.2.2 q hq))) xN.out
    apply Lo.r1 29 rfl 50 2 (fun _=>rfl) rfl (by kernel_rfl)
    ·intro a w1 hR e50 K hK
     go_simp
     exact hK _ rfl
    apply Lo.r1 30 rfl 74 28 (fun _=>rfl) rfl (by kernel_rfl)
    ·intro a w1 hR e74 K hK
     go_simp
     exact hK _ rfl
    refine Lo.je 31 rfl 5 rfl [29,21] (fun x w'=>0≤w'.heap.size) (by kernel_rfl) (fun x w w' h hR=>?_) (.inr (fun x w w' h hR=>by exact Nat.zero_le _)) (fun u w1 hR hS hF=>?_) ?_
    ·exact Nat.zero_le _
    ·obtain⟨h29,h21, -⟩:=hF
     have hS:=(show(fun u w'=>fH w' W.heap.size wb d lb (mo:Int) ve YK (u 9) (u 15) vm' (u 9) (u 15) (u 21) (AL++[r']) (G0++[false]) (M0++[false])) u w1 from hS);dsimp only at hS;refine⟨rfl,fun a ha K hK=>?_⟩;have e75:=(ha 75).trans h29;have e69:a.tmps.getD 69 undef=u 21:=ha 69;have h21:=(show(fun x w'=>0≤w'.heap.size) (u 21) w1 from h21);dsimp only at h21;clear ha h29;obtain⟨q3,q4,q5,qz,f3,f4,f5⟩:=hS.cells;obtain⟨a9,c9,e9, -, -⟩:=hS.rm.form;obtain⟨l9,hl9⟩:∃l9,l9=(M0++[false]).length:=⟨_,rfl⟩;rw[←hl9]at e9;clear hl9;rw[e9]at e69;obtain⟨aa4,htp⟩:=hS.put (i:=5) (x:=u 21) rfl;rw[e9]at htp;have xN:=hide aa4;clear aa4 hS;go_simp
     rw[←e9]at htp⊢;exact hK undef _ (Nat.zero_le _) (htp.mono (fun q hq=> .inl (MW.out.2.2.2 q hq))) xN.out
    refine Lo.done [9,15,21] (fun u w1 bI hSd hF=>?_);have hSd:=(show(fun u w'=>fH w' W.heap.size wb d lb (mo:Int) ve YK (u 9) (u 15) (u 21) (u 9) (u 15) (u 21) (AL++[r']) (G0++[false]) (M0++[false])) u w1 from hSd);dsimp only at hSd;obtain⟨f9,f15,f21, -⟩:=hF;have d9:=(show(fun x w'=>0≤w'.heap.size) (u 9) w1 from f9);dsimp only at d9;have d15:=(show(fun x w'=>0≤w'.heap.size) (u 15) w1 from f15);dsimp only at d15;have d21:=(show(fun x w'=>0≤w'.heap.size) (u 21) w1 from f21);dsimp only at d21;clear f9 f15 f21;simp only[List.take_succ_cons,List.take_zero,List.drop_succ_cons,List.drop_zero,ax,Act.put,List.setIfInBounds_toArray,List.set_cons_succ,List.set_cons_zero,Nat.zero_add,Nat.reduceAdd];clear d9 d15 d21;have hy1:=HY6.out.told (w':=w1) (by rw[←Sv.out];exact bI.dr) hSd;have aar:oV W w1 d wb lb mo i (u 9) (u 15) (u 21) ve {y with all:=y.all++gp n (rs.take (k+1)),gone:=y.gone++List.replicate (k+1) false,may:=y.may++List.replicate (k+1) false} Y2:=by
     obtain⟨hA,hG,hM,hY⟩:=nX.out;have f1:y.all++gp n (rs.take (k+1))=AL++[r']:=by rw[Ye.out,hA,List.append_assoc]
     have f2:y.gone++List.replicate (k+1) false=G0++[false]:=by rw[hG,List.replicate_succ',List.append_assoc]
     have f3:y.may++List.replicate (k+1) false=M0++[false]:=by rw[hM,List.replicate_succ',List.append_assoc]
     rw[hY]at hy1;rw[f1,f2,f3];exact hy1
    have HB1:=hide (XX.out w1 bI.dr).1;have jK:=hide aar;obtain⟨v9,hv9⟩:∃v9,v9=u 9:=⟨_,rfl⟩;obtain⟨v15,al5⟩:∃v15,v15=u 15:=⟨_,rfl⟩;obtain⟨v21,al6⟩:∃v21,v21=u 21:=⟨_,rfl⟩;rw[←hv9,←al5,←al6]at jK;clear bI hSd hy1 aar hv9 al5 al6 HY6 nX HRA XX MW Sv Ua HZ6;go_wp2
    all_goals refine⟨⟨k+1,v9,v15,v21,by omega,by go_num,jK.out,HB1.out⟩,?_⟩
    all_goals (simp only[intOf];omega)
   ·obtain rfl:k=rs.length:=by omega
    have hao:Calls Tryz.prog 26 #[.pointer (some ⟨wb,0,none⟩), .nilIface] wr fun e w'=>e= .returned (.bool true)∧pY W w' d wb mo (i+1):=by
     have h:=XW.out;rw[List.take_length,←HY2.out]at h;have h2:=kU h.out hi (HG.out.below dO.out.nil);rw[show aC 0= .nilIface from rfl]at h2;exact h2
    have XY:=hide hao;clear hao;go_wp2_with fail
    refine XY.out.mono ?_;rintro e w3 ⟨rfl,hcr⟩;have vT:=hide hcr;clear hcr;go_wp2
    go_ret
    exact⟨rfl,vT.out⟩
 ·have hE:aC c=bQ c:=by unfold Dk.aC;rw[if_neg hne]
  have hao:Calls Tryz.prog 26 #[.pointer (some ⟨wb,0,none⟩),bQ c] w2 fun e w'=>e= .returned (.bool true)∧pY W w' d wb mo (i+1):=by
   rw[←hE];have hg2:As.iq w2:=by
    obtain⟨F,A,gv,v,ms0,m,X,js,n,h1,h2,h3,h4⟩:=aaw;exact HG.out.below h3.nil
   exact kU aaw hi hg2
  rw[hE];unfold bQ at hao⊢;have XY:=hide hao;clear hao aaw hbx hE hne;go_wp2_with fail
  refine XY.out.mono ?_;rintro e w3 ⟨rfl,hcr⟩;have vT:=hide hcr;clear hcr;go_wp2
  go_ret
  exact⟨rfl,vT.out⟩
end
section
variable {A:DA} {v:LV} {ss0:List (Nat×List Bt.aB)} {m:Nat×List Bt.aB} {js n i mo:Nat} {X:List FA} {y:LW}
theorem kF.marked(h:kF A v ss0 m js n i mo X y)(hd:v.down=true){may':List Bool}(hm:may'.length=n)(hk:∀k:Nat,y.may[k]? =some true→may'[k]? =some true):kF A v ss0 m js n i mo X {y with may:=may'}:=by
 have hr:=h.recs;rw[show y.down=true from h.dn.trans hd]at hr;have:=hr.mark hm hk (fun r hr=>hr) (fun r h1 h2=>absurd h1 h2);exact⟨h.inv,h.qK,h.x1,h.x0,by rw[show({y with may:=may'}:LW).down=true from h.dn.trans hd];exact this,h.ends,h.safe,h.sk,h.dn,h.most,h.nn,h.fl,h.xl,h.sl,h.el,h.ok⟩
end
section
variable {W w:World} {d wb lb mo i n js:Nat} {va vg vm ve:Value} {y:LW} {F:List Nat} {A:DA} {gv:Value} {v:LV} {ms0:List SM} {m:SM} {X:List FA} {may' gone':List Bool}
theorem TL(hw:bY w W.heap.size wb d lb (mo:Int) va vg vm ve {y with may:=may'})(hl:az w W.heap.size d F A lb gv aX v (ms0++[m]))(ht:Turn [] W w)(hc:kF A v (ms0.map SM.abs) m.abs js n i mo X y)(hi:i≤60)(hg:As.iq W)(now ak:Nat)(al7:now<1000)(al8:ak<1000)
 (hm:may'.length=n)(hgl:gone'.length=n)(hmk:∀k:Nat,may'[k]? =some true↔y.may[k]? =some true∨Ep y.all y.gone now ak m.n k) (hgk:∀k:Nat,gone'[k]? =some true↔y.gone[k]? =some true∨Ep y.all y.gone now ak m.n k):
 Calls Tryz.prog 50 #[.pointer (some ⟨lb,0,none⟩), .int .i64 (now:Int), .int .i64 (ak:Int)] w fun e w'=>∃x c,e= .returned (.tuple #[.int .i64 x,aC c])∧
  ((c=0∧oV W w' d wb lb mo i va vg vm ve {y with may:=may'} {y with may:=may',gone:=gone'})∨(c≠0∧nO W w' d wb lb mo i va vg vm ve {y with may:=may'} c))∧Turn (aJ F lb gv (ms0++[m])) w w':=by
 have hgz:∀Z,Turn (aJ F lb gv (ms0++[m])) w Z→As.iq Z:=fun Z hZ=>hg.below ((ht.trans hZ (fun k hk=> .inr (hl.lt k hk).1)).nil)
 cases hd:v.down with
 |true=>
  refine(Hw w _ d F A lb gv aX v _ hl hd now ak).mono ?_;rintro e w' ⟨rfl,h⟩;exact⟨0,6,rfl, .inr ⟨by decide,tN hw hl ht (hc.marked hd hm (fun k hk=>(hmk k).2 (.inl hk))) hd h⟩,h.mono (by simp)⟩
 |false=>
  obtain⟨g,c,A',v',ss0',js',X',e1,h1⟩:=hc.comp hd hi now ak hm hgl hmk hgk;refine(JF w _ d F A lb gv aX v ms0 m hl (by decide) (hc.okS (by omega)) hc.ndS hd hgz now ak (by omega) (by omega) (by omega) (by omega) _ _ rfl rfl).mono ?_;rintro e w' ⟨rfl,h⟩;rw[e1]at h⊢;refine⟨g,c,rfl,?_,h.turn⟩;have hw':=hw.kept h.turn (fun k hk=>hw.apart hl k hk);obtain⟨F',gv',ms',hl',hm',ht',hf'⟩:=h;obtain⟨ms0',q,rfl,rfl,hq⟩:=dB hm';rw[←hq]at h1;have hT:=ht.trans ht' (fun k hk=> .inr (hl.lt k hk).1);rcases h1 with⟨rfl,h1⟩|⟨rfl,h1⟩
  ·exact .inl ⟨rfl,F',A',gv',v',ms0',q,[],js',n,hl',hw',hT,hc.dn.trans hd,h1.VU⟩
  ·exact .inr ⟨by decide,F',A',gv',v',ms0',q,X',js',n,hl',hw',hT, .inr ⟨by decide,fun h=>absurd h (by decide),by rw[if_pos rfl];exact h1.more⟩⟩
theorem MX(L:List Bt.Rec)(r:Bt.Rec):dQ (L++[r])=if r.keyed then(fun x=>if x=r.key then r.off else dQ L x)else dQ L:=by
 unfold dQ;rw[pG];rfl
theorem Ql{all:List Bt.Rec}{gone:List Bool}{k:Nat}(h1:k<all.length)(h2:k<gone.length):dQ (iY (all.take (k+1)) (gone.take (k+1)))=if all[k].keyed=true∧gone[k]=false then(fun x=>if x=all[k].key then all[k].off else dQ (iY (all.take k) (gone.take k)) x)else dQ (iY (all.take k) (gone.take k)):=by
 rw[Qd h1 h2];cases hg:gone[k]with
 |true=>simp
 |false=>
  simp only[Bool.false_eq_true,if_false,and_true];exact MX _ _
def jy(g:List Bool)(l:List Nat):List Bool:=l.foldl (fun g k=>g.set k true) g
theorem J6(g:List Bool)(l:List Nat){t:Nat}(h:t<l.length):jy g (l.take (t+1))=(jy g (l.take t)).set l[t] true:=by
 unfold jy;rw[List.take_succ_eq_append_getElem h,List.foldl_append];rfl
theorem Eu(l:List Nat):∀g:List Bool,(jy g l).length=g.length:=by
 induction l with
 |nil=>intro g;rfl
 |cons a l ih=>intro g;exact(ih (g.set a true)).trans (by simp)
theorem Qm(l:List Nat):∀(g:List Bool) (k:Nat),(jy g l)[k]? =some true↔g[k]? =some true∨(k∈l∧k<g.length):=by
 induction l with
 |nil=>intro g k;simp[jy]
 |cons a l ih=>
  intro g k;have h:=ih (g.set a true) k;rw[show jy g (a::l)=jy (g.set a true) l from rfl,h,List.length_set,List.getElem?_set];by_cases ha:a=k
  ·subst ha
   by_cases hl:a<g.length
   ·simp[hl]
   ·simp only[hl,if_true,if_false,List.mem_cons,true_or,true_and,and_false,or_false]
    constructor
    ·intro h;simp at h
    ·intro h;rw[List.getElem?_eq_none (by omega)]at h;simp at h
  ·rw[if_neg ha]
   simp only[List.mem_cons];constructor
   ·rintro(h|⟨h1,h2⟩)
    ·exact .inl h
    ·exact .inr ⟨.inr h1,h2⟩
   ·rintro(h|⟨h1|h1,h2⟩)
    ·exact .inl h
    ·exact absurd h1.symm ha
    ·exact .inr ⟨h1,h2⟩
theorem oV.gone{W w:World}{d wb lb mo i:Nat}{va vm ve:Value}{y y2:LW}{g l c:Nat}(h:oV W w d wb lb mo i va (.slice (some ⟨g,0,none⟩) l c) vm ve y y2){j:Nat}(hj:j<y.gone.length):oV W (w.setCell ⟨g,j,none⟩ (.bool true)) d wb lb mo i va (.slice (some ⟨g,0,none⟩) l c) vm ve {y with gone:=y.gone.set j true} y2:=by
 obtain⟨F,A,gv,v,ms0,m,X,js,n,h1,h2,h3,h4⟩:=h;have hT:Turn [g] w (w.setCell ⟨g,j,none⟩ (.bool true)):=(Turn.refl _ _).setCell (.inl (by simp)) _;have hm:g∈jg wb va (.slice (some ⟨g,0,none⟩) l c) vm ve:=bV.2 (.inr (.inr (.inl (by simp[Value.ownBlock]))));exact⟨F,A,gv,v,ms0,m,X,js,n,h1.kept hT (fun k hk hq=>h2.apart h1 g hm (by rw[←List.mem_singleton.1 hq];exact hk)),h2.Ia hj true,h3.trans hT (fun k hk=> .inr (by rw[List.mem_singleton.1 hk];exact h2.ge g hm)),h4⟩
structure TM(w wr:World)(base wb d lb mb c:Nat)(mo:Int)(va vg vm ve:Value)(y:LW)(f:List UInt8→Int)(P:Nat→Prop)(n j:Nat)(lv:Value)(l:List Nat)(M:List Bool):Prop where
 law:bY wr base wb d lb mo va vg vm ve {y with may:=M}
 row:aO 3 1 uK wr (mb+1) lv l
 len:M.length=n
 may:∀k:Nat,M[k]? =some true↔y.may[k]? =some true∨(P k∧k<j)
 mem:∀k,k∈l↔P k∧k<j
 few:l.length≤j
 turn:Turn vm.ownBlock.toList w wr
 map:pO wr mb c f
section
variable {wr:World} {base mb c j:Nat} {mo':Int} {f:List UInt8→Int} {P:Nat→Prop} {lv:Value} {l:List Nat} {M:List Bool}
theorem TM.still{w':World}(h:TM w wr base wb d lb mb c mo' va vg vm ve y f P n j lv l M)(ht:Turn [] wr w'):TM w w' base wb d lb mb c mo' va vg vm ve y f P n j lv l M:=
 ⟨h.law.still ht,h.row.still ht,h.len,h.may,h.mem,h.few,h.turn.same (ht.mono (by simp)),h.map.still ht⟩
theorem TM.skip(h:TM w wr base wb d lb mb c mo' va vg vm ve y f P n j lv l M)(hn:¬P j):TM w wr base wb d lb mb c mo' va vg vm ve y f P n (j+1) lv l M:=by
 have e:∀k,(P k∧k<j+1)↔(P k∧k<j):=fun k=>⟨fun⟨h1,h2⟩=>⟨h1,by
  rcases Nat.lt_or_ge k j with h3|h3
  ·exact h3
  ·have:k=j:=by omega
   subst this;exact absurd h1 hn⟩,fun⟨h1,h2⟩=>⟨h1,by omega⟩⟩
 exact⟨h.law,h.row,h.len,fun k=>by rw[h.may k,e k],fun k=>by rw[h.mem k,e k],Nat.le_succ_of_le h.few,h.turn,h.map⟩
theorem TM.mark{w7:World}{g s cc:Nat}(h:TM w wr base wb d lb mb c mo' va vg (.slice (some ⟨g,0,none⟩) s cc) ve y f P n j lv l M)(hP:P j)(hj:j<n)(hmb:mb=w.heap.size)(adu:∀k∈jg wb va vg (.slice (some ⟨g,0,none⟩) s cc) ve,k<w.heap.size){lv':Value}(ht:Turn lv.ownBlock.toList wr w7)(hr:aO 3 1 uK w7 (mb+1) lv' (l++[j])):
 bY w7 base wb d lb mo' va vg (.slice (some ⟨g,0,none⟩) s cc) ve {y with may:=M}∧TM w (w7.setCell ⟨g,j,none⟩ (.bool true)) base wb d lb mb c mo' va vg (.slice (some ⟨g,0,none⟩) s cc) ve y f P n (j+1) lv' (l++[j]) (M.set j true):=by
 have hl:∀k∈lv.ownBlock.toList,mb+1≤k:=fun k hk=>(h.row.lt k (by simpa using hk)).1
 have hl':∀k∈lv'.ownBlock,mb+1≤k:=fun k hk=>(hr.lt k hk).1
 have hw7:=h.law.kept ht (fun k hk hm=>by have:=adu k hk;have:=hl k hm;omega);have hgm:g∈jg wb va vg (.slice (some ⟨g,0,none⟩) s cc) ve:=bV.2 (.inr (.inr (.inr (.inl (by simp[Value.ownBlock])))));have hgl:=adu g hgm;have hs:=hw7.XK (j:=j) (by show j<M.length;rw[h.len];exact hj) true;have h2:Turn [g] w7 (w7.setCell ⟨g,j,none⟩ (.bool true)):=(Turn.refl _ _).setCell (.inl (by simp)) _;have e:∀k,(P k∧k<j+1)↔(P k∧k<j)∨k=j:=fun k=>⟨fun⟨h1,h2⟩=>by
  rcases Nat.lt_or_ge k j with h3|h3
  ·exact .inl ⟨h1,h3⟩
  ·exact .inr (by omega),fun h=>h.elim (fun⟨h1,h2⟩=>⟨h1,by omega⟩) (fun h=>by subst h;exact⟨hP,by omega⟩)⟩
 refine⟨hw7,hs,hr.kept h2 (fun k hk hm=>by have:=hl' k hk;rw[List.mem_singleton.1 hm]at this;omega),by rw[List.length_set,h.len],fun k=>?_,fun k=>?_,by have:=h.few;simp;omega,?_,(h.map.kept ht (fun hm=>by have:=hl mb hm;omega)).kept h2 (fun hm=>by rw[List.mem_singleton.1 hm]at hmb;omega)⟩
 ·rw[List.getElem?_set,e k]
  by_cases hk:j=k
  ·subst hk
   rw[if_pos rfl,if_pos (by rw[h.len];exact hj)];simp
  ·rw[if_neg hk,h.may k]
   constructor
   ·rintro(h1|h1)
    ·exact .inl h1
    ·exact .inr (.inl h1)
   ·rintro(h1|h1|h1)
    ·exact .inl h1
    ·exact .inr h1
    ·exact absurd h1.symm hk
 ·rw[List.mem_append,List.mem_singleton,h.mem k,e k]
 ·refine(h.turn.trans ht (fun k hk=> .inr (by have:=hl k hk;omega))).trans h2 (fun k hk=> .inl (by simpa[Value.ownBlock]using List.mem_singleton.1 hk))
end
theorem Ie(hw:bY w W.heap.size wb d lb (mo:Int) va vg vm ve y)(hl:az w W.heap.size d F A lb gv aX v (ms0++[m]))(ht:Turn [] W w)(hc:kF A v (ms0.map SM.abs) m.abs js n i mo X y)(hi:i≤60)(hg:As.iq W)(now ak:Nat)(al7:now<1000)(al8:ak<1000):
 Calls Tryz.prog 24 #[.pointer (some ⟨wb,0,none⟩), .int .i64 (now:Int), .int .i64 (ak:Int)] w fun e w'=>e= .returned (.bool true)∧pY W w' d wb mo (i+1):=by
 have hal:=hc.recs.len;have hgn:=hc.recs.uG;have hmn:=hc.recs.En;have hnn:=hc.nn;have hmx:maxLen=9223372036854775807:=by simp[maxLen]
 obtain⟨aa,ca,hva,ajy,ajz⟩:=hw.kT.form;obtain⟨ag,cg,Cm,aqB,ahM⟩:=hw.fV.form;rw[hal]at hva ajy;rw[hgn]at Cm aqB;rw[hmx]at ajz ahM;have hcs:∀Z,Turn [] w Z→(Z.cell? ⟨wb,1,none⟩=some (.pointer (some ⟨lb,0,none⟩))∧Z.cell? ⟨wb,3,none⟩=some (.slice aa n ca)∧Z.cell? ⟨wb,4,none⟩=some (.slice ag n cg)∧wb<Z.heap.size):=fun Z hZ=>by
  obtain⟨c0,c1,c2,c3,c4,c5,c6,c7,c8,c9,hz⟩:=(hw.still hZ).cells;exact⟨c1,c3.trans (by rw[hva]),c4.trans (by rw[Cm]),hz⟩
 have hw':=hw;rw[hva,Cm]at hw';have aaK:∀j (hj:j<n),∃g,aa=some ⟨g,0,none⟩∧∀Z,Turn [] w Z→Z.cell? ⟨g,j*6,none⟩=some (.int .i64 (y.all[j]'(by omega)).off)∧Z.cell? ⟨g,j*6+1,none⟩=some (.int .i64 (y.all[j]'(by omega)).time)∧Z.cell? ⟨g,j*6+2,none⟩=some (.bool (y.all[j]'(by omega)).keyed)∧Z.cell? ⟨g,j*6+3,none⟩=some (.string ⟨(y.all[j]'(by omega)).key.toArray⟩)∧Z.cell? ⟨g,j*6+4,none⟩=some (.bool (y.all[j]'(by omega)).gone)∧Z.cell? ⟨g,j*6+5,none⟩=some (.string ⟨(y.all[j]'(by omega)).value.toArray⟩):=fun j hj=>by
  have h:=hw'.kT;rw[←hal]at h;exact qQ h (by omega)
 have hgo:∀j (hj:j<n),∃g,ag=some ⟨g,0,none⟩∧∀Z,Turn [] w Z→Z.cell? ⟨g,j,none⟩=some (.bool (y.gone[j]'(by omega))):=fun j hj=>by
  have h:=hw'.fV;rw[←hgn]at h;exact pJ h (by omega)
 have hok:∀j (hj:j<n),iQ (y.all[j]'(by omega))∧(y.all[j]'(by omega)).off=(j:Int):=fun j hj=>⟨hc.ok _ (List.getElem_mem _),hc.recs.off j _ (List.getElem?_eq_getElem (by omega))⟩
 have H:=hide hw;have HL:=hide hl;have HT:=hide ht;have HC:=hide hc;have HG:=hide hg;have yZ:=hide hcs;have sS:=hide aaK;have NT:=hide hgo;have xq:=hide hok;have VW:=hide hva;have Om:=hide Cm;have hmm:= @run_makeMap Tryz.prog;obtain⟨c1,c3,c4,cz⟩:=hcs w (Turn.refl _ _);clear hw hl ht hc hg hcs aaK hgo hok hw' hva Cm;go_enter Tryz.func24,Tryz.ntmps24
 go_wp2
 obtain⟨mb,hmb⟩:∃mb,mb=w.heap.size:=⟨_,rfl⟩;have ajA:=pO.made w;rw[←hmb]at ajA⊢;have al9:=hide ajA;have HMB:=hide hmb;clear ajA hmb hmm;go_loopw [8] (fun kv wr=>∃k c:Nat,k≤n∧kv= .int .i64 k∧c≤k∧pO wr mb c (dQ (iY (y.all.take k) (y.gone.take k)))∧Turn [] w wr) (fun kv _=>n-(intOf kv).toNat)
 case atStart=>exact⟨0,0,Nat.zero_le _,rfl,Nat.zero_le _,al9.out,(Turn.refl [] w).alloc _⟩
 case round=>
  obtain⟨k,c,hk,rfl,hck,him,htw⟩:=hrel;have Uh:=hide him;have dO:=hide htw;obtain⟨c1,c3,c4,cz⟩:=yZ.out wr htw;clear him htw;by_cases hlt:k<n
  ·obtain⟨g,hga,hcr⟩:=sS.out k hlt
   obtain⟨gg,hgg,hcg⟩:=NT.out k hlt;obtain⟨hrk,adU⟩:=xq.out k hlt;have acW:=Ql (all:=y.all) (gone:=y.gone) (k:=k) (by omega) (by omega);subst hga hgg;obtain⟨r,hr⟩:∃r,r=y.all[k]'(by omega):=⟨_,rfl⟩;obtain⟨gb,hgb⟩:∃gb,gb=y.gone[k]'(by omega):=⟨_,rfl⟩;rw[←hr]at hcr hrk adU;rw[←hgb]at hcg;have ag8:dQ (iY (y.all.take (k+1)) (y.gone.take (k+1)))=if r.keyed=true∧gb=false then(fun x=>if x=r.key then r.off else dQ (iY (y.all.take k) (y.gone.take k)) x)else dQ (iY (y.all.take k) (y.gone.take k)):=by rw[acW,hr,hgb]
   have HST:=hide ag8;have vT:=hide hcr;have Ui:=hide hcg;have HRK:=hide hrk;obtain⟨g0,g1,g2,g3,g4,g5⟩:=hcr wr dO.out;rw[adU]at g0;have hki:(k:Int)<(n:Int):=by omega
   have aqC:=hide adU;clear acW ag8 hcr hcg hrk hr hgb adU;obtain⟨kb,hkb⟩:∃kb,kb=r.keyed:=⟨_,rfl⟩;rw[←hkb]at g2 HST;clear hkb;go_upto_region 6 with fail
   obtain⟨w5,hw5⟩:∃w5,w5=wr.alloc (.cells #[.int .i64 (k:Int), .int .i64 r.time, .bool kb, .string ⟨r.key.toArray⟩, .bool r.gone, .string ⟨r.value.toArray⟩] 52):=⟨_,rfl⟩;rw[←hw5];have ht5:Turn [] wr w5:=by rw[hw5];exact(Turn.refl [] wr).alloc _
   have hb5:w5.heap[wr.heap.size]? =some (.cells #[.int .i64 (k:Int), .int .i64 r.time, .bool kb, .string ⟨r.key.toArray⟩, .bool r.gone, .string ⟨r.value.toArray⟩] 52 (0,0)):=by rw[hw5];exact ai wr _
   obtain⟨Z0,hZ0⟩:∃Z0,Z0=wr.heap.size:=⟨_,rfl⟩;rw[←hZ0]at hb5;rw[←hZ0];have b2:w5.cell? ⟨Z0,2,none⟩=some (.bool kb):=by rw[cell_of hb5];rfl
   have b3:w5.cell? ⟨Z0,3,none⟩=some (.string ⟨r.key.toArray⟩):=by rw[cell_of hb5];rfl
   have bz:=lt_of_heap hb5;have hT5:=dO.out.same ht5;have b4:=Ui.out w5 hT5;obtain⟨p1,p3,p4,pz⟩:=yZ.out w5 hT5;have XZ:=hide (Uh.out.still ht5);have HT5:=hide hT5;clear g0 g1 g2 g3 g4 g5 c1 c3 c4 cz hw5 ht5 hb5 hZ0 hT5 p1 p3;cases kb with
   |false=>
    go_wp2
    all_goals refine⟨⟨k+1,c,by omega,by go_num,by omega,by rw[HST.out,if_neg (by simp)];exact XZ.out,HT5.out⟩,?_⟩
    all_goals (simp only[intOf];omega)
   |true=>
    cases gb with
    |true=>
     go_wp2
     all_goals refine⟨⟨k+1,c,by omega,by go_num,by omega,by rw[HST.out,if_neg (by simp)];exact XZ.out,HT5.out⟩,?_⟩
     all_goals (simp only[intOf];omega)
    |false=>
     have hks:(⟨r.key.toArray⟩:ByteArray).size≤maxLen:=by rw[hmx];show r.key.toArray.size≤_;simpa using HRK.out.key
     obtain⟨w7,hr7,ae8,ht7⟩:=XZ.out.put (by rw[hmx];omega) hks (v:=(k:Int)) (by simp[Lit.wf,IntKind.min,IntKind.max,IntKind.signed,IntKind.bits];omega);rw[show(⟨r.key.toArray⟩:ByteArray).data.toList=r.key from by simp,←aqC.out]at ae8;have Xo:=hide ae8;have hT7:Turn [] w w7:=HT5.out.trans ht7 (fun q hq=> .inr (by rw[List.mem_singleton.1 hq,HMB.out];exact Nat.le_refl _));have HT7:=hide hT7;clear ae8 ht7 hT7 hks;go_wp2
     all_goals refine⟨⟨k+1,c+1,by omega,by go_num,by omega,by rw[HST.out,if_pos (by simp)];exact Xo.out,HT7.out⟩,?_⟩
     all_goals (simp only[intOf];omega)
  ·obtain rfl:n=k:=by omega
   have hmt:dQ (iY (y.all.take n) (y.gone.take n))=dQ (iY y.all y.gone):=by rw[List.take_of_length_le (by omega),List.take_of_length_le (by omega)]
   rw[hmt]at Uh;have hL1:=HL.out.still dO.out;have hsg:=GX wr W.heap.size d F A lb gv aX v (ms0++[m]) hL1 (by have:=HC.out.sl;simp at this⊢;omega);have YV:=hide hsg;clear hL1 hsg hmt;go_wp2_with fail
   refine YV.out.mono ?_;rintro e w2 ⟨ov,rfl,hov,ht2⟩;have agH:=hov;obtain⟨oa,oc,rfl,alT,XN⟩:=agH.form;rw[hmx]at XN;obtain⟨og,rfl,hoc⟩:=Hz agH (j:=ms0.length) (by simp);have ho1:=hoc w2 (Turn.refl _ _);have aah:((ms0++[m]).map (·.n)).length=ms0.length+1:=by simp
   have hval:((ms0++[m]).map (·.n))[ms0.length]'(by simp)=m.n:=by simp
   rw[hval]at ho1;rw[aah]at alT;rw[aah];have hsl:ms0.length≤100:=(HC.out.xs (by omega)).1;have HT2:=hide (dO.out.same ht2);have amb:=hide (Uh.out.still ht2);have oz:=World.block_lt_of_cell? _ _ ho1;clear hov agH hoc ht2 aah hval YV Uh dO al9 c1 c3 c4 cz;go_wp2
   obtain⟨f,hf⟩:∃f,f=dQ (iY y.all y.gone):=⟨_,rfl⟩;rw[←hf]at amb;obtain⟨PM,hPM⟩:∃PM,PM=Ep y.all y.gone (now:Int) (ak:Int) m.n:=⟨_,rfl⟩;have hm0:TM w w2 W.heap.size wb d lb mb c (mo:Int) va vg vm ve y f PM n 0 (.slice none 0 0) [] y.may:=⟨H.out.still HT2.out, .inl ⟨rfl,rfl⟩,hmn,fun k=>⟨.inl,fun h=>h.elim id (fun h=>absurd h.2 (Nat.not_lt_zero _))⟩,fun k=>by simp,Nat.le_refl _,HT2.out.mono (by simp),amb.out⟩;have HM0:=hide hm0;have Yt:=hide (And.intro hf hPM);have aqD:Hid (∀k∈jg wb va vg vm ve,k<w.heap.size):=fun k hk=>by
    obtain⟨cs,T,fr,e, -⟩:=H.out.kind k hk;exact lt_of_heap e
   clear hm0 hf hPM ho1 oz;go_loopw [13,12] (fun kv lv wr=>∃(j:Nat) (l:List Nat) (M:List Bool),j≤n∧kv= .int .i64 j∧TM w wr W.heap.size wb d lb mb c (mo:Int) va vg vm ve y f PM n j lv l M) (fun kv _ _=>n-(intOf kv).toNat)
   case atStart=>exact⟨0,[],y.may,Nat.zero_le _,rfl,HM0.out⟩
   case round=>
    obtain⟨j,l,M,hj,rfl,hmk⟩:=hrel;have L8:=hide hmk;obtain⟨c0,c1,c2,c3,c4,c5,c6,c7,c8,c9,cz⟩:=hmk.law.cells;rw[VW.out]at c3;rw[Om.out]at c4;clear hmk c0 c2 c5 c6 c7 c8 c9;go_upto_region 12 with fail
    go_cut [73]from 62 to 124 (fun v wx=>v= .bool (decide (j<n∧j<m.n))∧wx=wr)
    case first=>
     by_cases h1:j<n
     ·have h1':(j:Int)<(n:Int):=by omega
      by_cases h2:j<m.n
      ·have h2':(j:Int)<(m.n:Int):=by omega
       go_wp2
       go_meet
       case rel=>exact⟨by simp[h1,h2],rfl⟩
      ·have h2':¬(j:Int)<(m.n:Int):=by omega
       go_wp2
       go_meet
       case rel=>exact⟨by simp[h1,h2],rfl⟩
     ·have h1':¬(j:Int)<(n:Int):=by omega
      go_wp2
      go_meet
      case rel=>exact⟨by simp[h1],rfl⟩
    case rest=>
     obtain⟨rfl,rfl⟩:=hcut;by_cases hb:j<n∧j<m.n
     ·rw[decide_eq_true hb]
      obtain⟨hjn,hjm⟩:=hb;have hra:=L8.out.law.kT;rw[VW.out]at hra;have ag6:aO 52 6 recC wc W.heap.size (.slice aa y.all.length ca) y.all:=by rw[hal];exact hra
      obtain⟨ga,rfl,hca⟩:=qQ ag6 (j:=j) (by omega);have hrg:=L8.out.law.fV;rw[Om.out]at hrg;have ag9:aO 4 1 EL wc W.heap.size (.slice ag y.gone.length cg) y.gone:=by rw[hgn];exact hrg
      obtain⟨gg,rfl,hcg⟩:=pJ ag9 (j:=j) (by omega);obtain⟨hrk,adU⟩:=xq.out j hjn;obtain⟨r,hr⟩:∃r,r=y.all[j]'(by omega):=⟨_,rfl⟩;obtain⟨gb,hgb⟩:∃gb,gb=y.gone[j]'(by omega):=⟨_,rfl⟩;rw[←hr]at hca hrk adU;rw[←hgb]at hcg;obtain⟨g0,g1,g2,g3,g4,g5⟩:=hca wc (Turn.refl _ _);rw[adU]at g0;have Yu:PM j↔gb=false∧jf f now ak r=true:=by
       rw[Yt.out.2,Yt.out.1];unfold Ep;constructor
       ·rintro⟨-,q,q1,q2,q3⟩
        rw[List.getElem?_eq_getElem (by omega)]at q1 q2;rw[←hr]at q1;rw[←hgb]at q2;obtain rfl:=Option.some.inj q1;exact⟨Option.some.inj q2,q3⟩
       ·rintro⟨q1,q2⟩
        exact⟨hjm,r,by rw[List.getElem?_eq_getElem (by omega)];exact congrArg some hr.symm,by rw[List.getElem?_eq_getElem (by omega)];exact congrArg some (hgb.symm.trans q1),q2⟩
      unfold jf at Yu;rw[adU,show wrap64 ((now:Int)-(ak:Int))=(now:Int)-(ak:Int)from IntWalk.wrap64_in _ (by omega)]at Yu;have hks:(⟨r.key.toArray⟩:ByteArray).size≤maxLen:=by rw[hmx];show r.key.toArray.size≤_;simpa using hrk.key
      have Ui:=hide hcg;obtain⟨kb,hkb⟩:∃kb,kb=r.keyed:=⟨_,rfl⟩;obtain⟨rg,amc⟩:∃rg,rg=r.gone:=⟨_,rfl⟩;rw[←hkb]at g2 Yu;rw[←amc]at g4 Yu;have HPJ:=hide Yu;have Zv:=hide hks;clear hra ag6 hrg ag9 hca hcg hrk adU hr hgb Yu hkb amc hks;go_upto_region 15 with fail
      obtain⟨w5,hw5⟩:∃w5,w5=wc.alloc (.cells #[.int .i64 (j:Int), .int .i64 r.time, .bool kb, .string ⟨r.key.toArray⟩, .bool rg, .string ⟨r.value.toArray⟩] 52):=⟨_,rfl⟩;rw[←hw5];have ht5:Turn [] wc w5:=by rw[hw5];exact(Turn.refl [] wc).alloc _
      have hb5:w5.heap[wc.heap.size]? =some (.cells #[.int .i64 (j:Int), .int .i64 r.time, .bool kb, .string ⟨r.key.toArray⟩, .bool rg, .string ⟨r.value.toArray⟩] 52 (0,0)):=by rw[hw5];exact ai wc _
      obtain⟨Z0,hZ0⟩:∃Z0,Z0=wc.heap.size:=⟨_,rfl⟩;rw[←hZ0]at hb5;rw[←hZ0];have HM5:=hide (L8.out.still ht5);have b4:=Ui.out w5 ht5;clear c1 c3 c4 cz g0 g1 g2 g3 g4 g5 hw5 ht5 hZ0 Ui;obtain⟨c0,c1,c2,c3,c4,c5,c6,c7,c8,c9,cz⟩:=HM5.out.law.cells;rw[VW.out]at c3;rw[Om.out]at c4;have HB5:=hide hb5;have b1:w5.cell? ⟨Z0,1,none⟩=some (.int .i64 r.time):=by rw[cell_of hb5];rfl
      have b2:w5.cell? ⟨Z0,2,none⟩=some (.bool kb):=by rw[cell_of hb5];rfl
      have b3:w5.cell? ⟨Z0,3,none⟩=some (.string ⟨r.key.toArray⟩):=by rw[cell_of hb5];rfl
      have b6:w5.cell? ⟨Z0,4,none⟩=some (.bool rg):=by rw[cell_of hb5];rfl
      have bz:=lt_of_heap hb5;have hlk:=HM5.out.map.look (s:=⟨r.key.toArray⟩) Zv.out;rw[show(⟨r.key.toArray⟩:ByteArray).data.toList=r.key from by simp]at hlk;obtain⟨X0,hX0⟩:∃X0,X0=f r.key:=⟨_,rfl⟩;rw[←hX0]at hlk HPJ;have hji:(j:Int)<(n:Int):=by omega
      clear hb5 hX0 c0 c2 c5 c6 c7 c8 c9;go_cut [114]from 62 to 124 (fun v wx=>v= .bool (!gb&&(kb&&(decide ((j:Int)<X0)||(rg&&decide (r.time<(now:Int)-(ak:Int))))))∧wx=w5)
      case first=>
       cases kb with
       |false=>
        go_wp2
        go_meet
        case rel=>exact⟨by simp,rfl⟩
       |true=>
        cases gb with
        |true=>
         go_wp2
         go_meet
         case rel=>exact⟨by simp,rfl⟩
        |false=>
         by_cases hlx:(j:Int)<X0
         ·go_wp2
          go_meet
          case rel=>exact⟨by simp[hlx],rfl⟩
         ·cases rg with
          |false=>
           go_wp2
           go_meet
           case rel=>exact⟨by simp[hlx],rfl⟩
          |true=>
           by_cases htm:r.time<(now:Int)-(ak:Int)
           ·go_wp2
            go_meet
            case rel=>exact⟨by simp[htm],rfl⟩
           ·go_wp2
            go_meet
            case rel=>exact⟨by simp[hlx,htm],rfl⟩
      case rest=>
       obtain⟨rfl,hwx⟩:=hcut;subst hwx;obtain⟨mk,hmk⟩:∃mk,mk=(!gb&&(kb&&(decide ((j:Int)<X0)||(rg&&decide (r.time<(now:Int)-(ak:Int)))))):=⟨_,rfl⟩;have hP:PM j↔mk=true:=by
        rw[HPJ.out,hmk];cases gb<;>simp
       rw[←hmk];clear hmk HPJ hlk b1 b2 b3 b6 b4 c1 c3 c4 HB5 bz Zv;cases mk with
       |false=>
        have HS:=hide (HM5.out.skip (fun h=>by simpa using hP.1 h));clear hP;go_wp2
        all_goals refine⟨⟨j+1,l,M,by omega,by go_num,HS.out⟩,?_⟩
        all_goals (simp only[intOf];omega)
       |true=>
        obtain⟨la,lc,hlv,hll,hlm⟩:=HM5.out.row.form;obtain⟨am,cm,hvm,aqF,aqG⟩:=HM5.out.law.nH.form;have hml:({y with may:=M}:LW).may.length=n:=HM5.out.len;have hrm:=HM5.out.law.nH;rw[hvm]at hrm;obtain⟨gm,rfl, -⟩:=pJ hrm (j:=j) (by rw[hml];exact hjn);rw[hml]at hvm aqF;rw[hmx]at hlm aqG;obtain⟨wA,hwA⟩:∃wA,wA=wc.alloc (.cells #[.int .i64 (j:Int)] 3):=⟨_,rfl⟩;have hTA:Turn [] wc wA:=by rw[hwA];exact(Turn.refl [] wc).alloc _
        have hsA:=hTA.size;obtain⟨v7,w7,hr7,aai,ht7,aaq⟩:=GV wA (mb+1) u12 l j wc.heap.size (HM5.out.row.still hTA) (by rw[hwA];exact ai wc _) (by have:=HM5.out.few;omega) (by rw[hwA,World.size_alloc];have:=HM5.out.turn.size;have:=HMB.out;omega);have hM5:=HM5.out;have adu:=aqD.out;rw[hvm]at hM5 adu;obtain⟨hw7,ame⟩:=hM5.mark (hP.2 rfl) hjn HMB.out adu ((hTA.mono (by simp)).same ht7) aai;obtain⟨c0,c1,c2,c3,c4,c5,c6,c7,c8,c9,cz7⟩:=hw7.cells;have ajD:=hw7.nH;have ajE:({y with may:=M}:LW).may.length=n:=HM5.out.len;rw[←ajE]at ajD;obtain⟨gm',e7,amf⟩:=pJ ajD (j:=j) (by rw[ajE];exact hjn);simp only[Option.some.injEq,Addr.mk.injEq,and_true]at e7;subst e7;obtain⟨bm,hbm⟩:∃bm,w7.cell? ⟨gm,j,none⟩=some (.bool bm):=⟨_,amf w7 (Turn.refl _ _)⟩;obtain⟨fm7,zm7⟩:=hw7.mayF j;have HR7:=hide hr7;rw[hwA]at HR7;have amg:=hide ame;have HVM:=hide hvm;rw[hlv]at HR7;obtain⟨a7,c7',hv7, -, -⟩:=aai.form;rw[List.length_append,List.length_singleton]at hv7;rw[hv7]at HR7 amg;rw[hlv];clear hwA hTA hsA hr7 aai ht7 aaq hM5 adu hw7 ame c0 c1 c2 c3 c4 c6 c7 c8 c9 hrm ajD hml ajE amf hvm hlv hv7 hP cz;go_wp2_with (first|(at_builtin;go_must (refine Sn.DD rfl rfl rfl rfl HR7.out ?_))|fail)
        all_goals refine⟨⟨j+1,l++[j],M.set j true,by omega,by go_num,by rw[HVM.out];exact amg.out⟩,?_⟩
        all_goals (simp only[intOf];omega)
     ·rw[decide_eq_false hb]
      have hgl:∀k,PM k→k<n:=fun k hk=>by
       rw[Yt.out.2]at hk;obtain⟨-,q,q1, -⟩:=hk;have:=(List.getElem?_eq_some_iff.1 q1).1;omega
      have amh:∀k,PM k→k<m.n:=fun k hk=>by
       rw[Yt.out.2]at hk;exact hk.1
      have aan:∀k,PM k→k<j:=fun k hk=>by
       have h1:=hgl k hk;have h2:=amh k hk;omega
      have hTw:=L8.out.turn;have X3:∀k∈vm.ownBlock.toList,k∈jg wb va vg vm ve:=fun k hk=>bV.2 (.inr (.inr (.inr (.inl (by simpa using hk)))))
      have Ol:az wc W.heap.size d F A lb gv aX v (ms0++[m]):=HL.out.kept hTw (fun k hk hm=>H.out.apart HL.out k (X3 k hm) hk);have hco:=TL (gone':=jy y.gone l) L8.out.law Ol (HT.out.trans hTw (fun k hk=> .inr (H.out.ge k (X3 k hk)))) HC.out hi HG.out now ak al7 al8 L8.out.len (by rw[Eu];exact hgn) (fun k=>by
       rw[L8.out.may k,←Yt.out.2];exact⟨fun h=>h.imp id (fun h=>h.1),fun h=>h.imp id (fun h=>⟨h,aan k h⟩)⟩) (fun k=>by
       rw[Qm,L8.out.mem k,←Yt.out.2,hgn];exact⟨fun h=>h.imp id (fun h=>h.1.1),fun h=>h.imp id (fun h=>⟨⟨h,aan k h⟩,hgl k h⟩)⟩)
      have hlf:∀k∈aJ F lb gv (ms0++[m]),k<mb:=fun k hk=>by rw[HMB.out];exact(HL.out.lt k hk).2
      have hln:∀t (h:t<l.length),l[t]<n:=fun t h=>hgl _ ((L8.out.mem _).1 (List.getElem_mem h)).1
      have HCO:=hide hco;have HLF:=hide hlf;have HLN:=hide hln;clear hgl amh aan hTw X3 Ol hco hlf hln hb HM0;go_wp2_with fail
      refine HCO.out.mono ?_;rintro e w3 ⟨x,c,rfl,aaw,htl⟩;have aaE:=L8.out.row.kept htl (fun k hk hm=>by have:=(L8.out.row.lt k hk).1;have:=HLF.out k hm;omega);obtain⟨la,lc,hlv,hll,hlm⟩:=aaE.form;rw[hmx]at hlm;rw[hlv]at aaE;rw[hlv];clear hlv htl HCO L8;rcases aaw with⟨rfl,aaw⟩|⟨hne,aaw⟩
      ·rw[show aC 0= .nilIface from rfl]
       obtain⟨Y3,hY3⟩:∃Y3:LW,Y3={y with may:=M,gone:=jy y.gone l}:=⟨_,rfl⟩;rw[←hY3]at aaw;have hst:oV W w3 d wb lb mo i va vg vm ve {y with may:=M,gone:=jy y.gone (l.take 0)} Y3:=by simpa[jy]using aaw
       have HST:=hide hst;have Dy:=hide aaE;have HY3:=hide hY3;clear aaw hst aaE hY3;go_wp2
       go_loopw [17] (fun kv wr=>∃q:Nat,q≤l.length∧kv= .int .i64 q∧oV W wr d wb lb mo i va vg vm ve {y with may:=M,gone:=jy y.gone (l.take q)} Y3∧aO 3 1 uK wr (mb+1) (.slice la l.length lc) l) (fun kv _=>l.length-(intOf kv).toNat)
       case atStart=>exact⟨0,Nat.zero_le _,rfl,HST.out,Dy.out⟩
       case round=>
        obtain⟨q,hq,rfl,hoy,hrw⟩:=hrel;have XW:=hide hoy;have HRW:=hide hrw;clear hoy hrw;by_cases hqt:q<l.length
        ·obtain⟨gl,rfl,hcl⟩:=Hz HRW.out hqt
         have hln:=HLN.out q hqt;have TN:=J6 y.gone l hqt;obtain⟨e,he⟩:∃e,e=l[q]:=⟨_,rfl⟩;rw[←he]at hcl hln TN;have Ol:=XW.out.law.1;have hrg:=Ol.fV;have hgs:(jy y.gone (l.take q)).length=n:=by rw[Eu];exact hgn
         have X4:=Om.out;rw[X4]at hrg;have ag9:aO 4 1 EL wr W.heap.size (.slice ag (jy y.gone (l.take q)).length cg) (jy y.gone (l.take q)):=by rw[hgs];exact hrg
         obtain⟨gg,rfl,hcg⟩:=pJ ag9 (j:=e) (by rw[hgs];exact hln);obtain⟨bg,hbg⟩:∃bg,∀Z,Turn [] wr Z→Z.cell? ⟨gg,e,none⟩=some (.bool bg):=⟨_,hcg⟩;have amj:∀Z,Turn [] wr Z→Z.cell? ⟨wb,4,none⟩=some (.slice (some ⟨gg,0,none⟩) n cg)∧wb<Z.heap.size∧Z.cell? ⟨gl,q,none⟩=some (.int .i64 (e:Int)):=fun Z hZ=>by
          obtain⟨c0,c1,c2,c3,c4,c5,c6,c7,c8,c9,hz⟩:=(Ol.still hZ).cells;exact⟨c4.trans (by rw[X4]),hz,hcl Z hZ⟩
         have amk:=hide amj;have HBG:=hide hbg;have xJ:=hide TN;have hqi:(q:Int)<(l.length:Int):=by omega
         have hei:(e:Int)<(n:Int):=by omega
         clear hcl TN he Ol hrg ag9 hcg hbg amj X4;go_wp2
         refine gU 9 [] (by kernel_rfl) rfl ?_;apply Lo.r0 1 rfl 0 (by intro u;conv=>lhs;whnf) rfl
         ·intro a w1 hR e0 K hK
          go_simp
          exact hK _ rfl
         apply Lo.r1 2 rfl 143 0 (fun _=>rfl) rfl (by kernel_rfl)
         ·intro a w1 hR e143 K hK
          go_simp
          exact hK _ rfl
         apply Lo.r1 3 rfl 144 1 (fun _=>rfl) rfl (by kernel_rfl)
         ·intro a w1 hR e144 K hK
          go_simp
          exact hK _ rfl
         apply Lo.r1 4 rfl 145 2 (fun _=>rfl) rfl (by kernel_rfl)
         ·intro a w1 hR e145 K hK
          obtain⟨q4,qz, -⟩:=amk.out w1 hR.dr;go_simp
          exact hK _ rfl
         apply Lo.r0 5 rfl 12 (by intro u;conv=>lhs;whnf) rfl
         ·intro a w1 hR e12 K hK
          go_simp
          exact hK _ rfl
         apply Lo.r0 6 rfl 17 (by intro u;conv=>lhs;whnf) rfl
         ·intro a w1 hR e17 K hK
          go_simp
          exact hK _ rfl
         apply Lo.r2 7 rfl 147 4 148 5 (fun _=>rfl) (fun _=>rfl) rfl rfl (by kernel_rfl)
         ·intro a w1 hR e147 e148 K hK
          have avT:=hqi;go_simp
          exact hK _ rfl
         apply Lo.r1 8 rfl 149 6 (fun _=>rfl) rfl (by kernel_rfl)
         ·intro a w1 hR e149 K hK
          obtain⟨-, -,q4⟩:=amk.out w1 hR.dr;go_simp
          exact hK _ rfl
         apply Lo.r2 9 rfl 146 3 150 7 (fun _=>rfl) (fun _=>rfl) rfl rfl (by kernel_rfl)
         ·intro a w1 hR e146 e150 K hK
          have avU:=hei;go_simp
          exact hK _ rfl
         refine Lo.done [8] (fun u w1 bI hSd hF=>?_);clear hSd;obtain⟨f8, -⟩:=hF;have d8:u 8=_:=f8;clear f8;simp only[List.take_succ_cons,List.take_zero,List.drop_succ_cons,List.drop_zero,ax,Act.put,List.setIfInBounds_toArray,List.set_cons_succ,List.set_cons_zero,Nat.zero_add,Nat.reduceAdd,d8];have ht1:Turn [] wr w1:=bI.dr;have aha:=XW.out.still ht1;rw[Om.out]at aha;obtain⟨fg,zg⟩:=aha.law.1.TG e;have cg1:=HBG.out w1 ht1;have aml:=aha.gone (j:=e) (by show e<(jy y.gone (l.take q)).length;rw[hgs];exact hln);have aa2:=HRW.out.still ht1;have aaC:=aa2.kept (w':=w1.setCell ⟨gg,e,none⟩ (.bool true)) (S:=[gg]) ((Turn.refl _ _).setCell (.inl (by simp)) _) (fun k hk hm=>by
          obtain⟨cs,e1⟩:=aa2.kind k hk;obtain⟨cs2,e2⟩:=aha.law.1.fV.kind gg (by simp[Value.ownBlock]);rw[List.mem_singleton.1 hm]at e1;exact aW e1 e2 (by decide) rfl)
         have aqK:=hide aml;have IW:=hide aaC;clear aha aml aa2 aaC ht1 bI;go_wp2
         all_goals refine⟨⟨q+1,by omega,by go_num,by rw[Om.out,xJ.out];exact aqK.out,IW.out⟩,?_⟩
         all_goals (simp only[intOf];omega)
        ·obtain rfl:q=l.length:=by omega
         have hao:Calls Tryz.prog 26 #[.pointer (some ⟨wb,0,none⟩), .nilIface] wr fun e w'=>e= .returned (.bool true)∧pY W w' d wb mo (i+1):=by
          have h:=XW.out;rw[List.take_length,←HY3.out]at h;have h2:=kU h.out hi (HG.out.below XW.out.law.2.nil);rw[show aC 0= .nilIface from rfl]at h2;exact h2
         have XY:=hide hao;clear hao;go_wp2_with fail
         refine XY.out.mono ?_;rintro e w4 ⟨rfl,hcr⟩;have vT:=hide hcr;clear hcr;go_wp2
         go_ret
         exact⟨rfl,vT.out⟩
      ·have hE:aC c=bQ c:=by unfold Dk.aC;rw[if_neg hne]
       have hao:Calls Tryz.prog 26 #[.pointer (some ⟨wb,0,none⟩),bQ c] w3 fun e w'=>e= .returned (.bool true)∧pY W w' d wb mo (i+1):=by
        rw[←hE];have hg2:As.iq w3:=by
         obtain⟨F,A,gv,v,ms0,m,X,js,n,h1,h2,h3,h4⟩:=aaw;exact HG.out.below h3.nil
        exact kU aaw hi hg2
       rw[hE];unfold bQ at hao⊢;have XY:=hide hao;clear hao aaw hE hne aaE;go_wp2_with fail
       refine XY.out.mono ?_;rintro e w4 ⟨rfl,hcr⟩;have vT:=hide hcr;clear hcr;go_wp2
       go_ret
       exact⟨rfl,vT.out⟩
end
end Lg
end
end Go.Proofs.YtficbckncieabaaGreatDoor
