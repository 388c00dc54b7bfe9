/- Lemmas of the claim, part h of 14. -/
import Derived.Test.YtmjpdhpmjmgmaaaGreatDoorMg
import Derived.Deep.RegionWith
import Derived.Deep.DeepCutAuto
import Derived.Test.YtmjpdhpmjmgmaaaGreatDoorMf
import Derived.Test.YtmjpdhpmjmgmaaaGreatDoorMa
import Derived.Test.YtmjpdhpmjmgmaaaGreatDoorMc
import Derived.Test.YtmjpdhpmjmgmaaaGreatDoorMb
namespace Go.Proofs.YtmjpdhpmjmgmaaaGreatDoor
set_option linter.unusedSimpArgs false
set_option linter.unusedVariables false
section
open Go.RowKit Go.Maps
open Dk (DA FA bH)
open Sg (Chain flat aA)
namespace Lg
structure vN(A:DA)(room:Nat)(dir:ByteArray)(X:FL)(st n:Nat)(ss0:List (Nat×List Bt.aX))(m:Nat×List Bt.aX):Prop where
 disk:FP A room (dD dir (ss0++[m])++X)
 base:∀p∈ss0++[m],p.1≤1099511627776
 chains:∀p∈ss0++[m],Chain p.1 p.2
 chain:Chain st (df (ss0++[m]))
 next:aA m.1 m.2=n
 yj:∀x∈df (ss0++[m]),x.fin≤n
 keys:∀p∈ss0,p.1<m.1
 le:m.1≤n
 st:st≤n
 Kv:((ss0++[m]).map (·.1)).Pairwise (· < ·)
theorem nD(dir:ByteArray)(ss0:List (Nat×List Bt.aX))(m:Nat×List Bt.aX)(X:FL):(dD dir (ss0++[m])++X).Perm ((jK dir m.1,flat m.2)::(dD dir ss0++X)):=by
 unfold dD;rw[List.map_append,List.map_singleton,List.append_assoc];exact List.perm_middle
theorem oU{L L':FL}(h:L.Perm L'):fD L=fD L':=Iy (h.map _)
theorem jy(q:List UInt8×List UInt8)(L:FL):fD (q::L)=q.2.length+fD L:=by simp[fD]
section
variable {A:DA} {room:Nat} {dir:ByteArray} {X:FL} {st n:Nat} {ss0:List (Nat×List Bt.aX)} {m:Nat×List Bt.aX} {v:LV} {x:Bt.aX}
theorem vN.ok(h:vN A room dir X st n ss0 m)(hl:(ss0++[m]).length≤1000):Yt A dir (ss0++[m]):=
 ⟨h.base,fun p hp=>KA (h.disk.bytes (List.mem_append_left _ (List.mem_map.2 ⟨p,hp,rfl⟩))),h.chains,hl⟩
theorem vN.put(h:vN A room dir X st n ss0 m)(hx:Bt.aO x=0)(hb:x.base=n){n':Nat}(hf:x.fin=n')(hr:fD (dD dir (ss0++[m])++X)+(Bt.aj x).length≤room)(v:LV):
 ∃A',vG A dir v ss0 m x=(0,A',v,ss0++[(m.1,m.2++[x])])∧vN A' room dir X st n' ss0 (m.1,m.2++[x])∧df (ss0++[(m.1,m.2++[x])])=df (ss0++[m])++[x]∧fD (dD dir (ss0++[(m.1,m.2++[x])])++X)=fD (dD dir (ss0++[m])++X)+(Bt.aj x).length:=by
 have hp:=nD dir ss0 m X;have hp':=nD dir ss0 (m.1,m.2++[x]) X;obtain⟨h1,h2⟩:=(h.disk.perm hp).add (bs:=Bt.aj x) (by rw[←oU hp];exact hr);have hfl:flat (m.2++[x])=flat m.2++Bt.aj x:=by rw[Sg.bZ,Sg.kK]
 have hlt:=Fj hx;have hnn:n<n':=by omega
 have hbl:df (ss0++[(m.1,m.2++[x])])=df (ss0++[m])++[x]:=by rw[iJ,iJ,List.append_assoc]
 refine⟨(A.add (jK dir m.1) (Bt.aj x)).2,?_,⟨?_,fun p hp=>?_,fun p hp=>?_,?_,?_,fun y hy=>?_,h.keys,by have:=h.le;simp only;omega,by have:=h.st;omega,by have:=h.Kv;rw[List.map_append]at this⊢;exact this⟩,hbl,?_⟩
 ·unfold vG
  rw[show A.add (Sn.nameB dir m.1).data.toList (Bt.aj x)=A.add (jK dir m.1) (Bt.aj x)from rfl,h1,if_pos rfl]
 ·refine FP.perm ?_ hp'.symm
  simp only;rw[hfl];exact h2
 ·rcases List.mem_append.1 hp with hp|hp
  ·exact h.base p (by simp[hp])
  ·obtain rfl:=List.mem_singleton.1 hp
   exact h.base m (by simp)
 ·rcases List.mem_append.1 hp with hp|hp
  ·exact h.chains p (by simp[hp])
  ·obtain rfl:=List.mem_singleton.1 hp
   exact Sg.oP (h.chains m (by simp)) hx (by rw[h.next,hb];exact Int.le_refl _)
 ·rw[hbl]
  exact Sg.oP h.chain hx (by rw[hb];exact vH (by have:=h.st;omega) h.yj)
 ·simp only
  rw[Sg.qw,hf]
 ·rw[hbl]at hy
  rcases List.mem_append.1 hy with hy|hy
  ·have:=h.yj y hy;omega
  ·obtain rfl:=List.mem_singleton.1 hy
   omega
 ·rw[oU hp,oU hp',jy,jy]
  simp only;rw[hfl,List.length_append];omega
theorem vN.roll(h:vN A room dir X st n ss0 m)(hn:n≤1099511627776)(hz:0<(flat m.2).length)(hok:Dk.nameB (Sn.nameB dir n)=true)(hl:(dD dir (ss0++[m])++X).length<200)(hX:jK dir n∉X.map (·.1))(v:LV):
 ∃A',jF A dir v n m (ss0++[m])=(0,A',{v with safe:=(n:Int)},ss0++[m]++[(n,[])])∧vN A' room dir X st n (ss0++[m]) (n,[])∧df (ss0++[m]++[(n,[])])=df (ss0++[m])∧fD (dD dir (ss0++[m]++[(n,[])])++X)=fD (dD dir (ss0++[m])++X):=by
 have hms:jK dir m.1∈(dD dir (ss0++[m])++X).map (·.1):=List.mem_map.2 ⟨(jK dir m.1,flat m.2),List.mem_append_left _ (List.mem_map.2 ⟨m,by simp,rfl⟩),rfl⟩;obtain⟨h1,h2⟩:=h.disk.sync hms;have hmn:m.1<n:=by
  cases hm2:m.2 with
  |nil=>rw[hm2]at hz;simp[flat]at hz
  |cons y r=>
   have hc:=h.chains m (by simp);rw[hm2]at hc;have h3:=Sg.lU hc y (by simp);have h4:=h.yj y (by rw[iJ,hm2];simp);omega
 have hno:jK dir n∉(dD dir (ss0++[m])++X).map (·.1):=by
  intro hc;rw[List.map_append]at hc;rcases List.mem_append.1 hc with hc|hc
  ·obtain⟨q,hq,e⟩:=List.mem_map.1 hc
   obtain⟨p,hp,rfl⟩:=List.mem_map.1 hq;have e2:=uG (h.base p hp) hn e;rcases List.mem_append.1 hp with hp|hp
   ·have:=h.keys p hp;omega
   ·obtain rfl:=List.mem_singleton.1 hp
    omega
  ·exact hX hc
 obtain⟨h3,h4⟩:=h2.make (s:=Sn.nameB dir n) hno hok hl;have hbl:df (ss0++[m]++[(n,[])])=df (ss0++[m]):=by rw[iJ,List.append_nil]
 have hp':=nD dir (ss0++[m]) (n,[]) X;refine⟨((A.sync (jK dir m.1)).2.make (Sn.nameB dir n)).2,?_,⟨FP.perm h4 hp'.symm,fun p hp=>?_,fun p hp=>?_,?_,by simp[aA],?_,fun p hp=>?_,Nat.le_refl _,h.st,?_⟩,hbl,?_⟩
 ·unfold jF jW
  rw[show A.sync (Sn.nameB dir m.1).data.toList=A.sync (jK dir m.1)from rfl,if_pos h1,h3,if_pos rfl]
 ·rcases List.mem_append.1 hp with hp|hp
  ·exact h.base p hp
  ·obtain rfl:=List.mem_singleton.1 hp
   exact hn
 ·rcases List.mem_append.1 hp with hp|hp
  ·exact h.chains p hp
  ·obtain rfl:=List.mem_singleton.1 hp
   trivial
 ·rw[hbl];exact h.chain
 ·rw[hbl];exact h.yj
 ·simp only
  rcases List.mem_append.1 hp with hp|hp
  ·have:=h.keys p hp;omega
  ·obtain rfl:=List.mem_singleton.1 hp
   exact hmn
 ·rw[List.map_append,List.pairwise_append]
  refine⟨h.Kv,by simp,fun a ha b hb=>?_⟩;obtain rfl:b=n:=by simpa using hb
  obtain⟨p,hp,rfl⟩:=List.mem_map.1 ha;rcases List.mem_append.1 hp with hp|hp
  ·have:=h.keys p hp;omega
  ·obtain rfl:=List.mem_singleton.1 hp
   exact hmn
 ·rw[oU hp',jy]
  simp[flat]
theorem vN.add(h:vN A room dir X st n ss0 m)(hn:n≤1099511627776)(rs:List Bt.Rec)(hx:Bt.aO (eG n rs)=0)(hok:Dk.nameB (Sn.nameB dir n)=true)(hl:(dD dir (ss0++[m])++X).length<200)(hX:jK dir n∉X.map (·.1))(hr:fD (dD dir (ss0++[m])++X)+(Bt.aj (eG n rs)).length≤room)(v:LV):
 ∃A' v' ss0' m',qC A dir v n ss0 m rs=(0,A',v',ss0'++[m'])∧v'.start=v.start∧v'.most=v.most∧v'.down=v.down∧vN A' room dir X st (n+rs.length) ss0' m'∧df (ss0'++[m'])=df (ss0++[m])++[eG n rs]∧ss0'.length≤ss0.length+1∧fD (dD dir (ss0'++[m'])++X)=fD (dD dir (ss0++[m])++X)+(Bt.aj (eG n rs)).length∧Eu ss0' m'=Eu ss0 m:=by
 unfold qC nV;rw[if_neg (by rw[hx];simp)];have hno:∀w:LV,lJ 0 w=w:=fun w=>by unfold lJ;rw[if_neg (by omega)]
 by_cases hc:0<(flat m.2).length∧v.most<((flat m.2).length+(Bt.aj (eG n rs)).length:Nat)
 ·rw[if_pos hc]
  obtain⟨A1,e1,g1,b1,u1⟩:=h.roll hn hc.1 hok hl hX v;rw[e1,if_neg (fun hc2=>hc2 rfl)];obtain⟨A2,e2,g2,b2,u2⟩:=g1.put (x:=eG n rs) hx rfl (n':=n+rs.length) (by show((n:Int)+rs.length)=_;omega) (by rw[u1];exact hr) {v with safe:=(n:Int)};simp only;rw[e2];exact⟨A2,{v with safe:=(n:Int)},_,_,by rw[hno],rfl,rfl,rfl,g2,by rw[b2,b1],by simp,by rw[u2,u1],by cases ss0<;>rfl⟩
 ·rw[if_neg hc]
  obtain⟨A2,e2,g2,b2,u2⟩:=h.put (x:=eG n rs) hx rfl (n':=n+rs.length) (by show((n:Int)+rs.length)=_;omega) hr v;rw[e2];exact⟨A2,v,_,_,by rw[hno],rfl,rfl,rfl,g2,b2,by omega,u2,by cases ss0<;>rfl⟩
end
end Lg
end
section
open Go.RowKit Go.Maps
set_option maxRecDepth 100000
attribute [local go_sem] Oper.semAt_some
open Lg (iK FP FL fD jE)
open Dk (DA ay Parts fE aW dI)
namespace Tp
set_option maxHeartbeats 4000000 in
theorem write_any(w:World)(base d:Nat)(F:List Nat)(A:DA)(hd:ay w base d F A)(sb:Nat)(hb:Cf w F sb d)(ev:Value)(es:List En)(hrow:aH 110 4 Ew w base ev es)(hes:∀e∈es,IB w base e)(hl:es.length≤20)
 (room:Nat)(L:FL)(hfp:FP A room L)(hL:fM∉L.map (·.1))(yO:L.length<200)(hr:fD L+(mV es).size≤room)(hv:∀Z,Turn [] w Z→Sn.dA Z):
 Calls Tryz.prog 142 #[.pointer (some ⟨sb,0,none⟩),ev] w fun e w'=>e= .returned .nilIface∧∃A',fE w w' base d F A'∧FP A' room ((listN,(mV es).data.toList)::L.filter (fun q=> !(q.1==listN))):=by
 obtain⟨a,cap,rfl,hlc,hcm⟩:=hrow.form;have hmx:maxLen=9223372036854775807:=by simp[maxLen]
 rw[hmx]at hcm;obtain⟨h1,f1⟩:=hfp.make (s:=iP) hL (by decide) yO;obtain⟨A1,hA1⟩:∃A1,A1=(A.make iP).2:=⟨_,rfl⟩;rw[←hA1]at f1;have HA1:=hide hA1;have H1:=hide h1;have HF1:=hide f1;have HD:=hide hd;have HB:=hide hb;have bQ:=hide hrow;have HES:=hide hes;have HV:=hide hv;have HR:=hide hr;clear hd hb hrow hes hfp hL yO hr hv h1 f1 hA1;go_enter Tryz.func142,Tryz.ntmps142
 go_wp2_with fail
 go_loopw [5,12] (fun sv kv wr=>∃k:Nat,k≤es.length∧kv= .int .i64 k∧sv= .string (mV (es.take k))∧Turn [] w wr) (fun _ kv _=>es.length-(intOf kv).toNat)
 case atStart=>exact⟨0,Nat.zero_le _,rfl,rfl,Turn.refl _ _⟩
 case round=>
  obtain⟨k,hk,rfl,rfl,htw⟩:=hrel;have dJ:=hide htw;have hlz:=KD HES.out hl k;clear htw;by_cases hlt:k<es.length
  ·obtain⟨g,cap',e,hc, -⟩:=(bQ.out.still dJ.out).at jm (j:=k) hlt
   simp only[Value.slice.injEq,true_and]at e;obtain⟨rfl,rfl⟩:=e;have hok:=HES.out es[k] (List.getElem_mem _);have hsn:mV (es.take (k+1))=mV (es.take k)++es[k].line:=by rw[List.take_succ_eq_append_getElem hlt,KC]
   obtain⟨x,hx⟩:∃x,x=es[k]:=⟨_,rfl⟩;rw[←hx]at hc hok hsn;have g0:wr.cell? ⟨g,k*4,none⟩=some (.string x.name):=hc 0 (by omega);have g1:wr.cell? ⟨g,k*4+1,none⟩=some (.int .i64 x.parts):=hc 1 (by omega);have g2:wr.cell? ⟨g,k*4+2,none⟩=some (.bool x.compact):=hc 2 (by omega);have g3:wr.cell? ⟨g,k*4+3,none⟩=some x.lv:=hc 3 (by omega);have IC:=hide hok;have Jp:=hide hsn;have hlv:∃a c,x.lv= .slice a x.Gu.length c:=by obtain⟨a,c,e, -, -⟩:=hok.row.form;exact⟨a,c,e⟩
   obtain⟨la,lc,hlv⟩:=hlv;have HLV:=hide hlv;rw[hlv]at g3;have hxs:=En.Ez hok;clear hc hx hok hsn hlv;go_wp2_with fail
   have hta:Turn [] w (wr.alloc (.cells #[.string x.name, .int .i64 x.parts, .bool x.compact, .slice la x.Gu.length lc] 110)):=dJ.out.alloc _;have hok1:=IC.out.still hta;have hrw:=hok1.row;rw[HLV.out]at hrw;refine(QN _ base x.name x.parts x.compact _ x.Gu x.starts hrw hok1.len hok1.beg (by have:=hok1.few;omega)).mono ?_;rintro e w1 ⟨sv,rfl,hst,ht1⟩;unfold DF;have HT1:=hide (hta.same ht1);have HST:=hide hst;clear hta hok1 hrw ht1 hst;go_wp2_with fail
   refine(QM w1 x.name x.parts x.compact sv x.starts HST.out (by have:=IC.out.few;omega) IC.out.low (by have:=Ey (c:=x.compact) IC.out.nm IC.out.few IC.out.low;omega) (fun Z hZ=>HV.out Z (HT1.out.same hZ))).mono ?_;rintro e w2 ⟨rfl,ht2⟩;rw[show xI x.name x.compact x.starts=x.line from rfl];have HT2:=hide (HT1.out.same ht2);clear ht2;go_wp2
   all_goals refine⟨⟨k+1,by omega,by go_num,?_,HT2.out⟩,?_⟩
   ·rw[Jp.out]
   ·simp only[intOf];omega
  ·obtain rfl:k=es.length:=by omega
   rw[List.take_length]at*;obtain⟨ah,ms,hp⟩:=HD.out;have hb1:Cf wr F sb d:=HB.out.kept dJ.out (by simp) (fun q hq=> .inl hq);have c0:=hb1.2.2;have z0:=hb1.2.1;have HP:=hide (hp.kept dJ.out (by simp));clear hp hb1;go_wp2_with fail
   refine(Dk.pV HP.out iP (by decide)).mono ?_;rintro e w2 ⟨rfl,hd2⟩;rw[H1.out,show aW 0= .nilIface from rfl];rw[←HA1.out]at hd2;obtain⟨F2,hdk,ht2,hf2⟩:=jE (dJ.out.mono (by simp)) hd2;have hb2:Cf w2 F2 sb d:=HB.out.kept ht2 HB.out.1 hf2;have HB2:=hide hb2;have HDK:=hide hdk;have HT2:=hide ht2;have HF2:=hide hf2;clear hd2 hb2 hdk ht2 hf2 c0 z0;go_wp2_with fail
   refine(IA w2 base d F2 A1 HDK.out sb HB2.out room L HF1.out _ (by omega) (by rw[Lg.jy];have:=HR.out;simpa using this)).mono ?_;rintro e w3 ⟨rfl,A3,hd3,hf3⟩;have HD3:=hide (Ci HT2.out HF2.out hd3);have HF3:=hide hf3;clear hd3 hf3;go_wp2
   go_ret
   exact⟨rfl,A3,HD3.out,HF3.out⟩
end Tp
end
section
open Go.RowKit Go.Maps
set_option maxRecDepth 100000
attribute [local go_sem] Oper.semAt_some
open Lg (iK FP FL fD jE aI SM LV aS)
open Dk (DA ay Parts fE aW dI)
namespace Tp
theorem WI:(Tryz.prog.info? 142).map (fun i=>(i.zero.map (fun z=>z.cells.size),i.size,i.bytes))=some (some 1,1,8):=by kernel_rfl
theorem FK:∃i z,Tryz.prog.info? 142=some i∧i.zero=some z∧z.cells.size=1∧i.size=1∧i.bytes≤1000:=by
 have h:=WI;cases hi:Tryz.prog.info? 142 with
 |none=>rw[hi]at h;cases h
 |some i=>
  rw[hi]at h;simp only[Option.map_some,Option.some.injEq,Prod.mk.injEq,Option.map_eq_some_iff]at h;obtain⟨⟨z,hz,hz2⟩,h2,h3⟩:=h;exact⟨i,z,rfl,hz,hz2,h2,by omega⟩
theorem WJ(w:World)(base:Nat)(v:Value)(xs:List Nat)(x:Nat)(k:Nat)(hrow:LR w base v xs)(hk:w.heap[k]? =some (.cells (SL x).toArray 142 (0,0))) (hlen:xs.length≤1000000) (hbase:base≤w.heap.size):
 ∃v' w',(Builtin.append_ #[108,108] 108 #[v, .slice (some ⟨k,0,none⟩) 1 1]).run Tryz.prog w= .ok v' w'∧LR w' base v' (xs++[x])∧Turn v.ownBlock.toList w w'∧(∀j∈v'.ownBlock,j∈v.ownBlock∨w.heap.size≤j):=by
 obtain⟨i,z,hi,hz,hzs,hs,hb⟩:=FK;exact dS (P:=Tryz.prog) 108 108 Tryz.underlying108 i z hi hz hzs hs hb mQ (by intro x u hu;simp[SL]at hu;subst hu;rfl) w base v xs x k hrow hk hlen hbase
structure QO(w:World)(F:List Nat)(sb d:Nat)(mo:Int):Prop where
 b0:Cf w F sb d
 c1:w.cell? ⟨sb,1,none⟩=some (.int .i64 mo)
theorem QO.kept{S:List Nat}{w w':World}{F F':List Nat}{sb d:Nat}{mo:Int}(h:QO w F sb d mo)(ht:Turn S w w')(hn:sb∉S)(hF:∀k∈F',k∈F∨w.heap.size≤k):QO w' F' sb d mo:=
 ⟨h.b0.kept ht hn hF,(World.cell?_of_block (w:=w) (ht.block _ h.b0.2.1 hn)).trans h.c1⟩
structure Opened(w w':World)(base d:Nat)(F:List Nat)(A':DA)(dir:ByteArray)(mo lb:Nat)(F':List Nat)(gv:Value)(m:SM):Prop where
 log:aI w' base d F' A' lb gv dir ⟨mo,0,0,false⟩ [m]
 abs:m.abs=(0,[])
 turn:Turn F w w'
 foot:∀k∈aS F' lb gv [m],k∈F∨w.heap.size≤k
theorem Opened.first{w w1 w':World}{base d:Nat}{F:List Nat}{A':DA}{dir:ByteArray}{mo lb:Nat}{F':List Nat}{gv:Value}{m:SM}(ht:Turn F w w1)(h:Opened w1 w' base d F A' dir mo lb F' gv m):Opened w w' base d F A' dir mo lb F' gv m:=
 ⟨h.log,h.abs,ht.same h.turn,fun k hk=>(h.foot k hk).imp_right (Nat.le_trans ht.size)⟩
theorem Opened.after{w w1 w':World}{base d:Nat}{F:List Nat}{A':DA}{dir:ByteArray}{mo lb:Nat}{F':List Nat}{gv:Value}{m:SM}(h:Opened w w1 base d F A' dir mo lb F' gv m)(ht:Turn [] w1 w'):Opened w w' base d F A' dir mo lb F' gv m:=
 ⟨h.log.still ht,h.abs,h.turn.same (ht.mono (by simp)),h.foot⟩
theorem dB{w:World}{base d lb:Nat}{F:List Nat}{A:DA}{gv:Value}{dir:ByteArray}{v:LV}{ms:List SM}(h:aI w base d F A lb gv dir v ms){k:Nat}{cs:Array Value}{T:TypeId}{fr:Nat×Nat}(hk:w.heap[k]? =some (.cells cs T fr))
 (h1:T≠171) (h2:T≠174) (h3:T≠209) (h4:T≠253) (h5:T≠93) (h6:T≠136) (h7:T≠5):k∉aS F lb gv ms:=fun hm=>by
 rcases Lg.aC.1 hm with rfl|hm|⟨x,hx,hm⟩|hm
 ·exact Lg.ai hk h.box h1 rfl
 ·obtain⟨cs',e'⟩:=h.row.kind k hm
  exact Lg.ai hk e' h2 rfl
 ·obtain⟨cs',T',e',hT⟩:=Lg.mg (h.lL x hx) k hm
  rcases hT with rfl|rfl
  ·exact Lg.ai hk e' h3 rfl
  ·exact Lg.ai hk e' h4 rfl
 ·rcases Lg.lV h.disk hm hk with rfl|rfl|rfl
  ·exact h5 rfl
  ·exact h6 rfl
  ·exact h7 rfl
theorem QP(w:World)(base d:Nat)(F:List Nat)(A:DA)(hd:ay w base d F A)(dir:ByteArray)(mr:dir.size≤100)(hok:Dk.nameB (Sn.nameB dir 0)=true)(mo:Nat)(hm1:100≤mo)(hm2:mo≤1048576)
 (room:Nat)(L:FL)(hfp:FP A room L)(hL:(Sn.nameB dir 0).data.toList∉L.map (·.1))(yO:L.length<200)(hnm:Dk.gu A (dir++⟨#[47]⟩:ByteArray).data.toList=[])(hv:∀Z,Turn F w Z→Sn.dA Z):
 ∃A',FP A' room (((Sn.nameB dir 0).data.toList,[])::L)∧Calls Tryz.prog 56 #[.pointer (some ⟨d,0,none⟩), .string dir, .int .i64 (mo:Int), .int .i64 0] w fun e w'=>∃lb F' gv m,e= .returned (.tuple #[.pointer (some ⟨lb,0,none⟩), .nilIface])∧Opened w w' base d F A' dir mo lb F' gv m:=by
 obtain⟨h1,f1⟩:=hfp.make (s:=Sn.nameB dir 0) hL hok yO;obtain⟨h2,f2⟩:=f1.sync (nm:=(Sn.nameB dir 0).data.toList) (by simp);refine⟨_,f2,?_⟩;refine(Lg.Ky w base d F A hd dir (by omega) mo 0 hm1 hm2 (by omega) h1 h2 hv (fun Z lb hZ hl=>Lg.Ol Z base d F A lb _ dir _ [] hl (by omega) hnm)).mono ?_;rintro e w' ⟨lb,F',gv,m,rfl,a1,a2,a3,a4⟩;exact⟨lb,F',gv,m,rfl,a1,a2,a3,a4⟩
theorem WL(w:World):(sizeOf 110).run Tryz.prog w= .ok 4 w:=by kernel_rfl
theorem YM(w:World):(isAgg 110).run Tryz.prog w= .ok true w:=by kernel_rfl
theorem Ud{w:World}{Y:Nat}{name:ByteArray}{parts:Int}{c:Bool}{sv:Value}(h:w.heap[Y]? =some (.cells (DF name parts c sv) 110 (0,0))):(loadVar 110 ⟨Y,0,none⟩).run Tryz.prog w= .ok (.agg (DF name parts c sv)) w:=by
 have c0:w.cell? ⟨Y,0,none⟩=some (.string name):=by rw[cell_of h];rfl
 have c1:w.cell? ⟨Y,1,none⟩=some (.int .i64 parts):=by rw[cell_of h];rfl
 have c2:w.cell? ⟨Y,2,none⟩=some (.bool c):=by rw[cell_of h];rfl
 have c3:w.cell? ⟨Y,3,none⟩=some sv:=by rw[cell_of h];rfl
 simp[loadVar,YM,WL,Result.andThen,loadCells,loadCellsFrom,addr_add,c0,c1,c2,c3,DF]
set_option maxHeartbeats 8000000 in
theorem QQ(w:World)(base d:Nat)(F:List Nat)(A:DA)(hd:ay w base d F A)(sb mo:Nat)(hb:QO w F sb d mo)(name:ByteArray)(hname:name.size≤50)(c:Bool)(sv:Value)(hst:iK w sv [0])(hsv:∀k∈sv.ownBlock,k∉F)
 (hok:Dk.nameB (Sn.nameB (dN name 0) 0)=true)(hm1:100≤mo)(hm2:mo≤1048576)
 (room:Nat)(L:FL)(hfp:FP A room L)(hL:(Sn.nameB (dN name 0) 0).data.toList∉L.map (·.1))(yO:L.length<200)(hnm:Dk.gu A (dN name 0++⟨#[47]⟩:ByteArray).data.toList=[])(hv:∀Z,Turn F w Z→Sn.dA Z):
 Calls Tryz.prog 31 #[.pointer (some ⟨sb,0,none⟩), .agg (DF name 1 c sv)] w fun e w'=>∃lv lb F' gv m A',e= .returned (.tuple #[.agg (DF name 1 c lv), .nilIface])∧LR w' w.heap.size lv [lb]∧Opened w w' base d F A' (dN name 0) mo lb F' gv m∧FP A' room (((Sn.nameB (dN name 0) 0).data.toList,[])::L):=by
 obtain⟨a,cap,rfl,hlc,hcm,hcs⟩:=hst;obtain⟨p,rfl,hcp⟩:=hcs 0 (by simp);have hmx:maxLen=9223372036854775807:=by simp[maxLen]
 rw[hmx]at hcm;simp only[List.length_singleton]at hlc⊢;simp only[List.getElem_cons_zero]at hcp;have hpa:p.add 0=p:=by cases p;simp[Addr.add]
 rw[hpa]at hcp;have hpl:∀Z,Turn [] w Z→Z.cell? p=some (.int .i64 0):=fun Z hZ=>(World.cell?_of_block (w:=w) (hZ.block _ (World.block_lt_of_cell? _ _ hcp) (by simp))).trans hcp
 have hdz:(dN name 0).size≤100:=by
  have:=vM (n:=0) (by omega);unfold dN;rw[ByteArray.size_append,ByteArray.size_append];have h3:(⟨#[45]⟩:ByteArray).size=1:=rfl;omega
 have hBw:sb<w.heap.size:=hb.b0.2.1;have Ub:∀k∈F,k<w.heap.size:=fun k hk=>by obtain⟨ah,ms,hp⟩:=hd;exact hp.lt k hk
 have HD:=hide hd;have HB:=hide hb;have XJ:=hide Ub;have HFP:=hide hfp;have Vz:=hide hnm;have HV:=hide hv;have IC:=hide hok;have HNL:=hide hL;have hrow0:LR w w.heap.size (.slice none 0 0) []:= .inl ⟨rfl,rfl⟩;have HR0:=hide hrow0;clear hd hb Ub hfp hnm hv hok hL hrow0;unfold DF;go_enter Tryz.func31,Tryz.ntmps31
 go_wp2_with fail
 obtain⟨wq,hwq⟩:∃wq,wq=((w.alloc (.cells #[.string name, .int .i64 1, .bool c, .slice (some p) 1 cap] 107)).alloc (.cells #[.string ⟨#[]⟩, .int .i64 0, .bool false, .slice none 0 0] 110)).alloc (.cells #[.string name, .int .i64 1, .bool c, .slice none 0 0] 110):=⟨_,rfl⟩;have Ve:Turn [] w wq:=by rw[hwq];exact(((Turn.refl [] w).alloc _).alloc _).alloc _
 have hX:wq.heap[w.heap.size]? =some (.cells #[.string name, .int .i64 1, .bool c, .slice (some p) 1 cap] 107 (0,0)):=by
  rw[hwq];exact(((Turn.refl [] _).alloc _).alloc _).heap (ae w _) (by simp)
 have hR:wq.heap[w.heap.size+1]? =some (.cells #[.string ⟨#[]⟩, .int .i64 0, .bool false, .slice none 0 0] 110 (0,0)):=by
  rw[hwq];have:=ae (w.alloc (.cells #[.string name, .int .i64 1, .bool c, .slice (some p) 1 cap] 107)) (.cells #[.string ⟨#[]⟩, .int .i64 0, .bool false, .slice none 0 0] 110);rw[World.size_alloc]at this;exact((Turn.refl [] _).alloc _).heap this (by simp)
 have hE:wq.heap[w.heap.size+2]? =some (.cells #[.string name, .int .i64 1, .bool c, .slice none 0 0] 110 (0,0)):=by
  rw[hwq];have:=ae ((w.alloc (.cells #[.string name, .int .i64 1, .bool c, .slice (some p) 1 cap] 107)).alloc (.cells #[.string ⟨#[]⟩, .int .i64 0, .bool false, .slice none 0 0] 110)) (.cells #[.string name, .int .i64 1, .bool c, .slice none 0 0] 110);rw[World.size_alloc,World.size_alloc]at this;exact this
 rw[←hwq];have hcq:=hpl wq Ve;have Jq:=hide Ve;have HX:=hide hX;have HR:=hide hR;have HE:=hide hE;have hzq:=lt_of_heap hE;clear hwq Ve hX hR hE hpl;refine wp_loop_rounds 2 ?_;rw[rounds_succ];go_wp2_with fail
 refine cZ 20 (Turn F) (Turn []) (fun k w=>match k with|0=>(fun w'=>ay w' base d F A∧(∀Z,Turn F w' Z→Sn.dA Z)) w|_=>(fun w'=>(∀Z,Turn F w' Z→Sn.dA Z)∨True) w) [15] (by kernel_rfl) (by kernel_rfl) (by kernel_rfl) (by kernel_rfl) (by kernel_rfl) (by kernel_rfl) (Nat.le_of_ble_eq_true rfl) (by decide) rfl (Turn.refl _) (fun _ _ _ h k=>h.same k) (fun _ _ h=>h.mono (by simp)) ?_ ?_ ?_
 ·intro k a b hk hR
  match k,hk with
  |0,hk=>
   have hk:=(show(fun w'=>ay w' base d F A∧(∀Z,Turn F w' Z→Sn.dA Z)) a from hk);dsimp only at hk;show(fun w'=>ay w' base d F A∧(∀Z,Turn F w' Z→Sn.dA Z)) b;dsimp only;first|exact⟨hk.1.kept hR (by simp),fun Z hZ=>hk.2 Z ((hR.mono (by simp)).same hZ)⟩|exact .inr trivial
  |_+1,hk=>
   have hk:=(show(fun w'=>(∀Z,Turn F w' Z→Sn.dA Z)∨True) a from hk);dsimp only at hk;show(fun w'=>(∀Z,Turn F w' Z→Sn.dA Z)∨True) b;dsimp only;first|exact⟨hk.1.kept hR (by simp),fun Z hZ=>hk.2 Z ((hR.mono (by simp)).same hZ)⟩|exact .inr trivial
 ·show(fun w'=>ay w' base d F A∧(∀Z,Turn F w' Z→Sn.dA Z)) _
  dsimp only;exact⟨HD.out.kept (Jq.out.drew) (by simp),fun Z hZ=>HV.out Z (((Jq.out.drew).mono (by simp)).same hZ)⟩
 apply Lo.ag 1 rfl rfl [] (by kernel_rfl) (Turn.refl _);apply Exists.intro;apply And.intro
 ·intro u w1 hR hF
  clear hF;refine⟨rfl,fun a ha K hK=>?_⟩;have e0:=ha 0;conv at e0=>rhs;whnf
  clear ha;go_simp
  refine hK _ ?_;rfl
 apply Lo.ag 2 rfl rfl [0] (by kernel_rfl) (Turn.refl _);apply Exists.intro;apply And.intro
 ·intro u w1 hR hF
  obtain⟨h0, -⟩:=hF;refine⟨rfl,fun a ha K hK=>?_⟩;have e23:=(ha 23).trans h0;clear ha h0;go_simp
  refine hK _ ?_;rfl
 apply Lo.ag 3 rfl rfl [1] (by kernel_rfl) (Turn.refl _);apply Exists.intro;apply And.intro
 ·intro u w1 hR hF
  obtain⟨h1, -⟩:=hF;refine⟨rfl,fun a ha K hK=>?_⟩;have e24:=(ha 24).trans h1;clear ha h1;go_simp
  refine hK _ ?_;rfl
 apply Lo.ag 4 rfl rfl [2] (by kernel_rfl) (Turn.refl _);apply Exists.intro;apply And.intro
 ·intro u w1 hR hF
  obtain⟨h2, -⟩:=hF;refine⟨rfl,fun a ha K hK=>?_⟩;have e25:=(ha 25).trans h2;clear ha h2;have hbx:=HB.out.kept (((Jq.out.mono (T:=F) (by simp)).drew).same hR) HB.out.b0.1 (F':=F) (fun q hq=> .inl hq);have c0:=hbx.b0.2.2;have z1:=hbx.b0.2.1;go_simp
  refine hK _ ?_;rfl
 apply Lo.ag 5 rfl rfl [] (by kernel_rfl) (Turn.refl _);apply Exists.intro;apply And.intro
 ·intro u w1 hR hF
  clear hF;refine⟨rfl,fun a ha K hK=>?_⟩;have e3:=ha 3;conv at e3=>rhs;whnf
  clear ha;go_simp
  refine hK _ ?_;rfl
 apply Lo.ag 6 rfl rfl [4] (by kernel_rfl) (Turn.refl _);apply Exists.intro;apply And.intro
 ·intro u w1 hR hF
  obtain⟨h4, -⟩:=hF;refine⟨rfl,fun a ha K hK=>?_⟩;have e27:=(ha 27).trans h4;clear ha h4;go_simp
  refine hK _ ?_;rfl
 apply Lo.ag 7 rfl rfl [5] (by kernel_rfl) (Turn.refl _);apply Exists.intro;apply And.intro
 ·intro u w1 hR hF
  obtain⟨h5, -⟩:=hF;refine⟨rfl,fun a ha K hK=>?_⟩;have e28:=(ha 28).trans h5;clear ha h5;have hbx:=(((Turn.refl F wq).drew).same hR).heap HX.out (fun hm=>by have:=XJ.out _ hm;omega);have x0:w1.cell? ⟨w.heap.size,0,none⟩=some (.string name):=by rw[cell_of hbx];rfl
  have z1:=lt_of_heap hbx;go_simp
  refine hK _ ?_;rfl
 apply Lo.ag 8 rfl rfl [] (by kernel_rfl) (Turn.refl _);apply Exists.intro;apply And.intro
 ·intro u w1 hR hF
  clear hF;refine⟨rfl,fun a ha K hK=>?_⟩;have e7:=ha 7;conv at e7=>rhs;whnf
  clear ha;go_simp
  refine hK _ ?_;rfl
 refine Lo.run 9 rfl rfl [6,7] (fun x w'=>x= .string (dN name 0)) (by kernel_rfl) (fun x w w' h hR=>?_) (fun _ _ h=>h.mono (by simp)) (fun u w1 hR hF=>?_) ?_
 ·exact h
 ·obtain⟨h6,h7, -⟩:=hF
  refine⟨rfl,fun a ha K hK=>?_⟩;have e29:=(ha 29).trans h6;have e30:=(ha 30).trans h7;clear ha h6 h7;go_simp
  refine(DC name (by omega) 0 (by omega) w1 (HV.out w1 (((Jq.out.mono (T:=F) (by simp)).drew).same hR))).mono ?_;rintro e w2 ⟨rfl,ht2⟩;exact hK _ _ rfl ht2
 apply Lo.ag 10 rfl rfl [] (by kernel_rfl) (Turn.refl _);apply Exists.intro;apply And.intro
 ·intro u w1 hR hF
  clear hF;refine⟨rfl,fun a ha K hK=>?_⟩;have e0:=ha 0;conv at e0=>rhs;whnf
  clear ha;go_simp
  refine hK _ ?_;rfl
 apply Lo.ag 11 rfl rfl [9] (by kernel_rfl) (Turn.refl _);apply Exists.intro;apply And.intro
 ·intro u w1 hR hF
  obtain⟨h9, -⟩:=hF;refine⟨rfl,fun a ha K hK=>?_⟩;have e32:=(ha 32).trans h9;clear ha h9;go_simp
  refine hK _ ?_;rfl
 apply Lo.ag 12 rfl rfl [10] (by kernel_rfl) (Turn.refl _);apply Exists.intro;apply And.intro
 ·intro u w1 hR hF
  obtain⟨h10, -⟩:=hF;refine⟨rfl,fun a ha K hK=>?_⟩;have e33:=(ha 33).trans h10;clear ha h10;go_simp
  refine hK _ ?_;rfl
 apply Lo.ag 13 rfl rfl [11] (by kernel_rfl) (Turn.refl _);apply Exists.intro;apply And.intro
 ·intro u w1 hR hF
  obtain⟨h11, -⟩:=hF;refine⟨rfl,fun a ha K hK=>?_⟩;have e34:=(ha 34).trans h11;clear ha h11;go_simp
  refine hK _ ?_;rfl
 apply Lo.ag 14 rfl rfl [12] (by kernel_rfl) (Turn.refl _);apply Exists.intro;apply And.intro
 ·intro u w1 hR hF
  obtain⟨h12, -⟩:=hF;refine⟨rfl,fun a ha K hK=>?_⟩;have e35:=(ha 35).trans h12;clear ha h12;have hbx:=HB.out.kept (((Jq.out.mono (T:=F) (by simp)).drew).same hR) HB.out.b0.1 (F':=F) (fun q hq=> .inl hq);have c0:=hbx.c1;have z1:=hbx.b0.2.1;go_simp
  refine hK _ ?_;rfl
 apply Lo.ag 15 rfl rfl [] (by kernel_rfl) (Turn.refl _);apply Exists.intro;apply And.intro
 ·intro u w1 hR hF
  clear hF;refine⟨rfl,fun a ha K hK=>?_⟩;have e8:=ha 8;conv at e8=>rhs;whnf
  clear ha;go_simp
  refine hK _ ?_;rfl
 refine Lo.rX 16 rfl 0 rfl [3,8,13,14] (fun x w'=>∃lb F' gv m A',x= .tuple #[.pointer (some ⟨lb,0,none⟩), .nilIface]∧Opened w w' base d F A' (dN name 0) mo lb F' gv m∧FP A' room (((Sn.nameB (dN name 0) 0).data.toList,[])::L)) (by kernel_rfl) (fun x w w' h hR=>?_) (.inl (by kernel_rfl)) (fun u w1 hR hS hF=>?_) ?_
 ·obtain⟨lb,F',gv,m,A',h1,h2,h3⟩:=h;exact⟨lb,F',gv,m,A',h1,h2.after hR,h3⟩
 ·obtain⟨h3,h8,h13,h14, -⟩:=hF
  have hS:=(show(fun w'=>ay w' base d F A∧(∀Z,Turn F w' Z→Sn.dA Z)) w1 from hS);dsimp only at hS;refine⟨rfl,fun a ha K hK=>?_⟩;have e26:=(ha 26).trans h3;have e31:a.tmps.getD 31 undef=u 8:=ha 31;have e36:=(ha 36).trans h13;have e37:=(ha 37).trans h14;have h8:=(show(fun x w'=>x= .string (dN name 0)) (u 8) w1 from h8);dsimp only at h8;clear ha h3 h13 h14;rw[h8]at e31;go_simp
  have hr0:=((Jq.out.mono (T:=F) (by simp)).drew).same hR;obtain⟨A',hfp',hop⟩:=QP w1 base d F A hS.1 (dN name 0) hdz IC.out mo hm1 hm2 room L HFP.out HNL.out yO Vz.out hS.2;refine hop.mono ?_;rintro e w2 ⟨lb,F',gv,m,rfl,ho⟩;exact hK _ _ ⟨lb,F',gv,m,A',rfl,ho.first hr0,hfp'⟩ ho.turn (.inr trivial)
 refine Lo.late 17 rfl rfl [15] (fun x w'=>∃lb F' gv m A',x= .tuple #[.pointer (some ⟨lb,0,none⟩), .nilIface]∧Opened w w' base d F A' (dN name 0) mo lb F' gv m∧FP A' room (((Sn.nameB (dN name 0) 0).data.toList,[])::L)) (by kernel_rfl) (fun x w w' h hR=>?_) (by kernel_rfl) (fun u w1 hR hF=>?_) ?_
 ·obtain⟨lb,F',gv,m,A',h1,h2,h3⟩:=h;exact⟨lb,F',gv,m,A',h1,h2.after hR,h3⟩
 ·obtain⟨h15, -⟩:=hF
  refine⟨rfl,fun a ha K hK=>?_⟩;have e38:a.tmps.getD 38 undef=u 15:=ha 38;have h15:=(show(fun x w'=>∃lb F' gv m A',x= .tuple #[.pointer (some ⟨lb,0,none⟩), .nilIface]∧Opened w w' base d F A' (dN name 0) mo lb F' gv m∧FP A' room (((Sn.nameB (dN name 0) 0).data.toList,[])::L)) (u 15) w1 from h15);dsimp only at h15;clear ha;go_simp
  exact hK _ _ h15 (Turn.refl _ _)
 refine Lo.late 18 rfl rfl [16] (fun x w'=>∃lb F' gv m A',x= .pointer (some ⟨lb,0,none⟩)∧Opened w w' base d F A' (dN name 0) mo lb F' gv m∧FP A' room (((Sn.nameB (dN name 0) 0).data.toList,[])::L)) (by kernel_rfl) (fun x w w' h hR=>?_) (by kernel_rfl) (fun u w1 hR hF=>?_) ?_
 ·obtain⟨lb,F',gv,m,A',h1,h2,h3⟩:=h;exact⟨lb,F',gv,m,A',h1,h2.after hR,h3⟩
 ·obtain⟨h16, -⟩:=hF
  refine⟨rfl,fun a ha K hK=>?_⟩;have e22:a.tmps.getD 22 undef=u 16:=ha 22;have h16:=(show(fun x w'=>∃lb F' gv m A',x= .tuple #[.pointer (some ⟨lb,0,none⟩), .nilIface]∧Opened w w' base d F A' (dN name 0) mo lb F' gv m∧FP A' room (((Sn.nameB (dN name 0) 0).data.toList,[])::L)) (u 16) w1 from h16);dsimp only at h16;clear ha;obtain⟨lb,F',gv,m,A',h1,h2,h3⟩:=h16;rw[h1]at e22;go_simp
  exact hK _ _ ⟨lb,F',gv,m,A',rfl,h2,h3⟩ (Turn.refl _ _)
 refine Lo.aJ 19 rfl rfl [16] (.nilIface) (by kernel_rfl) (fun u w1 hR hF=>?_) (Turn.refl _) ?_
 ·obtain⟨h16, -⟩:=hF
  refine⟨rfl,fun a ha K hK=>?_⟩;have e22:a.tmps.getD 22 undef=u 16:=ha 22;have h16:=(show(fun x w'=>∃lb F' gv m A',x= .tuple #[.pointer (some ⟨lb,0,none⟩), .nilIface]∧Opened w w' base d F A' (dN name 0) mo lb F' gv m∧FP A' room (((Sn.nameB (dN name 0) 0).data.toList,[])::L)) (u 16) w1 from h16);dsimp only at h16;clear ha;obtain⟨lb,F',gv,m,A',h1,h2,h3⟩:=h16;rw[h1]at e22;go_simp
  refine hK _ ?_;rfl
 refine Lo.late 20 rfl rfl [17] (fun x w'=>∃lb F' gv m A',x= .pointer (some ⟨lb,0,none⟩)∧Opened w w' base d F A' (dN name 0) mo lb F' gv m∧FP A' room (((Sn.nameB (dN name 0) 0).data.toList,[])::L)) (by kernel_rfl) (fun x w w' h hR=>?_) (by kernel_rfl) (fun u w1 hR hF=>?_) ?_
 ·obtain⟨lb,F',gv,m,A',h1,h2,h3⟩:=h;exact⟨lb,F',gv,m,A',h1,h2.after hR,h3⟩
 ·obtain⟨h17, -⟩:=hF
  refine⟨rfl,fun a ha K hK=>?_⟩;have e39:a.tmps.getD 39 undef=u 17:=ha 39;have h17:=(show(fun x w'=>∃lb F' gv m A',x= .pointer (some ⟨lb,0,none⟩)∧Opened w w' base d F A' (dN name 0) mo lb F' gv m∧FP A' room (((Sn.nameB (dN name 0) 0).data.toList,[])::L)) (u 17) w1 from h17);dsimp only at h17;clear ha;obtain⟨lb,F',gv,m,A',h1,h2,h3⟩:=h17;rw[h1]at e39;go_simp
  exact hK _ _ ⟨lb,F',gv,m,A',rfl,h2,h3⟩ (Turn.refl _ _)
 refine Lo.done [18,19] (fun u w1 bP hSd hF=>?_);have hSd:=(show(fun w'=>(∀Z,Turn F w' Z→Sn.dA Z)∨True) w1 from hSd);dsimp only at hSd;obtain⟨f18,f19, -⟩:=hF;have d18:u 18=_:=f18;have d19:=(show(fun x w'=>∃lb F' gv m A',x= .pointer (some ⟨lb,0,none⟩)∧Opened w w' base d F A' (dN name 0) mo lb F' gv m∧FP A' room (((Sn.nameB (dN name 0) 0).data.toList,[])::L)) (u 19) w1 from f19);dsimp only at d19;clear f18 f19;simp only[List.take_succ_cons,List.take_zero,List.drop_succ_cons,List.drop_zero,ax,Act.put,List.setIfInBounds_toArray,List.set_cons_succ,List.set_cons_zero,Nat.zero_add,Nat.reduceAdd,d18];obtain⟨lb,F',gv,m,A',e19,ho,hfp'⟩:=d19;rw[e19];have ZK:Turn F wq w1:=((Turn.refl F wq).drew).same bP;have hnF:∀i,w.heap.size+i∉F:=fun i hm=>by have:=XJ.out _ hm;omega
 have hE1:=ZK.heap HE.out (hnF 2);have hR1:=ZK.heap HR.out (hnF 1);have q3:w1.cell? ⟨w.heap.size+2,3,none⟩=some (.slice none 0 0):=by rw[cell_of hE1];rfl
 have zE:=lt_of_heap hE1;have hT1:Turn F w w1:=(Jq.out.mono (by simp)).same ZK;obtain⟨v7,w7,hr7,hrow7,ht7,hown7⟩:=WJ (w1.alloc (.cells #[.pointer (some ⟨lb,0,none⟩)] 142)) w.heap.size (.slice none 0 0) [] lb w1.heap.size (.inl ⟨rfl,rfl⟩) (ae w1 _) (by simp) (by have:=hT1.size;simp;omega);rw[List.nil_append]at hrow7;have ht7':Turn [] w1 w7:=((Turn.refl [] w1).alloc _).same (ht7.mono (by simp[Value.ownBlock]));have hE7:=ht7'.heap hE1 (by simp);have hR7:=ht7'.heap hR1 (by simp);have f7:w7.frozen? ⟨w.heap.size+2,3,none⟩=false:=af hE7 3;have q7:w7.cell? ⟨w.heap.size+2,3,none⟩=some (.slice none 0 0):=by rw[cell_of hE7];rfl
 have zE7:=lt_of_heap hE7;obtain⟨va,vc,MN, -, -⟩:=hrow7.form;rw[List.length_singleton]at MN;subst MN;have hE8:=heap_set hE7 3 (.slice va 1 vc);obtain⟨w8,hw8⟩:∃w8,w8=w7.setCell ⟨w.heap.size+2,3,none⟩ (.slice va 1 vc):=⟨_,rfl⟩;rw[←hw8]at hE8;have ht8:Turn [w.heap.size+2] w7 w8:=by rw[hw8];exact(Turn.refl _ _).setCell (.inl (by simp)) _
 have hR8:=ht8.heap hR7 (by simp);have hrow8:=hrow7.kept ht8 (fun q hq hm=>by
  obtain rfl:=List.mem_singleton.1 hm;obtain⟨cs',e'⟩:=hrow7.kind _ hq;exact Lg.ai e' hE7 (by decide) rfl)
 have hlE:w.heap.size+2∉aS F' lb gv [m]:=dB ho.log hE1 (by decide) (by decide) (by decide) (by decide) (by decide) (by decide) (by decide);have ho8:Opened w w8 base d F A' (dN name 0) mo lb F' gv m:=
  ⟨(ho.log.still ht7').kept ht8 (fun q hq hm=>by obtain rfl:=List.mem_singleton.1 hm;exact hlE hq),ho.abs,(ho.turn.same (ht7'.mono (by simp))).trans ht8 (fun q hq=> .inr (by simp at hq;omega)),ho.foot⟩
 have x0:w8.cell? ⟨w.heap.size+2,0,none⟩=some (.string name):=by rw[cell_of hE8];rfl
 have x1:w8.cell? ⟨w.heap.size+2,1,none⟩=some (.int .i64 1):=by rw[cell_of hE8];rfl
 have x2:w8.cell? ⟨w.heap.size+2,2,none⟩=some (.bool c):=by rw[cell_of hE8];rfl
 have x3:w8.cell? ⟨w.heap.size+2,3,none⟩=some (.slice va 1 vc):=by rw[cell_of hE8];rfl
 have y0:w8.cell? ⟨w.heap.size+1,0,none⟩=some (.string ⟨#[]⟩):=by rw[cell_of hR8];rfl
 have y1:w8.cell? ⟨w.heap.size+1,1,none⟩=some (.int .i64 0):=by rw[cell_of hR8];rfl
 have y2:w8.cell? ⟨w.heap.size+1,2,none⟩=some (.bool false):=by rw[cell_of hR8];rfl
 have y3:w8.cell? ⟨w.heap.size+1,3,none⟩=some (.slice none 0 0):=by rw[cell_of hR8];rfl
 have g0:w8.frozen? ⟨w.heap.size+1,0,none⟩=false:=af hR8 0;have g1:w8.frozen? ⟨w.heap.size+1,1,none⟩=false:=af hR8 1;have g2:w8.frozen? ⟨w.heap.size+1,2,none⟩=false:=af hR8 2;have g3:w8.frozen? ⟨w.heap.size+1,3,none⟩=false:=af hR8 3;have hyl:=lt_of_heap hR8;have HR7:=hide hr7;have HO8:=hide ho8;have Vf:=hide hrow8;have HR8:=hide hR8;have Om:=hide hfp';clear hr7 ho8 hrow8 hR8 hfp' hE8 hrow7 ht7 hown7 hE7 hR7 hE1 hR1 ZK hT1 ht7' ht8 ho hlE;go_wp2_with (at_builtin;go_must (refine Sn.dY rfl rfl rfl rfl HR7.out ?_))
 rw[show w7.setCell ⟨w.heap.size+1+1,3,none⟩ (.slice va 1 vc)=w8 from hw8.symm];clear hw8 q3 zE f7 q7 zE7;rw[rounds_succ];go_wp2
 have hfin:=heap_set (heap_set (heap_set (heap_set HR8.out 0 (.string name)) 1 (.int .i64 1)) 2 (.bool c)) 3 (.slice va 1 vc);have htf:Turn [w.heap.size+1] w8 ((((w8.setCell ⟨w.heap.size+1,0,none⟩ (.string name)).setCell ⟨w.heap.size+1,1,none⟩ (.int .i64 1)).setCell ⟨w.heap.size+1,2,none⟩ (.bool c)).setCell ⟨w.heap.size+1,3,none⟩ (.slice va 1 vc)):=
  ((((Turn.refl _ _).setCell (.inl (by simp)) _).setCell (.inl (by simp)) _).setCell (.inl (by simp)) _).setCell (.inl (by simp)) _
 have hld:=Ud (name:=name) (parts:=1) (c:=c) (sv:= .slice va 1 vc) hfin;unfold DF at hld;refine bodyPost_ret (v:= .tuple #[.agg #[.string name, .int .i64 1, .bool c, .slice va 1 vc], .nilIface]) (by simp[results,Tryz.results31,asAddr,hld,Result.andThen]) rfl ?_;have hlR:w.heap.size+1∉aS F' lb gv [m]:=dB HO8.out.log HR8.out (by decide) (by decide) (by decide) (by decide) (by decide) (by decide) (by decide);refine⟨_,lb,F',gv,m,A',rfl,Vf.out.kept htf (fun q hq hm=>by
  obtain rfl:=List.mem_singleton.1 hm;obtain⟨cs',e'⟩:=Vf.out.kind _ hq;exact Lg.ai e' HR8.out (by decide) rfl),⟨HO8.out.log.kept htf (fun q hq hm=>by obtain rfl:=List.mem_singleton.1 hm;exact hlR hq),HO8.out.abs,HO8.out.turn.trans htf (fun q hq=> .inr (by simp at hq;omega)),HO8.out.foot⟩,Om.out⟩
end Tp
end
section
open Go.RowKit Go.Maps
set_option maxRecDepth 100000
attribute [local go_sem] Oper.semAt_some
namespace Tp
set_option maxHeartbeats 1000000 in
theorem FM(w:World):Calls Tryz.prog 141 #[.slice none 0 0] w fun e w'=>e= .returned (.slice none 0 0)∧w=w':=by
 have hq:∀(w:World) (a:Option Addr) (n c:Nat),(binOp .eql 101 (.slice a n c) (.slice none 0 0)).run Tryz.prog w= .ok (.bool a.isNone) w:=fun w a n c=>Go.Lib.run_eql_slice_nil w _ _ a n c 0 0 Tryz.underlying101
 go_enter Tryz.func141,Tryz.ntmps141
 go_wp2
 go_ret
 exact⟨rfl,rfl⟩
theorem WM:(Tryz.prog.info? 110).map (fun i=>(i.zero.map (fun z=>z.cells.size),i.size,decide (i.bytes≤1000)))=some (some 4,4,true):=by kernel_rfl
theorem FN:∃i z,Tryz.prog.info? 110=some i∧i.zero=some z∧z.cells.size=4∧i.size=4∧i.bytes≤1000:=by
 have h:=WM;cases hi:Tryz.prog.info? 110 with
 |none=>rw[hi]at h;cases h
 |some i=>
  rw[hi]at h;simp only[Option.map_some,Option.some.injEq,Prod.mk.injEq,Option.map_eq_some_iff]at h;obtain⟨⟨z,hz,hz2⟩,h2,h3⟩:=h;exact⟨i,z,rfl,hz,hz2,h2,of_decide_eq_true h3⟩
theorem KE(w:World)(x:En)(k:Nat)(hk:w.heap[k]? =some (.cells (Ew x).toArray 110 (0,0))):
 ∃v' w',(Builtin.append_ #[101,101] 101 #[.slice none 0 0, .slice (some ⟨k,0,none⟩) 1 1]).run Tryz.prog w= .ok v' w'∧aH 110 4 Ew w' w.heap.size v' [x]∧Turn [] w w':=by
 obtain⟨i,z,hi,hz,hzs,hs,hb⟩:=FN;have hmax:maxLen=9223372036854775807:=by simp[maxLen]
 have hl:(Ew x).length=1*i.size:=by rw[hs,jm]
 have hnews:∀j u,(Ew x)[j]? =some u→w.cell? ((⟨k,0,none⟩:Addr).add j)=some u:=fun j u hu=>by
  rw[addr_add,cell_of hk];simpa using hu
 have hr:=run_append_nil (P:=Tryz.prog) w 101 101 110 i z Tryz.underlying101 hi hz ⟨k,0,none⟩ 1 1 (Ew x) hl hnews (by omega) (by omega) (by omega);have hge:=grownCap_ge w 1 0 110;have hcm:=grownCap_le_maxLen w 1 0 110 (by rw[hmax];omega);refine⟨_,_,hr, .inr ⟨w.heap.size,_,_,by simp,Nat.le_refl _,ae w.drew _,by simpa using hge,?_,hcm,?_⟩,((Turn.refl _ _).drew).alloc _⟩
 ·simp only[Array.size_append,List.size_toArray,size_zeroCells,hzs,jm]
  have:grownCap w 1 0 110*4=1*4+(grownCap w 1 0 110-1)*4:=by rw[←Nat.add_mul];congr 1;omega
  omega
 ·simp only[Array.toList_append,List.nil_append,List.length_singleton]
  rw[List.take_append_of_le_length (by simp[jm]),List.take_of_length_le (by simp[jm])];simp
end Tp
end
section
open Go.RowKit Go.Maps
set_option maxRecDepth 100000
attribute [local go_sem] Oper.semAt_some
open Lg (iK FP FL fD jE aI SM LV aS)
open Dk (DA ay Parts fE aW dI)
namespace Tp
abbrev OX(name:ByteArray)(c:Bool)(lv:Value)(lb:Nat):En:=⟨name,1,c,lv,[lb],[0]⟩
def nY(name:ByteArray)(c:Bool):ByteArray:=xI name c [0]++⟨#[]⟩
structure One(w w':World)(base d:Nat)(F:List Nat)(room:Nat)(L:FL)(sb mo:Nat)(eU bytes:Int)(name:ByteArray)(c:Bool)(A':DA)(lb:Nat)(F':List Nat)(ev lv gv:Value)(m:SM):Prop where
 box:w'.heap[sb]? =some (.cells (iH d mo eU bytes ev false) 103 (0,0))
 row:aH 110 4 Ew w' w.heap.size ev [OX name c lv lb]
 tq:LR w' w.heap.size lv [lb]
 log:aI w' base d F' A' lb gv (dN name 0) ⟨mo,0,0,false⟩ [m]
 abs:m.abs=(0,[])
 disk:FP A' room ((listN,(nY name c).data.toList)::(((Sn.nameB (dN name 0) 0).data.toList,[])::L).filter (fun q=> !(q.1==listN)))
 turn:Turn (sb::F) w w'
 foot:∀k∈aS F' lb gv [m],k∈F∨w.heap.size≤k
theorem WN{w w2:World}{K base d mo lb:Nat}{F F':List Nat}{A':DA}{dir:ByteArray}{gv:Value}{m:SM}{la:Option Addr}{lc:Nat}(hK:w2.heap[K]? =some (.cells #[.string ⟨#[]⟩, .int .i64 0, .bool false, .slice none 0 0] 110 (0,0))) (hw:w.heap.size≤K) {name:ByteArray} {c:Bool}
 (hlr:LR w2 w.heap.size (.slice la 1 lc) [lb]) (ho:Opened w w2 base d F A' dir mo lb F' gv m):
 ((((w2.setCell ⟨K,0,none⟩ (.string name)).setCell ⟨K,1,none⟩ (.int .i64 1)).setCell ⟨K,2,none⟩ (.bool c)).setCell ⟨K,3,none⟩ (.slice la 1 lc)).heap[K]? =some (.cells (DF name 1 c (.slice la 1 lc)) 110 (0,0))∧
 LR ((((w2.setCell ⟨K,0,none⟩ (.string name)).setCell ⟨K,1,none⟩ (.int .i64 1)).setCell ⟨K,2,none⟩ (.bool c)).setCell ⟨K,3,none⟩ (.slice la 1 lc)) w.heap.size (.slice la 1 lc) [lb]∧
 Opened w ((((w2.setCell ⟨K,0,none⟩ (.string name)).setCell ⟨K,1,none⟩ (.int .i64 1)).setCell ⟨K,2,none⟩ (.bool c)).setCell ⟨K,3,none⟩ (.slice la 1 lc)) base d F A' dir mo lb F' gv m:=by
 have hfin:=heap_set (heap_set (heap_set (heap_set hK 0 (.string name)) 1 (.int .i64 1)) 2 (.bool c)) 3 (.slice la 1 lc);have htf:Turn [K] w2 ((((w2.setCell ⟨K,0,none⟩ (.string name)).setCell ⟨K,1,none⟩ (.int .i64 1)).setCell ⟨K,2,none⟩ (.bool c)).setCell ⟨K,3,none⟩ (.slice la 1 lc)):=
  ((((Turn.refl _ _).setCell (.inl (by simp)) _).setCell (.inl (by simp)) _).setCell (.inl (by simp)) _).setCell (.inl (by simp)) _
 have hlR:K∉aS F' lb gv [m]:=dB ho.log hK (by decide) (by decide) (by decide) (by decide) (by decide) (by decide) (by decide);refine⟨hfin,hlr.kept htf (fun q hq hm=>?_),⟨ho.log.kept htf (fun q hq hm=>by obtain rfl:=List.mem_singleton.1 hm;exact hlR hq),ho.abs,ho.turn.trans htf (fun q hq=> .inr (by simp at hq;omega)),ho.foot⟩⟩;obtain rfl:=List.mem_singleton.1 hm;obtain⟨cs',e'⟩:=hlr.kind _ hq;exact Lg.ai e' hK (by decide) rfl
theorem mk1(w:World):(Instr.makeSlice 37 (.int .i64 1) (.int .i64 1)).run Tryz.prog w= .ok (.slice (some ⟨w.heap.size,0,none⟩) 1 1) (w.alloc (.cells #[.int .i64 0] 3)):=by
 kernel_rfl
set_option maxHeartbeats 8000000 in
theorem Oo(w:World)(base d:Nat)(F:List Nat)(A:DA)(hd:ay w base d F A)(sb mo:Nat)(eU bytes:Int)(hb:w.heap[sb]? =some (.cells (iH d mo eU bytes (.slice none 0 0) false) 103 (0,0))) (name:ByteArray) (hname:name.size≤50) (c:Bool)
 (hok:Dk.nameB (Sn.nameB (dN name 0) 0)=true) (hm1:100≤mo) (hm2:mo≤1048576)
 (room:Nat) (L:FL) (hfp:FP A room L) (hL:(Sn.nameB (dN name 0) 0).data.toList∉L.map (·.1)) (yO:L.length<100) (hnm:Dk.gu A (dN name 0++⟨#[47]⟩:ByteArray).data.toList=[]) (hLb:fM∉((Sn.nameB (dN name 0) 0).data.toList,([]:List UInt8)).1::L.map (·.1)) (hro:fD L+(nY name c).size≤room) (hv:∀Z,Turn F w Z→Sn.dA Z):
 Calls Tryz.prog 136 #[.pointer (some ⟨sb,0,none⟩), .agg #[.string name, .int .i64 1, .bool c]] w fun e w'=>e= .returned .nilIface∧∃A' lb F' ev lv gv m,One w w' base d F room L sb mo eU bytes name c A' lb F' ev lv gv m:=by
 have hmk:=mk1;have Ub:∀k∈F,k<w.heap.size:=fun k hk=>by obtain⟨ah,ms,hp⟩:=hd;exact hp.lt k hk
 have hbw:base≤w.heap.size:=by obtain⟨ah,ms,hp⟩:=hd;have h1:=hp.low d hp.jH;have h2:=hp.lt d hp.jH;omega
 have XK:sb∉F:=fun hm=>by
  rcases Lg.lV hd hm hb with e|e|e<;>exact absurd e (by decide)
 have hsb:=lt_of_heap hb;have hB1:QO w F sb d mo:=⟨⟨XK,hsb,by rw[cell_of hb];rfl⟩,by rw[cell_of hb];rfl⟩;have hop:∀Z k,Turn [] w Z→Z.heap[k]? =some (.cells #[.int .i64 0] 3 (0,0))→w.heap.size≤k→Calls Tryz.prog 31 #[.pointer (some ⟨sb,0,none⟩), .agg #[.string name, .int .i64 1, .bool c, .slice (some ⟨k,0,none⟩) 1 1]] Z fun e w'=>∃la lc lb F' gv m A',e= .returned (.tuple #[.agg #[.string name, .int .i64 1, .bool c, .slice la 1 lc], .nilIface])∧LR w' w.heap.size (.slice la 1 lc) [lb]∧Opened w w' base d F A' (dN name 0) mo lb F' gv m∧FP A' room (((Sn.nameB (dN name 0) 0).data.toList,[])::L)∧Turn F Z w':=by
  intro Z k hZ hk hkw;refine(QQ Z base d F A (hd.kept hZ (by simp)) sb mo (hB1.kept hZ (by simp) (fun q hq=> .inl hq)) name hname c _ ⟨some ⟨k,0,none⟩,1,rfl,Nat.le_refl _,by simp[maxLen],fun j hj=>⟨_,rfl,by
   obtain rfl:j=0:=(by simpa using hj);rw[addr_add,cell_of hk];rfl⟩⟩ (fun q hq hm=>by simp[Value.ownBlock]at hq;subst hq;have:=Ub _ hm;omega) hok hm1 hm2 room L hfp hL (by omega) hnm (fun Y hY=>hv Y ((hZ.mono (by simp)).same hY))).mono ?_
  rintro e w' ⟨lv,lb,F',gv,m,A',rfl,h1,h2,h3⟩;obtain⟨la,lc,rfl, -, -⟩:=h1.form;exact⟨la,lc,lb,F',gv,m,A',rfl,h1.aZ hZ.size,h2.first (hZ.mono (by simp)),h3,h2.turn⟩
 have Vg:=hide hop;have XJ:=hide Ub;have Gs:=hide hb;have YN:=hide XK;have HV:=hide hv;have YC:=hide hro;have YK:=hide hLb;clear hop hd hfp hL hnm hv hro hLb XK hok Ub hB1;have hnF:∀i,w.heap.size+i∉F:=fun i hm=>by have:=XJ.out _ hm;omega
 obtain⟨T0,hT0⟩:∃T0,T0=w.alloc (.cells #[.string name, .int .i64 1, .bool c] 105):=⟨_,rfl⟩;have hz0:T0.heap.size=w.heap.size+1:=by rw[hT0];simp
 have hI1:(T0.alloc (.cells #[.int .i64 0] 3)).heap[w.heap.size+1]? =some (.cells #[.int .i64 0] 3 (0,0)):=by rw[←hz0];exact ae T0 _
 have hA:(T0.alloc (.cells #[.string ⟨#[]⟩, .int .i64 0, .bool false, .slice none 0 0] 110)).heap[w.heap.size+1]? =some (.cells #[.string ⟨#[]⟩, .int .i64 0, .bool false, .slice none 0 0] 110 (0,0)):=by rw[←hz0];exact ae T0 _
 have hI2:((T0.alloc (.cells #[.string ⟨#[]⟩, .int .i64 0, .bool false, .slice none 0 0] 110)).alloc (.cells #[.int .i64 0] 3)).heap[w.heap.size+1+1]? =some (.cells #[.int .i64 0] 3 (0,0)):=by
  have:=ae (T0.alloc (.cells #[.string ⟨#[]⟩, .int .i64 0, .bool false, .slice none 0 0] 110)) (.cells #[.int .i64 0] 3);rwa [World.size_alloc,hz0]at this
 have hB:((T0.alloc (.cells #[.int .i64 0] 3)).alloc (.cells #[.string ⟨#[]⟩, .int .i64 0, .bool false, .slice none 0 0] 110)).heap[w.heap.size+1+1]? =some (.cells #[.string ⟨#[]⟩, .int .i64 0, .bool false, .slice none 0 0] 110 (0,0)):=by
  have:=ae (T0.alloc (.cells #[.int .i64 0] 3)) (.cells #[.string ⟨#[]⟩, .int .i64 0, .bool false, .slice none 0 0] 110);rwa [World.size_alloc,hz0]at this
 rw[hT0]at hI1 hA hI2 hB;have HI1:=hide hI1;have HA:=hide hA;have HI2:=hide hI2;have HB:=hide hB;clear hI1 hA hI2 hB hz0 hT0 hb;go_enter Tryz.func136,Tryz.ntmps136
 go_upto_region 1 with fail
 go_cut [5,6]from 9 to 18 (fun e5 e6 wx=>∃K lv lb F' gv m A',e5= .pointer (some ⟨K,0,none⟩)∧e6= .nilIface∧wx.heap[K]? =some (.cells (DF name 1 c lv) 110 (0,0))∧w.heap.size≤K∧LR wx w.heap.size lv [lb]∧Opened w wx base d F A' (dN name 0) mo lb F' gv m∧FP A' room (((Sn.nameB (dN name 0) 0).data.toList,[])::L))
 case first=>
  go_region_with (go_at_call 31;refine(Vg.out _ _ (by repeat (first|exact Turn.refl _ _|refine Turn.drew ?_ |refine Turn.alloc ?_ _)) (by first|exact((Turn.refl [] _).drew).heap HI1.out (by simp)|exact(((Turn.refl [] _).alloc _).drew).heap HI1.out (by simp)|exact((Turn.refl [] _).drew).heap HI2.out (by simp)) (by omega)).mono ?_;rintro e w2 ⟨la,lc,lb,F',gv,m,A',rfl,hlr,ho,hfp',htz⟩;(first|(have hk2:w2.heap[w.heap.size+2]? =_:=htz.heap (((Turn.refl [] _).drew).heap HB.out (by simp)) (hnF 2);have zk:=lt_of_heap hk2;have f0:=af hk2 0;have f1:=af hk2 1;have f2:=af hk2 2;have f3:=af hk2 3;have q0:=cell_of hk2 0;have q1:=cell_of hk2 1;have q2:=cell_of hk2 2;have q3:=cell_of hk2 3;simp at q0 q1 q2 q3;have HK:=hide hk2;clear hk2)|(have hk1:w2.heap[w.heap.size+1]? =_:=htz.heap ((((Turn.refl [] _).alloc _).drew).heap HA.out (by simp)) (hnF 1);have zk:=lt_of_heap hk1;have f0:=af hk1 0;have f1:=af hk1 1;have f2:=af hk1 2;have f3:=af hk1 3;have q0:=cell_of hk1 0;have q1:=cell_of hk1 1;have q2:=cell_of hk1 2;have q3:=cell_of hk1 3;simp at q0 q1 q2 q3;have HK:=hide hk1;clear hk1)|(have hnone:True:=trivial));have ZL:=hide hlr;have HO:=hide ho;have Om:=hide hfp';clear hlr ho hfp')
  all_goals
   go_wp2_with fail
   go_meet
   first
    |(obtain⟨b1,b2,b3⟩:=WN HK.out (by omega) (name:=name) (c:=c) ZL.out HO.out
      exact⟨_, .slice la 1 lc,lb,F',gv,m,A',rfl,rfl,b1,by omega,b2,b3,Om.out⟩)
    |exact⟨w2.heap.size, .slice la 1 lc,lb,F',gv,m,A',rfl,rfl,ae w2 _,HO.out.turn.size,ZL.out.still ((Turn.refl [] w2).alloc _),HO.out.after ((Turn.refl [] w2).alloc _),Om.out⟩
 case rest=>
  obtain⟨K,lv,lb,F',gv,m,A',rfl,rfl,hK,hKw,hlr,ho,hfp'⟩:=hcut;obtain⟨la,lc,rfl, -, -⟩:=hlr.form;have hTx:=ho.turn;have XK:=YN.out;have hbx:=hTx.heap Gs.out XK;have c4:wc.cell? ⟨sb,4,none⟩=some (.slice none 0 0):=by rw[cell_of hbx];rfl
  have z4:=lt_of_heap hbx;have q0:=cell_of hK 0;have q1:=cell_of hK 1;have q2:=cell_of hK 2;have q3:=cell_of hK 3;simp[DF]at q0 q1 q2 q3;have zk:=lt_of_heap hK;have HX:=hide hbx;have HK:=hide hK;have ZL:=hide hlr;have HO:=hide ho;have Om:=hide hfp';have SN:=hide hTx;have HKW:=hide hKw;clear hK hlr ho hfp' hTx hbx hKw XK;go_wp2_with fail
  refine aB 7 (Turn []) (by kernel_rfl) (by kernel_rfl) (by kernel_rfl) (by kernel_rfl) (by kernel_rfl) (Nat.le_of_ble_eq_true rfl) rfl (Turn.refl _) (fun _ _ _ h k=>h.same k) ?_;apply Lo.ag 1 rfl rfl [] (by kernel_rfl) (Turn.refl _);apply Exists.intro;apply And.intro
  ·intro u w1 hR hF
   clear hF;refine⟨rfl,fun a ha K hK=>?_⟩;have e0:=ha 0;conv at e0=>rhs;whnf
   clear ha;go_simp
   refine hK _ ?_;rfl
  apply Lo.ag 2 rfl rfl [0] (by kernel_rfl) (Turn.refl _);apply Exists.intro;apply And.intro
  ·intro u w1 hR hF
   obtain⟨h0, -⟩:=hF;refine⟨rfl,fun a ha K hK=>?_⟩;have e22:=(ha 22).trans h0;clear ha h0;go_simp
   refine hK _ ?_;rfl
  apply Lo.ag 3 rfl rfl [1] (by kernel_rfl) (Turn.refl _);apply Exists.intro;apply And.intro
  ·intro u w1 hR hF
   obtain⟨h1, -⟩:=hF;refine⟨rfl,fun a ha K hK=>?_⟩;have e23:=(ha 23).trans h1;clear ha h1;go_simp
   refine hK _ ?_;rfl
  apply Lo.ag 4 rfl rfl [2] (by kernel_rfl) (Turn.refl _);apply Exists.intro;apply And.intro
  ·intro u w1 hR hF
   obtain⟨h2, -⟩:=hF;refine⟨rfl,fun a ha K hK=>?_⟩;have e24:=(ha 24).trans h2;clear ha h2;have hb1:=((Turn.refl [] wc).drew.same hR).heap HX.out (by simp);have c4:w1.cell? ⟨sb,4,none⟩=some (.slice none 0 0):=by rw[cell_of hb1];rfl
   have z4:=lt_of_heap hb1;go_simp
   refine hK _ ?_;rfl
  refine Lo.run 5 rfl rfl [3] (fun x w'=>x= .slice none 0 0) (by kernel_rfl) (fun x w w' h hR=>?_) (fun _ _ h=>h) (fun u w1 hR hF=>?_) ?_
  ·exact h
  ·obtain⟨h3, -⟩:=hF
   refine⟨rfl,fun a ha K hK=>?_⟩;have e25:=(ha 25).trans h3;clear ha h3;go_simp
   refine(FM _).mono ?_;rintro e w2 ⟨rfl,rfl⟩;exact hK _ _ rfl (Turn.refl _ _)
  refine Lo.aJ 6 rfl rfl [] (.agg #[.string name, .int .i64 1, .bool c, .slice la 1 lc]) (by kernel_rfl) (fun u w1 hR hF=>?_) (Turn.refl _) ?_
  ·clear hF
   refine⟨rfl,fun a ha K hK=>?_⟩;have e5:=ha 5;conv at e5=>rhs;whnf
   clear ha;have hb1:=((Turn.refl [] wc).drew.same hR).heap HK.out (by simp);have q0:=cell_of hb1 0;have q1:=cell_of hb1 1;have q2:=cell_of hb1 2;have q3:=cell_of hb1 3;simp[DF]at q0 q1 q2 q3;have zk:=lt_of_heap hb1;go_simp
   refine hK _ ?_;rfl
  refine Lo.run 7 rfl rfl [5] (fun x w'=>∃q,x= .slice (some ⟨q,0,none⟩) 1 1∧w'.heap[q]? =some (.cells (Ew (OX name c (.slice la 1 lc) lb)).toArray 110 (0,0))) (by kernel_rfl) (fun x w w' h hR=>?_) (fun _ _ h=>h) (fun u w1 hR hF=>?_) ?_
  ·obtain⟨q,h1,h2⟩:=h;exact⟨q,h1,hR.heap h2 (by simp)⟩
  ·obtain⟨h5, -⟩:=hF
   refine⟨rfl,fun a ha K hK=>?_⟩;have e27:=(ha 27).trans h5;clear ha h5;have e27':a.tmps[27]?.getD undef= .agg #[.string name, .int .i64 1, .bool c, .slice la 1 lc]:=by rw[←Array.getD_eq_getD_getElem?,e27]
   go_simp
   exact hK _ _ ⟨w1.heap.size,rfl,ae w1 _⟩ ((Turn.refl [] _).alloc _)
  refine Lo.done [4,6] (fun u w1 bP hSd hF=>?_);clear hSd;obtain⟨f4,f6, -⟩:=hF;have d4:=(show(fun x w'=>x= .slice none 0 0) (u 4) w1 from f4);dsimp only at d4;have d6:=(show(fun x w'=>∃q,x= .slice (some ⟨q,0,none⟩) 1 1∧w'.heap[q]? =some (.cells (Ew (OX name c (.slice la 1 lc) lb)).toArray 110 (0,0))) (u 6) w1 from f6)
  dsimp only at d6;clear f4 f6;simp only[List.take_succ_cons,List.take_zero,List.drop_succ_cons,List.drop_zero,ax,Act.put,List.setIfInBounds_toArray,List.set_cons_succ,List.set_cons_zero,Nat.zero_add,Nat.reduceAdd];obtain⟨q,h6,hq⟩:=d6;rw[d4,h6];obtain⟨v7,w7,hr7,hrow7,ht7⟩:=KE w1 (OX name c (.slice la 1 lc) lb) q hq;have hT1:Turn [] wc w7:=(((Turn.refl [] wc).drew).same bP).same ht7;have hbase:=SN.out.size;have hT1s:=(((Turn.refl [] wc).drew).same bP).size;have iZ:Hid (aH 110 4 Ew w7 w.heap.size v7 [OX name c (.slice la 1 lc) lb]):=hrow7.aZ (by omega);obtain⟨va,vc,MN, -, -⟩:=hrow7.form;rw[List.length_singleton]at MN;subst MN;have HR7:=hide hr7;have HT1:=hide hT1;have WO:=hide (ZL.out.still hT1);have HO7:=hide (HO.out.after hT1);have HX7:=hide (hT1.heap HX.out (by simp));clear d4 h6 hq hrow7 ht7 hT1 bP hT1s hbase;go_wp2_with (at_builtin;go_must (refine Sn.dY rfl rfl rfl rfl HR7.out ?_))
  have yG:=HO7.out.log;have hF':∀k∈F',k∈F∨w.heap.size≤k:=fun k hk=>HO7.out.foot k (Lg.aC.2 (.inr (.inr (.inr hk))))
  have hb7:Cf w7 F' sb d:=⟨fun hm=>(hF' _ hm).elim YN.out (fun h=>by omega),lt_of_heap HX7.out,by rw[cell_of HX7.out];rfl⟩;have hen:IB w7 w.heap.size (OX name c (.slice la 1 lc) lb):=⟨WO.out,rfl,fun j h1 h2=>by
   obtain rfl:j=0:=by simpa using h1
   exact⟨yG.c4,lt_of_heap yG.box⟩,by simp,by simp,by show name.size≤100;omega⟩
  have hwr:=write_any w7 base d F' A' yG.disk sb hb7 _ _ (iZ.out.aZ hbw) (fun e he=>by obtain rfl:=List.mem_singleton.1 he;exact⟨hen.row.aZ hbw,hen.len,hen.beg,hen.few,hen.low,hen.nm⟩) (by simp) room _ Om.out YK.out (by simp;omega) (by rw[Lg.jy];simpa[mV,nY,En.line]using YC.out) (fun Z hZ=>HV.out Z ((SN.out.same ((HT1.out.same hZ).mono (by simp)))));have HWR:=hide hwr;clear yG hb7 hen hwr hF';refine HWR.out.mono ?_;rintro e w8 ⟨rfl,A'',Qe,hfp''⟩;obtain⟨F2,gv2,ms2,QR,QS,ht8,hf8⟩:=HO7.out.log.did Qe;obtain⟨m2,rfl⟩:∃m2,ms2=[m2]:=List.length_eq_one_iff.1 (by simpa using congrArg List.length QS);have QT:m2.abs=(0,[]):=by
   have:=QS;simp only[List.map_cons,List.map_nil,List.cons.injEq,and_true]at this;rw[this];exact HO7.out.abs
  have hnl:∀{k:Nat} {cs:Array Value} {T:TypeId} {fr:Nat×Nat},w7.heap[k]? =some (.cells cs T fr)→T=110∨T=142∨T=103→k∉aS F' lb gv [m]:=fun hk hT=>by
   rcases hT with rfl|rfl|rfl<;>exact dB HO7.out.log hk (by decide) (by decide) (by decide) (by decide) (by decide) (by decide) (by decide)
  have hX8:=ht8.heap HX7.out (hnl HX7.out (.inr (.inr rfl)));have hrow8:=iZ.out.kept ht8 (fun q hq=>by obtain⟨cs',e'⟩:=iZ.out.kind q hq;exact hnl e' (.inl rfl));have hlr8:=WO.out.kept ht8 (fun q hq=>by obtain⟨cs',e'⟩:=WO.out.kind q hq;exact hnl e' (.inr (.inl rfl)));have c4:w8.cell? ⟨sb,4,none⟩=some (.slice none 0 0):=by rw[cell_of hX8];rfl
  have f4:=af hX8 4;have z4:=lt_of_heap hX8;have hX9:=heap_set hX8 4 (.slice va 1 vc);have ht9:Turn [sb] w8 (w8.setCell ⟨sb,4,none⟩ (.slice va 1 vc)):=(Turn.refl _ _).setCell (.inl (by simp)) _;have hsl:sb∉aS F2 lb gv2 [m2]:=dB QR hX8 (by decide) (by decide) (by decide) (by decide) (by decide) (by decide) (by decide);have hsz7:=SN.out.size;have hsz17:=HT1.out.size;have hone:One w (w8.setCell ⟨sb,4,none⟩ (.slice va 1 vc)) base d F room L sb mo eU bytes name c A'' lb F2 (.slice va 1 vc) (.slice la 1 lc) gv2 m2:=by
   refine⟨by rw[hX9];rfl,hrow8.kept ht9 (fun q hq hm=>?_),hlr8.kept ht9 (fun q hq hm=>?_),QR.kept ht9 (fun q hq hm=>by obtain rfl:=List.mem_singleton.1 hm;exact hsl hq),QT,hfp'',?_,fun k hk=>?_⟩
   ·obtain rfl:=List.mem_singleton.1 hm
    obtain⟨cs',e'⟩:=hrow8.kind _ hq;exact Lg.ai e' hX8 (by decide) rfl
   ·obtain rfl:=List.mem_singleton.1 hm
    obtain⟨cs',e'⟩:=hlr8.kind _ hq;exact Lg.ai e' hX8 (by decide) rfl
   ·have h17:Turn F w w7:=SN.out.same (HT1.out.mono (by simp))
    have h18:Turn F w w8:=h17.trans ht8 (fun k hk=>HO7.out.foot k hk);exact(h18.mono (fun k hk=> .inl (by simp[hk]))).trans (ht9.mono (T:=sb::F) (fun k hk=> .inl (by simp at hk;simp[hk]))) (fun k hk=> .inl hk)
   ·rcases hf8 k hk with h1|h1
    ·exact HO7.out.foot k h1
    ·exact .inr (by omega)
  have FO:=hide hone;clear hone hX9 ht9 hsl hrow8 hlr8 hX8 hnl QR Qe hfp'' ht8 hf8 QS QT;go_wp2
  go_ret
  exact⟨rfl,_,_,_,_,_,_,_,FO.out⟩
end Tp
end
section
open Go.RowKit Go.Maps
set_option maxRecDepth 100000
attribute [local go_sem] Oper.semAt_some
namespace Tp
def nmA:ByteArray:=⟨#[97]⟩
set_option maxHeartbeats 1000000 in
theorem WQ(w:World):Calls Tryz.prog 76 #[.string ⟨#[97]⟩] w fun e w'=>e= .returned (.bool true)∧w=w':=by
 have hnb:Calls Tryz.prog 115 #[.int .u8 97] w fun e w'=>e= .returned (.bool true)∧w=w':=by
  go_enter Tryz.func115,Tryz.ntmps115
  go_wp2
  go_ret
  exact⟨rfl,rfl⟩
 have HN:=hide hnb;clear hnb;go_enter Tryz.func76,Tryz.ntmps76
 go_wp2_with fail
 refine wp_loop_rounds 2 ?_;rw[rounds_succ];go_wp2_with fail
 refine HN.out.mono ?_;rintro e w' ⟨rfl,rfl⟩;go_wp2_with fail
 rw[rounds_succ];go_wp2
 go_ret
 exact⟨rfl,rfl⟩
set_option maxHeartbeats 1000000 in
theorem Oq(w:World)(f:Value):Calls Tryz.prog 179 #[.slice none 0 0,f] w fun e w'=>e= .returned (.int .i64 (-1))∧w=w':=by
 go_enter Tryz.func179,Tryz.ntmps179
 go_wp2_with fail
 refine wp_loop_rounds 1 ?_;rw[rounds_succ];go_wp2
 go_ret
 exact⟨rfl,rfl⟩
set_option maxHeartbeats 1000000 in
theorem QU(w:World)(sb:Nat)(hb:w.cell? ⟨sb,4,none⟩=some (.slice none 0 0))(hsb:sb<w.heap.size)(name:ByteArray):
 Calls Tryz.prog 139 #[.pointer (some ⟨sb,0,none⟩), .string name] w fun e w'=>e= .returned (.int .i64 (-1))∧Turn [] w w':=by
 have hb1:∀Z,Turn [] w Z→Z.cell? ⟨sb,4,none⟩=some (.slice none 0 0):=fun Z hZ=>(World.cell?_of_block (w:=w) (hZ.block _ hsb (by simp))).trans hb
 have hc:=hb1 _ ((Turn.refl [] w).alloc (.cells #[.string name] 9));have hz:sb<(w.alloc (.cells #[.string name] 9)).heap.size:=by rw[World.size_alloc];omega
 clear hb1;go_enter Tryz.func139,Tryz.ntmps139
 go_wp2_with fail
 refine(Oq _ _).mono ?_;rintro e w' ⟨rfl,rfl⟩;go_wp2
 go_ret
 exact⟨rfl,(Turn.refl _ _).alloc _⟩
set_option maxHeartbeats 2000000 in
theorem QV(w:World)(sb:Nat)(hb:w.cell? ⟨sb,4,none⟩=some (.slice none 0 0))(hsb:sb<w.heap.size)(c:Bool):
 Calls Tryz.prog 135 #[.pointer (some ⟨sb,0,none⟩), .agg #[.string ⟨#[97]⟩, .int .i64 1, .bool c]] w fun e w'=>e= .returned .nilIface∧Turn [] w w':=by
 have hfit:∀Z:World,Calls Tryz.prog 77 #[.int .i64 1] Z fun e w'=>e= .returned (.bool true)∧Z=w':=by
  intro Z;go_enter Tryz.func77,Tryz.ntmps77
  go_wp2
  go_ret
  exact⟨rfl,rfl⟩
 have Tu:=hide hfit;have hb1:∀Z,Turn [] w Z→Z.cell? ⟨sb,4,none⟩=some (.slice none 0 0)∧sb<Z.heap.size:=fun Z hZ=>⟨(World.cell?_of_block (w:=w) (hZ.block _ hsb (by simp))).trans hb,Nat.lt_of_lt_of_le hsb hZ.size⟩
 have HB:=hide hb1;clear hb1 hfit;go_enter Tryz.func135,Tryz.ntmps135
 go_wp2_with fail
 refine(WQ _).mono ?_;rintro e w1 ⟨rfl,rfl⟩;have ht0:Turn [] w (w.alloc (.cells #[.string ⟨#[97]⟩, .int .i64 1, .bool c] 105)):=(Turn.refl [] w).alloc _;have hbox:=ae w (.cells #[.string ⟨#[97]⟩, .int .i64 1, .bool c] 105);go_wp2_with fail
 refine(QU _ sb (HB.out _ ht0).1 (HB.out _ ht0).2 _).mono ?_;rintro e w2 ⟨rfl,ht2⟩;have hbx:=ht2.heap hbox (by simp);have x1:w2.cell? ⟨w.heap.size,1,none⟩=some (.int .i64 1):=by rw[cell_of hbx];rfl
 have zx:=lt_of_heap hbx;have HT2:Hid (Turn [] w w2):=ht0.same ht2;obtain⟨e4,z4⟩:=HB.out w2 HT2.out;clear ht0 ht2 hbox hbx hb;go_wp2_with fail
 refine(Tu.out _).mono ?_;rintro e w3 ⟨rfl,rfl⟩;go_wp2
 go_ret
 exact⟨rfl,HT2.out⟩
end Tp
end
section
open Go.RowKit Go.Maps
set_option maxRecDepth 100000
attribute [local go_sem] Oper.semAt_some
open Lg (iK FP FL fD jE aI SM LV aS)
open Dk (DA ay Parts fE aW dI)
namespace Tp
section
variable {w w0 w':World} {base d:Nat} {F:List Nat} {room:Nat} {L:FL} {sb mo:Nat} {eU bytes:Int} {name:ByteArray} {c:Bool} {A':DA} {lb:Nat} {F':List Nat} {ev lv gv:Value} {m:SM}
theorem One.first(ht:Turn [] w0 w)(h:One w w' base d F room L sb mo eU bytes name c A' lb F' ev lv gv m):One w0 w' base d F room L sb mo eU bytes name c A' lb F' ev lv gv m:=
 ⟨h.box,h.row.aZ ht.size,h.tq.aZ ht.size,h.log,h.abs,h.disk,(ht.mono (by simp)).same h.turn,fun k hk=>(h.foot k hk).imp_right (Nat.le_trans ht.size)⟩
theorem One.Ue(h:One w w' base d F room L sb mo eU bytes name c A' lb F' ev lv gv m):sb∉aS F' lb gv [m]:=dB h.log h.box (by decide) (by decide) (by decide) (by decide) (by decide) (by decide) (by decide)
theorem One.up(h:One w w' base d F room L sb mo eU bytes name c A' lb F' ev lv gv m):One w (w'.setCell ⟨sb,5,none⟩ (.bool false)) base d F room L sb mo eU bytes name c A' lb F' ev lv gv m:=by
 have hx:=heap_set h.box 5 (.bool false);have ht:Turn [sb] w' (w'.setCell ⟨sb,5,none⟩ (.bool false)):=(Turn.refl _ _).setCell (.inl (by simp)) _;refine⟨by rw[hx];rfl,h.row.kept ht (fun q hq hm=>?_),h.tq.kept ht (fun q hq hm=>?_),h.log.kept ht (fun q hq hm=>by obtain rfl:=List.mem_singleton.1 hm;exact h.Ue hq),h.abs,h.disk,h.turn.trans (ht.mono (T:=sb::F) (fun k hk=> .inl (by simp at hk;simp[hk]))) (fun k hk=> .inl hk),h.foot⟩
 ·obtain rfl:=List.mem_singleton.1 hm
  obtain⟨cs',e'⟩:=h.row.kind _ hq;exact Lg.ai e' h.box (by decide) rfl
 ·obtain rfl:=List.mem_singleton.1 hm
  obtain⟨cs',e'⟩:=h.tq.kind _ hq;exact Lg.ai e' h.box (by decide) rfl
end
set_option maxHeartbeats 4000000 in
theorem QW(w:World)(base d:Nat)(F:List Nat)(A:DA)(hd:ay w base d F A)(sb mo:Nat)(eU bytes:Int)(hb:w.heap[sb]? =some (.cells (iH d mo eU bytes (.slice none 0 0) false) 103 (0,0))) (c:Bool)
 (hok:Dk.nameB (Sn.nameB (dN ⟨#[97]⟩ 0) 0)=true) (hm1:100≤mo) (hm2:mo≤1048576)
 (room:Nat) (L:FL) (hfp:FP A room L) (hL:(Sn.nameB (dN ⟨#[97]⟩ 0) 0).data.toList∉L.map (·.1)) (yO:L.length<100) (hnm:Dk.gu A (dN ⟨#[97]⟩ 0++⟨#[47]⟩:ByteArray).data.toList=[]) (hLb:fM∉((Sn.nameB (dN ⟨#[97]⟩ 0) 0).data.toList,([]:List UInt8)).1::L.map (·.1)) (hro:fD L+(nY ⟨#[97]⟩ c).size≤room) (hv:∀Z,Turn F w Z→Sn.dA Z):
 Calls Tryz.prog 94 #[.pointer (some ⟨sb,0,none⟩), .agg #[.string ⟨#[97]⟩, .int .i64 1, .bool c]] w fun e w'=>e= .returned .nilIface∧∃A' lb F' ev lv gv m,One w w' base d F room L sb mo eU bytes ⟨#[97]⟩ c A' lb F' ev lv gv m:=by
 have hsb:=lt_of_heap hb;have YO:=fun Z (hZ:Turn [] w Z)=>Oo Z base d F A (hd.kept hZ (by simp)) sb mo eU bytes (hZ.heap hb (by simp)) ⟨#[97]⟩ (by decide) c hok hm1 hm2 room L hfp hL yO hnm hLb hro (fun Y hY=>hv Y ((hZ.mono (by simp)).same hY))
 have hrf:=fun Z (hZ:Turn [] w Z)=>QV Z sb (by rw[cell_of (hZ.heap hb (by simp))];rfl) (Nat.lt_of_lt_of_le hsb hZ.size) c
 have HBEG:=hide YO;have HRF:=hide hrf;clear YO hrf hd hfp hL yO hnm hLb hro hv hb hok;go_enter Tryz.func94,Tryz.ntmps94
 go_wp2_with fail
 have ht0:Turn [] w (w.alloc (.cells #[.string ⟨#[97]⟩, .int .i64 1, .bool c] 105)):=(Turn.refl [] w).alloc _;have hx0:=ae w (.cells #[.string ⟨#[97]⟩, .int .i64 1, .bool c] 105);refine(HRF.out _ ht0).mono ?_;rintro e w1 ⟨rfl,ht1⟩;have hx1:=ht1.heap hx0 (by simp);have q0:=cell_of hx1 0;have q1:=cell_of hx1 1;have q2:=cell_of hx1 2;simp at q0 q1 q2;have zk:=lt_of_heap hx1;have HT1:=hide (ht0.same ht1);clear hx1 hx0 ht0 ht1;go_wp2_with fail
 refine(HBEG.out _ HT1.out).mono ?_;rintro e w2 ⟨rfl,A',lb,F',ev,lv,gv,m,hone⟩;have FO:=hide (hone.first HT1.out);clear hone q0 q1 q2 zk;go_wp2
 go_ret
 exact⟨rfl,A',lb,F',ev,lv,gv,m,FO.out⟩
set_option maxHeartbeats 4000000 in
theorem QX(w:World)(base d:Nat)(F:List Nat)(A:DA)(hd:ay w base d F A)(sb mo:Nat)(eU bytes:Int)(hb:w.heap[sb]? =some (.cells (iH d mo eU bytes (.slice none 0 0) false) 103 (0,0))) (c:Bool)
 (hok:Dk.nameB (Sn.nameB (dN ⟨#[97]⟩ 0) 0)=true) (hm1:100≤mo) (hm2:mo≤1048576)
 (room:Nat) (L:FL) (hfp:FP A room L) (hL:(Sn.nameB (dN ⟨#[97]⟩ 0) 0).data.toList∉L.map (·.1)) (yO:L.length<100) (hnm:Dk.gu A (dN ⟨#[97]⟩ 0++⟨#[47]⟩:ByteArray).data.toList=[]) (hLb:fM∉((Sn.nameB (dN ⟨#[97]⟩ 0) 0).data.toList,([]:List UInt8)).1::L.map (·.1)) (hro:fD L+(nY ⟨#[97]⟩ c).size≤room) (hv:∀Z,Turn F w Z→Sn.dA Z):
 Calls Tryz.prog 58 #[.pointer (some ⟨sb,0,none⟩), .agg #[.string ⟨#[97]⟩, .int .i64 1, .bool c]] w fun e w'=>e= .returned .nilIface∧∃A' lb F' ev lv gv m,One w w' base d F room L sb mo eU bytes ⟨#[97]⟩ c A' lb F' ev lv gv m:=by
 have hsb:=lt_of_heap hb;have hcr:=fun Z (hZ:Turn [] w Z)=>QW Z base d F A (hd.kept hZ (by simp)) sb mo eU bytes (hZ.heap hb (by simp)) c hok hm1 hm2 room L hfp hL yO hnm hLb hro (fun Y hY=>hv Y ((hZ.mono (by simp)).same hY))
 have ZM:=hide hcr;have HB:=hide hb;clear hcr hd hfp hL yO hnm hLb hro hv hb hok;have WS:∀Z,Turn [] w Z→Z.heap[w.heap.size]? =some (.cells #[.pointer (some ⟨sb,0,none⟩)] 28 (0,0))→Z.heap[w.heap.size+1]? =some (.cells #[.string ⟨#[97]⟩, .int .i64 1, .bool c] 105 (0,0))→
  Calls Tryz.prog 93 #[.pointer (some ⟨w.heap.size,0,none⟩), .pointer (some ⟨w.heap.size+1,0,none⟩)] Z fun e w'=>e= .returned .nilIface∧∃A' lb F' ev lv gv m,One w w' base d F room L sb mo eU bytes ⟨#[97]⟩ c A' lb F' ev lv gv m:=by
  intro Z hZ h1 h2;have p0:Z.cell? ⟨w.heap.size,0,none⟩=some (.pointer (some ⟨sb,0,none⟩)):=by rw[cell_of h1];rfl
  have q0:=cell_of h2 0;have q1:=cell_of h2 1;have q2:=cell_of h2 2;simp at q0 q1 q2;have z1:=lt_of_heap h1;have z2:=lt_of_heap h2;have HZ:=hide hZ;clear h1 h2 hZ;go_enter Tryz.func93,Tryz.ntmps93
  go_wp2_with fail
  refine(ZM.out _ HZ.out).mono ?_;rintro e w2 ⟨rfl,A',lb,F',ev,lv,gv,m,hone⟩;have FO:=hide (hone.first HZ.out);clear hone q0 q1 q2 p0 z1 z2;go_wp2
  go_ret
  exact⟨rfl,A',lb,F',ev,lv,gv,m,FO.out⟩
 have YP:∀Z,Turn [] w Z→Z.heap[w.heap.size]? =some (.cells #[.pointer (some ⟨sb,0,none⟩)] 28 (0,0))→Z.heap[w.heap.size+1]? =some (.cells #[.string ⟨#[97]⟩, .int .i64 1, .bool c] 105 (0,0))→
  Calls Tryz.prog 92 #[.pointer (some ⟨sb,0,none⟩), .func (.func 93) #[] #[.pointer (some ⟨w.heap.size,0,none⟩), .pointer (some ⟨w.heap.size+1,0,none⟩)]] Z fun e w'=>e= .returned .nilIface∧∃A' lb F' ev lv gv m,One w w' base d F room L sb mo eU bytes ⟨#[97]⟩ c A' lb F' ev lv gv m:=by
  intro Z hZ h1 h2;have hbz:=hZ.heap HB.out (by simp);have b5:Z.cell? ⟨sb,5,none⟩=some (.bool false):=by rw[cell_of hbz];rfl
  have zb:=lt_of_heap hbz;have HC:=hide (WS Z hZ h1 h2);clear h1 h2 hZ hbz WS;go_enter Tryz.func92,Tryz.ntmps92
  go_wp2_with fail
  refine HC.out.mono ?_;rintro e w2 ⟨rfl,A',lb,F',ev,lv,gv,m,hone⟩;have b5:w2.cell? ⟨sb,5,none⟩=some (.bool false):=by rw[cell_of hone.box];rfl
  have f5:=af hone.box 5;have zb:=lt_of_heap hone.box;have FO:=hide hone.up;clear hone;go_wp2_with (go_at_call 36;refine(As.Qz _).mono ?_;rintro e w3 ⟨rfl,rfl⟩)
  go_ret
  exact⟨rfl,A',lb,F',ev,lv,gv,m,FO.out⟩
 have HUNL:=hide YP;clear YP WS ZM HB;go_enter Tryz.func58,Tryz.ntmps58
 have ht1:Turn [] w (w.alloc (.cells #[.pointer (some ⟨sb,0,none⟩)] 28)):=(Turn.refl [] w).alloc _;have hx0:=((Turn.refl [] _).alloc (.cells #[.string ⟨#[97]⟩, .int .i64 1, .bool c] 105)).heap (ae w (.cells #[.pointer (some ⟨sb,0,none⟩)] 28)) (by simp);have hx1:=ae (w.alloc (.cells #[.pointer (some ⟨sb,0,none⟩)] 28)) (.cells #[.string ⟨#[97]⟩, .int .i64 1, .bool c] 105);rw[World.size_alloc]at hx1;have HU:=hide (HUNL.out _ (ht1.alloc (.cells #[.string ⟨#[97]⟩, .int .i64 1, .bool c] 105)) hx0 hx1);clear hx0 hx1 ht1;go_wp2_with fail
 refine HU.out.mono ?_;rintro e w2 ⟨rfl,A',lb,F',ev,lv,gv,m,hone⟩;have FO:=hide hone;clear hone;go_wp2
 go_ret
 exact⟨rfl,A',lb,F',ev,lv,gv,m,FO.out⟩
end Tp
end
section
open Go.RowKit Go.Maps
set_option maxRecDepth 100000
attribute [local go_sem] Oper.semAt_some
namespace Tp
set_option maxHeartbeats 2000000 in
theorem Ou(w:World)(q:Nat)(name:ByteArray)(hq:w.cell? ⟨q,0,none⟩=some (.string name))(Uf:q<w.heap.size)(parts:Int)(c:Bool)(lv:Value):
 Calls Tryz.prog 180 #[.agg #[.string name, .int .i64 parts, .bool c,lv], .pointer (some ⟨q,0,none⟩)] w fun e w'=>e= .returned (.bool true)∧Turn [] w w':=by
 have hq1:(w.alloc (.cells #[.string name, .int .i64 parts, .bool c,lv] 110)).cell? ⟨q,0,none⟩=some (.string name):=(World.cell?_of_block (w:=w) (((Turn.refl [] w).alloc _).block _ Uf (by simp))).trans hq;go_enter Tryz.func180,Tryz.ntmps180
 go_wp2
 go_ret
 exact⟨rfl,(Turn.refl _ _).alloc _⟩
set_option maxHeartbeats 2000000 in
theorem index_one(w:World)(base q:Nat)(ev:Value)(x:En)(la:Option Addr)(ll lc:Nat)(hlv:x.lv= .slice la ll lc)(hrow:aH 110 4 Ew w base ev [x])(hq:w.cell? ⟨q,0,none⟩=some (.string x.name))(Uf:q<w.heap.size):
 Calls Tryz.prog 179 #[ev, .func (.func 180) #[] #[.pointer (some ⟨q,0,none⟩)]] w fun e w'=>e= .returned (.int .i64 0)∧Turn [] w w':=by
 obtain⟨g,cap,rfl,hc, -⟩:=hrow.at jm (j:=0) (by simp);rw[List.length_singleton];have g0:w.cell? ⟨g,0,none⟩=some (.string x.name):=hc 0 (by omega);have g1:w.cell? ⟨g,1,none⟩=some (.int .i64 x.parts):=hc 1 (by omega);have g2:w.cell? ⟨g,2,none⟩=some (.bool x.compact):=hc 2 (by omega);have g3:w.cell? ⟨g,3,none⟩=some x.lv:=hc 3 (by omega);rw[hlv]at g3;have HS:=hide (Ou w q x.name hq Uf x.parts x.compact (.slice la ll lc));clear hc hrow hq hlv;go_enter Tryz.func179,Tryz.ntmps179
 go_wp2_with fail
 refine wp_loop_rounds 1 ?_;rw[rounds_succ];go_wp2_with fail
 refine HS.out.mono ?_;rintro e w1 ⟨rfl,ht1⟩;have HT:=hide ht1;clear ht1 g0 g1 g2 g3;go_wp2
 go_ret
 exact⟨rfl,HT.out⟩
set_option maxHeartbeats 2000000 in
theorem QY(w:World)(base sb:Nat)(ev:Value)(x:En)(la:Option Addr)(ll lc:Nat)(hlv:x.lv= .slice la ll lc)(hrow:aH 110 4 Ew w base ev [x])(hb:w.cell? ⟨sb,4,none⟩=some ev)(hsb:sb<w.heap.size):
 Calls Tryz.prog 139 #[.pointer (some ⟨sb,0,none⟩), .string x.name] w fun e w'=>e= .returned (.int .i64 0)∧Turn [] w w':=by
 have ht:Turn [] w (w.alloc (.cells #[.string x.name] 9)):=(Turn.refl [] w).alloc _;have hc:(w.alloc (.cells #[.string x.name] 9)).cell? ⟨sb,4,none⟩=some ev:=(World.cell?_of_block (w:=w) (ht.block _ hsb (by simp))).trans hb;have hz:sb<(w.alloc (.cells #[.string x.name] 9)).heap.size:=by rw[World.size_alloc];omega
 have hix:=index_one (w.alloc (.cells #[.string x.name] 9)) base w.heap.size ev x la ll lc hlv (hrow.still ht) (by rw[cell_of (ae w _)];rfl) (by rw[World.size_alloc];omega);have HIX:=hide hix;have HT:=hide ht;obtain⟨ea,ec,hev, -, -⟩:=hrow.form;subst hev;clear hix hrow hb ht;go_enter Tryz.func139,Tryz.ntmps139
 go_wp2_with fail
 refine HIX.out.mono ?_;rintro e w' ⟨rfl,ht2⟩;have HT2:=hide (HT.out.same ht2);clear ht2;go_wp2
 go_ret
 exact⟨rfl,HT2.out⟩
set_option maxHeartbeats 2000000 in
theorem Ug(w:World)(base d sb mo lb:Nat)(eU bytes:Int)(ev lv:Value)(name:ByteArray)(c:Bool)(starts:List Nat)(hb:w.heap[sb]? =some (.cells (iH d mo eU bytes ev false) 103 (0,0))) (hrow:aH 110 4 Ew w base ev [⟨name,1,c,lv,[lb],starts⟩]) (hlr:LR w base lv [lb]):
 Calls Tryz.prog 97 #[.pointer (some ⟨sb,0,none⟩), .string name, .int .i64 0] w fun e w'=>e= .returned (.tuple #[.pointer (some ⟨lb,0,none⟩), .nilIface])∧Turn [] w w':=by
 have hsb:=lt_of_heap hb;have b5:w.cell? ⟨sb,5,none⟩=some (.bool false):=by rw[cell_of hb];rfl
 have b4:w.cell? ⟨sb,4,none⟩=some ev:=by rw[cell_of hb];rfl
 obtain⟨lg,WT,hlv,hlc, -⟩:=hlr.at mQ (j:=0) (by simp);rw[List.length_singleton]at hlv;have hfi:=QY w base sb ev ⟨name,1,c,lv,[lb],starts⟩ (some ⟨lg,0,none⟩) 1 WT hlv hrow b4 hsb;simp only at hfi;obtain⟨g,cap,hev,hc, -⟩:=hrow.at jm (j:=0) (by simp);rw[List.length_singleton]at hev;have g0:w.cell? ⟨g,0,none⟩=some (.string name):=hc 0 (by omega);have g1:w.cell? ⟨g,1,none⟩=some (.int .i64 1):=hc 1 (by omega);have g2:w.cell? ⟨g,2,none⟩=some (.bool c):=hc 2 (by omega);have g3:w.cell? ⟨g,3,none⟩=some lv:=hc 3 (by omega);have l0:w.cell? ⟨lg,0,none⟩=some (.pointer (some ⟨lb,0,none⟩)):=hlc 0 (by omega);subst hev;subst hlv;have kp:∀Z,Turn [] w Z→Z.cell? ⟨sb,4,none⟩=some (.slice (some ⟨g,0,none⟩) 1 cap)∧Z.cell? ⟨g,0,none⟩=some (.string name)∧Z.cell? ⟨g,1,none⟩=some (.int .i64 1)∧Z.cell? ⟨g,2,none⟩=some (.bool c)∧Z.cell? ⟨g,3,none⟩=some (.slice (some ⟨lg,0,none⟩) 1 WT)∧Z.cell? ⟨lg,0,none⟩=some (.pointer (some ⟨lb,0,none⟩))∧sb<Z.heap.size:=fun Z hZ=>by
  have kk:∀(a:Addr) (u:Value),w.cell? a=some u→Z.cell? a=some u:=fun a u h=>(World.cell?_of_block (w:=w) (hZ.block _ (World.block_lt_of_cell? _ _ h) (by simp))).trans h
  exact⟨kk _ _ b4,kk _ _ g0,kk _ _ g1,kk _ _ g2,kk _ _ g3,kk _ _ l0,Nat.lt_of_lt_of_le hsb hZ.size⟩
 have KP:=hide kp;have Yi:=hide hfi;clear kp hfi hrow hlr hb hc hlc g0 g1 g2 g3 l0 b4;go_enter Tryz.func97,Tryz.ntmps97
 go_wp2_with fail
 refine Yi.out.mono ?_;rintro e w1 ⟨rfl,ht1⟩;have HT1:=hide ht1;obtain⟨k0,k1,k2,k3,k4,k5,k6⟩:=KP.out w1 ht1;have k7:=(KP.out _ (ht1.alloc (.cells #[.string name, .int .i64 1, .bool c, .slice (some ⟨lg,0,none⟩) 1 WT] 110))).2.2.2.2.2.1;clear ht1 b5;go_wp2
 refine bodyPost_ret (results_tmp2 rfl _ _ _) rfl ?_;exact⟨rfl,HT1.out.alloc _⟩
end Tp
end
section
open Go.RowKit Go.Maps
set_option maxRecDepth 100000
attribute [local go_sem] Oper.semAt_some
open Dk (DA ay Parts fE aW dI)
open Sg (BO BV rM mf Chain flat kL Both Least aQ JZ lU aA)
namespace Lg
set_option maxHeartbeats 8000000 in
theorem Ov(w:World)(base d:Nat)(F:List Nat)(A:DA)(sb:Nat)(sv:Value)(file:ByteArray)(b0:Int)(xs:List Bt.aX)(h:Both w base d F A sb sv file b0 (kL 0 (-1) xs))(hfs:file.size≤maxLen)(f:Dk.FA)(hf:A.file file.data.toList=some f)(hfb:f.bytes=flat xs)(hch:Chain b0 xs)
 (fr most:Int)(hmo: -9223372036854775808≤most∧most≤9223372036854775807)(hT:(xs.flatMap (·.recs)).length≤900000)(hxl:xs.length≤1000000):
 Calls Tryz.prog 146 #[.pointer (some ⟨sb,0,none⟩), .int .i64 fr, .int .i64 most] w fun e w'=>∃ov q,e= .returned (.tuple #[ov, .nilIface])∧q≤xs.length∧aH 47 6 recC w' w.heap.size ov (aV fr (xs.take q))∧(aV fr (xs.take q)=[]→aV fr xs=[])∧(q=xs.length∨∃m k fr',q=m+k∧0<k∧fr≤fr'∧Least xs.length (aQ xs fr') m∧JZ most (xs.drop m) k∧aV fr (xs.take m)=[])∧Turn [] w w':=by
 have H:=hide h;have HF:=hide hf;have Ym:=hide hfb;have J3:=hide hch;have HT:=hide hT;clear h hf hfb hch hT;go_enter Tryz.func146,Tryz.ntmps146
 go_wp2
 go_loopw [1] (fun fv wr=>∃(fr':Int) (a:Nat),fv= .int .i64 fr'∧RInv fr fr' xs a∧Turn [] w wr) (fun fv _=>(1099511627777-intOf fv).toNat)
 case atStart=>exact⟨fr,0,rfl,RInv.first fr xs,Turn.refl _ _⟩
 case round=>
  obtain⟨fr',a,rfl,hinv,htw⟩:=hrel;have Fq:=hide hinv;have dJ:=hide htw;clear hinv htw;go_wp2_with fail
  refine(Sg.BQ wr base d F A sb sv file b0 xs (H.out.still dJ.out) hfs f HF.out Ym.out J3.out fr' most hmo).mono ?_;rintro e w1 ⟨lv,ys,m,k,rfl,hle,hrow,hys,hsel,ht1⟩;have hk1:=hsel.1;rw[List.length_drop]at hk1;have hkl:ys.length=k:=by rw[←List.length_map (f:=fun y:BV=>y.x),hys,List.length_take,List.length_drop];omega
  obtain⟨la,lc,hlv,Qm,Qn⟩:=hrow.row.form;rw[hkl]at hlv Qm;subst hlv;have hml:=hle.1;have hmx:maxLen=9223372036854775807:=by simp[maxLen]
  rw[hmx]at Qn;have hgr:=Fq.out.group (k:=k) J3.out hle;have MI:=hide hle;have Oh:=hide hsel;have bQ:=hide hrow;have SG:=hide hys;have J5:=hide hkl;have HT1:=hide (dJ.out.same ht1);have SH:=hide hgr;clear hle hsel hrow hys hkl ht1 hgr;by_cases hk0:k=0
  ·have hov:=Fq.out.over J3.out MI.out Oh.out hk0
   have Qp:=hide hov;clear hov;subst hk0;go_wp2
   go_ret2
   refine⟨_,xs.length,rfl,Nat.le_refl _, .inl ⟨rfl,by rw[List.take_length];exact Qp.out⟩,fun _=>Qp.out, .inl rfl,HT1.out⟩
  ·obtain⟨k',rfl⟩:=Nat.exists_eq_succ_of_ne_zero hk0
   have hkb:(((k'+1:Nat):Int)==0)=false:=by rw[beq_eq_false_iff_ne];omega
   go_wp2_with fail
   refine(Es w1 _ _ ys bQ.out fr' (by rw[J5.out];omega) (by rw[SG.out];exact Nat.le_trans (uC xs m (k'+1)) HT.out)).mono ?_;rintro e w2 ⟨ov,rfl,hov,ht2⟩;rw[SG.out,SH.out]at hov;obtain⟨R,hR⟩:∃R,R=aV fr (xs.take (m+(k'+1))):=⟨_,rfl⟩;rw[←hR]at hov;obtain⟨oa,oc,hoe,hol,hom⟩:=hov.form;subst hoe;have HR:=hide hR;have Qp:=hide hov;have HT12:=hide ht2;have HT2:=hide (HT1.out.same ht2);have HW1:=hide HT1.out.size;have hRl:R.length≤900000:=by
    rw[hR];refine Nat.le_trans (qX fr _) (Nat.le_trans ?_ HT.out);have:=uC xs 0 (m+(k'+1));rwa [List.drop_zero]at this
   clear hR hov ht2;by_cases hR0:0<(R.length:Int)
   ·go_wp2
    go_ret2
    refine⟨_,m+(k'+1),rfl,by omega,by rw[←HR.out];exact Qp.out.aZ HW1.out,fun h=>?_, .inr ⟨m,k'+1,fr',rfl,by omega,Fq.out.ge,MI.out,Oh.out,Fq.out.upto J3.out MI.out⟩,HT2.out⟩;rw[←HR.out]at h;rw[h]at hR0;exact absurd hR0 (by simp)
   ·have SI:R=[]:=List.eq_nil_of_length_eq_zero (by omega)
    have hlt:m+k'<xs.length:=by omega
    obtain⟨hn1,hn2,hn3⟩:=Fq.out.next (k:=k'+1) J3.out MI.out Oh.out (by omega) (by rw[←HR.out];exact SI) hlt;obtain⟨g,cap,e,hc, -⟩:=bQ.out.row.at mf (j:=k') (by rw[J5.out];omega);rw[J5.out]at e;simp only[Value.slice.injEq,true_and]at e;obtain⟨rfl,rfl⟩:=e;have hyx:(ys[k']'(by rw[J5.out];omega)).x=xs[m+k']:=by
     have h1:(ys.map (fun y:BV=>y.x))[k']? =some (ys[k']'(by rw[J5.out];omega)).x:=by rw[List.getElem?_map,List.getElem?_eq_getElem (by rw[J5.out];omega)];rfl
     rw[SG.out,List.getElem?_take_of_lt (by omega),List.getElem?_drop,List.getElem?_eq_getElem hlt]at h1;exact(Option.some.inj h1).symm
    have c1:w2.cell? ⟨g,k'*3+1,none⟩=some (.int .i64 (xs[m+k']).fin):=by
     have h1:=hc 1 (by omega);have h2:(rM (ys[k']'(by rw[J5.out];omega)))[1]? =some (.int .i64 (xs[m+k']).fin):=by simp[rM,hyx]
     rw[h2]at h1;have ht12:=HT12.out;rw[World.cell?_of_block (w:=w1) (ht12.block _ (World.block_lt_of_cell? _ _ h1) (by simp)),h1]
    have hi1:(k':Int)<(k':Int)+1:=by omega
    have hfin:=(Bt.l7 (Bt.eY (Chain.mem J3.out _ (List.getElem_mem hlt))).1).2.1;obtain⟨fx,hfx⟩:∃fx,fx=(xs[m+k']).fin:=⟨_,rfl⟩;have hn1':RInv fr fx xs (m+(k'+1)):=by rw[hfx];exact hn1
    have hn2':fr'<fx:=by rw[hfx];exact hn2
    rw[←hfx]at c1 hfin;have HN1:=hide hn1';have HRN:=hide SI;clear hn1 hn1' hn2 hfx hyx hc SI;go_wp2
    all_goals refine⟨⟨fx,m+(k'+1),rfl,HN1.out,HT2.out⟩,?_⟩
    all_goals (simp only[intOf];omega)
set_option maxHeartbeats 4000000 in
theorem QZ(w:World)(base d:Nat)(F:List Nat)(A:DA)(lb:Nat)(gv:Value)(dir:ByteArray)(v:LV)(m:SM)(h:aI w base d F A lb gv dir v ([]++[m]))(mr:dir.size≤1000)(hok:Yt A dir (([]++[m]).map SM.abs))(fr most:Int)(hmo: -9223372036854775808≤most∧most≤9223372036854775807)(h1:v.start≤fr)(h2:fr≤aA m.n m.xs):
 Calls Tryz.prog 100 #[.pointer (some ⟨lb,0,none⟩), .int .i64 fr, .int .i64 most] w fun e w'=>∃ov q,e= .returned (.tuple #[ov, .nilIface])∧aH 47 6 recC w' w.heap.size ov (aV fr (m.xs.take q))∧(q=m.xs.length∨∃m0 k fr',q=m0+k∧0<k∧fr≤fr'∧Least m.xs.length (aQ m.xs fr') m0∧JZ most (m.xs.drop m0) k∧aV fr (m.xs.take m0)=[])∧Turn [] w w':=by
 obtain⟨ms,hms⟩:∃ms,ms=[]++[m]:=⟨_,rfl⟩;have hml:ms.length=1:=by rw[hms];rfl
 have hmg:∀k (hk:k<ms.length),ms[k]=m:=fun k hk=>by
  have:k=0:=by omega
  subst this;simp[hms]
 have X9:=hide hml;have HMG:=hide hmg;have Vh:=hok.many;have hxm:=sZ h.disk hok (p:=m.abs) (by simp);have hfl:=Sg.gU m.xs;have hfl2:(flat m.xs).length≤1048576:=hxm;rw[List.length_map]at Vh;have hend:=qY w base d F A lb gv dir v [] m h (by simp) (by omega);rw[←hms]at h hok Vh;obtain⟨nx,hnx⟩:∃nx,nx=aA m.n m.xs:=⟨_,rfl⟩;rw[←hnx]at hend h2;obtain⟨ga,gc,hgv,hglc,Yu⟩:=h.row.form;subst hgv;have H:=hide h;have IC:=hide hok;have NR:=hide hend;have c4:=h.c4;have hlb:=lt_of_heap h.box;have hmx:maxLen=9223372036854775807:=by simp[maxLen]
 rw[hmx]at Yu;clear h hok hend hms hnx hxm hfl hfl2 hml hmg;go_enter Tryz.func100,Tryz.ntmps100
 go_wp2_with fail
 refine NR.out.mono ?_;rintro e w1 ⟨rfl,ht1⟩;have HT1:=hide ht1;have hl1:=H.out.still ht1;have c3:=hl1.c3;have hlb1:=lt_of_heap hl1.box;clear ht1 hl1 NR c4 hlb;go_wp2
 go_loopw [30] (fun kv wr=>∃k:Nat,k≤ms.length∧kv= .int .i64 k∧(0<k→aV fr m.xs=[])∧Turn [] w wr) (fun kv _=>ms.length-(intOf kv).toNat)
 case atStart=>exact⟨0,Nat.zero_le _,rfl,fun h=>absurd h (Nat.lt_irrefl _),HT1.out⟩
 case round=>
  obtain⟨k,hk,rfl,hno,htw⟩:=hrel;have ZI:=hide hno;have dJ:=hide htw;clear hno htw;by_cases hlt:k<ms.length
  ·obtain⟨g,cap,e,hc, -⟩:=(H.out.still dJ.out).row.at uD (j:=k) hlt
   simp only[Value.slice.injEq,true_and]at e;obtain⟨rfl,rfl⟩:=e;have hmm:=HMG.out k hlt;obtain⟨mk,hmk⟩:∃mk,mk=ms[k]:=⟨_,rfl⟩;have hmem:mk∈ms:=by rw[hmk];exact List.getElem_mem _
   have hsk:(ms.map SM.abs)[k]'(by rw[List.length_map];exact hlt)=mk.abs:=by rw[List.getElem_map,←hmk]
   rw[←hmk]at hc;have c0:wr.cell? ⟨g,k,none⟩=some (.pointer (some ⟨mk.sb,0,none⟩)):=by simpa[SK]using hc 0 (by omega)
   have IE:mk.abs∈ms.map SM.abs:=List.mem_map_of_mem hmem;obtain⟨f,hf,hfb⟩:=IC.out.file _ IE;have hch:=IC.out.chain _ IE;have hfs:=sZ H.out.disk IC.out IE;have hfl:=Sg.gU mk.xs;have hrf:=Ij mk.xs;have hrd:=Ov wr base d F A mk.sb mk.sv (Sn.nameB dir mk.n) mk.n mk.xs ((H.out.still dJ.out).both hmem) (Sg.lT (IC.out.base _ IE) mr) f hf hfb hch fr most hmo (by have:(flat mk.xs).length≤1048576:=hfs;omega) (by have:(flat mk.xs).length≤1048576:=hfs;omega);have LJ:=hide hrd;have HSK:=hide hsk;have XI:Hid (mk=m):=by show mk=m;rw[hmk];exact hmm
   clear hmm hc hmk hmem IE hf hfb hch hfs hfl hrf hrd hsk;go_wp2_with fail
   refine LJ.out.mono ?_;rintro e w2 ⟨ov,q,rfl,hq,hov,hemp,hmore,ht2⟩;have YQ:=hide hmore;obtain⟨R,hR⟩:∃R,R=aV fr (mk.xs.take q):=⟨_,rfl⟩;rw[←hR]at hov hemp;obtain⟨oa,oc,hoe, -, -⟩:=hov.form;subst hoe;have HR:=hide hR;have Qp:=hide hov;have HEM:=hide hemp;have HT2:=hide (dJ.out.same ht2);have hws:=dJ.out.size;clear hR hov hemp hmore ht2 LJ;by_cases hR0:0<(R.length:Int)
   ·go_wp2
    go_ret2
    have hmm:=XI.out;subst hmm;exact⟨_,q,rfl,by rw[←HR.out];exact Qp.out.aZ hws,YQ.out,HT2.out⟩
   ·have SI:R=[]:=List.eq_nil_of_length_eq_zero (by omega)
    have hn2:=HEM.out SI;have HN2:Hid (0<k+1→aV fr m.xs=[]):=fun _=>by rw[←XI.out];exact hn2
    clear hn2 SI;go_wp2
    all_goals refine⟨⟨k+1,by omega,by go_num,HN2.out,HT2.out⟩,?_⟩
    all_goals (simp only[intOf];omega)
  ·obtain rfl:k=ms.length:=by omega
   have hall:=ZI.out (by rw[X9.out];omega);have Fb:=hide hall;clear hall;go_wp2
   go_ret2
   exact⟨_,m.xs.length,rfl, .inl ⟨rfl,by rw[List.take_length];exact Fb.out⟩, .inl rfl,dJ.out⟩
end Lg
end
section
open Go.RowKit Go.Maps
set_option maxRecDepth 100000
attribute [local go_sem] Oper.semAt_some
open Dk (DA ay Parts fE aW dI)
open Sg (bu bJ kL Both Came aA flat Chain qy BV Least JZ aQ)
namespace Lg
def FlushS(A:DA)(dir:ByteArray)(v:LV)(m:Nat×List Bt.aX):Int×DA×LV:=
 ((A.sync (Sn.nameB dir m.1).data.toList).1,(A.sync (Sn.nameB dir m.1).data.toList).2,lJ (A.sync (Sn.nameB dir m.1).data.toList).1 (mi (A.sync (Sn.nameB dir m.1).data.toList).1 v (aA m.1 m.2)))
end Lg
end
section
open Go.RowKit Go.Maps
set_option maxRecDepth 100000
attribute [local go_sem] Oper.semAt_some
open Dk (DA ay Parts fE aW dI)
namespace Lg
def IG(w:World)(mb n:Nat)(f:List UInt8→Int):Prop:=
 ∃D:DataW Unit,w.ownsMap Tryz.prog 9 (plainElem Tryz.prog 3) mb n D∧∀nm,D.atKey (.string nm) (.lit (.int .i64 0))= .lit (.int .i64 (f nm))
theorem Q4(w:World):(zeroValue 3).run Tryz.prog w= .ok (.int .i64 0) w:=by kernel_rfl
theorem IG.kept{w w':World}{mb n:Nat}{f:List UInt8→Int}{S:List Nat}(h:IG w mb n f)(ht:Turn S w w')(hn:mb∉S):IG w' mb n f:=by
 obtain⟨D,h1,h2⟩:=h;exact⟨D,Dk.iO h1 ht hn,h2⟩
theorem IG.still{w w':World}{mb n:Nat}{f:List UInt8→Int}(h:IG w mb n f)(ht:Turn [] w w'):IG w' mb n f:=h.kept ht (by simp)
theorem IG.made(w:World):IG (w.alloc (.map #[] 0)) w.heap.size 0 (fun _=>0):=
 ⟨.map [],World.ownsMap_made _ _ _ _,fun nm=>rfl⟩
def goesC(f:List UInt8→Int)(now eU:Int)(r:Bt.Rec):Bool:=r.keyed&&(decide (r.off<f r.key)||(r.gone&&decide (r.time<wrap64 (now-eU))))
end Lg
end
section
open Go.RowKit Go.Maps
set_option maxRecDepth 100000
attribute [local go_sem] Oper.semAt_some
namespace Lg
theorem jc(g:Nat):∀(vs:List Value) (o:Nat) (w:World),Turn [g] w (w.setCells g o vs)
 |[],_,w=>Turn.refl _ w
 |v::r,o,w=>((Turn.refl [g] w).setCell (p:=⟨g,o,none⟩) (.inl (by simp)) v).same (jc g r (o+1) _)
end Lg
end
section
open Go.RowKit Go.Maps
set_option maxRecDepth 100000
attribute [local go_sem] Oper.semAt_some
open Lg
namespace Br
def dE(rs:List Bt.Rec):Nat:=(rs.map fun r=>r.key.length+r.value.length).sum
theorem FQ(rs:List Bt.Rec){k:Nat}(hk:k<rs.length):dE (rs.take (k+1))=dE (rs.take k)+(rs[k].key.length+rs[k].value.length):=by
 unfold dE;rw[List.take_add_one,List.getElem?_eq_getElem hk,List.map_append,List.sum_append];simp
theorem uH(rs:List Bt.Rec)(k:Nat):dE (rs.take k)≤dE rs:=by
 unfold dE;conv=>rhs;rw[←List.take_append_drop k rs,List.map_append,List.sum_append]
 omega
set_option maxHeartbeats 4000000 in
theorem KF(w:World)(base:Nat)(v:Value)(rs:List Bt.Rec)(h:aH 47 6 recC w base v rs)(ok:∀r∈rs,jD r)(hw:dE rs≤9223372036854775807)(hl:rs.length≤1000000):
 Calls Tryz.prog 33 #[v] w fun e w'=>e= .returned (.int .i64 (dE rs))∧Turn [] w w':=by
 have hmx:maxLen=9223372036854775807:=by simp[maxLen]
 obtain⟨a,c,rfl,hlc,hcm⟩:=h.form;rw[hmx]at hcm;have H:=hide h;have IC:=hide ok;clear h ok;go_enter Tryz.func33,Tryz.ntmps33
 go_wp2
 go_loopw [3,8] (fun sv kv wr=>∃k:Nat,k≤rs.length∧kv= .int .i64 k∧sv= .int .i64 (dE (rs.take k))∧Turn [] w wr) (fun _ kv _=>rs.length-(intOf kv).toNat)
 case atStart=>exact⟨0,Nat.zero_le _,rfl,rfl,Turn.refl _ _⟩
 case round=>
  obtain⟨k,hk,rfl,rfl,htw⟩:=hrel;have dJ:=hide htw;clear htw;have hwl:=uH rs k;by_cases hlt:k<rs.length
  ·have hrow:=H.out.still dJ.out
   obtain⟨g,cap,e,hc, -⟩:=hrow.at eF (j:=k) hlt;simp only[Value.slice.injEq,true_and]at e;obtain⟨rfl,rfl⟩:=e;have hrk:=IC.out rs[k] (List.getElem_mem _);have NZ:=hide (FQ rs hlt);obtain⟨r,hr⟩:∃r,r=rs[k]:=⟨_,rfl⟩;rw[←hr]at hc hrk NZ;have hwl1:=uH rs (k+1);rw[NZ.out]at hwl1;have g0:wr.cell? ⟨g,k*6,none⟩=some (.int .i64 r.off):=hc 0 (by omega);have g1:wr.cell? ⟨g,k*6+1,none⟩=some (.int .i64 r.time):=hc 1 (by omega);have g2:wr.cell? ⟨g,k*6+2,none⟩=some (.bool r.keyed):=hc 2 (by omega);have g3:wr.cell? ⟨g,k*6+3,none⟩=some (.string ⟨r.key.toArray⟩):=hc 3 (by omega);have g4:wr.cell? ⟨g,k*6+4,none⟩=some (.bool r.gone):=hc 4 (by omega);have g5:wr.cell? ⟨g,k*6+5,none⟩=some (.string ⟨r.value.toArray⟩):=hc 5 (by omega);have hk1:=hrk.key;have hk2:=hrk.value;have HRK:=hide hrk;clear hrow hc hr hrk;go_wp2
   all_goals refine⟨⟨k+1,by omega,by go_num,?_,?_⟩,?_⟩
   all_goals first|(simp only[intOf];omega)|skip
   ·rw[NZ.out];go_num
   ·exact dJ.out.same ((Turn.refl [] wr).alloc _)
  ·obtain rfl:k=rs.length:=by omega
   rw[List.take_length]at*;go_wp2
   go_ret
   exact⟨rfl,dJ.out⟩
end Br
end
section
open Go.RowKit Go.Maps
open Lg
open Sg (flat JZ Least aQ Chain)
namespace Br
def fU(i:Nat)(v:List UInt8):Bt.Rec:=⟨i,0,false,[],false,v⟩
def pK(i:Nat)(v:List UInt8):Bt.aX:=eG i [fU 0 v]
theorem jZ(i:Nat)(v:List UInt8):pK i v=⟨i,i+1,[fU i v]⟩:=by
 simp[pK,eG,kH,fU]
def aY:Nat→List (List UInt8)→List Bt.aX
 |_,[]=>[]
 |i,v::r=>pK i v::aY (i+1) r
def nZ:Nat→List (List UInt8)→List Bt.Rec
 |_,[]=>[]
 |i,v::r=>fU i v::nZ (i+1) r
def dZ(vs:List (List UInt8)):Nat:=(vs.map List.length).sum
theorem iQ:∀(i:Nat) (vs:List (List UInt8)),(aY i vs).length=vs.length
 |_,[]=>rfl
 |i,v::r=>by simp[aY,iQ (i+1) r]
theorem rq:∀(i:Nat) (vs:List (List UInt8)),(nZ i vs).length=vs.length
 |_,[]=>rfl
 |i,v::r=>by simp[nZ,rq (i+1) r]
theorem CB:∀(i:Nat) (vs:List (List UInt8)) (v:List UInt8),aY i (vs++[v])=aY i vs++[pK (i+vs.length) v]
 |_,[],_=>rfl
 |i,x::r,v=>by
  show pK i x::aY (i+1) (r++[v])=pK i x::(aY (i+1) r++_);rw[CB (i+1) r v,List.length_cons,show i+1+r.length=i+(r.length+1)by omega]
theorem mF:∀(i:Nat) (vs:List (List UInt8)) (k:Nat),(aY i vs).take k=aY i (vs.take k)
 |_,_,0=>by simp[aY]
 |_,[],k+1=>by simp[aY]
 |i,v::r,k+1=>by simp[aY,mF (i+1) r k]
theorem oV:∀(i:Nat) (vs:List (List UInt8)) (k:Nat),(aY i vs).drop k=aY (i+k) (vs.drop k)
 |_,_,0=>by simp
 |_,[],k+1=>by simp[aY]
 |i,v::r,k+1=>by
  show(aY (i+1) r).drop k=aY (i+(k+1)) (r.drop k);rw[oV (i+1) r k,show i+1+k=i+(k+1)by omega]
theorem vO:∀{i:Nat} {vs:List (List UInt8)} {x:Bt.aX},x∈aY i vs→∃j v,x=pK j v∧i≤j∧j<i+vs.length∧v∈vs
 |_,[],x,h=>by simp[aY]at h
 |i,v::r,x,h=>by
  rcases List.mem_cons.1 h with rfl|h
  ·exact⟨i,v,rfl,Nat.le_refl _,by simp,by simp⟩
  ·obtain⟨j,u,e,h1,h2,h3⟩:=vO h
   exact⟨j,u,e,by omega,by simp;omega,by simp[h3]⟩
theorem xJ:∀{f i:Nat} (vs:List (List UInt8)),f≤i→aV (f:Int) (aY i vs)=nZ i vs
 |_,_,[],_=>rfl
 |f,i,v::r,h=>by
  have ih:=xJ (f:=f) (i:=i+1) r (by omega);unfold aV at ih⊢;show dK (f:Int) (pK i v).recs++(aY (i+1) r).flatMap (fun x=>dK (f:Int) x.recs)=fU i v::nZ (i+1) r;rw[ih,jZ];have e:dK (f:Int) [fU i v]=[fU i v]:=nU (fun r hr=>by obtain rfl:=List.mem_singleton.1 hr;show(f:Int)≤(i:Int);omega);simp only;rw[e];rfl
theorem xK{f i:Nat}{vs:List (List UInt8)}(h:i+vs.length≤f):aV (f:Int) (aY i vs)=[]:=
 xA fun x hx=>by
  obtain⟨j,v,rfl,h1,h2,h3⟩:=vO hx;rw[jZ];exact sV (fun r hr=>by obtain rfl:=List.mem_singleton.1 hr;show(j:Int)<(f:Int);omega)
theorem CE{f:Nat}(vals:List (List UInt8))(hf:f≤vals.length)(q:Nat):aV (f:Int) ((aY 0 vals).take q)=nZ f ((vals.drop f).take (q-f)):=by
 rcases Nat.lt_or_ge q f with h|h
 ·rw[mF,xK (by rw[List.length_take];omega),show q-f=0 by omega,List.take_zero]
  rfl
 ·have e:(aY 0 vals).take q=aY 0 (vals.take f)++aY f ((vals.drop f).take (q-f)):=by
   have e1:(aY 0 vals).take q=(aY 0 vals).take f++((aY 0 vals).drop f).take (q-f):=by
    rw[←List.take_add];congr 1;omega
   rw[e1,mF,oV,mF,Nat.zero_add]
  rw[e,nC,xK (by rw[List.length_take];omega),xJ _ (Nat.le_refl _),List.nil_append]
theorem Q5{n:Nat}(h:n<128):(Nu.put n).length=1:=by rw[Nu.jC h];rfl
theorem put2{n:Nat}(h:n≤500):(Nu.put n).length≤2:=by
 by_cases h1:n<128
 ·rw[Q5 h1];omega
 ·rw[Nu.oI (by omega:128≤n),List.length_cons,Q5 (by omega)]
  exact Nat.le_refl _
theorem vP{i:Nat}(hi:i<100){v:List UInt8}(hv:v.length≤500):(Bt.aj (pK i v)).length≤v.length+16:=by
 rw[jZ,Bt.gK];have h1:=Q5 (n:=i) (by omega);have h2:=Q5 (n:=1) (by omega);have h3:=Q5 (n:=0) (by omega);have h4:=put2 hv;simp only[Bt.body,Bt.iw,Bt.ni,fU,List.flatMap_cons,List.flatMap_nil,Bt.mO,Bt.mark,List.length_append,List.length_cons,List.length_nil,Int.toNat_natCast,Int.sub_self,Int.toNat_zero,Bool.false_eq_true,if_false,Nat.add_zero];have e1:((i:Int)+1-i).toNat=1:=by omega
 rw[e1];simp only[h1,h2,h3,Nat.zero_add];omega
theorem EC(v:List UInt8)(r:List (List UInt8)):dZ (v::r)=v.length+dZ r:=by simp[dZ]
theorem mW(a b:List (List UInt8)):dZ (a++b)=dZ a+dZ b:=by simp[dZ]
theorem ED(a:List (List UInt8))(k:Nat):dZ (a.take k)≤dZ a:=by
 conv=>rhs;rw[←List.take_append_drop k a,mW]
 omega
theorem EE:∀{i:Nat} {vs:List (List UInt8)},i+vs.length≤100→(∀v∈vs,v.length≤500)→(flat (aY i vs)).length≤dZ vs+16*vs.length
 |_,[],_,_=>by simp[aY,flat]
 |i,v::r,h,hv=>by
  rw[List.length_cons]at h;have ih:=EE (i:=i+1) (vs:=r) (by omega) (fun x hx=>hv x (by simp[hx]));have h1:=vP (i:=i) (by omega) (hv v (by simp));have e:flat (aY i (v::r))=Bt.aj (pK i v)++flat (aY (i+1) r):=by
   show flat ([pK i v]++aY (i+1) r)=_;rw[Sg.bZ,Sg.kK]
  rw[e,List.length_append,EC,List.length_cons];omega
theorem KG{vs:List (List UInt8)}(hv:∀v∈vs,v.length≤500):dZ vs≤500*vs.length:=by
 induction vs with
 |nil=>simp[dZ]
 |cons v r ih=>
  have h1:=ih (fun x hx=>hv x (by simp[hx]));have h2:=hv v (by simp);rw[EC,List.length_cons];omega
theorem oW:∀(i:Nat) (vs:List (List UInt8)),dE (nZ i vs)=dZ vs
 |_,[]=>rfl
 |i,v::r=>by
  have ih:=oW (i+1) r;unfold dE dZ at ih⊢;simp only[nZ,List.map_cons,List.sum_cons,fU,List.length_nil,Nat.zero_add];rw[ih]
def dU(f:Nat)(vals:List (List UInt8))(R:List Bt.Rec):Prop:=∃k,R=nZ f ((vals.drop f).take k)∧(dZ ((vals.drop f).take k)<600→dZ ((vals.drop f).take k)=dZ (vals.drop f))
theorem fetched{f:Nat}{vals:List (List UInt8)}(hf:f≤vals.length)(hl:vals.length≤60)(hv:∀v∈vals,v.length≤500){most:Int}(hmo:most=3000∨vals.length≤1){q:Nat}
 (h:q=(aY 0 vals).length∨∃m k fr',q=m+k∧0<k∧(f:Int)≤fr'∧Least (aY 0 vals).length (aQ (aY 0 vals) fr') m∧JZ most ((aY 0 vals).drop m) k∧aV (f:Int) ((aY 0 vals).take m)=[]):
 dU f vals (aV (f:Int) ((aY 0 vals).take q)):=by
 rw[CE vals hf q];refine⟨q-f,rfl,fun hs=>?_⟩;rcases h with rfl|⟨m,k,fr',rfl,hk,Gp,hle,hsel,hno⟩
 ·rw[iQ,List.take_of_length_le (by rw[List.length_drop];exact Nat.le_refl _)]
 ·have hsl:=hsel.1
  rw[List.length_drop,iQ]at hsl;have hm:m<(aY 0 vals).length:=by rw[iQ];omega
  have h1:=BU hm (hle.2.2 m (Nat.le_refl _) hm);have hfm:f≤m:=by
   obtain⟨j,v,e,a1,a2,a3⟩:=vO (List.getElem_mem hm);have hj:j=m:=by
    have hg:(aY 0 vals)[m]=pK m (vals[m]'(by rw[iQ]at hm;exact hm)):=by
     have e2:=oV 0 vals m;have hm':m<vals.length:=by rw[iQ]at hm;exact hm
     rw[List.drop_eq_getElem_cons hm,List.drop_eq_getElem_cons hm']at e2;simpa[aY]using(List.cons.inj e2).1
    have:=congrArg Bt.aX.base (hg.symm.trans e);rw[jZ,jZ]at this;simp only at this;omega
   rw[e,jZ]at h1;simp only at h1;omega
  have hmf:m≤f:=by
   rcases Nat.lt_or_ge f m with h|h
   ·exfalso
    rw[CE vals hf m]at hno;have:=congrArg List.length hno;rw[rq,List.length_take,List.length_drop,List.length_nil]at this;rw[iQ]at hm;omega
   ·exact h
  obtain rfl:m=f:=by omega
  rw[show m+k-m=k by omega]at hs⊢;rcases Nat.lt_or_ge k (vals.drop m).length with hlt|hge
  ·exfalso
   have h2:=(hsel.2.2 (by rw[List.length_drop,iQ];rw[List.length_drop]at hlt;exact hlt)).2;rw[oV,mF,Nat.zero_add]at h2;have hmem:∀v∈vals.drop m,v.length≤500:=fun v hv'=>hv v (List.mem_of_mem_drop hv')
   have h3:=EE (i:=m) (vs:=(vals.drop m).take (k+1)) (by rw[List.length_take,List.length_drop];omega) (fun v hv'=>hmem v (List.mem_of_mem_take hv'));rw[List.take_succ_eq_append_getElem hlt,mW,List.length_append,List.length_take,Nat.min_eq_left (by omega)]at h3;have h4:=hmem _ (List.getElem_mem hlt);have h5:dZ [(vals.drop m)[k]]=((vals.drop m)[k]).length:=by simp[dZ]
   rw[List.length_drop]at hlt;rw[h5]at h3;rw[←List.take_succ_eq_append_getElem (by rw[List.length_drop];exact hlt)]at h3;simp only[List.length_singleton]at h3;rcases hmo with rfl|hmo
   ·omega
   ·omega
  ·rw[List.take_of_length_le hge]
end Br
end
section
open Go.RowKit Go.Maps
set_option maxRecDepth 100000
attribute [local go_sem] Oper.semAt_some
open Tp (iH Ew jm OX LR SL mQ dN nY listN One dB)
open Lg
open Sg (flat JZ Least aQ Chain aA)
open Dk (DA ay Parts fE aW dI)
namespace Br
abbrev oZ:ByteArray:=dN ⟨#[97]⟩ 0
def CG:FL:=[(listN,(nY ⟨#[97]⟩ false).data.toList)]
theorem KH:fD CG≤100:=by decide+kernel
theorem EF:oZ.size≤100:=by decide+kernel
theorem Q7:(((Sn.nameB oZ 0).data.toList==listN):Bool)=false:=by decide+kernel
theorem Uh{i:Nat}(hi:i<100){v:List UInt8}(hv:v.length≤500):Bt.aO (pK i v)=0:=by
 have hs:=vP hi hv;rw[jZ,Bt.gK]at hs;have hr:Bt.dW (fU i v) i (i+1)=0:=by
  unfold Bt.dW fU;have a1:¬((i:Int)<i∨(i:Int)+1≤i∨(false=false∧([]:List UInt8)≠[])∨(false=true∧v≠[])):=by
   rintro(h|h|⟨-,h⟩|⟨h, -⟩)
   ·omega
   ·omega
   ·exact h rfl
   ·cases h
  have a2:¬(60<([]:List UInt8).length∨500<v.length):=by simp only[List.length_nil];omega
  have a3:¬((0:Int)<0∨(1099511627776:Int)<0):=by omega
  rw[if_neg a1,if_neg a2,if_neg a3]
 have hc:Bt.chk ⟨i,(i:Int)+1,[fU i v]⟩=0:=by
  unfold Bt.chk;rw[if_neg (by simp only;omega),if_neg (by simp only;omega),if_neg (by simp only[List.length_singleton];omega)];unfold Bt.bK;rw[if_pos hr];rfl
 rw[jZ];unfold Bt.aO;rw[if_pos hc,if_neg (by omega)]
structure SA(w:World)(base d sb mo:Nat)(eU bytes:Int)(F:List Nat)(A:DA)(room lb:Nat)(gv ev lv:Value)(v:LV)(m:SM)(vals:List (List UInt8)):Prop where
 box:w.heap[sb]? =some (.cells (iH d mo eU bytes ev false) 103 (0,0))
 row:aH 110 4 Ew w base ev [OX ⟨#[97]⟩ false lv lb]
 tq:LR w base lv [lb]
 low:base≤sb
 log:aI w base d F A lb gv oZ v [m]
 start:v.start=0
 most:v.most=mo
 mo1:mo≤1048576
 up:v.down=false
 abs:m.abs=(0,aY 0 vals)
 inv:vN A room oZ CG 0 vals.length [] (0,aY 0 vals)
 few:vals.length≤60
 short:∀x∈vals,x.length≤500
 used:fD (dD oZ ([]++[(0,aY 0 vals)])++CG)≤100+516*vals.length
 room1:40000≤room
def Ox(sb:Nat)(ev lv:Value)(F:List Nat)(lb:Nat)(gv:Value)(m:SM):List Nat:=sb::(ev.ownBlock.toList++(lv.ownBlock.toList++aS F lb gv [m]))
theorem jo{sb lb:Nat}{ev lv gv:Value}{F:List Nat}{m:SM}{k:Nat}:k∈Ox sb ev lv F lb gv m↔k=sb∨k∈ev.ownBlock∨k∈lv.ownBlock∨k∈aS F lb gv [m]:=by
 unfold Ox;rw[List.mem_cons,List.mem_append,List.mem_append,Option.mem_toList,Option.mem_toList];exact Iff.rfl
section
variable {w w':World} {base d sb mo:Nat} {eU bytes:Int} {F:List Nat} {A:DA} {room lb:Nat} {gv ev lv:Value} {v:LV} {m:SM} {vals:List (List UInt8)}
theorem SA.kept{S:List Nat}(h:SA w base d sb mo eU bytes F A room lb gv ev lv v m vals)(ht:Turn S w w')(hn:∀k∈Ox sb ev lv F lb gv m,k∉S):SA w' base d sb mo eU bytes F A room lb gv ev lv v m vals:=
 {h with
  box:=ht.heap h.box (hn sb (jo.2 (.inl rfl)))
  row:=h.row.kept ht (fun k hk=>hn k (jo.2 (.inr (.inl hk))))
  tq:=h.tq.kept ht (fun k hk=>hn k (jo.2 (.inr (.inr (.inl hk)))))
  log:=h.log.kept ht (fun k hk=>hn k (jo.2 (.inr (.inr (.inr hk)))))}
theorem SA.lt(h:SA w base d sb mo eU bytes F A room lb gv ev lv v m vals):∀k∈Ox sb ev lv F lb gv m,base≤k∧k<w.heap.size:=by
 intro k hk;rcases jo.1 hk with rfl|hk|hk|hk
 ·exact⟨h.low,lt_of_heap h.box⟩
 ·exact h.row.lt k hk
 ·exact h.tq.lt k hk
 ·exact h.log.lt k hk
theorem SA.type(h:SA w base d sb mo eU bytes F A room lb gv ev lv v m vals){k:Nat}{cs:Array Value}{T:TypeId}{fr:Nat×Nat}(hk:w.heap[k]? =some (.cells cs T fr))
 (h1:T≠171) (h2:T≠174) (h3:T≠209) (h4:T≠253) (h5:T≠93) (h6:T≠136) (h7:T≠5) (h8:T≠103) (h9:T≠110) (h10:T≠142):k∉Ox sb ev lv F lb gv m:=fun hm=>by
 rcases jo.1 hm with rfl|hm|hm|hm
 ·exact Lg.ai hk h.box h8 rfl
 ·obtain⟨cs',e'⟩:=h.row.kind k hm
  exact Lg.ai hk e' h9 rfl
 ·obtain⟨cs',e'⟩:=h.tq.kind k hm
  exact Lg.ai hk e' h10 rfl
 ·exact dB h.log hk h1 h2 h3 h4 h5 h6 h7 hm
theorem SA.mn(h:SA w base d sb mo eU bytes F A room lb gv ev lv v m vals):m.n=0∧m.xs=aY 0 vals:=by
 have:=h.abs;unfold SM.abs at this;exact⟨congrArg Prod.fst this,congrArg Prod.snd this⟩
theorem SA.flat(h:SA w base d sb mo eU bytes F A room lb gv ev lv v m vals):(flat (aY 0 vals)).length≤100+516*vals.length:=by
 have:=h.used;simp only[dD,List.nil_append,List.map_cons,List.map_nil,List.singleton_append,jy]at this;omega
theorem SA.ok(h:SA w base d sb mo eU bytes F A room lb gv ev lv v m vals):Yt A oZ (([]++[m]).map SM.abs):=by
 have:=h.inv.ok (by simp);rw[←h.abs]at this;exact this
theorem One.sa{w0:World}{base0:Nat}{F0:List Nat}{A':DA}(h:One w0 w base0 d F0 room [] sb mo eU bytes ⟨#[97]⟩ false A' lb F ev lv gv m)(hb:base0≤w0.heap.size)(hsb:base0≤sb)(hmo:mo≤1048576)(hr:40000≤room):
 SA w base0 d sb mo eU bytes F A' room lb gv ev lv ⟨mo,0,0,false⟩ m []:=by
 have hm:=h.abs;have hd:=h.disk;have hf:(((Sn.nameB oZ 0).data.toList,([]:List UInt8))::([]:FL)).filter (fun q=> !(q.1==listN))=[((Sn.nameB oZ 0).data.toList,[])]:=by
  have:=Q7;simp only[List.filter_cons,List.filter_nil,this,Bool.not_false,if_true]
 rw[show(Sn.nameB (dN ⟨#[97]⟩ 0) 0).data.toList=(Sn.nameB oZ 0).data.toList from rfl,hf]at hd;have hl:dD oZ ([]++[(0,aY 0 [])])++CG=[((Sn.nameB oZ 0).data.toList,[]),(listN,(nY ⟨#[97]⟩ false).data.toList)]:=rfl;exact
  {box:=h.box,row:=h.row.aZ hb,tq:=h.tq.aZ hb,low:=hsb,log:=h.log,start:=rfl,most:=rfl,mo1:=hmo,up:=rfl,abs:=hm
   inv:=⟨by rw[hl];exact hd.perm (List.Perm.swap _ _ _),by simp,by simp[aY,Chain],by simp[df,aY,Chain],by simp[aY,aA],by simp[df,aY],by simp,by simp,by simp,by simp⟩
   few:=by simp,short:=by simp
   used:=by
    rw[hl,jy];have:=KH;unfold CG at this;simp only[List.length_nil]at this⊢;omega
   room1:=hr}
end
section
variable {w w':World} {base d sb mo:Nat} {eU bytes:Int} {F:List Nat} {A:DA} {room lb:Nat} {gv ev lv:Value} {v:LV} {m:SM} {vals:List (List UInt8)}
theorem SA.addE(h:SA w base d sb mo eU bytes F A room lb gv ev lv v m vals)(jO:vals=[]∨100000≤mo)(hlen:vals.length<60){x:List UInt8}(hx:x.length≤500):
 ∃A',qC A oZ v (vals.length:Int).toNat [] (0,aY 0 vals) [fU 0 x]=(0,A',v,[(0,aY 0 (vals++[x]))])∧vN A' room oZ CG 0 (vals.length+1) [] (0,aY 0 (vals++[x]))∧fD (dD oZ ([]++[(0,aY 0 (vals++[x]))])++CG)≤100+516*(vals.length+1):=by
 have hn:(vals.length:Int).toNat=vals.length:=by omega
 have hb:eG (vals.length:Int) [fU 0 x]=pK vals.length x:=rfl;have hok:=Uh (i:=vals.length) (by omega) hx;have hsz:=vP (i:=vals.length) (by omega) hx;have hfl:=h.flat;have hus:=h.used;have hrm:=h.room1;have hmo:=h.most;have hsn:aY 0 (vals++[x])=aY 0 vals++[pK vals.length x]:=by rw[CB,Nat.zero_add]
 have hbase:(pK vals.length x).base=(vals.length:Int):=by rw[jZ]
 have hfin:(pK vals.length x).fin=((vals.length+1:Nat):Int):=by rw[jZ];simp
 obtain⟨A',e1,q1,b1,u1⟩:=h.inv.put (x:=pK vals.length x) hok hbase hfin (by omega) v;rw[hn];refine⟨A',?_,?_,?_⟩
 ·unfold qC nV
  rw[hb,if_neg (by rw[hok];simp),if_neg ?_,e1]
  ·simp only[List.nil_append]
   rw[hsn];unfold lJ;rw[if_neg (by omega)]
  ·rintro⟨h1,h2⟩
   rcases jO with rfl|jO
   ·simp[aY,Sg.flat]at h1
   ·simp only at h1 h2
    rw[hmo]at h2;omega
 ·rw[hsn];exact q1
 ·rw[hsn,u1];omega
set_option maxHeartbeats 2000000 in
theorem SA.add(h:SA w base d sb mo eU bytes F A room lb gv ev lv v m vals)(jO:vals=[]∨100000≤mo)(hlen:vals.length<60){x:List UInt8}(hx:x.length≤500)(vr:Value)(hr:bn w vr [fU 0 x])(hv:∀Z,Turn (aS F lb gv [m]) w Z→Sn.dA Z∧As.lM Z):
 Calls Tryz.prog 98 #[.pointer (some ⟨lb,0,none⟩),vr] w fun e w'=>e= .returned (.tuple #[.int .i64 (vals.length:Int), .nilIface])∧∃F' A' gv' m',SA w' base d sb mo eU bytes F' A' room lb gv' ev lv v m' (vals++[x])∧Turn (aS F lb gv [m]) w w'∧∀k∈aS F' lb gv' [m'],k∈aS F lb gv [m]∨w.heap.size≤k:=by
 obtain⟨A',e1,q1,u1⟩:=h.addE jO hlen hx;obtain⟨hmn,hmx⟩:=h.mn;have hfl:=h.flat;have hnx:aA m.n m.xs=((vals.length:Int).toNat:Int):=by
  have:=h.inv.next;simp only at this;rw[hmn,hmx,this];omega
 have hda:=EF;have hfew:=h.few;have hm1:=h.mo1;have hmo:=h.most;refine(MK w base d F A lb gv oZ v [] m h.log (by simp) (by omega) (by omega) (by rw[hmx];omega) (by omega) h.up (vals.length:Int).toNat (by omega) hnx hv vr [fU 0 x] hr (by simp)).mono ?_;rintro e w' ⟨rfl,hd⟩;rw[List.map_nil,h.abs,e1]at hd;rw[List.map_nil,h.abs,e1];simp only at hd;obtain⟨F',gv',ms',yG,IE,ht,hf⟩:=hd;obtain⟨m',rfl⟩:∃m',ms'=[m']:=List.length_eq_one_iff.1 (by simpa using congrArg List.length IE);have YR:m'.abs=(0,aY 0 (vals++[x])):=by simpa using IE
 have hbx:=ht.heap h.box (dB h.log h.box (by decide) (by decide) (by decide) (by decide) (by decide) (by decide) (by decide));refine⟨by simp[Oi,aW],F',A',gv',m',?_,ht,hf⟩;exact
  {box:=hbx
   row:=h.row.kept ht (fun q hq=>by obtain⟨cs',e'⟩:=h.row.kind q hq;exact dB h.log e' (by decide) (by decide) (by decide) (by decide) (by decide) (by decide) (by decide))
   tq:=h.tq.kept ht (fun q hq=>by obtain⟨cs',e'⟩:=h.tq.kind q hq;exact dB h.log e' (by decide) (by decide) (by decide) (by decide) (by decide) (by decide) (by decide))
   low:=h.low,log:=yG,start:=h.start,most:=h.most,mo1:=h.mo1,up:=h.up,abs:=YR
   inv:=by rw[List.length_append,List.length_singleton];exact q1
   few:=by rw[List.length_append,List.length_singleton];omega
   short:=fun y hy=>by
    rcases List.mem_append.1 hy with hy|hy
    ·exact h.short y hy
    ·obtain rfl:=List.mem_singleton.1 hy;exact hx
   used:=by rw[List.length_append,List.length_singleton];exact u1
   room1:=h.room1}
set_option maxHeartbeats 2000000 in
theorem SA.read(h:SA w base d sb mo eU bytes F A room lb gv ev lv v m vals)(f:Nat)(hf:f≤vals.length)(most:Int)(hmo:most=3000∨vals.length≤1)(hmi: -9223372036854775808≤most∧most≤9223372036854775807):
 Calls Tryz.prog 100 #[.pointer (some ⟨lb,0,none⟩), .int .i64 (f:Int), .int .i64 most] w fun e w'=>∃ov R,e= .returned (.tuple #[ov, .nilIface])∧aH 47 6 recC w' w.heap.size ov R∧dU f vals R∧Turn [] w w':=by
 obtain⟨hmn,hmx⟩:=h.mn;have hda:=EF;have hnx:aA m.n m.xs=(vals.length:Int):=by
  have:=h.inv.next;simp only at this;rw[hmn,hmx,this]
 refine(QZ w base d F A lb gv oZ v m h.log (by omega) h.ok (f:Int) most hmi (by rw[h.start];omega) (by rw[hnx];omega)).mono ?_;rintro e w' ⟨ov,q,rfl,hrow,hq,ht⟩;rw[hmx]at hrow hq;exact⟨ov,_,rfl,hrow,fetched hf h.few h.short hmo hq,ht⟩
theorem SA.endL(h:SA w base d sb mo eU bytes F A room lb gv ev lv v m vals):Calls Tryz.prog 90 #[.pointer (some ⟨lb,0,none⟩)] w fun e w'=>e= .returned (.int .i64 (vals.length:Int))∧Turn [] w w':=by
 obtain⟨hmn,hmx⟩:=h.mn;have hnx:aA m.n m.xs=(vals.length:Int):=by
  have:=h.inv.next;simp only at this;rw[hmn,hmx,this]
 have hfew:=h.few;have:=qY w base d F A lb gv oZ v [] m h.log (by simp) (by rw[hmx,iQ];omega);rwa [hnx]at this
theorem SA.WU(h:SA w base d sb mo eU bytes F A room lb gv ev lv v m vals):Calls Tryz.prog 101 #[.pointer (some ⟨lb,0,none⟩)] w fun e w'=>e= .returned (.int .i64 0)∧w=w':=
 Tp.Cc w lb 0 ⟨by rw[h.log.c4,h.start];rfl,lt_of_heap h.log.box⟩
theorem SA.YS(h:SA w base d sb mo eU bytes F A room lb gv ev lv v m vals):Calls Tryz.prog 97 #[.pointer (some ⟨sb,0,none⟩), .string ⟨#[97]⟩, .int .i64 0] w fun e w'=>e= .returned (.tuple #[.pointer (some ⟨lb,0,none⟩), .nilIface])∧Turn [] w w':=
 Tp.Ug w base d sb mo lb eU bytes ev lv ⟨#[97]⟩ false [0] h.box h.row h.tq
end
def di(w:World)(base d sb mo:Nat)(SF:List Nat)(vals:List (List UInt8)):Prop:=∃eU bytes F A room lb gv ev lv v m,SA w base d sb mo eU bytes F A room lb gv ev lv v m vals∧SF=Ox sb ev lv F lb gv m
section
variable {w w':World} {base d sb mo:Nat} {SF S:List Nat} {vals:List (List UInt8)}
theorem di.kept(h:di w base d sb mo SF vals)(ht:Turn S w w')(hn:∀k∈SF,k∉S):di w' base d sb mo SF vals:=by
 obtain⟨eU,bytes,F,A,room,lb,gv,ev,lv,v,m,h,rfl⟩:=h;exact⟨eU,bytes,F,A,room,lb,gv,ev,lv,v,m,h.kept ht hn,rfl⟩
theorem di.still(h:di w base d sb mo SF vals)(ht:Turn [] w w'):di w' base d sb mo SF vals:=h.kept ht (by simp)
theorem di.lt(h:di w base d sb mo SF vals):∀k∈SF,base≤k∧k<w.heap.size:=by
 obtain⟨eU,bytes,F,A,room,lb,gv,ev,lv,v,m,h,rfl⟩:=h;exact h.lt
theorem di.type(h:di w base d sb mo SF vals){k:Nat}{cs:Array Value}{T:TypeId}{fr:Nat×Nat}(hk:w.heap[k]? =some (.cells cs T fr))
 (h1:T≠171) (h2:T≠174) (h3:T≠209) (h4:T≠253) (h5:T≠93) (h6:T≠136) (h7:T≠5) (h8:T≠103) (h9:T≠110) (h10:T≠142):k∉SF:=by
 obtain⟨eU,bytes,F,A,room,lb,gv,ev,lv,v,m,h,rfl⟩:=h;exact h.type hk h1 h2 h3 h4 h5 h6 h7 h8 h9 h10
theorem di.few(h:di w base d sb mo SF vals):vals.length≤60∧∀x∈vals,x.length≤500:=by
 obtain⟨eU,bytes,F,A,room,lb,gv,ev,lv,v,m,h,rfl⟩:=h;exact⟨h.few,h.short⟩
end
end Br
end
namespace Wh
abbrev Tm:=Int×Int
def xM(t:Int)(l:List Tm):List Tm:=l.filter (fun x=>x.1==t)
def Sq(l m:List Tm):Prop:=∀t,xM t l=xM t m
def lG(l:List Tm):Prop:=l.Pairwise (fun x y=>x.1≤y.1)
structure og(l m:List Tm):Prop where
 Kv:lG m
 sq:Sq l m
theorem Sq.refl(l:List Tm):Sq l l:=fun _=>rfl
theorem Sq.symm{l m:List Tm}(h:Sq l m):Sq m l:=fun t=>(h t).symm
theorem Sq.trans{l m n:List Tm}(h:Sq l m)(k:Sq m n):Sq l n:=fun t=>(h t).trans (k t)
theorem iL(t:Int)(a b:List Tm):xM t (a++b)=xM t a++xM t b:=List.filter_append ..
theorem Sq.app{a b c d:List Tm}(h:Sq a b)(k:Sq c d):Sq (a++c) (b++d):=fun t=>by rw[iL,iL,h t,k t]
theorem Sq.swap{a b:List Tm}(h:∀x∈a,∀y∈b,x.1≠y.1):Sq (a++b) (b++a):=fun t=>by
 rw[iL,iL];by_cases e:xM t a=[]
 ·rw[e];simp
 ·have:xM t b=[]:=by
   unfold xM at*;rw[List.filter_eq_nil_iff]at*;intro y hy hyt;apply e;intro x hx hxt;have h1:x.1=t:=by simpa using hxt
   have h2:y.1=t:=by simpa using hyt
   exact h x hx y hy (h1.trans h2.symm)
  rw[this];simp
theorem Sq.perm{l m:List Tm}(h:Sq l m):l.Perm m:=by
 rw[List.perm_iff_count];intro a;have h1:=h a.1;unfold xM at h1;have e:∀l:List Tm,List.count a (l.filter (fun x=>x.1==a.1))=List.count a l:=fun l=>List.count_filter (by simp)
 rw[←e l,←e m,h1]
theorem Sq.length{l m:List Tm}(h:Sq l m):l.length=m.length:=h.perm.length_eq
theorem Sq.nil{m:List Tm}(h:Sq [] m):m=[]:=List.eq_nil_of_length_eq_zero h.length.symm
theorem og.length{l m:List Tm}(h:og l m):m.length=l.length:=h.sq.length.symm
theorem lG.Oy{l:List Tm}(h:lG l):og l l:=⟨h,Sq.refl l⟩
theorem iM{a b:List Tm}:lG (a++b)↔lG a∧lG b∧∀x∈a,∀y∈b,x.1≤y.1:=List.pairwise_append
theorem og.mem{l m:List Tm}(h:og l m)(x:Tm):x∈m↔x∈l:=h.sq.perm.mem_iff.symm
theorem vS{A1 A2 B1 B2 M1 M2:List Tm}(hA:lG (A1++A2))(hB:lG (B1++B2))(h1:∀x∈A1,∀y∈B2,x.1≤y.1)(h2:∀y∈B1,∀x∈A2,y.1<x.1)(m1:og (A1++B1) M1)(m2:og (A2++B2) M2):og (A1++A2++(B1++B2)) (M1++M2):=by
 have a3:=(iM.1 hA).2.2;have b3:=(iM.1 hB).2.2;refine⟨iM.2 ⟨m1.Kv,m2.Kv,fun x hx y hy=>?_⟩,?_⟩
 ·rw[m1.mem]at hx
  rw[m2.mem]at hy;rcases List.mem_append.1 hx with hx|hx<;>rcases List.mem_append.1 hy with hy|hy
  ·exact a3 x hx y hy
  ·exact h1 x hx y hy
  ·exact Int.le_of_lt (h2 x hx y hy)
  ·exact b3 x hx y hy
 ·have hs:Sq (A2++B1) (B1++A2):=Sq.swap fun x hx y hy e=>by have:=h2 y hy x hx;omega
  have h3:Sq (A1++((A2++B1)++B2)) (A1++((B1++A2)++B2)):=(Sq.refl _).app (hs.app (Sq.refl _));have h4:Sq ((A1++B1)++(A2++B2)) (M1++M2):=m1.sq.app m2.sq;simp only[List.append_assoc]at h3 h4⊢;exact h3.trans h4
theorem uI{B:List Tm}(h:lG B){k:Nat}(hk:k≤B.length){p:Int→Prop}(hp:∀x y:Int,x≤y→p y→p x)(hl:k=0∨∃h:k-1<B.length,p (B[k-1]).1):∀y∈B.take k,p y.1:=by
 intro y hy;obtain⟨i,hi,e⟩:=List.mem_iff_getElem.1 hy;rw[List.length_take]at hi;rw[List.getElem_take]at e;rcases hl with rfl|⟨hb,hv⟩
 ·omega
 ·rw[←e]
  refine hp _ _ ?_ hv;by_cases e2:i=k-1
  ·subst e2;exact Int.le_refl _
  ·exact List.pairwise_iff_getElem.1 h i (k-1) (by omega) hb (by omega)
theorem uJ{B:List Tm}(h:lG B){k:Nat}(hk:k≤B.length){p:Int→Prop}(hp:∀x y:Int,x≤y→p x→p y)(hl:k=B.length∨∃h:k<B.length,p (B[k]).1):∀y∈B.drop k,p y.1:=by
 intro y hy;obtain⟨i,hi,e⟩:=List.mem_iff_getElem.1 hy;rw[List.length_drop]at hi;rw[List.getElem_drop]at e;rcases hl with rfl|⟨hb,hv⟩
 ·omega
 ·rw[←e]
  refine hp _ _ ?_ hv;by_cases e2:i=0
  ·subst e2;exact Int.le_refl _
  ·exact List.pairwise_iff_getElem.1 h k (k+i) hb (by omega) (by omega)
theorem ru{B:List Tm}(h:lG B)(k:Nat):lG (B.take k):=List.Pairwise.sublist (List.take_sublist k B) h
theorem ry{B:List Tm}(h:lG B)(k:Nat):lG (B.drop k):=List.Pairwise.sublist (List.drop_sublist k B) h
theorem KI{T L R:List Tm}{x:Tm}(h:og T (L++R))(hR:∀z∈R,x.1<z.1)(hL:∀z∈L,z.1≤x.1):og (T++[x]) (L++x::R):=by
 obtain⟨h1,h2,h3⟩:=iM.1 h.Kv;refine⟨iM.2 ⟨h1,List.pairwise_cons.2 ⟨fun z hz=>Int.le_of_lt (hR z hz),h2⟩,fun z hz y hy=>?_⟩,?_⟩
 ·rcases List.mem_cons.1 hy with rfl|hy
  ·exact hL z hz
  ·exact h3 z hz y hy
 ·have h4:Sq (T++[x]) ((L++R)++[x]):=h.sq.app (Sq.refl _)
  have h5:Sq (R++[x]) ([x]++R):=Sq.swap fun a ha b hb e=>by
   obtain rfl:=List.mem_singleton.1 hb;have:=hR a ha;omega
  have h6:=(Sq.refl L).app h5;rw[List.append_assoc]at h4;exact h4.trans h6
theorem Q8{L:List Tm}{y:Tm}{v:Int}(h:lG (L++[y]))(hy:y.1≤v):∀z∈L++[y],z.1≤v:=by
 intro z hz;rcases List.mem_append.1 hz with hz|hz
 ·have:=(iM.1 h).2.2 z hz y (by simp)
  omega
 ·obtain rfl:=List.mem_singleton.1 hz
  exact hy
def BS(n:Nat)(l:List Tm):Prop:=∀i j (_:i≤j) (hj:j<l.length),i/n=j/n→(l[i]'(by omega)).1≤(l[j]).1
theorem BS.nil(n:Nat):BS n []:=fun i j _ hj=>by simp at hj
theorem BS.append{n t:Nat}{D B:List Tm}(hn:0<n)(h:BS n D)(hD:D.length=n*t)(hB:lG B)(hl:B.length≤n):BS n (D++B):=by
 intro i j hij hj hd;rw[List.length_append]at hj;by_cases h1:j<D.length
 ·rw[List.getElem_append_left (by omega),List.getElem_append_left h1]
  exact h i j hij h1 hd
 ·have hjd:j/n=t∨j/n=t+1∨t≤j/n:= .inr (.inr (by rw[Nat.le_div_iff_mul_le hn,Nat.mul_comm];omega))
  have h2:¬i<D.length:=by
   intro h2;have:i/n<t:=by rw[Nat.div_lt_iff_lt_mul hn,Nat.mul_comm];omega
   have:t≤j/n:=by rw[Nat.le_div_iff_mul_le hn,Nat.mul_comm];omega
   omega
  rw[List.getElem_append_right (by omega),List.getElem_append_right (by omega)];by_cases e:i-D.length=j-D.length
  ·have:i=j:=by omega
   subst this;exact Int.le_refl _
  ·exact List.pairwise_iff_getElem.1 hB (i-D.length) (j-D.length) (by omega) (by omega) (by omega)
theorem BS.block{n t k:Nat}{l:List Tm}(hn:0<n)(h:BS n l)(hk:k≤n):lG ((l.drop (n*t)).take k):=by
 unfold lG;rw[List.pairwise_iff_getElem];intro i j hi hj hij;rw[List.length_take,List.length_drop]at hi hj;simp only[List.getElem_take,List.getElem_drop];refine h (n*t+i) (n*t+j) (by omega) (by omega) ?_;rw[Nat.mul_add_div hn,Nat.mul_add_div hn,Nat.div_eq_of_lt (by omega),Nat.div_eq_of_lt (by omega)]
theorem BS.all{n:Nat}{l:List Tm}(h:BS n l)(hl:l.length≤n):lG l:=by
 unfold lG;rw[List.pairwise_iff_getElem];intro i j hi hj hij;exact h i j (by omega) hj (by rw[Nat.div_eq_of_lt (by omega),Nat.div_eq_of_lt (by omega)])
end Wh
end Go.Proofs.YtmjpdhpmjmgmaaaGreatDoor
