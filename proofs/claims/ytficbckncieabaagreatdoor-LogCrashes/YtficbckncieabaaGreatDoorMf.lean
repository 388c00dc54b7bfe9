/- Lemmas of the claim, part f of 14. -/
import Derived.Test.YtficbckncieabaaGreatDoorMe
import Derived.Test.YtficbckncieabaaGreatDoorMa
import Derived.Test.YtficbckncieabaaGreatDoorMd
import Derived.Test.YtficbckncieabaaGreatDoorProg
import Derived.Test.YtficbckncieabaaGreatDoorMb
import Derived.WalkKit
import Derived.LaidEql
import Derived.Stop.Asserts
import Derived.RowKitTokens
import Derived.Test.YtficbckncieabaaGreatDoorMc
import Derived.Below
import Derived.WalkLawsBesides
set_option maxHeartbeats 16000000
namespace Go.Proofs.YtficbckncieabaaGreatDoor
section
open Go.RowKit Go.Maps
set_option maxRecDepth 100000
set_option linter.unusedSimpArgs false
set_option linter.unusedVariables false
attribute [local go_sem] Oper.semAt_some
open Dk (DA aj Parts dA aC bQ)
open Sg (EF BV uD jm Chain flat dV Both Least dh WO kM ae)
namespace Lg
theorem sV:∀{rs:List Bt.Rec} {lo hi:Int},Bt.bG rs lo hi=0→∀r∈rs,lo≤r.off∧r.off<hi
 |[],_,_,_,r,hr=>by simp at hr
 |q::rs,lo,hi,h,r,hr=>by
  unfold Bt.bG at h;split at h
  ·rename_i h0
   have h1:=Bt.jS h0;rcases List.mem_cons.1 hr with rfl|hr
   ·exact⟨h1.1,h1.2.1⟩
   ·have:=sV h r hr
    omega
  ·rename_i h0
   exact absurd h h0
theorem kY{x:Bt.aB}(h:Bt.aQ x=0):∀r∈x.recs,x.base≤r.off∧r.off<x.fin:=sV (Bt.jX (Bt.dJ h).1).2.2.2.2.2
theorem ru{x:Bt.aB}(h:Bt.aQ x=0):x.base<x.fin:=(Bt.jX (Bt.dJ h).1).2.2.1
theorem oP:∀{xs:List Bt.aB} {b:Int},Chain b xs→∀x∈xs,b≤x.base
 |x::r,b,h,y,hy=>by
  rcases List.mem_cons.1 hy with rfl|hy
  ·exact h.2.1
  ·have:=oP h.2.2 y hy
   have:=ru h.1;have:=h.2.1;omega
theorem qB:∀{xs:List Bt.aB} {b:Int},Chain b xs→∀{i j:Nat} (hij:i<j) (hj:j<xs.length),(xs[i]'(by omega)).fin≤xs[j].base
 |x::r,b,h,0,j+1,_,hj=>by
  have:=oP h.2.2 (r[j]'(by simpa using hj)) (List.getElem_mem _);simpa using this
 |x::r,b,h,i+1,j+1,hij,hj=>by
  have:=qB h.2.2 (i:=i) (j:=j) (by omega) (by simpa using hj);simpa using this
theorem oI{fr:Int}{rs:List Bt.Rec}(h:∀r∈rs,fr≤r.off):dY fr rs=rs:=by
 unfold dY;rw[List.filter_eq_self];intro r hr;exact decide_eq_true (h r hr)
theorem DK{fr:Int}{rs:List Bt.Rec}(h:∀r∈rs,r.off<fr):dY fr rs=[]:=by
 unfold dY;rw[List.filter_eq_nil_iff];intro r hr;have:=h r hr;simp;omega
theorem kZ(fr:Int)(xs ys:List Bt.aB):aZ fr (xs++ys)=aZ fr xs++aZ fr ys:=by unfold aZ;rw[List.flatMap_append]
theorem Jd{fr:Int}{xs:List Bt.aB}(h:∀x∈xs,dY fr x.recs=[]):aZ fr xs=[]:=by
 unfold aZ;rw[List.flatMap_eq_nil_iff];exact h
theorem GN{fr fr':Int}{xs:List Bt.aB}(h:∀x∈xs,dY fr' x.recs=dY fr x.recs):aZ fr' xs=aZ fr xs:=by
 induction xs with
 |nil=>rfl
 |cons x r ih=>
  unfold aZ at ih⊢;rw[List.flatMap_cons,List.flatMap_cons,h x (by simp),ih (fun y hy=>h y (by simp[hy]))]
structure RInv(fr fr':Int)(xs:List Bt.aB)(a:Nat):Prop where
 le:a≤xs.length
 none:aZ fr (xs.take a)=[]
 rest:∀x∈xs.drop a,dY fr' x.recs=dY fr x.recs
 lK:∀i (h:i<xs.length),i<a→(xs[i]).fin≤fr'
 ge:fr≤fr'
theorem RInv.first(fr:Int)(xs:List Bt.aB):RInv fr fr xs 0:=⟨Nat.zero_le _,by simp[aZ],fun _ _=>rfl,fun i _ h=>absurd h (Nat.not_lt_zero _),Int.le_refl _⟩
theorem O7{xs:List Bt.aB}{fr:Int}{i:Nat}(hi:i<xs.length)(h:dh xs fr i=false):xs[i].fin≤fr:=by
 unfold dh at h;rw[List.getElem?_eq_getElem hi]at h;simp at h;exact h
theorem Je{xs:List Bt.aB}{fr:Int}{i:Nat}(hi:i<xs.length)(h:dh xs fr i=true):fr<xs[i].fin:=by
 unfold dh at h;rw[List.getElem?_eq_getElem hi]at h;simpa using h
section
variable {fr fr' b most:Int} {xs:List Bt.aB} {a m k:Nat}
theorem RInv.ahead(hr:RInv fr fr' xs a)(hl:Least xs.length (dh xs fr') m):a≤m:=by
 rcases Nat.lt_or_ge m a with h|h
 ·have hm:m<xs.length:=Nat.lt_of_lt_of_le h hr.le
  have h1:=Je hm (hl.2.2 m (Nat.le_refl _) hm);have h2:=hr.lK m hm h;omega
 ·exact h
theorem RInv.upto(hc:Chain b xs)(hr:RInv fr fr' xs a)(hl:Least xs.length (dh xs fr') m):aZ fr (xs.take m)=[]:=by
 have ham:=hr.ahead hl;have e:xs.take m=xs.take a++(xs.drop a).take (m-a):=by
  rw[←List.take_append_drop a (xs.take m),List.take_take,Nat.min_eq_left ham,List.drop_take]
 rw[e,kZ,hr.none,List.nil_append];refine Jd fun x hx=>?_
 rw[←hr.rest x (List.mem_of_mem_take hx)];obtain⟨i,hi,rfl⟩:=List.mem_iff_getElem.1 hx;rw[List.length_take,List.length_drop]at hi;have hi2:a+i<xs.length:=by omega
 have hxi:((xs.drop a).take (m-a))[i]=xs[a+i]:=by rw[List.getElem_take,List.getElem_drop]
 rw[hxi];have h1:=O7 hi2 (hl.2.1 (a+i) (by omega));exact DK fun r hr'=>by have:=(kY (Chain.mem hc _ (List.getElem_mem hi2)) r hr').2;omega
theorem RInv.group(hc:Chain b xs)(hr:RInv fr fr' xs a)(hl:Least xs.length (dh xs fr') m):aZ fr' ((xs.drop m).take k)=aZ fr (xs.take (m+k)):=by
 have ham:=hr.ahead hl;have e:xs.take (m+k)=xs.take m++(xs.drop m).take k:=List.take_add;rw[e,kZ,hr.upto hc hl,List.nil_append];refine GN fun x hx=>hr.rest x ?_
 have h1:=List.mem_of_mem_take hx;have e2:xs.drop m=(xs.drop a).drop (m-a):=by rw[List.drop_drop];congr 1;omega
 rw[e2]at h1;exact List.mem_of_mem_drop h1
theorem RInv.over(hc:Chain b xs)(hr:RInv fr fr' xs a)(hl:Least xs.length (dh xs fr') m)(hs:WO most (xs.drop m) k)(hk:k=0):aZ fr xs=[]:=by
 have hm:m=xs.length:=by
  rcases Nat.lt_or_ge m xs.length with h|h
  ·have:=(hs.2.2 (by rw[List.length_drop];omega)).1;omega
  ·have:=hl.1;omega
 have:=hr.upto hc hl;rwa [hm,List.take_length]at this
theorem RInv.next(hc:Chain b xs)(hr:RInv fr fr' xs a)(hl:Least xs.length (dh xs fr') m)(hs:WO most (xs.drop m) k)(hk:0<k)(hn:aZ fr (xs.take (m+k))=[])(h:m+k-1<xs.length):RInv fr (xs[m+k-1]).fin xs (m+k)∧fr'<(xs[m+k-1]).fin∧m+k≤xs.length:=by
 have ham:=hr.ahead hl;have h1:=hs.1;rw[List.length_drop]at h1;have h0:=Je (i:=m) (by omega) (hl.2.2 m (Nat.le_refl _) (by omega));have agI:∀i (hi:i<xs.length),i<m+k→(xs[i]).fin≤(xs[m+k-1]).fin:=by
  intro i hi hik;rcases Nat.lt_or_ge i (m+k-1)with h'|h'
  ·have:=qB hc h' h
   have:=ru (Chain.mem hc _ (List.getElem_mem h));omega
  ·obtain rfl:i=m+k-1:=by omega
   exact Int.le_refl _
 have hge:fr≤(xs[m+k-1]).fin:=by have:=agI m (by omega) (by omega);have:=hr.ge;omega
 refine⟨⟨by omega,hn,fun x hx=>?_,agI,hge⟩,by have:=agI m (by omega) (by omega);omega,by omega⟩;obtain⟨i,hi,rfl⟩:=List.mem_iff_getElem.1 hx;rw[List.length_drop]at hi;have hi2:m+k+i<xs.length:=by omega
 rw[List.getElem_drop];have h2:=qB hc (i:=m+k-1) (j:=m+k+i) (by omega) hi2;have abq:=kY (Chain.mem hc _ (List.getElem_mem hi2));rw[oI (fun r hr'=>by have:=(abq r hr').1;omega),oI (fun r hr'=>by have:=(abq r hr').1;omega)]
end
theorem Jf(xs:List Bt.aB)(m k:Nat):((((xs.drop m).take k)).flatMap (·.recs)).length≤(xs.flatMap (·.recs)).length:=by
 have e:xs=xs.take m++((xs.drop m).take k++(xs.drop m).drop k):=by rw[List.take_append_drop,List.take_append_drop]
 have h:(xs.flatMap (·.recs)).length=((xs.take m++((xs.drop m).take k++(xs.drop m).drop k)).flatMap (·.recs)).length:=congrArg (fun l:List Bt.aB=>(l.flatMap (·.recs)).length) e;rw[h,List.flatMap_append,List.flatMap_append,List.length_append,List.length_append];omega
theorem DJ(w:World)(base d:Nat)(F:List Nat)(A:DA)(sb:Nat)(sv:Value)(file:ByteArray)(b0:Int)(xs:List Bt.aB)(h:Both w base d F A sb sv file b0 (dV 0 (-1) xs))(hfs:file.size≤maxLen)(f:Dk.FA)(hf:A.file file.data.toList=some f)(hfb:f.bytes=flat xs)(hch:Chain b0 xs)
 (fr most:Int)(hmo: -9223372036854775808≤most∧most≤9223372036854775807)(hT:(xs.flatMap (·.recs)).length≤900000)(hxl:xs.length≤1000000):
 Calls Tryz.prog 33 #[.pointer (some ⟨sb,0,none⟩), .int .i64 fr, .int .i64 most] w fun e w'=>∃ov q,e= .returned (.tuple #[ov, .nilIface])∧q≤xs.length∧aO 52 6 recC w' w.heap.size ov (aZ fr (xs.take q))∧(aZ fr (xs.take q)=[]→aZ fr xs=[])∧Turn [] w w':=by
 have H:=hide h;have HF:=hide hf;have WR:=hide hfb;have KU:=hide hch;have HT:=hide hT;clear h hf hfb hch hT;go_enter Tryz.func33,Tryz.ntmps33
 go_wp2
 go_loopw [1] (fun fv wr=>∃(fr':Int) (a:Nat),fv= .int .i64 fr'∧RInv fr fr' xs a∧Turn [] w wr) (fun fv _=>(1099511627777-intOf fv).toNat)
 case atStart=>exact⟨fr,0,rfl,RInv.first fr xs,Turn.refl _ _⟩
 case round=>
  obtain⟨fr',a,rfl,akI,htw⟩:=hrel;have WV:=hide akI;have dO:=hide htw;clear akI htw;go_wp2_with fail
  refine(Sg.DJ wr base d F A sb sv file b0 xs (H.out.still dO.out) hfs f HF.out WR.out KU.out fr' most hmo).mono ?_;rintro e w1 ⟨lv,ys,m,k,rfl,hle,Pe,hys,afE,ht1⟩;have hk1:=afE.1;rw[List.length_drop]at hk1;have hkl:ys.length=k:=by rw[←List.length_map (f:=fun y:BV=>y.x),hys,List.length_take,List.length_drop];omega
  obtain⟨la,lc,hlv,KX,KY⟩:=Pe.row.form;rw[hkl]at hlv KX;subst hlv;have hml:=hle.1;have hmx:maxLen=9223372036854775807:=by simp[maxLen]
  rw[hmx]at KY;have hgr:=WV.out.group (k:=k) KU.out hle;have HLE:=hide hle;have Y1:=hide afE;have dI:=hide Pe;have NP:=hide hys;have WW:=hide hkl;have HT1:=hide (dO.out.same ht1);have Y4:=hide hgr;clear hle afE Pe hys hkl ht1 hgr;by_cases hk0:k=0
  ·have hov:=WV.out.over KU.out HLE.out Y1.out hk0
   have Qq:=hide hov;clear hov;subst hk0;go_wp2
   go_ret2
   refine⟨_,xs.length,rfl,Nat.le_refl _, .inl ⟨rfl,by rw[List.take_length];exact Qq.out⟩,fun _=>Qq.out,HT1.out⟩
  ·obtain⟨k',rfl⟩:=Nat.exists_eq_succ_of_ne_zero hk0
   have hkb:(((k'+1:Nat):Int)==0)=false:=by rw[beq_eq_false_iff_ne];omega
   go_wp2_with fail
   refine(Fp w1 _ _ ys dI.out fr' (by rw[WW.out];omega) (by rw[NP.out];exact Nat.le_trans (Jf xs m (k'+1)) HT.out)).mono ?_;rintro e w2 ⟨ov,rfl,hov,ht2⟩;rw[NP.out,Y4.out]at hov;obtain⟨R,hR⟩:∃R,R=aZ fr (xs.take (m+(k'+1))):=⟨_,rfl⟩;rw[←hR]at hov;obtain⟨oa,oc,hoe,hol,hom⟩:=hov.form;subst hoe;have HR:=hide hR;have Qq:=hide hov;have adQ:=hide ht2;have HT2:=hide (HT1.out.same ht2);have HW1:=hide HT1.out.size;have hRl:R.length≤900000:=by
    rw[hR];refine Nat.le_trans (xI fr _) (Nat.le_trans ?_ HT.out);have:=Jf xs 0 (m+(k'+1));rwa [List.drop_zero]at this
   clear hR hov ht2;by_cases hR0:0<(R.length:Int)
   ·go_wp2
    go_ret2
    refine⟨_,m+(k'+1),rfl,by omega,by rw[←HR.out];exact Qq.out.jA HW1.out,fun h=>?_,HT2.out⟩;rw[←HR.out]at h;rw[h]at hR0;exact absurd hR0 (by simp)
   ·have Yf:R=[]:=List.eq_nil_of_length_eq_zero (by omega)
    have hlt:m+k'<xs.length:=by omega
    obtain⟨hn1,hn2,hn3⟩:=WV.out.next (k:=k'+1) KU.out HLE.out Y1.out (by omega) (by rw[←HR.out];exact Yf) hlt;obtain⟨g,cap,e,hc, -⟩:=dI.out.row.at jm (j:=k') (by rw[WW.out];omega);rw[WW.out]at e;simp only[Value.slice.injEq,true_and]at e;obtain⟨rfl,rfl⟩:=e;have hyx:(ys[k']'(by rw[WW.out];omega)).x=xs[m+k']:=by
     have h1:(ys.map (fun y:BV=>y.x))[k']? =some (ys[k']'(by rw[WW.out];omega)).x:=by rw[List.getElem?_map,List.getElem?_eq_getElem (by rw[WW.out];omega)];rfl
     rw[NP.out,List.getElem?_take_of_lt (by omega),List.getElem?_drop,List.getElem?_eq_getElem hlt]at h1;exact(Option.some.inj h1).symm
    have c1:w2.cell? ⟨g,k'*3+1,none⟩=some (.int .i64 (xs[m+k']).fin):=by
     have h1:=hc 1 (by omega);have h2:(uD (ys[k']'(by rw[WW.out];omega)))[1]? =some (.int .i64 (xs[m+k']).fin):=by simp[uD,hyx]
     rw[h2]at h1;have agJ:=adQ.out;rw[World.cell?_of_block (w:=w1) (agJ.block _ (World.block_lt_of_cell? _ _ h1) (by simp)),h1]
    have hi1:(k':Int)<(k':Int)+1:=by omega
    have aar:=(Bt.jX (Bt.dJ (Chain.mem KU.out _ (List.getElem_mem hlt))).1).2.1;obtain⟨fx,hfx⟩:∃fx,fx=(xs[m+k']).fin:=⟨_,rfl⟩;have akJ:RInv fr fx xs (m+(k'+1)):=by rw[hfx];exact hn1
    have auh:fr'<fx:=by rw[hfx];exact hn2
    rw[←hfx]at c1 aar;have HN1:=hide akJ;have Ye:=hide Yf;clear hn1 akJ hn2 hfx hyx hc Yf;go_wp2
    all_goals refine⟨⟨fx,m+(k'+1),rfl,HN1.out,HT2.out⟩,?_⟩
    all_goals (simp only[intOf];omega)
end Lg
end
section
open Go.RowKit Go.Maps
set_option maxRecDepth 100000
set_option linter.unusedSimpArgs false
set_option linter.unusedVariables false
attribute [local go_sem] Oper.semAt_some
open Dk (DA aj Parts dA aC bQ)
open Sg (aS aA dV Both Came)
namespace Lg
theorem aW{w:World}{i j:Nat}{c1 c2:Array Value}{T1 T2:TypeId}{f1 f2:Nat×Nat}(h1:w.heap[i]? =some (.cells c1 T1 f1)) (h2:w.heap[j]? =some (.cells c2 T2 f2)) (hT:T1≠T2):i≠j:=by
 rintro rfl;rw[h1]at h2;simp at h2;exact hT h2.2.1
theorem _root_.Go.Proofs.YtficbckncieabaaGreatDoor.aO.kind{α:Type}{T:TypeId}{n:Nat}{enc:α→List Value}{w:World}{base:Nat}{sv:Value}{xs:List α}(h:aO T n enc w base sv xs):∀k∈sv.ownBlock,∃cs,w.heap[k]? =some (.cells cs T (0,0)):=by
 intro k hk;rcases h with⟨rfl, -⟩|⟨g,cap,cur,rfl, -,hg, -⟩
 ·simp[Value.ownBlock]at hk
 ·simp[Value.ownBlock]at hk;subst hk;exact⟨_,hg⟩
theorem _root_.Go.Proofs.YtficbckncieabaaGreatDoor.aO.congr{α:Type}{T:TypeId}{n:Nat}{enc:α→List Value}{w:World}{base:Nat}{sv:Value}{xs ys:List α}(h:aO T n enc w base sv xs)(hl:xs.length=ys.length)(he:xs.flatMap enc=ys.flatMap enc):aO T n enc w base sv ys:=by
 rcases h with⟨h1,rfl⟩|⟨g,cap,cur,e,hb,hg,r⟩
 ·exact .inl ⟨h1,List.eq_nil_of_length_eq_zero hl.symm⟩
 ·rw[hl,he]at r
  rw[hl]at e;exact .inr ⟨g,cap,cur,e,hb,hg,r⟩
theorem qC{w:World}{base d sb:Nat}{sv:Value}{file:ByteArray}{b0:Int}{ps:List Sg.Pl}(h:aS w base d sb sv file b0 ps):∀k∈aA sb sv,∃cs T,w.heap[k]? =some (.cells cs T (0,0))∧(T=87∨T=110):=by
 intro k hk;simp only[aA,List.mem_cons,Option.mem_toList]at hk;rcases hk with rfl|hk
 ·exact⟨_,_,h.box, .inl rfl⟩
 ·obtain⟨cs,e⟩:=h.row.kind k hk
  exact⟨_,_,e, .inr rfl⟩
theorem oJ{w:World}{base d:Nat}{F:List Nat}{A:DA}(h:aj w base d F A){k:Nat}(hk:k∈F){cs:Array Value}{T:TypeId}{fr:Nat×Nat}(hc:w.heap[k]? =some (.cells cs T fr)):T=48∨T=98∨T=5:=by
 obtain⟨aI,ms,hp⟩:=h;rw[hp.foot]at hk;simp only[List.mem_cons,List.mem_append,List.mem_flatMap,Option.mem_toList]at hk;rcases hk with rfl|hk|⟨m,hm,hk⟩
 ·rw[hp.self]at hc;simp at hc;exact .inl hc.2.1.symm
 ·have abI:=hp.map
  cases aI with
  |none=>simp at hk
  |some mb=>
   simp at hk;subst hk;obtain⟨D,⟨es,clock,hb, -⟩, -⟩:=abI;rw[hb]at hc;simp at hc
 ·have hf:=hp.each m hm
  simp only[Dk.aF.foot,List.mem_cons,Option.mem_toList]at hk;rcases hk with rfl|hk
  ·rw[hf.1]at hc;simp at hc;exact .inr (.inl hc.2.1.symm)
  ·rcases hf.2 with⟨e, -⟩|⟨g,cap,cur,e, -,hg, -⟩
   ·rw[e]at hk;simp[Value.ownBlock]at hk
   ·rw[e]at hk
    simp[Value.ownBlock]at hk;subst hk;rw[hg]at hc;simp at hc;exact .inr (.inr hc.2.1.symm)
structure SM where
 sb:Nat
 sv:Value
 n:Nat
 xs:List Bt.aB
def SM.foot(m:SM):List Nat:=aA m.sb m.sv
def DL(m:SM):List Value:=[.pointer (some ⟨m.sb,0,none⟩)]
theorem fJ:∀m,(DL m).length=1:=fun _=>rfl
structure LV where
 most:Int
 start:Int
 safe:Int
 down:Bool
def KZ(d:Nat)(dir:ByteArray)(gv:Value)(v:LV):Array Value:= #[.pointer (some ⟨d,0,none⟩), .string dir, .int .i64 v.most,gv, .int .i64 v.start, .int .i64 v.safe, .bool v.down]
structure az(w:World)(base d:Nat)(F:List Nat)(A:DA)(lb:Nat)(gv:Value)(dir:ByteArray)(v:LV)(ms:List SM):Prop where
 disk:aj w base d F A
 box:w.heap[lb]? =some (.cells (KZ d dir gv v) 58 (0,0))
 row:aO 61 1 DL w base gv ms
 low:base≤lb
 jo:∀m∈ms,aS w base d m.sb m.sv (Sn.nameB dir m.n) m.n (dV 0 (-1) m.xs)
 apart:ms.Pairwise (fun a b=>∀k∈a.foot,k∉b.foot)
def aJ(F:List Nat)(lb:Nat)(gv:Value)(ms:List SM):List Nat:=lb::(gv.ownBlock.toList++(ms.flatMap SM.foot++F))
theorem ay{F:List Nat}{lb:Nat}{gv:Value}{ms:List SM}{k:Nat}:k∈aJ F lb gv ms↔k=lb∨k∈gv.ownBlock∨(∃m∈ms,k∈m.foot)∨k∈F:=by
 unfold aJ;rw[List.mem_cons,List.mem_append,List.mem_append,Option.mem_toList,List.mem_flatMap];exact Iff.rfl
section
variable {w w':World} {base d lb:Nat} {F:List Nat} {A:DA} {gv:Value} {dir:ByteArray} {v:LV} {ms ms0 ms1:List SM} {m:SM}
theorem az.c0(h:az w base d F A lb gv dir v ms):w.cell? ⟨lb,0,none⟩=some (.pointer (some ⟨d,0,none⟩)):=by rw[cell_of h.box];rfl
theorem az.c1(h:az w base d F A lb gv dir v ms):w.cell? ⟨lb,1,none⟩=some (.string dir):=by rw[cell_of h.box];rfl
theorem az.c2(h:az w base d F A lb gv dir v ms):w.cell? ⟨lb,2,none⟩=some (.int .i64 v.most):=by rw[cell_of h.box];rfl
theorem az.c3(h:az w base d F A lb gv dir v ms):w.cell? ⟨lb,3,none⟩=some gv:=by rw[cell_of h.box];rfl
theorem az.c4(h:az w base d F A lb gv dir v ms):w.cell? ⟨lb,4,none⟩=some (.int .i64 v.start):=by rw[cell_of h.box];rfl
theorem az.c5(h:az w base d F A lb gv dir v ms):w.cell? ⟨lb,5,none⟩=some (.int .i64 v.safe):=by rw[cell_of h.box];rfl
theorem az.c6(h:az w base d F A lb gv dir v ms):w.cell? ⟨lb,6,none⟩=some (.bool v.down):=by rw[cell_of h.box];rfl
theorem az.fr(h:az w base d F A lb gv dir v ms)(i:Nat):w.frozen? ⟨lb,i,none⟩=false:=au h.box i
theorem az.lt(h:az w base d F A lb gv dir v ms):∀k∈aJ F lb gv ms,base≤k∧k<w.heap.size:=by
 intro k hk;rcases ay.1 hk with rfl|hk|⟨m,hm,hk⟩|hk
 ·exact⟨h.low,lt_of_heap h.box⟩
 ·exact h.row.lt k hk
 ·exact(h.jo m hm).lt k hk
 ·exact⟨h.disk.low k hk,h.disk.lt k hk⟩
theorem az.kept{S:List Nat}(h:az w base d F A lb gv dir v ms)(ht:Turn S w w')(hn:∀k∈aJ F lb gv ms,k∉S):az w' base d F A lb gv dir v ms:=
 {disk:=h.disk.kept ht (fun k hk=>hn k (ay.2 (.inr (.inr (.inr hk)))))
  box:=ht.heap h.box (hn lb (ay.2 (.inl rfl)))
  row:=h.row.kept ht (fun k hk=>hn k (ay.2 (.inr (.inl hk))))
  low:=h.low
  jo:=fun m hm=>(h.jo m hm).kept ht (fun k hk=>hn k (ay.2 (.inr (.inr (.inl ⟨m,hm,hk⟩)))))
  apart:=h.apart}
theorem az.still(h:az w base d F A lb gv dir v ms)(ht:Turn [] w w'):az w' base d F A lb gv dir v ms:=h.kept ht (by simp)
theorem az.vk(h:az w base d F A lb gv dir v ms):lb∉F:=fun hm=>by
 rcases oJ h.disk hm h.box with e|e|e<;>exact absurd e (by decide)
theorem az.O8(h:az w base d F A lb gv dir v ms):∀k∈gv.ownBlock,k∉F:=fun k hk hm=>by
 obtain⟨cs,e⟩:=h.row.kind k hk;rcases oJ h.disk hm e with e|e|e<;>exact absurd e (by decide)
theorem Jg{sb:Nat}{sv:Value}{file:ByteArray}{b0:Int}{ps:List Sg.Pl}(h:aj w base d F A)(hs:aS w base d sb sv file b0 ps):∀k∈aA sb sv,k∉F:=fun k hk hm=>by
 obtain⟨cs,T,e,hT⟩:=qC hs k hk;rcases hT with rfl|rfl<;>rcases oJ h hm e with e|e|e<;>exact absurd e (by decide)
theorem az.GR(h:az w base d F A lb gv dir v ms)(hm:m∈ms):lb∉m.foot:=fun hk=>by
 obtain⟨cs,T,e,hT⟩:=qC (h.jo m hm) lb hk;rcases hT with rfl|rfl<;>exact aW h.box e (by decide) rfl
theorem az.La(h:az w base d F A lb gv dir v ms)(hm:m∈ms):∀k∈gv.ownBlock,k∉m.foot:=fun k hk hs=>by
 obtain⟨cs,e⟩:=h.row.kind k hk;obtain⟨cs',T,e',hT⟩:=qC (h.jo m hm) k hs;rcases hT with rfl|rfl<;>exact aW e e' (by decide) rfl
theorem az.Fq(h:az w base d F A lb gv dir v ms):lb∉gv.ownBlock:=fun hk=>by
 obtain⟨cs,e⟩:=h.row.kind lb hk;exact aW h.box e (by decide) rfl
theorem az.both(h:az w base d F A lb gv dir v ms)(hm:m∈ms):Both w base d F A m.sb m.sv (Sn.nameB dir m.n) m.n (dV 0 (-1) m.xs):=
 ⟨h.disk,h.jo m hm,Jg h.disk (h.jo m hm)⟩
theorem az.back{A':DA}{xs':List Bt.aB}(h:az w base d F A lb gv dir v (ms0++m::ms1))(hc:Came w w' base d F A' m.sb m.sv (Sn.nameB dir m.n) m.n (dV 0 (-1) xs')):
 ∃F' sv',az w' base d F' A' lb gv dir v (ms0++⟨m.sb,sv',m.n,xs'⟩::ms1)∧Turn (F++m.foot) w w'∧∀k∈aJ F' lb gv (ms0++⟨m.sb,sv',m.n,xs'⟩::ms1),k∈aJ F lb gv (ms0++m::ms1)∨w.heap.size≤k:=by
 obtain⟨F',sv',hb,ht,hF,hS⟩:=hc;have hmm:m∈ms0++m::ms1:=by simp
 have hap:=h.apart;rw[List.pairwise_append,List.pairwise_cons]at hap;obtain⟨ap0,⟨ap1,ap2⟩,ap3⟩:=hap;have Wi:∀k∈aA m.sb sv',k∈m.foot∨w.heap.size≤k:=hS;have agK:∀x,x∈ms0∨x∈ms1→∀k∈x.foot,k∉F++m.foot:=by
  intro x hx k hk hm';have hxm:x∈ms0++m::ms1:=by rcases hx with hx|hx<;>simp[hx]
  rcases List.mem_append.1 hm' with h'|h'
  ·exact Jg h.disk (h.jo x hxm) k hk h'
  ·rcases hx with hx|hx
   ·exact ap3 x hx m (by simp) k hk h'
   ·exact ap1 x hx k h' hk
 refine⟨F',sv',⟨hb.disk,?_,?_,h.low,?_,?_⟩,ht,?_⟩
 ·exact ht.heap h.box (fun hm'=>(List.mem_append.1 hm').elim h.vk (h.GR hmm))
 ·refine(h.row.kept ht (fun k hk hm'=>(List.mem_append.1 hm').elim (h.O8 k hk) (h.La hmm k hk))).congr ?_ ?_
  ·simp
  ·simp[DL]
 ·intro x hx
  rcases List.mem_append.1 hx with hx|hx
  ·exact(h.jo x (by simp[hx])).kept ht (agK x (.inl hx))
  ·rcases List.mem_cons.1 hx with rfl|hx
   ·exact hb.jh
   ·exact(h.jo x (by simp[hx])).kept ht (agK x (.inr hx))
 ·rw[List.pairwise_append,List.pairwise_cons]
  refine⟨ap0,⟨fun x hx k hk hk'=>?_,ap2⟩,fun x hx y hy=>?_⟩
  ·rcases Wi k hk with h'|h'
   ·exact ap1 x hx k h' hk'
   ·have:=((h.jo x (by simp[hx])).lt k hk').2;omega
  ·rcases List.mem_cons.1 hy with rfl|hy
   ·intro k hk hk'
    rcases Wi k hk' with h'|h'
    ·exact ap3 x hx m (by simp) k hk h'
    ·have:=((h.jo x (by simp[hx])).lt k hk).2;omega
   ·exact ap3 x hx y (by simp[hy])
 ·intro k hk
  rcases ay.1 hk with rfl|hk|⟨x,hx,hk⟩|hk
  ·exact .inl (ay.2 (.inl rfl))
  ·exact .inl (ay.2 (.inr (.inl hk)))
  ·rcases List.mem_append.1 hx with hx|hx
   ·exact .inl (ay.2 (.inr (.inr (.inl ⟨x,by simp[hx],hk⟩))))
   ·rcases List.mem_cons.1 hx with rfl|hx
    ·rcases Wi k hk with h'|h'
     ·exact .inl (ay.2 (.inr (.inr (.inl ⟨m,hmm,h'⟩))))
     ·exact .inr h'
    ·exact .inl (ay.2 (.inr (.inr (.inl ⟨x,by simp[hx],hk⟩))))
  ·rcases hF k hk with h'|h'
   ·exact .inl (ay.2 (.inr (.inr (.inr h'))))
   ·exact .inr h'
end
end Lg
end
section
open Go.RowKit Go.Maps
set_option maxRecDepth 100000
set_option linter.unusedSimpArgs false
set_option linter.unusedVariables false
namespace Dk
theorem Jh{l l':List aF}(h:l.Sublist l'):(l.flatMap aF.foot).Sublist (l'.flatMap aF.foot):=by
 induction h with
 |slnil=>exact List.Sublist.refl _
 |cons a _ ih=>rw[List.flatMap_cons];exact ih.trans (List.sublist_append_right _ _)
 |cons_cons a _ ih=>rw[List.flatMap_cons,List.flatMap_cons];exact List.Sublist.append (List.Sublist.refl _) ih
section
variable {w w':World} {base d:Nat} {F:List Nat} {A A':DA} {aI:Option Nat} {ms ms':List aF} {mb:Nat}
theorem Parts.RP(h:Parts w base d F A (some mb) ms)(ht:Turn [mb] w w')(hm:MapAt w' (some mb) ms')
 (hin:∀x∈ms',∃m∈ms,x.blk=m.blk∧x.sl=m.sl∧x.abs.bytes=m.abs.bytes∧x.abs.safe=m.abs.safe)(hnd:(ms'.flatMap aF.foot).Nodup)
 (aaz:A'.room=A.room)(ab5:A'.limited=A.limited)(agy:A'.left=A.left)(hf:A'.files=ms'.map (·.abs))(hg:Good A'):
 Parts w' base d (d::mb::ms'.flatMap aF.foot) A' (some mb) ms'∧∀k∈d::mb::ms'.flatMap aF.foot,k∈F:=by
 have yO:=h.foot;have ac6:=h.nodup;rw[yO]at ac6;simp only[Option.toList_some,List.cons_append,List.nil_append,List.nodup_cons,List.mem_cons,not_or]at ac6;have abH:∀k∈ms'.flatMap aF.foot,k∈ms.flatMap aF.foot:=by
  intro k hk;obtain⟨x,hx,hkx⟩:=List.mem_flatMap.1 hk;obtain⟨m,hm1,e1,e2,_⟩:=hin x hx;exact List.mem_flatMap.2 ⟨m,hm1,by rw[aF.foot,e1,e2]at hkx;exact hkx⟩
 have aan:∀k∈d::mb::ms'.flatMap aF.foot,k∈F:=by
  intro k hk;rw[yO];simp only[List.mem_cons]at hk;rcases hk with rfl|rfl|hk
  ·simp
  ·simp
  ·have:=abH k hk
   simp only[List.mem_cons,List.mem_append];exact .inr (.inr this)
 refine⟨{foot:=by simp,nodup:=?_,low:=fun k hk=>h.low k (aan k hk),self:=?_,map:=hm,each:=?_,files:=hf,good:=hg},aan⟩
 ·simp only[List.nodup_cons,List.mem_cons,not_or]
  exact⟨⟨ac6.1.1,fun e=>ac6.1.2 (abH _ e)⟩,fun e=>ac6.2.1 (abH _ e),hnd⟩
 ·rw[aaz,ab5,agy]
  exact ht.heap h.self (by simp;exact ac6.1.1)
 ·intro x hx
  obtain⟨m,hm1,e1,e2,e3,e4⟩:=hin x hx;have hq:=(h.each m hm1).kept ht (by
   intro k hk e;simp only[List.mem_singleton]at e;subst e;exact ac6.2.1 (List.mem_flatMap.2 ⟨m,hm1,hk⟩))
  unfold gK at hq⊢;rw[e1,e2,e3,e4];exact hq
theorem Lc(pre post:List aF)(m:aF)(hn:((pre++m::post).map (·.abs.name)).Nodup):jZ (pre++m::post) m.abs.name=pre++post:=by
 have h1:∀x∈pre,(!(x.abs.name==m.abs.name))=true:=by
  intro x hx;simp only[List.map_append,List.map_cons,List.nodup_append]at hn;have:=hn.2.2 x.abs.name (List.mem_map.2 ⟨x,hx,rfl⟩) m.abs.name (by simp);simpa using this
 have h2:∀x∈post,(!(x.abs.name==m.abs.name))=true:=by
  intro x hx;simp only[List.map_append,List.map_cons,List.nodup_append,List.nodup_cons]at hn;have:x.abs.name≠m.abs.name:=fun e=>hn.2.1.1 (by rw[←e];exact List.mem_map.2 ⟨x,hx,rfl⟩)
  simpa using this
 unfold jZ;rw[List.filter_append,List.filter_cons];simp only[beq_self_eq_true,Bool.not_true,Bool.false_eq_true,if_false];rw[List.filter_eq_self.2 h1,List.filter_eq_self.2 h2]
def dm(l:List FA)(nm:List UInt8):List FA:=l.filter (fun f=> !(f.name==nm))
theorem DN(ms:List aF)(nm:List UInt8):(jZ ms nm).map (·.abs)=dm (ms.map (·.abs)) nm:=by
 unfold jZ dm;rw[List.filter_map];rfl
theorem Ji{l l':List FA}(h:l.Sublist l'):aH l≤aH l':=by
 unfold aH;induction h with
 |slnil=>exact Nat.le_refl _
 |cons a _ ih=>simp only[List.map_cons,List.sum_cons];omega
 |cons_cons a _ ih=>simp only[List.map_cons,List.sum_cons];omega
theorem Good.sub(h:Good A){l:List FA}(hs:l.Sublist A.files):Good {A with files:=l} where
 room:=h.room
 used:=Nat.le_trans (Ji hs) h.used
 count:=Nat.le_trans hs.length_le h.count
 names:=(hs.map _).nodup h.names
 short:=fun f hf=>h.short f (hs.subset hf)
 safe:=fun f hf=>h.safe f (hs.subset hf)
 left:=h.left
def DA.remove(A:DA)(nm:List UInt8):Int×DA:=
 if A.fails then(14,A)
 else if !A.has nm then(7,A.tick)
 else(0,{A.tick with files:=dm A.files nm})
theorem kN(h:Parts w base d F A aI ms)(s:ByteArray)(hs:s.size≤maxLen):
 Calls Tryz.prog 39 #[.pointer (some ⟨d,0,none⟩), .string s] w fun e w'=>e= .returned (aC (A.remove s.data.toList).1)∧dA w w' base d F (A.remove s.data.toList).2:=by
 have H:Hid (Parts w base d F A aI ms):=h;have hdF:=h.iT;have aaP:=wG h s.data.toList;clear h;cases hf:A.fails
 case true=>
  have HV:Hid (A.remove s.data.toList=(14,A)):=by show _=_;simp[DA.remove,hf]
  have HF:Hid (A.fails=true):=hf;clear hf aaP;go_enter Tryz.func39,Tryz.ntmps39
  go_wp2_with (go_at_call 69;refine(jL H.out HF.out _).mono ?_;rintro e w' ⟨rfl,rfl⟩;unfold bQ)
  go_ret
  exact⟨by rw[HV.out];rfl,by rw[HV.out];exact dA.none H.out⟩
 case false=>
  have HF:Hid (A.fails=false):=hf;cases hm:bW ms s.data.toList with
  |none=>
   have HV:Hid (A.remove s.data.toList=(7,A.tick)):=by show _=_;simp[DA.remove,hf,aaP,hm]
   have HM:Hid (bW ms s.data.toList=none):=hm;clear hf aaP hm;go_enter Tryz.func39,Tryz.ntmps39
   go_wp2_with (go_at_call 69;refine(dW H.out HF.out _ hs _ HM.out).mono ?_;rintro e w1 ⟨rfl,hp,ht⟩;simp only[o6];unfold bQ)
   go_ret
   exact⟨by rw[HV.out];rfl,by rw[HV.out];exact dA.tick hp hdF ht⟩
  |some m=>
   have HV:Hid (A.remove s.data.toList=(0,{A.tick with files:=dm A.files s.data.toList})):=by show _=_;simp[DA.remove,hf,aaP,hm]
   have HM:Hid (bW ms s.data.toList=some m):=hm;have HN:Hid ((ms.map (·.abs.name)).Nodup):=H.out.names;clear hf aaP;cases aI with
   |none=>
    have hms:ms=[]:=H.out.map;subst hms;simp[bW]at hm
   |some mb=>
    clear hm;go_enter Tryz.func39,Tryz.ntmps39
    go_wp2_with fail
    refine(dW H.out HF.out _ hs _ HM.out).mono ?_;rintro e w1 ⟨rfl,hp,ht⟩;simp only[o6];have c1:=hp.c1;have HP:Hid (Parts w1 base d F A.tick (some mb) ms):=hp;clear hp;obtain⟨D,aau,hrd⟩:=HP.out.map;have HR:Hid (Reads D ms):=hrd;clear hrd;go_wp2_with (at_delete;refine wpList_delete_own _ rfl _ _ 46 9 rfl 96 law Tryz.underlying46 qY mb ms.length D rfl aau _ _ rfl (keyS hs) ?_;intro w2 afv hgr2)
    go_ret
    have ht2:Turn [mb] w1 w2:=(Turn.refl [mb] w1).grown hgr2.grown (by intro k hk;cases hk;simp);have aem:=HR.out.del HN.out (aau.tidy law) s.data.toList;have akK:MapAt w2 (some mb) (jZ ms s.data.toList):=⟨_,by have:=uJ afv;rw[aem.1]at this;exact this,aem⟩;have abH:(jZ ms s.data.toList).Sublist ms:=List.filter_sublist;have hfl:A.tick.files=ms.map (·.abs):=HP.out.files;have ac6:(ms.flatMap aF.foot).Nodup:=by
     have:=HP.out.nodup;rw[HP.out.foot,List.nodup_cons,List.nodup_append]at this;exact this.2.2.1
    have hP:=HP.out.RP (A':={A.tick with files:=dm A.files s.data.toList}) ht2 akK (fun x hx=>⟨x,abH.subset hx,rfl,rfl,rfl,rfl⟩) ((Jh abH).nodup ac6) rfl rfl rfl
     (by rw[DN,←hfl,di]) (by have:=HP.out.good.sub (l:=dm A.files s.data.toList) (by rw[di];exact List.filter_sublist);exact this)
    refine⟨by rw[HV.out];rfl,?_⟩;rw[HV.out];exact⟨_,⟨_,_,hP.1⟩,(ht.mono (by simpa using .inl hdF)).trans ht2 (by simpa using .inl (HP.out.mem_map rfl)),fun k hk=> .inl (hP.2 k hk)⟩
def DA.rename(A:DA)(nm:List UInt8)(tn:ByteArray):Int×DA:=
 if A.fails then(14,A)
 else match A.file nm with
  |none=>(7,A.tick)
  |some f=>if !nameB tn then(5,A.tick)else(0,{A.tick with files:=dm (dm A.files nm) tn.data.toList++[{f with name:=tn.data.toList}]})
theorem Ld{X o Y Z:List Nat}(h:(X++(o++Y)).Nodup)(hz:Z.Sublist (X++Y)):(Z++o).Nodup:=by
 have h1:((X++Y)++o).Nodup:=by
  refine(List.Perm.nodup_iff ?_).1 h;rw[List.append_assoc];exact List.Perm.append_left X List.perm_append_comm
 rw[List.nodup_append]at h1⊢;exact⟨hz.nodup h1.1,h1.2.1,fun a ha b hb=>h1.2.2 a (hz.subset ha) b hb⟩
theorem Le(h:Parts w base d F A aI ms)(s:ByteArray)(hs:s.size≤maxLen)(s2:ByteArray)(hs2:s2.size≤maxLen):
 Calls Tryz.prog 178 #[.pointer (some ⟨d,0,none⟩), .string s, .string s2] w fun e w'=>e= .returned (aC (A.rename s.data.toList s2).1)∧dA w w' base d F (A.rename s.data.toList s2).2:=by
 have H:Hid (Parts w base d F A aI ms):=h;have hdF:=h.iT;have xh:=uj h s.data.toList;clear h;cases hf:A.fails
 case true=>
  have HV:Hid (A.rename s.data.toList s2=(14,A)):=by show _=_;simp[DA.rename,hf]
  have HF:Hid (A.fails=true):=hf;clear hf xh;go_enter Tryz.func178,Tryz.ntmps178
  go_wp2_with (go_at_call 69;refine(jL H.out HF.out _).mono ?_;rintro e w' ⟨rfl,rfl⟩;unfold bQ)
  go_ret
  exact⟨by rw[HV.out];rfl,by rw[HV.out];exact dA.none H.out⟩
 case false=>
  have HF:Hid (A.fails=false):=hf;cases hm:bW ms s.data.toList with
  |none=>
   have HV:Hid (A.rename s.data.toList s2=(7,A.tick)):=by show _=_;simp[DA.rename,hf,xh,hm]
   have HM:Hid (bW ms s.data.toList=none):=hm;clear hf xh hm;go_enter Tryz.func178,Tryz.ntmps178
   go_wp2_with (go_at_call 69;refine(dW H.out HF.out _ hs _ HM.out).mono ?_;rintro e w1 ⟨rfl,hp,ht⟩;simp only[o6];unfold bQ)
   go_ret
   exact⟨by rw[HV.out];rfl,by rw[HV.out];exact dA.tick hp hdF ht⟩
  |some m=>
   have HM:Hid (bW ms s.data.toList=some m):=hm;cases hb:nameB s2
   case false=>
    have HV:Hid (A.rename s.data.toList s2=(5,A.tick)):=by show _=_;simp[DA.rename,hf,xh,hm,hb]
    clear hf xh hm;go_enter Tryz.func178,Tryz.ntmps178
    go_wp2_with fail
    refine(dW H.out HF.out _ hs _ HM.out).mono ?_;rintro e w1 ⟨rfl,hp,ht⟩;simp only[o6];go_wp2_with (go_at_call 152;refine(kJ _ _ hs2).mono ?_;rintro e w' ⟨rfl,rfl⟩)
    go_ret
    exact⟨by rw[HV.out];rfl,by rw[HV.out];exact dA.tick hp hdF ht⟩
   case true=>
    have HV:Hid (A.rename s.data.toList s2=(0,{A.tick with files:=dm (dm A.files s.data.toList) s2.data.toList++[{m.abs with name:=s2.data.toList}]})):=by show _=_;simp[DA.rename,hf,xh,hm,hb]
    have HN:Hid ((ms.map (·.abs.name)).Nodup):=H.out.names;clear hf xh;cases aI with
    |none=>
     have hms:ms=[]:=H.out.map;subst hms;simp[bW]at hm
    |some mb=>
     clear hm;go_enter Tryz.func178,Tryz.ntmps178
     go_wp2_with fail
     refine(dW H.out HF.out _ hs _ HM.out).mono ?_;rintro e w1 ⟨rfl,hp,ht⟩;simp only[o6];have c1:=hp.c1;have HP:Hid (Parts w1 base d F A.tick (some mb) ms):=hp;have hnd:=hp.nodup;rw[hp.foot]at hnd;have hdm:d∉[mb]:=by
      simp only[Option.toList_some,List.cons_append,List.nil_append,List.nodup_cons,List.mem_cons,not_or]at hnd;simp only[List.mem_singleton];exact hnd.1.1
     have HD:Hid (d∉[mb]):=hdm;clear hp hnd hdm;obtain⟨D,aau,hrd⟩:=HP.out.map;have HR:Hid (Reads D ms):=hrd;have hsm:=HP.out.good.count;rw[HP.out.files,List.length_map]at hsm;clear hrd;go_wp2_with (first|(go_at_call 152;refine(kJ _ _ hs2).mono ?_;rintro e w' ⟨rfl,rfl⟩)|(at_delete;refine wpList_delete_own _ rfl _ _ 46 9 rfl 96 law Tryz.underlying46 qY mb ms.length D rfl aau _ _ rfl (keyS hs) ?_;intro w2 afv hgr2;have c12:=cell_of ((Turn.grown (Turn.refl [mb] _) hgr2.grown (by intro k hk;cases hk;simp)).heap HP.out.self HD.out) 1;simp only[List.getElem?_toArray,List.getElem?_cons_succ,List.getElem?_cons_zero]at c12))
     obtain⟨w3,acY,ho3,aoA⟩:=afv.store law Tryz.underlying46 (by simp only[maxLen];omega) (keyS hs2) (val:= .pointer (some ⟨m.blk,0, .none⟩)) (d:= .lit (.int .i64 (m.blk:Int))) (ps:=[]) rfl;rw[acY];simp only[Result.andThen];rw[Oper.upon_skip];go_wp2
     go_ret
     have ht2:=(Turn.refl [mb] _).grown hgr2.grown (by intro k hk;cases hk;simp);have ht3:=(Turn.refl [mb] w2).grown aoA.grown (by intro k hk;cases hk;simp);have akL:=ht2.same ht3;have aem:=HR.out.del HN.out (aau.tidy law) s.data.toList;obtain⟨pre,post,rfl,hnm⟩:=qp HM.out;have hds:jZ (pre++m::post) s.data.toList=pre++post:=by rw[←hnm];exact Lc pre post m HN.out
     rw[hds]at aem;have Y5:((pre++post).map (·.abs.name)).Nodup:=by
      refine(List.Sublist.map _ ?_).nodup HN.out;exact List.Sublist.append (List.Sublist.refl _) (List.sublist_cons_self _ _)
     have ahH:=aem.put Y5 (afv.tidy law) ⟨{m.abs with name:=s2.data.toList},m.blk,m.sl⟩;obtain⟨Z,hZ⟩:∃Z,Z=jZ (pre++post) s2.data.toList:=⟨_,rfl⟩;simp only at ahH;rw[←hZ]at ahH;have hZs:Z.Sublist (pre++post):=by rw[hZ];exact List.filter_sublist
     have akN:MapAt w3 (some mb) (Z++[⟨{m.abs with name:=s2.data.toList},m.blk,m.sl⟩]):=⟨_,by have:=uJ ho3;rw[ahH.1]at this;exact this,ahH⟩;have hfl:A.tick.files=(pre++m::post).map (·.abs):=HP.out.files;have Y6:(Z++[(⟨{m.abs with name:=s2.data.toList},m.blk,m.sl⟩:aF)]).flatMap aF.foot=Z.flatMap aF.foot++m.foot:=by
      rw[List.flatMap_append];simp[aF.foot]
     have ac6:((Z++[(⟨{m.abs with name:=s2.data.toList},m.blk,m.sl⟩:aF)]).flatMap aF.foot).Nodup:=by
      rw[Y6];have:=HP.out.nodup;rw[HP.out.foot,List.nodup_cons,List.nodup_append]at this;have h1:=this.2.2.1;rw[List.flatMap_append,List.flatMap_cons]at h1;refine Ld h1 ?_;rw[←List.flatMap_append];exact Jh hZs
     have aaw:dm (dm A.files s.data.toList) s2.data.toList=Z.map (·.abs):=by
      rw[hZ,DN,←hds,DN,←hfl,di]
     have hA':(dm (dm A.files s.data.toList) s2.data.toList++[{m.abs with name:=s2.data.toList}])=(Z++[(⟨{m.abs with name:=s2.data.toList},m.blk,m.sl⟩:aF)]).map (·.abs):=by rw[aaw];simp
     have RQ:∀x∈Z,x∈pre++m::post:=fun x hx=>by
      have:=hZs.subset hx;simp only[List.mem_append,List.mem_cons]at this⊢;rcases this with h|h
      ·exact .inl h
      ·exact .inr (.inr h)
     have hg:=HP.out.good;have hsz:s2.size≤40:=by
      simp only[nameB,Bool.and_eq_true,decide_eq_true_eq]at hb;exact hb.2.2
     have abj:Good {A.tick with files:=dm (dm A.files s.data.toList) s2.data.toList++[{m.abs with name:=s2.data.toList}]}:=by
      refine {room:=hg.room,used:=?_,count:=?_,names:=?_,short:=?_,safe:=?_,left:=hg.left}
      ·have h1:=hg.used
       rw[hfl,List.map_append,List.map_cons,iD]at h1;have h2:=Ji (List.Sublist.map (fun x:aF=>x.abs) hZs);rw[List.map_append]at h2;rw[aaw,iD];have h3:aH (pre.map (fun x:aF=>x.abs)++post.map (fun x:aF=>x.abs))=aH (pre.map (fun x:aF=>x.abs))+aH (post.map (fun x:aF=>x.abs)):=by simp[aH,List.sum_append]
       have h4:aH ([]:List FA)=0:=rfl;show aH (Z.map (fun x:aF=>x.abs))+m.abs.bytes.length+aH []≤A.tick.room;omega
      ·have h1:=hg.count
       rw[hfl]at h1;have h2:=hZs.length_le;rw[aaw];simp only[List.length_append,List.length_map,List.length_cons,List.length_nil]at h1 h2⊢;omega
      ·rw[aaw,List.map_append,List.map_cons,List.map_nil,List.nodup_append]
       refine⟨?_,by simp,?_⟩
       ·rw[List.map_map]
        exact(List.Sublist.map _ hZs).nodup Y5
       ·intro a ha b hb e
        simp only[List.mem_singleton]at hb;rw[hb]at e;rw[List.map_map]at ha;obtain⟨x,hx,e2⟩:=List.mem_map.1 ha;rw[hZ]at hx;have:=(List.mem_filter.1 hx).2;simp only[Function.comp_def]at e2;rw[e2,e]at this;simp at this
      ·intro f hf
       rw[hA']at hf;obtain⟨x,hx,rfl⟩:=List.mem_map.1 hf;rcases List.mem_append.1 hx with hx|hx
       ·exact hg.short _ (by rw[hfl];exact List.mem_map.2 ⟨x,RQ x hx,rfl⟩)
       ·simp only[List.mem_singleton]at hx
        subst hx;simpa using hsz
      ·intro f hf
       rw[hA']at hf;obtain⟨x,hx,rfl⟩:=List.mem_map.1 hf;rcases List.mem_append.1 hx with hx|hx
       ·exact hg.safe _ (by rw[hfl];exact List.mem_map.2 ⟨x,RQ x hx,rfl⟩)
       ·simp only[List.mem_singleton]at hx
        subst hx;exact hg.safe m.abs (by rw[hfl];simp)
     have hP:=HP.out.RP (ms':=Z++[⟨{m.abs with name:=s2.data.toList},m.blk,m.sl⟩]) (A':={A.tick with files:=dm (dm A.files s.data.toList) s2.data.toList++[{m.abs with name:=s2.data.toList}]}) akL akN
      (fun x hx=>by
        rcases List.mem_append.1 hx with hx|hx
        ·exact⟨x,RQ x hx,rfl,rfl,rfl,rfl⟩
        ·simp only[List.mem_singleton]at hx
         subst hx;exact⟨m,by simp,rfl,rfl,rfl,rfl⟩) ac6 rfl rfl rfl hA' abj
     refine⟨by rw[HV.out];rfl,?_⟩;rw[HV.out];exact⟨_,⟨_,_,hP.1⟩,(ht.mono (by simpa using .inl hdF)).trans akL (by simpa using .inl (HP.out.mem_map rfl)),fun k hk=> .inl (hP.2 k hk)⟩
end
end Dk
end
section
open Go.RowKit Go.Maps
set_option maxRecDepth 100000
set_option linter.unusedSimpArgs false
set_option linter.unusedVariables false
attribute [local go_sem] Oper.semAt_some
open Dk (DA aj Parts dA aC bQ)
namespace Sg
theorem ry{w w1 w':World}{base d:Nat}{F:List Nat}{A':DA}(ht:Turn [] w w1)(h:dA w1 w' base d F A'):dA w w' base d F A':=by
 obtain⟨F',hd,ht2,hf⟩:=h;exact⟨F',hd,(ht.mono (T:=F) (by simp)).same ht2,fun k hk=>(hf k hk).imp_right (Nat.le_trans ht.size)⟩
theorem Both.did{w w':World}{base d sb:Nat}{F:List Nat}{A A':DA}{sv:Value}{file:ByteArray}{b0:Int}{ps:List Pl}(h:Both w base d F A sb sv file b0 ps)(hd:dA w w' base d F A'):Came w w' base d F A' sb sv file b0 ps:=by
 obtain⟨F',hd,ht,hf⟩:=hd;exact⟨F',sv,⟨hd,h.jh.kept ht h.sep,fun k hk hm=>(hf k hm).elim (h.sep k hk) (fun h'=>by have:=(h.jh.lt k hk).2;omega)⟩,ht.mono (fun k hk=> .inl (List.mem_append_left _ hk)),hf,fun _ hk=> .inl hk⟩
theorem ku(w:World)(base d:Nat)(F:List Nat)(A:DA)(sb:Nat)(sv:Value)(file:ByteArray)(b0:Int)(ps:List Pl)(h:Both w base d F A sb sv file b0 ps)(hfs:file.size≤maxLen):
 Calls Tryz.prog 42 #[.pointer (some ⟨sb,0,none⟩)] w fun e w'=>e= .returned (aC (A.sync file.data.toList).1)∧dA w w' base d F (A.sync file.data.toList).2:=by
 have HB:=hide h;have hsb:=lt_of_heap h.jh.box;clear h;go_enter Tryz.func42,Tryz.ntmps42
 go_wp2
 refine gU 8 [] (by kernel_rfl) rfl ?_;apply Lo.r0 1 rfl 0 (by intro u;conv=>lhs;whnf) rfl
 ·intro a w1 hR e0 K hK
  go_simp
  exact hK _ rfl
 apply Lo.r1 2 rfl 3 0 (fun _=>rfl) rfl (by kernel_rfl)
 ·intro a w1 hR e3 K hK
  go_simp
  exact hK _ rfl
 apply Lo.r1 3 rfl 4 1 (fun _=>rfl) rfl (by kernel_rfl)
 ·intro a w1 hR e4 K hK
  go_simp
  exact hK _ rfl
 apply Lo.r1 4 rfl 5 2 (fun _=>rfl) rfl (by kernel_rfl)
 ·intro a w1 hR e5 K hK
  have hS:=HB.out.jh.still hR.dr;have c0:=hS.c0;have z1:=lt_of_heap hS.box;go_simp
  exact hK _ rfl
 apply Lo.r0 5 rfl 0 (by intro u;conv=>lhs;whnf) rfl
 ·intro a w1 hR e0 K hK
  go_simp
  exact hK _ rfl
 apply Lo.r1 6 rfl 7 4 (fun _=>rfl) rfl (by kernel_rfl)
 ·intro a w1 hR e7 K hK
  go_simp
  exact hK _ rfl
 apply Lo.r1 7 rfl 8 5 (fun _=>rfl) rfl (by kernel_rfl)
 ·intro a w1 hR e8 K hK
  go_simp
  exact hK _ rfl
 apply Lo.r1 8 rfl 9 6 (fun _=>rfl) rfl (by kernel_rfl)
 ·intro a w1 hR e9 K hK
  have hS:=HB.out.jh.still hR.dr;have c1:=hS.c1;have z1:=lt_of_heap hS.box;go_simp
  exact hK _ rfl
 refine Lo.done [3,7] (fun u w1 bI hSd hF=>?_);clear hSd;obtain⟨f3,f7, -⟩:=hF;have d3:u 3=_:=f3;have d7:u 7=_:=f7;clear f3 f7;simp only[List.take_succ_cons,List.take_zero,List.drop_succ_cons,List.drop_zero,ax,Act.put,List.setIfInBounds_toArray,List.set_cons_succ,List.set_cons_zero,Nat.zero_add,Nat.reduceAdd,d3,d7];have HT:=hide bI.dr;clear d3 d7 bI;go_wp2_with fail
 obtain⟨aI,ms,hp⟩:=HB.out.disk.kept HT.out (by simp);refine(Dk.ku hp file hfs).mono ?_;rintro e w2 ⟨rfl,hd⟩;obtain⟨r,hr⟩:∃r,r=aC (A.sync file.data.toList).1:=⟨_,rfl⟩;rw[←hr];have HR:=hide hr;have HD:=hide hd;clear hr hd hp;go_wp2
 go_ret
 rw[HR.out];exact⟨rfl,ry HT.out HD.out⟩
theorem kN(w:World)(base d:Nat)(F:List Nat)(A:DA)(sb:Nat)(sv:Value)(file:ByteArray)(b0:Int)(ps:List Pl)(h:Both w base d F A sb sv file b0 ps)(hfs:file.size≤maxLen):
 Calls Tryz.prog 73 #[.pointer (some ⟨sb,0,none⟩)] w fun e w'=>e= .returned (aC (A.remove file.data.toList).1)∧dA w w' base d F (A.remove file.data.toList).2:=by
 have HB:=hide h;have hsb:=lt_of_heap h.jh.box;clear h;go_enter Tryz.func73,Tryz.ntmps73
 go_wp2
 refine gU 8 [] (by kernel_rfl) rfl ?_;apply Lo.r0 1 rfl 0 (by intro u;conv=>lhs;whnf) rfl
 ·intro a w1 hR e0 K hK
  go_simp
  exact hK _ rfl
 apply Lo.r1 2 rfl 3 0 (fun _=>rfl) rfl (by kernel_rfl)
 ·intro a w1 hR e3 K hK
  go_simp
  exact hK _ rfl
 apply Lo.r1 3 rfl 4 1 (fun _=>rfl) rfl (by kernel_rfl)
 ·intro a w1 hR e4 K hK
  go_simp
  exact hK _ rfl
 apply Lo.r1 4 rfl 5 2 (fun _=>rfl) rfl (by kernel_rfl)
 ·intro a w1 hR e5 K hK
  have hS:=HB.out.jh.still hR.dr;have c0:=hS.c0;have z1:=lt_of_heap hS.box;go_simp
  exact hK _ rfl
 apply Lo.r0 5 rfl 0 (by intro u;conv=>lhs;whnf) rfl
 ·intro a w1 hR e0 K hK
  go_simp
  exact hK _ rfl
 apply Lo.r1 6 rfl 7 4 (fun _=>rfl) rfl (by kernel_rfl)
 ·intro a w1 hR e7 K hK
  go_simp
  exact hK _ rfl
 apply Lo.r1 7 rfl 8 5 (fun _=>rfl) rfl (by kernel_rfl)
 ·intro a w1 hR e8 K hK
  go_simp
  exact hK _ rfl
 apply Lo.r1 8 rfl 9 6 (fun _=>rfl) rfl (by kernel_rfl)
 ·intro a w1 hR e9 K hK
  have hS:=HB.out.jh.still hR.dr;have c1:=hS.c1;have z1:=lt_of_heap hS.box;go_simp
  exact hK _ rfl
 refine Lo.done [3,7] (fun u w1 bI hSd hF=>?_);clear hSd;obtain⟨f3,f7, -⟩:=hF;have d3:u 3=_:=f3;have d7:u 7=_:=f7;clear f3 f7;simp only[List.take_succ_cons,List.take_zero,List.drop_succ_cons,List.drop_zero,ax,Act.put,List.setIfInBounds_toArray,List.set_cons_succ,List.set_cons_zero,Nat.zero_add,Nat.reduceAdd,d3,d7];have HT:=hide bI.dr;clear d3 d7 bI;go_wp2_with fail
 obtain⟨aI,ms,hp⟩:=HB.out.disk.kept HT.out (by simp);refine(Dk.kN hp file hfs).mono ?_;rintro e w2 ⟨rfl,hd⟩;obtain⟨r,hr⟩:∃r,r=aC (A.remove file.data.toList).1:=⟨_,rfl⟩;rw[←hr];have HR:=hide hr;have HD:=hide hd;clear hr hd hp;go_wp2
 go_ret
 rw[HR.out];exact⟨rfl,ry HT.out HD.out⟩
end Sg
end
section
open Go.RowKit Go.Maps
set_option maxRecDepth 100000
set_option linter.unusedSimpArgs false
set_option linter.unusedVariables false
attribute [local go_sem] Oper.semAt_some
open Dk (DA aj Parts dA aC bQ)
open Sg (aS aA dV Both Came ae)
namespace Lg
def SM.abs(m:SM):Nat×List Bt.aB:=(m.n,m.xs)
def ig(w w':World)(base d:Nat)(G:List Nat)(A':DA)(lb:Nat)(dir:ByteArray)(v':LV)(ss':List (Nat×List Bt.aB)):Prop:=
 ∃F' gv' ms',az w' base d F' A' lb gv' dir v' ms'∧ms'.map SM.abs=ss'∧Turn G w w'∧∀k∈aJ F' lb gv' ms',k∈G∨w.heap.size≤k
section
variable {w w' w1:World} {base d lb:Nat} {F G:List Nat} {A A':DA} {gv:Value} {dir:ByteArray} {v v':LV} {ms ms0 ms1:List SM} {m:SM} {ss':List (Nat×List Bt.aB)}
theorem ig.before(ht:Turn [] w w1)(h:ig w1 w' base d G A' lb dir v' ss'):ig w w' base d G A' lb dir v' ss':=by
 obtain⟨F',gv',ms',hl,hm,ht2,hf⟩:=h;exact⟨F',gv',ms',hl,hm,(ht.mono (T:=G) (by simp)).same ht2,fun k hk=>(hf k hk).imp_right (Nat.le_trans ht.size)⟩
theorem az.quiet(h:az w base d F A lb gv dir v ms)(ht:Turn [] w w'):ig w w' base d (aJ F lb gv ms) A lb dir v (ms.map SM.abs):=
 ⟨F,gv,ms,h.still ht,rfl,ht.mono (by simp),fun _ hk=> .inl hk⟩
theorem az.did(h:az w base d F A lb gv dir v ms)(hd:dA w w' base d F A'):ig w w' base d (aJ F lb gv ms) A' lb dir v (ms.map SM.abs):=by
 obtain⟨F',hd,ht,hf⟩:=hd;refine⟨F',gv,ms,⟨hd,ht.heap h.box h.vk,h.row.kept ht h.O8,h.low,fun m hm=>(h.jo m hm).kept ht (Jg h.disk (h.jo m hm)),h.apart⟩,rfl,ht.mono (fun k hk=> .inl (ay.2 (.inr (.inr (.inr hk))))),fun k hk=>?_⟩;rcases ay.1 hk with h1|h1|h1|h1
 ·exact .inl (ay.2 (.inl h1))
 ·exact .inl (ay.2 (.inr (.inl h1)))
 ·exact .inl (ay.2 (.inr (.inr (.inl h1))))
 ·rcases hf k h1 with h2|h2
  ·exact .inl (ay.2 (.inr (.inr (.inr h2))))
  ·exact .inr h2
theorem az.came{xs':List Bt.aB}(h:az w base d F A lb gv dir v (ms0++m::ms1))(hc:Came w w' base d F A' m.sb m.sv (Sn.nameB dir m.n) m.n (dV 0 (-1) xs')):
 ig w w' base d (aJ F lb gv (ms0++m::ms1)) A' lb dir v (ms0.map SM.abs++(m.n,xs')::ms1.map SM.abs):=by
 obtain⟨F',sv',hl,ht,hf⟩:=h.back hc;refine⟨F',gv,_,hl,by simp[SM.abs],ht.mono (fun k hk=> .inl ?_),hf⟩;rcases List.mem_append.1 hk with h1|h1
 ·exact ay.2 (.inr (.inr (.inr h1)))
 ·exact ay.2 (.inr (.inr (.inl ⟨m,by simp,h1⟩)))
theorem az.xK{i:Nat}{u:Value}{v':LV}(h:az w base d F A lb gv dir v ms)(hc:(KZ d dir gv v).setIfInBounds i u=KZ d dir gv v'):az (w.setCell ⟨lb,i,none⟩ u) base d F A lb gv dir v' ms:=by
 have ht:Turn [lb] w (w.setCell ⟨lb,i,none⟩ u):=(Turn.refl _ _).setCell (.inl (by simp)) _;refine⟨h.disk.kept ht (fun k hk hm=>?_),?_,h.row.kept ht (fun k hk hm=>?_),h.low,fun m hm=>(h.jo m hm).kept ht (fun k hk hm'=>?_),h.apart⟩
 ·obtain rfl:=List.mem_singleton.1 hm;exact h.vk hk
 ·rw[heap_set h.box,hc]
 ·obtain rfl:=List.mem_singleton.1 hm;exact h.Fq hk
 ·obtain rfl:=List.mem_singleton.1 hm';exact h.GR hm hk
end
theorem dB{α β:Type}{f:α→β}{l:List α}{r:List β}{b:β}(h:l.map f=r++[b]):∃l0 a,l=l0++[a]∧l0.map f=r∧f a=b:=by
 obtain⟨l0,l1,rfl,h1,h2⟩:=List.map_eq_append_iff.1 h;obtain⟨a,l2,rfl,h3,h4⟩:=List.map_eq_cons_iff.1 h2;obtain rfl:=List.map_eq_nil_iff.1 h4;exact⟨l0,a,rfl,h1,h3⟩
theorem last_any(w:World)(base d:Nat)(F:List Nat)(A:DA)(lb:Nat)(gv:Value)(dir:ByteArray)(v:LV)(ms0:List SM)(m:SM)(h:az w base d F A lb gv dir v (ms0++[m]))(hl:ms0.length≤1000000):
 Calls Tryz.prog 34 #[.pointer (some ⟨lb,0,none⟩)] w fun e w'=>e= .returned (.pointer (some ⟨m.sb,0,none⟩))∧Turn [] w w':=by
 obtain⟨g,cap,hgv,hc, -⟩:=h.row.at fJ (j:=ms0.length) (by simp);subst hgv;have H:=hide h;clear h hc;have hlb:=lt_of_heap H.out.box;go_enter Tryz.func34,Tryz.ntmps34
 go_wp2
 refine gU 12 [] (by kernel_rfl) rfl ?_;apply Lo.r0 1 rfl 0 (by intro u;conv=>lhs;whnf) rfl
 ·intro a w1 hR e0 K hK
  go_simp
  exact hK _ rfl
 apply Lo.r1 2 rfl 3 0 (fun _=>rfl) rfl (by kernel_rfl)
 ·intro a w1 hR e3 K hK
  go_simp
  exact hK _ rfl
 apply Lo.r1 3 rfl 4 1 (fun _=>rfl) rfl (by kernel_rfl)
 ·intro a w1 hR e4 K hK
  go_simp
  exact hK _ rfl
 refine Lo.df 4 rfl rfl [2] (.slice (some ⟨g,0,none⟩) (ms0.length+1) cap) (by kernel_rfl) (fun u w1 hR hF=>?_) (Turn.refl _) ?_
 ·obtain⟨h2, -⟩:=hF
  refine⟨rfl,fun a ha K hK=>?_⟩;have e5:=(ha 5).trans h2;clear ha h2;have hL:=H.out.still hR.dr;have c3:=hL.c3;have z1:=lt_of_heap hL.box;rw[List.length_append,List.length_singleton]at c3;go_simp
  exact hK _ rfl
 apply Lo.r0 5 rfl 0 (by intro u;conv=>lhs;whnf) rfl
 ·intro a w1 hR e0 K hK
  go_simp
  exact hK _ rfl
 apply Lo.r1 6 rfl 7 4 (fun _=>rfl) rfl (by kernel_rfl)
 ·intro a w1 hR e7 K hK
  go_simp
  exact hK _ rfl
 apply Lo.r1 7 rfl 8 5 (fun _=>rfl) rfl (by kernel_rfl)
 ·intro a w1 hR e8 K hK
  go_simp
  exact hK _ rfl
 refine Lo.df 8 rfl rfl [6] (.slice (some ⟨g,0,none⟩) (ms0.length+1) cap) (by kernel_rfl) (fun u w1 hR hF=>?_) (Turn.refl _) ?_
 ·obtain⟨h6, -⟩:=hF
  refine⟨rfl,fun a ha K hK=>?_⟩;have e9:=(ha 9).trans h6;clear ha h6;have hL:=H.out.still hR.dr;have c3:=hL.c3;have z1:=lt_of_heap hL.box;rw[List.length_append,List.length_singleton]at c3;go_simp
  exact hK _ rfl
 apply Lo.r1 9 rfl 10 7 (fun _=>rfl) rfl (by kernel_rfl)
 ·intro a w1 hR e10 K hK
  go_simp
  exact hK _ rfl
 refine Lo.df 10 rfl rfl [8] (.int .i64 (ms0.length:Int)) (by kernel_rfl) (fun u w1 hR hF=>?_) (Turn.refl _) ?_
 ·obtain⟨h8, -⟩:=hF
  refine⟨rfl,fun a ha K hK=>?_⟩;have e11:=(ha 11).trans h8;clear ha h8;go_simp
  refine hK _ ?_;rw[IntWalk.i64_left,IntWalk.wrap64_in _ (by omega)]
 refine Lo.df 11 rfl rfl [3,9] (.pointer (some ⟨g,ms0.length,none⟩)) (by kernel_rfl) (fun u w1 hR hF=>?_) (Turn.refl _) ?_
 ·obtain⟨h3,h9, -⟩:=hF
  refine⟨rfl,fun a ha K hK=>?_⟩;have e6:=(ha 6).trans h3;have e12:=(ha 12).trans h9;clear ha h3 h9;have h10:(ms0.length:Int)<ms0.length+1:=by omega
  go_simp
  exact hK _ rfl
 refine Lo.df 12 rfl rfl [10] (.pointer (some ⟨m.sb,0,none⟩)) (by kernel_rfl) (fun u w1 hR hF=>?_) (Turn.refl _) ?_
 ·obtain⟨h10, -⟩:=hF
  refine⟨rfl,fun a ha K hK=>?_⟩;have e13:=(ha 13).trans h10;clear ha h10;have hL:=H.out.still hR.dr;obtain⟨g',cap',e,hc, -⟩:=hL.row.at fJ (j:=ms0.length) (by simp);simp at e;obtain⟨rfl,rfl⟩:=e;have hc0:w1.cell? ⟨g,ms0.length,none⟩=some (.pointer (some ⟨m.sb,0,none⟩)):=by simpa[DL]using hc 0 (by omega)
  clear hc;go_simp
  exact hK _ rfl
 refine Lo.done [11] (fun u w1 bI hSd hF=>?_);clear hSd;obtain⟨f11, -⟩:=hF;have d11:u 11=_:=f11;clear f11;simp only[List.take_succ_cons,List.take_zero,List.drop_succ_cons,List.drop_zero,ax,Act.put,List.setIfInBounds_toArray,List.set_cons_succ,List.set_cons_zero,Nat.zero_add,Nat.reduceAdd,d11];have HT:=hide bI.dr;clear d11 bI;go_wp2
 go_ret
 exact⟨rfl,HT.out⟩
theorem kD(w:World)(base d:Nat)(F:List Nat)(A:DA)(lb:Nat)(gv:Value)(dir:ByteArray)(v:LV)(ms0:List SM)(m:SM)(h:az w base d F A lb gv dir v (ms0++[m]))(hl:ms0.length≤1000000)(hx:m.xs.length≤1000000):
 Calls Tryz.prog 14 #[.pointer (some ⟨lb,0,none⟩)] w fun e w'=>e= .returned (.int .i64 (ae m.n m.xs))∧Turn [] w w':=by
 have H:=hide h;have hla:=last_any w base d F A lb gv dir v ms0 m h hl;clear h;go_enter Tryz.func14,Tryz.ntmps14
 go_wp2_with fail
 refine hla.mono ?_;rintro e w1 ⟨rfl,ht1⟩;have HT1:=hide ht1;clear ht1 hla;go_wp2_with fail
 refine(Sg.next_any _ base d m.sb m.sv _ m.n _ ((H.out.jo m (by simp)).still HT1.out) (by rw[Sg.gW];exact hx)).mono ?_;rintro e w2 ⟨rfl,ht2⟩;rw[Sg.qy];obtain⟨nx,hnx⟩:∃nx,nx=ae m.n m.xs:=⟨_,rfl⟩;rw[←hnx];have Ey:=hide hnx;have HT2:=hide (HT1.out.same ht2);clear hnx ht2;go_wp2
 go_ret
 rw[←Ey.out];exact⟨rfl,HT2.out⟩
theorem qE(w:World)(base d:Nat)(F:List Nat)(A:DA)(lb:Nat)(gv:Value)(dir:ByteArray)(v:LV)(ms:List SM)(h:az w base d F A lb gv dir v ms):
 Calls Tryz.prog 20 #[.pointer (some ⟨lb,0,none⟩)] w fun e w'=>e= .returned (.int .i64 v.start)∧w=w':=by
 have c4:=h.c4;have hlb:=lt_of_heap h.box;clear h;go_enter Tryz.func20,Tryz.ntmps20
 go_wp2
 go_ret
 exact⟨rfl,rfl⟩
def jH(c:Int)(v:LV)(nx:Int):LV:=if c=0 then {v with safe:=nx}else v
theorem ku(w:World)(base d:Nat)(F:List Nat)(A:DA)(lb:Nat)(gv:Value)(dir:ByteArray)(v:LV)(ms0:List SM)(m:SM)(h:az w base d F A lb gv dir v (ms0++[m]))(hl:ms0.length≤1000000)(hx:m.xs.length≤1000000)(hfs:(Sn.nameB dir m.n).size≤maxLen):
 Calls Tryz.prog 17 #[.pointer (some ⟨lb,0,none⟩)] w fun e w'=>e= .returned (aC (A.sync (Sn.nameB dir m.n).data.toList).1)∧
  ig w w' base d (aJ F lb gv (ms0++[m])) (A.sync (Sn.nameB dir m.n).data.toList).2 lb dir (jH (A.sync (Sn.nameB dir m.n).data.toList).1 v (ae m.n m.xs)) ((ms0++[m]).map SM.abs):=by
 have H:=hide h;have hla:=last_any w base d F A lb gv dir v ms0 m h hl;clear h;go_enter Tryz.func17,Tryz.ntmps17
 go_wp2_with fail
 refine hla.mono ?_;rintro e w1 ⟨rfl,ht1⟩;have HT1:=hide ht1;clear ht1 hla;go_wp2_with fail
 refine(Sg.ku _ base d F A m.sb m.sv _ m.n _ ((H.out.still HT1.out).both (by simp)) hfs).mono ?_;rintro e w2 ⟨rfl,hd⟩;obtain⟨c,hc⟩:∃c,c=(A.sync (Sn.nameB dir m.n).data.toList).1:=⟨_,rfl⟩;obtain⟨A2,hA2⟩:∃A2,A2=(A.sync (Sn.nameB dir m.n).data.toList).2:=⟨_,rfl⟩;rw[←hA2]at hd;rw[←hc];have OL:=hide hc;have WC:=hide hA2;obtain⟨F2,gv2,ms2,hl2,hm2,ht2,hf2⟩:=((H.out.still HT1.out).did hd).before HT1.out;rw[List.map_append,List.map_singleton]at hm2;obtain⟨ms20,m2,rfl,ab8,lL⟩:=dB hm2;have ai2:=kD w2 base d F2 A2 lb gv2 dir v ms20 m2 hl2 (by rw[←List.length_map (f:=SM.abs),ab8,List.length_map];exact hl) (by have:m2.xs=m.xs:=congrArg Prod.snd lL;rw[this];exact hx);have e1:ae m2.n m2.xs=ae m.n m.xs:=by
  have h1:m2.n=m.n:=congrArg Prod.fst lL;have h2:m2.xs=m.xs:=congrArg Prod.snd lL;rw[h1,h2]
 rw[e1]at ai2;have HL2:=hide hl2;have WX:=hide ai2;have HM2:=hide hm2;have HT2:=hide ht2;have HF2:=hide hf2;clear hd hc hA2 hl2 hm2 ht2 hf2 ai2 ab8 lL e1;by_cases hc0:c=0
 ·have hr0:aC c= .nilIface:=by rw[hc0];rfl
  have HC0:=hide hc0;rw[hr0];clear hr0 hc0;go_wp2_with fail
  refine WX.out.mono ?_;rintro e w3 ⟨rfl,ht3⟩;obtain⟨nx,hnx⟩:∃nx,nx=ae m.n m.xs:=⟨_,rfl⟩;rw[←hnx];have hl3:=HL2.out.still ht3;have c5:=hl3.c5;have fr:=hl3.fr 5;have hlb:=lt_of_heap hl3.box;have HL3:=hide hl3;have HT3:=hide ht3;have Ey:=hide hnx;clear ht3 hl3 hnx WX;go_wp2
  go_ret
  have e:aC c= .nilIface:=by rw[HC0.out];rfl
  have hs:jH c v nx={v with safe:=nx}:=by unfold jH;rw[if_pos HC0.out]
  rw[←WC.out,←OL.out,←Ey.out,e,hs];refine⟨rfl,F2,gv2,_,HL3.out.xK (i:=5) (u:= .int .i64 nx) (v':={v with safe:=nx}) rfl,by rw[HM2.out,List.map_append,List.map_singleton],?_,fun k hk=>HF2.out k hk⟩;exact(HT2.out.same (HT3.out.mono (by simp))).setCell (.inl (ay.2 (.inl rfl))) _
 ·have hr0:aC c= .iface 45 (.int .i64 c):=by unfold aC;rw[if_neg hc0];rfl
  have HC0:=hide hc0;have HR0:=hide hr0;rw[hr0];clear hr0 hc0 WX;go_wp2
  go_ret
  have hs:jH c v (ae m.n m.xs)=v:=by unfold jH;rw[if_neg HC0.out]
  rw[←WC.out,←OL.out,HR0.out,hs];exact⟨rfl,F2,gv2,_,HL2.out,by rw[HM2.out,List.map_append,List.map_singleton],HT2.out,HF2.out⟩
end Lg
end
section
open Go.RowKit Go.Maps
set_option maxRecDepth 100000
set_option linter.unusedSimpArgs false
set_option linter.unusedVariables false
attribute [local go_sem] Oper.semAt_some
open Dk (DA aj Parts dA aC bQ)
open Sg (Chain flat dV Both ae)
namespace Lg
def af(ss:List (Nat×List Bt.aB)):List Bt.aB:=ss.flatMap (·.2)
structure sW(A:DA)(dir:ByteArray)(ss:List (Nat×List Bt.aB)):Prop where
 base:∀p∈ss,p.1≤1099511627776
 file:∀p∈ss,∃f,A.file (Sn.nameB dir p.1).data.toList=some f∧f.bytes=flat p.2
 chain:∀p∈ss,Chain p.1 p.2
 many:ss.length≤1000
theorem iM{w:World}{base d:Nat}{F:List Nat}{A:DA}{dir:ByteArray}{ss:List (Nat×List Bt.aB)}(hd:aj w base d F A)(h:sW A dir ss){p:Nat×List Bt.aB}(hp:p∈ss):(flat p.2).length≤1048576:=by
 obtain⟨f,hf,hb⟩:=h.file p hp;have:=Sg.oO hd hf;rwa [hb]at this
theorem oq(base:Int):∀rs:List Bt.Rec,3*rs.length≤(Bt.iy base rs).length
 |[]=>by simp[Bt.iy]
 |r::rs=>by
  have h:=oq base rs;have h1:3≤(Bt.qi base r).length:=by
   unfold Bt.qi;have:=Nu.put_pos (r.off-base).toNat;have:=Nu.put_pos r.time.toNat;have:=Nu.put_pos (Bt.mark r);simp only[List.length_append];omega
  unfold Bt.iy at h⊢;rw[List.flatMap_cons,List.length_append,List.length_cons];omega
theorem sZ:∀xs:List Bt.aB,3*(xs.flatMap (·.recs)).length≤(flat xs).length
 |[]=>by simp
 |x::r=>by
  have h1:=sZ r;have h2:=oq x.base x.recs;have h3:(Bt.iy x.base x.recs).length≤(Bt.ah x).length:=by
   rw[Bt.gX];unfold Bt.body;simp only[List.length_append];omega
  have h4:flat (x::r)=Bt.ah x++flat r:=by
   rw[←Sg.gB,←Sg.aP];rfl
  rw[h4,List.flatMap_cons,List.length_append,List.length_append];omega
theorem vw(ss:List (Nat×List Bt.aB)){k:Nat}(hk:k<ss.length):af (ss.take (k+1))=af (ss.take k)++ss[k].2:=by
 unfold af;rw[List.take_succ_eq_append_getElem hk,List.flatMap_append];simp
theorem O9(ss:List (Nat×List Bt.aB)){k:Nat}(hk:k<ss.length){q:Nat}(hq:q≤ss[k].2.length):(af ss).take ((af (ss.take k)).length+q)=af (ss.take k)++ss[k].2.take q:=by
 have e:af ss=af (ss.take k)++(ss[k].2++af (ss.drop (k+1))):=by
  rw[←List.append_assoc,←vw ss hk];unfold af;rw[←List.flatMap_append,List.take_append_drop]
 rw[e,List.take_append,List.take_of_length_le (by omega),Nat.add_sub_cancel_left,List.take_append_of_le_length hq]
theorem Jj(w:World)(base d:Nat)(F:List Nat)(A:DA)(lb:Nat)(gv:Value)(dir:ByteArray)(v:LV)(ms0:List SM)(m:SM)(h:az w base d F A lb gv dir v (ms0++[m]))(gG:dir.size≤1000)(hok:sW A dir ((ms0++[m]).map SM.abs))(fr most:Int)(hmo: -9223372036854775808≤most∧most≤9223372036854775807)(h1:v.start≤fr)(h2:fr≤ae m.n m.xs):
 Calls Tryz.prog 13 #[.pointer (some ⟨lb,0,none⟩), .int .i64 fr, .int .i64 most] w fun e w'=>∃ov q,e= .returned (.tuple #[ov, .nilIface])∧aO 52 6 recC w' w.heap.size ov (aZ fr ((af ((ms0++[m]).map SM.abs)).take q))∧
  (aZ fr ((af ((ms0++[m]).map SM.abs)).take q)=[]→aZ fr (af ((ms0++[m]).map SM.abs))=[])∧Turn [] w w':=by
 obtain⟨ms,hms⟩:∃ms,ms=ms0++[m]:=⟨_,rfl⟩;have qF:=hok.many;have hxm:=iM h.disk hok (p:=m.abs) (by simp);have hfl:=Sg.dw m.xs;have aer:(flat m.xs).length≤1048576:=hxm;rw[List.length_map]at qF;have abn:=kD w base d F A lb gv dir v ms0 m h (by simp at qF;omega) (by omega);rw[←hms]at h hok qF⊢;obtain⟨nx,hnx⟩:∃nx,nx=ae m.n m.xs:=⟨_,rfl⟩;rw[←hnx]at abn h2;obtain⟨ga,gc,hgv,Ag,uF⟩:=h.row.form;subst hgv;have H:=hide h;have xq:=hide hok;have Df:=hide abn;have c4:=h.c4;have hlb:=lt_of_heap h.box;have hmx:maxLen=9223372036854775807:=by simp[maxLen]
 rw[hmx]at uF;clear h hok abn hms hnx hxm hfl aer;go_enter Tryz.func13,Tryz.ntmps13
 go_wp2_with fail
 refine Df.out.mono ?_;rintro e w1 ⟨rfl,ht1⟩;have HT1:=hide ht1;have hl1:=H.out.still ht1;have c3:=hl1.c3;have agL:=lt_of_heap hl1.box;clear ht1 hl1 Df c4 hlb;go_wp2
 go_loopw [30] (fun kv wr=>∃k:Nat,k≤ms.length∧kv= .int .i64 k∧aZ fr (af ((ms.map SM.abs).take k))=[]∧Turn [] w wr) (fun kv _=>ms.length-(intOf kv).toNat)
 case atStart=>exact⟨0,Nat.zero_le _,rfl,by simp[af,aZ],HT1.out⟩
 case round=>
  obtain⟨k,hk,rfl,hno,htw⟩:=hrel;have Qr:=hide hno;have dO:=hide htw;clear hno htw;by_cases hlt:k<ms.length
  ·obtain⟨g,cap,e,hc, -⟩:=(H.out.still dO.out).row.at fJ (j:=k) hlt
   simp only[Value.slice.injEq,true_and]at e;obtain⟨rfl,rfl⟩:=e;obtain⟨mk,hmk⟩:∃mk,mk=ms[k]:=⟨_,rfl⟩;have abq:mk∈ms:=by rw[hmk];exact List.getElem_mem _
   have hsk:(ms.map SM.abs)[k]'(by rw[List.length_map];exact hlt)=mk.abs:=by rw[List.getElem_map,←hmk]
   rw[←hmk]at hc;have c0:wr.cell? ⟨g,k,none⟩=some (.pointer (some ⟨mk.sb,0,none⟩)):=by simpa[DL]using hc 0 (by omega)
   have wM:mk.abs∈ms.map SM.abs:=List.mem_map_of_mem abq;obtain⟨f,hf,hfb⟩:=xq.out.file _ wM;have hch:=xq.out.chain _ wM;have hfs:=iM H.out.disk xq.out wM;have hfl:=Sg.dw mk.xs;have hrf:=sZ mk.xs;have hrd:=DJ wr base d F A mk.sb mk.sv (Sn.nameB dir mk.n) mk.n mk.xs ((H.out.still dO.out).both abq) (Sg.ja (xq.out.base _ wM) gG) f hf hfb hch fr most hmo (by have:(flat mk.xs).length≤1048576:=hfs;omega) (by have:(flat mk.xs).length≤1048576:=hfs;omega);have DF:=hide hrd;have VA:=hide hsk;clear hc hmk abq wM hf hfb hch hfs hfl hrf hrd hsk;go_wp2_with fail
   refine DF.out.mono ?_;rintro e w2 ⟨ov,q,rfl,hq,hov,adt,ht2⟩;obtain⟨R,hR⟩:∃R,R=aZ fr (mk.xs.take q):=⟨_,rfl⟩;rw[←hR]at hov adt;obtain⟨oa,oc,hoe, -, -⟩:=hov.form;subst hoe;have HR:=hide hR;have Qq:=hide hov;have HEM:=hide adt;have HT2:=hide (dO.out.same ht2);have hws:=dO.out.size;clear hR hov adt ht2 DF;by_cases hR0:0<(R.length:Int)
   ·go_wp2
    go_ret2
    have hkl:k<(ms.map SM.abs).length:=by rw[List.length_map];exact hlt
    have hp:=O9 (ms.map SM.abs) hkl (q:=q) (by rw[VA.out];exact hq);rw[VA.out]at hp;have hs:aZ fr ((af (ms.map SM.abs)).take ((af ((ms.map SM.abs).take k)).length+q))=R:=by
     rw[hp,kZ,Qr.out,List.nil_append,HR.out];rfl
    refine⟨_,(af ((ms.map SM.abs).take k)).length+q,rfl,by rw[hs];exact Qq.out.jA hws,fun h=>?_,HT2.out⟩;rw[hs]at h;rw[h]at hR0;exact absurd hR0 (by simp)
   ·have Yf:R=[]:=List.eq_nil_of_length_eq_zero (by omega)
    have hn2:=HEM.out Yf;have hkl:k<(ms.map SM.abs).length:=by rw[List.length_map];exact hlt
    have akO:aZ fr (af ((ms.map SM.abs).take (k+1)))=[]:=by
     rw[vw _ hkl,kZ,Qr.out,List.nil_append,VA.out];exact hn2
    have HN2:=hide akO;clear hn2 akO Yf hkl;go_wp2
    all_goals refine⟨⟨k+1,by omega,by go_num,HN2.out,HT2.out⟩,?_⟩
    all_goals (simp only[intOf];omega)
  ·obtain rfl:k=ms.length:=by omega
   have aan:aZ fr (af (ms.map SM.abs))=[]:=by
    have:=Qr.out;rwa [List.take_of_length_le (by rw[List.length_map];exact Nat.le_refl _)]at this
   have nX:=hide aan;clear aan;go_wp2
   go_ret2
   exact⟨_,0,rfl, .inl ⟨rfl,by simp[aZ]⟩,fun _=>nX.out,dO.out⟩
end Lg
end
section
open Go.RowKit Go.Maps
set_option maxRecDepth 100000
set_option linter.unusedSimpArgs false
set_option linter.unusedVariables false
namespace Lg
def uK(n:Nat):List Value:=[.int .i64 (n:Int)]
theorem wO:∀n,(uK n).length=1:=fun _=>rfl
theorem WY:(Tryz.prog.info? 3).map (fun i=>(i.zero.map (fun z=>z.cells.size),i.size,i.bytes))=some (some 1,1,8):=by kernel_rfl
theorem GU:∃i z,Tryz.prog.info? 3=some i∧i.zero=some z∧z.cells.size=1∧i.size=1∧i.bytes≤1000:=by
 have h:=WY;cases hi:Tryz.prog.info? 3 with
 |none=>rw[hi]at h;cases h
 |some i=>
  rw[hi]at h;simp only[Option.map_some,Option.some.injEq,Prod.mk.injEq,Option.map_eq_some_iff]at h;obtain⟨⟨z,hz,hz2⟩,h2,h3⟩:=h;exact⟨i,z,rfl,hz,hz2,h2,by omega⟩
theorem GV(w:World)(base:Nat)(v:Value)(xs:List Nat)(x:Nat)(k:Nat)(Pe:aO 3 1 uK w base v xs)(hk:w.heap[k]? =some (.cells (uK x).toArray 3 (0,0))) (aah:xs.length≤1000000) (aas:base≤w.heap.size):
 ∃v' w',(Builtin.append_ #[36,36] 36 #[v, .slice (some ⟨k,0,none⟩) 1 1]).run Tryz.prog w= .ok v' w'∧aO 3 1 uK w' base v' (xs++[x])∧Turn v.ownBlock.toList w w'∧(∀j∈v'.ownBlock,j∈v.ownBlock∨w.heap.size≤j):=by
 obtain⟨i,z,hi,hz,hzs,hs,hb⟩:=GU;exact jB (P:=Tryz.prog) 36 36 Tryz.underlying36 i z hi hz hzs hs hb wO (by intro x u hu;simp[uK]at hu;subst hu;rfl) w base v xs x k Pe hk aah aas
end Lg
end
section
open Go.RowKit Go.Maps
set_option maxRecDepth 100000
set_option linter.unusedSimpArgs false
set_option linter.unusedVariables false
attribute [local go_sem] Oper.semAt_some
open Dk (DA aj Parts dA aC bQ)
open Sg (aS aA dV Both Came ae flat Chain)
namespace Lg
def wP(ms:List SM):Nat:=(ms.map (fun m=>(flat m.xs).length)).sum
theorem Lh(ms:List SM){k:Nat}(h:k<ms.length):wP (ms.take (k+1))=wP (ms.take k)+(flat ms[k].xs).length:=by
 unfold wP;rw[List.take_succ_eq_append_getElem h,List.map_append,List.sum_append];simp
theorem RS(w:World)(base d:Nat)(F:List Nat)(A:DA)(lb:Nat)(gv:Value)(dir:ByteArray)(v:LV)(ms:List SM)(h:az w base d F A lb gv dir v ms)(hok:sW A dir (ms.map SM.abs)):
 Calls Tryz.prog 47 #[.pointer (some ⟨lb,0,none⟩)] w fun e w'=>e= .returned (.int .i64 (wP ms))∧wP ms≤1048576*ms.length∧Turn [] w w':=by
 have qF:=hok.many;rw[List.length_map]at qF;obtain⟨ga,gc,hgv,Ag,uF⟩:=h.row.form;subst hgv;have hmx:maxLen=9223372036854775807:=by simp[maxLen]
 rw[hmx]at uF;have c3:=h.c3;have hlb:=lt_of_heap h.box;have H:=hide h;have xq:=hide hok;clear h hok;go_enter Tryz.func47,Tryz.ntmps47
 go_wp2
 go_loopw [3,11] (fun sv kv wr=>∃k s:Nat,k≤ms.length∧sv= .int .i64 s∧kv= .int .i64 k∧s≤1048576*k∧Turn [] w wr∧Hid (s=wP (ms.take k))) (fun _ kv _=>ms.length-(intOf kv).toNat)
 case atStart=>exact⟨0,0,Nat.zero_le _,rfl,rfl,by omega,Turn.refl _ _,by show _=_;simp[wP]⟩
 case round=>
  obtain⟨k,s,hk,rfl,rfl,hs,htw,HSE⟩:=hrel;have dO:=hide htw;clear htw;by_cases hlt:k<ms.length
  ·obtain⟨g,cap,e,hc, -⟩:=(H.out.still dO.out).row.at fJ (j:=k) hlt
   simp only[Value.slice.injEq,true_and]at e;obtain⟨rfl,rfl⟩:=e;obtain⟨mk,hmk⟩:∃mk,mk=ms[k]:=⟨_,rfl⟩;have abq:mk∈ms:=by rw[hmk];exact List.getElem_mem _
   rw[←hmk]at hc;have c0:wr.cell? ⟨g,k,none⟩=some (.pointer (some ⟨mk.sb,0,none⟩)):=by simpa[DL]using hc 0 (by omega)
   have wM:mk.abs∈ms.map SM.abs:=List.mem_map_of_mem abq;have hfs:(flat mk.xs).length≤1048576:=iM H.out.disk xq.out wM;have hfl:=Sg.dw mk.xs;have hsz:=Sg.size_any wr base d mk.sb mk.sv _ mk.n _ ((H.out.jo mk abq).still dO.out) (by rw[Sg.gW];omega) (by rw[Sg.dP];omega);rw[Sg.dP]at hsz;obtain⟨fz,hfz⟩:∃fz,fz=(flat mk.xs).length:=⟨_,rfl⟩;rw[←hfz]at hsz hfs;have akQ:s+fz=wP (ms.take (k+1)):=by rw[Lh ms hlt,←hmk,←hfz,HSE.out]
   have aoD:=hide akQ;have Rx:=hide hsz;clear hc hmk abq wM hfl hsz hfz akQ;go_wp2_with fail
   refine Rx.out.mono ?_;rintro e w2 ⟨rfl,ht2⟩;have HT2:=hide (dO.out.same ht2);clear ht2 Rx;go_wp2
   all_goals refine⟨⟨k+1,s+fz,by omega,by go_num,by go_num,by omega,HT2.out,aoD⟩,?_⟩
   all_goals (simp only[intOf];omega)
  ·obtain rfl:k=ms.length:=by omega
   have hse:=HSE.out;rw[List.take_length]at hse;have HSF:=hide hse;clear hse;go_wp2
   go_ret
   rw[←HSF.out];exact⟨rfl,hs,dO.out⟩
theorem GX(w:World)(base d:Nat)(F:List Nat)(A:DA)(lb:Nat)(gv:Value)(dir:ByteArray)(v:LV)(ms:List SM)(h:az w base d F A lb gv dir v ms)(hl:ms.length≤1000):
 Calls Tryz.prog 49 #[.pointer (some ⟨lb,0,none⟩)] w fun e w'=>∃ov,e= .returned ov∧aO 3 1 uK w' w.heap.size ov (ms.map (·.n))∧Turn [] w w':=by
 obtain⟨ga,gc,hgv,Ag,uF⟩:=h.row.form;subst hgv;have hmx:maxLen=9223372036854775807:=by simp[maxLen]
 rw[hmx]at uF;have c3:=h.c3;have hlb:=lt_of_heap h.box;have H:=hide h;clear h;go_enter Tryz.func49,Tryz.ntmps49
 go_wp2
 go_loopw [3,11] (fun sv kv wr=>∃k:Nat,k≤ms.length∧aO 3 1 uK wr w.heap.size sv ((ms.map (·.n)).take k)∧kv= .int .i64 k∧Turn [] w wr) (fun _ kv _=>ms.length-(intOf kv).toNat)
 case atStart=>exact⟨0,Nat.zero_le _, .inl ⟨rfl,by simp⟩,rfl,Turn.refl _ _⟩
 case round=>
  obtain⟨k,hk,Pe,rfl,htw⟩:=hrel;have dO:=hide htw;obtain⟨sa,sc,hse, -, -⟩:=Pe.form;subst hse;rw[List.length_take,List.length_map,Nat.min_eq_left hk]at Pe⊢;have dI:=hide Pe;clear htw Pe;by_cases hlt:k<ms.length
  ·obtain⟨g,cap,e,hc, -⟩:=(H.out.still dO.out).row.at fJ (j:=k) hlt
   simp only[Value.slice.injEq,true_and]at e;obtain⟨rfl,rfl⟩:=e;obtain⟨mk,hmk⟩:∃mk,mk=ms[k]:=⟨_,rfl⟩;have abq:mk∈ms:=by rw[hmk];exact List.getElem_mem _
   have hsn:(ms.map (·.n)).take (k+1)=(ms.map (·.n)).take k++[mk.n]:=by
    rw[List.take_succ_eq_append_getElem (by rw[List.length_map];exact hlt),List.getElem_map,hmk]
   have xJ:=hide hsn;rw[←hmk]at hc;have c0:wr.cell? ⟨g,k,none⟩=some (.pointer (some ⟨mk.sb,0,none⟩)):=by simpa[DL]using hc 0 (by omega)
   have hba:=Sg.jP wr base d mk.sb mk.sv _ mk.n _ ((H.out.jo mk abq).still dO.out);have Aa:=hide hba;clear hc hmk abq hsn hba;go_wp2_with fail
   refine Aa.out.mono ?_;rintro e w2 ⟨rfl,rfl⟩;clear Aa;have hal:Turn [] wr (wr.alloc (.cells #[.int .i64 (mk.n:Int)] 3)):=(Turn.refl [] wr).alloc _;have hws:=dO.out.size;obtain⟨v7,w7,hr7,aai,ht7,aaq⟩:=GV (wr.alloc (.cells #[.int .i64 (mk.n:Int)] 3)) w.heap.size _ _ mk.n wr.heap.size (dI.out.still hal) (ai wr _) (by rw[List.length_take,List.length_map];omega) (by have:=hal.size;omega);rw[←xJ.out]at aai;have HR7:=hide hr7;have lF:=hide aai;have HT7:=hide ((dO.out.same hal).trans ht7 (fun j hj=> .inr (dI.out.lt j (by simpa using hj)).1));clear hal hr7 aai ht7 aaq;go_wp2_with (at_builtin;go_must (refine bU rfl rfl rfl rfl HR7.out ?_))
   all_goals refine⟨⟨k+1,by omega,lF.out,by go_num,HT7.out⟩,?_⟩
   all_goals (simp only[intOf];omega)
  ·obtain rfl:k=ms.length:=by omega
   rw[List.take_of_length_le (by rw[List.length_map];exact Nat.le_refl _)]at dI;go_wp2
   go_ret
   exact⟨_,rfl,dI.out,dO.out⟩
end Lg
end
section
open Go.RowKit
section
variable {P:Program} {l:List Oper} {Q:Exit→Act→World→Prop} {R R':World→World→Prop} {S:Nat→(Nat→Value)→World→Prop} {loud:List Nat} {a0:Act} {w0:World} {E:Act→World→Prop}
theorem Lo.late{o:Oper}{os:List Oper}{Vs:List (Nat×(Value→World→Prop))}{i:Nat}(n:Nat)(hn:i+1=n)(hq:posOf loud i=none)(js:List Nat)(V:Value→World→Prop)(hj:zS l o js=true)(hV:∀x w w',V x w→R' w w'→V x w')(abo:CW l loud i o=true)
 (h1:∀u w,R w0 w→kX Vs u w js→gV o (eH l 0 u a0.tmps) l true∧∀a:Act,(∀d,a.tmps.getD d undef=eH l 0 u a0.tmps d)→∀K:Act→World→Prop,(∀x w',V x w'→R' w w'→K (a.put o.dst x) w')→o.wp P a w K Q)
 (h2:Lo P l Q E R R' S loud w0 a0 os n ((i,V)::Vs)):Lo P l Q E R R' S loud w0 a0 (o::os) i Vs:=
 ⟨V,hV,fun hl=>(by rw[abo]at hl;cases hl),fun u w hR _ hF=> .inl (by unfold rP rQ;rw[hq];exact h1 u w hR (jk hF js hj)),by rw[hn];exact h2⟩
end
end
section
open Go.RowKit Go.Maps
set_option maxRecDepth 100000
set_option linter.unusedSimpArgs false
set_option linter.unusedVariables false
attribute [local go_sem] Oper.semAt_some
open Dk (DA aj Parts dA aC bQ)
open Sg (aS aA dV Both Came ae flat)
namespace Lg
theorem Tryz.WZ:(Tryz.prog.info? 61).map (fun i=>(i.zero,i.size,i.bytes))=some (some (.pointer none),1,8):=by kernel_rfl
theorem RU(w:World)(base:Nat)(v:Value)(xs:List SM)(x:SM)(k:Nat)(Pe:aO 61 1 DL w base v xs)(hk:w.heap[k]? =some (.cells (DL x).toArray 61 (0,0))) (aah:xs.length≤1000000) (aas:base≤w.heap.size):
 ∃v' w',(Builtin.append_ #[56,56] 56 #[v, .slice (some ⟨k,0,none⟩) 1 1]).run Tryz.prog w= .ok v' w'∧aO 61 1 DL w' base v' (xs++[x])∧Turn v.ownBlock.toList w w'∧(∀j∈v'.ownBlock,j∈v.ownBlock∨w.heap.size≤j):=by
 obtain⟨i,hi,e⟩:=Option.map_eq_some_iff.1 Tryz.WZ;simp only[Prod.mk.injEq]at e;exact jB (P:=Tryz.prog) 56 56 Tryz.underlying56 i _ hi e.1 (by rfl) e.2.1 (by omega) fJ (fun x u hu=>by simp[DL]at hu;subst hu;rfl) w base v xs x k Pe hk aah aas
section
variable {w w' w1:World} {base d lb:Nat} {F G:List Nat} {A A':DA} {gv gv':Value} {dir:ByteArray} {v v':LV} {ms ms0 ms1:List SM} {m:SM}
theorem az.grow(h:az w base d F A lb gv dir v ms)(ht:Turn gv.ownBlock.toList w w')(Pe:aO 61 1 DL w' base gv' (ms++[m]))(adr:aS w base d m.sb m.sv (Sn.nameB dir m.n) m.n (dV 0 (-1) m.xs))(hap:∀x∈ms,∀k∈x.foot,k∉m.foot):
 az (w'.setCell ⟨lb,3,none⟩ gv') base d F A lb gv' dir v (ms++[m]):=by
 have hb':=ht.heap h.box (by simpa using h.Fq);have ht2:Turn [lb] w' (w'.setCell ⟨lb,3,none⟩ gv'):=(Turn.refl _ _).setCell (.inl (by simp)) _;have hgs:∀k∈gv.ownBlock,k∉m.foot:=fun k hk hs=>by
  obtain⟨cs,e⟩:=h.row.kind k hk;obtain⟨cs',T,e',hT⟩:=qC adr k hs;rcases hT with rfl|rfl<;>exact aW e e' (by decide) rfl
 have hls:lb∉m.foot:=fun hs=>by
  obtain⟨cs',T,e',hT⟩:=qC adr lb hs;rcases hT with rfl|rfl<;>exact aW h.box e' (by decide) rfl
 refine⟨(h.disk.kept ht (fun k hk hm=>h.O8 k (by simpa using hm) hk)).kept ht2 (fun k hk hm=>by obtain rfl:=List.mem_singleton.1 hm;exact h.vk hk),?_,Pe.kept ht2 (fun k hk hm=>?_),h.low,fun x hx=>?_,?_⟩
 ·rw[heap_set hb'];rfl
 ·obtain rfl:=List.mem_singleton.1 hm
  obtain⟨cs,e⟩:=Pe.kind k hk;exact aW hb' e (by decide) rfl
 ·rcases List.mem_append.1 hx with hx|hx
  ·exact((h.jo x hx).kept ht (fun k hk hm=>h.La hx k (by simpa using hm) hk)).kept ht2 (fun k hk hm=>by obtain rfl:=List.mem_singleton.1 hm;exact h.GR hx hk)
  ·obtain rfl:=List.mem_singleton.1 hx
   exact(adr.kept ht (fun k hk hm=>hgs k (by simpa using hm) hk)).kept ht2 (fun k hk hm=>by obtain rfl:=List.mem_singleton.1 hm;exact hls hk)
 ·rw[List.pairwise_append]
  exact⟨h.apart,List.pairwise_singleton _ _,fun x hx y hy=>by obtain rfl:=List.mem_singleton.1 hy;exact hap x hx⟩
end
def dX(A:DA)(dir:ByteArray)(n:Nat)(ss:List (Nat×List Bt.aB)):Int×DA×List (Nat×List Bt.aB):=
 ((A.make (Sn.nameB dir n)).1,(A.make (Sn.nameB dir n)).2,if (A.make (Sn.nameB dir n)).1=0 then ss++[(n,[])]else ss)
theorem _root_.Go.Proofs.YtficbckncieabaaGreatDoor.Dk.dA.turn{w w':World}{base d:Nat}{F:List Nat}{A':DA}(h:dA w w' base d F A'):Turn F w w':=by
 obtain⟨F', -,h2, -⟩:=h;exact h2
theorem um{w w1 w':World}{base d:Nat}{F:List Nat}{A':DA}(ht:Turn F w w1)(h:dA w1 w' base d F A'):dA w w' base d F A':=by
 obtain⟨F',hd,ht2,hf⟩:=h;exact⟨F',hd,ht.same ht2,fun k hk=>(hf k hk).imp_right (Nat.le_trans ht.size)⟩
theorem gu{w w1 w':World}{base d:Nat}{F:List Nat}{A':DA}(h:dA w w1 base d F A')(ht:Turn [] w1 w'):dA w w' base d F A':=by
 obtain⟨F',hd,ht2,hf⟩:=h;exact⟨F',hd.kept ht (by simp),ht2.same (ht.mono (by simp)),hf⟩
theorem vz{w w':World}{base d sb:Nat}{F:List Nat}{A':DA}{file:ByteArray}{b0:Int}(h:Sg.dK w w' base d F A' sb file b0):Turn F w w':=by
 obtain⟨F', -,h2, -⟩:=h;exact h2
theorem tu{w w1 w':World}{base d sb:Nat}{F:List Nat}{A':DA}{file:ByteArray}{b0:Int}(ht:Turn F w w1)(h:Sg.dK w1 w' base d F A' sb file b0):Sg.dK w w' base d F A' sb file b0:=by
 obtain⟨F',hb,ht2,hf,hs⟩:=h;exact⟨F',hb,ht.same ht2,fun k hk=>(hf k hk).imp_right (Nat.le_trans ht.size),Nat.le_trans ht.size hs⟩
theorem iI{w w1 w':World}{base d sb:Nat}{F:List Nat}{A':DA}{file:ByteArray}{b0:Int}(h:Sg.dK w w1 base d F A' sb file b0)(ht:Turn [] w1 w'):Sg.dK w w' base d F A' sb file b0:=by
 obtain⟨F',hb,ht2,hf,hs⟩:=h;exact⟨F',hb.still ht,ht2.same (ht.mono (by simp)),hf,hs⟩
theorem xM(w:World)(base d:Nat)(F:List Nat)(A:DA)(lb:Nat)(gv:Value)(dir:ByteArray)(v:LV)(ms:List SM)(h:az w base d F A lb gv dir v ms)(hl:ms.length≤1000000)(gG:dir.size≤1000)(n:Nat)(hn:n≤1099511627776)(hv:Sn.jG w):
 Calls Tryz.prog 16 #[.pointer (some ⟨lb,0,none⟩), .int .i64 n] w fun e w'=>e= .returned (aC (dX A dir n (ms.map SM.abs)).1)∧
  ig w w' base d (aJ F lb gv ms) (dX A dir n (ms.map SM.abs)).2.1 lb dir v (dX A dir n (ms.map SM.abs)).2.2:=by
 obtain⟨ga,gc,hgv,Ag,uF⟩:=h.row.form;subst hgv;have H:=hide h;have HV:=hide hv;have hlb:=lt_of_heap h.box;obtain⟨c,hc⟩:∃c,c=(A.make (Sn.nameB dir n)).1:=⟨_,rfl⟩;obtain⟨A2,hA2⟩:∃A2,(A.make (Sn.nameB dir n)).2=A2:=⟨_,rfl⟩;have HC:=hide hc;have HA2:=hide hA2;clear h hv hA2;by_cases hne:c≠0
 ·have hr:aC (A.make (Sn.nameB dir n)).1= .iface 45 (.int .i64 c):=by rw[←hc];unfold aC;rw[if_neg hne];rfl
  have HR:=hide hr;have BU:=hide hne;clear hr hne hc;go_enter Tryz.func16,Tryz.ntmps16
  go_wp2
  refine bP 14 (Turn F) (Turn []) (fun k w=>match k with|0=>(fun w'=>aj w' base d F A∧Sn.jG w') w|_=>(fun w'=>Sn.jG w'∨True) w) [9] (by kernel_rfl) (by kernel_rfl) (by kernel_rfl) (by kernel_rfl) (by kernel_rfl) (by kernel_rfl) (Nat.le_of_ble_eq_true rfl) (by decide) rfl (Turn.refl _) (fun _ _ _ h k=>h.same k) (fun _ _ h=>h.mono (by simp)) ?_ ?_ ?_
  ·intro k a b hk hR
   match k,hk with
   |0,hk=>
    have hk:=(show(fun w'=>aj w' base d F A∧Sn.jG w') a from hk);dsimp only at hk;show(fun w'=>aj w' base d F A∧Sn.jG w') b;dsimp only;first|exact⟨hk.1.kept hR (by simp),hk.2.below hR.nil⟩|exact .inr trivial
   |_+1,hk=>
    have hk:=(show(fun w'=>Sn.jG w'∨True) a from hk);dsimp only at hk;show(fun w'=>Sn.jG w'∨True) b;dsimp only;first|exact⟨hk.1.kept hR (by simp),hk.2.below hR.nil⟩|exact .inr trivial
  ·show(fun w'=>aj w' base d F A∧Sn.jG w') _
   dsimp only;exact⟨H.out.disk.kept ((Turn.refl [] w).drew) (by simp),HV.out.below ((Turn.refl [] w).drew).nil⟩
  apply Lo.r0 1 rfl 0 (by intro u;conv=>lhs;whnf) rfl
  ·intro a w1 hR e0 K hK
   go_simp
   exact hK _ rfl
  apply Lo.r1 2 rfl 8 0 (fun _=>rfl) rfl (by kernel_rfl)
  ·intro a w1 hR e8 K hK
   go_simp
   exact hK _ rfl
  apply Lo.r1 3 rfl 9 1 (fun _=>rfl) rfl (by kernel_rfl)
  ·intro a w1 hR e9 K hK
   go_simp
   exact hK _ rfl
  apply Lo.r1 4 rfl 10 2 (fun _=>rfl) rfl (by kernel_rfl)
  ·intro a w1 hR e10 K hK
   have hb:=(((Turn.refl [] w).drew.mono (T:=F) (by simp)).same hR).heap H.out.box H.out.vk;have c0:w1.cell? ⟨lb,0,none⟩=some (.pointer (some ⟨d,0,none⟩)):=by rw[cell_of hb];rfl
   have z1:=lt_of_heap hb;go_simp
   exact hK _ rfl
  apply Lo.r0 5 rfl 0 (by intro u;conv=>lhs;whnf) rfl
  ·intro a w1 hR e0 K hK
   go_simp
   exact hK _ rfl
  apply Lo.r1 6 rfl 12 4 (fun _=>rfl) rfl (by kernel_rfl)
  ·intro a w1 hR e12 K hK
   go_simp
   exact hK _ rfl
  apply Lo.r1 7 rfl 13 5 (fun _=>rfl) rfl (by kernel_rfl)
  ·intro a w1 hR e13 K hK
   go_simp
   exact hK _ rfl
  apply Lo.r1 8 rfl 14 6 (fun _=>rfl) rfl (by kernel_rfl)
  ·intro a w1 hR e14 K hK
   have hb:=(((Turn.refl [] w).drew.mono (T:=F) (by simp)).same hR).heap H.out.box H.out.vk;have c0:w1.cell? ⟨lb,1,none⟩=some (.string dir):=by rw[cell_of hb];rfl
   have z1:=lt_of_heap hb;go_simp
   exact hK _ rfl
  apply Lo.r0 9 rfl 1 (by intro u;conv=>lhs;whnf) rfl
  ·intro a w1 hR e1 K hK
   go_simp
   exact hK _ rfl
  refine Lo.je 10 rfl 0 rfl [3,7,8] (fun x w'=>x= .tuple #[.pointer none, .iface 45 (.int .i64 c)]∧dA w w' base d F A2) (by kernel_rfl) (fun x w w' h hR=>?_) (.inl (by kernel_rfl)) (fun u w1 hR hS hF=>?_) ?_
  ·exact⟨h.1,gu h.2 hR⟩
  ·obtain⟨h3,h7,h8, -⟩:=hF
   have hS:=(show(fun w'=>aj w' base d F A∧Sn.jG w') w1 from hS);dsimp only at hS;refine⟨rfl,fun a ha K hK=>?_⟩;have e11:=(ha 11).trans h3;have e15:=(ha 15).trans h7;have e16:=(ha 16).trans h8;clear ha h3 h7 h8;go_simp
   have hr0:=((Turn.refl [] w).drew.mono (T:=F) (by simp)).same hR;refine(Sg.wH w1 base d F A hS.1 dir gG n hn hS.2).mono ?_;rintro e w2 (⟨hne,rfl,hd⟩|⟨he, -⟩)
   ·rw[HR.out]
    rw[HA2.out]at hd;exact hK _ _ ⟨rfl,um hr0 hd⟩ hd.turn (.inr trivial)
   ·exact absurd (HC.out.trans he) BU.out
  refine Lo.late 11 rfl rfl [9] (fun x w'=>x= .tuple #[.pointer none, .iface 45 (.int .i64 c)]∧dA w w' base d F A2) (by kernel_rfl) (fun x w w' h hR=>?_) (by kernel_rfl) (fun u w1 hR hF=>?_) ?_
  ·exact⟨h.1,gu h.2 hR⟩
  ·obtain⟨h9, -⟩:=hF
   refine⟨rfl,fun a ha K hK=>?_⟩;have e17:a.tmps.getD 17 undef=u 9:=ha 17;have h9:=(show(fun x w'=>x= .tuple #[.pointer none, .iface 45 (.int .i64 c)]∧dA w w' base d F A2) (u 9) w1 from h9);dsimp only at h9;clear ha;obtain⟨e9,BZ⟩:=h9;rw[e9]at e17;go_simp
   exact hK _ _ ⟨rfl,BZ⟩ (Turn.refl _ _)
  refine Lo.late 12 rfl rfl [10] (fun x w'=>x= .pointer none∧dA w w' base d F A2) (by kernel_rfl) (fun x w w' h hR=>?_) (by kernel_rfl) (fun u w1 hR hF=>?_) ?_
  ·exact⟨h.1,gu h.2 hR⟩
  ·obtain⟨h10, -⟩:=hF
   refine⟨rfl,fun a ha K hK=>?_⟩;have e7:a.tmps.getD 7 undef=u 10:=ha 7;have h10:=(show(fun x w'=>x= .tuple #[.pointer none, .iface 45 (.int .i64 c)]∧dA w w' base d F A2) (u 10) w1 from h10);dsimp only at h10;clear ha;obtain⟨e9,BZ⟩:=h10;rw[e9]at e7;go_simp
   exact hK _ _ ⟨rfl,BZ⟩ (Turn.refl _ _)
  refine Lo.df 13 rfl rfl [10] (.iface 45 (.int .i64 c)) (by kernel_rfl) (fun u w1 hR hF=>?_) (Turn.refl _) ?_
  ·obtain⟨h10, -⟩:=hF
   refine⟨rfl,fun a ha K hK=>?_⟩;have e7:a.tmps.getD 7 undef=u 10:=ha 7;have h10:=(show(fun x w'=>x= .tuple #[.pointer none, .iface 45 (.int .i64 c)]∧dA w w' base d F A2) (u 10) w1 from h10);dsimp only at h10;clear ha;obtain⟨e9, -⟩:=h10;rw[e9]at e7;go_simp
   exact hK _ rfl
  refine Lo.late 14 rfl rfl [11] (fun x w'=>x= .pointer none∧dA w w' base d F A2) (by kernel_rfl) (fun x w w' h hR=>?_) (by kernel_rfl) (fun u w1 hR hF=>?_) ?_
  ·exact⟨h.1,gu h.2 hR⟩
  ·obtain⟨h11, -⟩:=hF
   refine⟨rfl,fun a ha K hK=>?_⟩;have e18:a.tmps.getD 18 undef=u 11:=ha 18;have h11:=(show(fun x w'=>x= .pointer none∧dA w w' base d F A2) (u 11) w1 from h11);dsimp only at h11;clear ha;go_simp
   exact hK _ _ ⟨rfl,h11.2⟩ (Turn.refl _ _)
  refine Lo.done [12,13] (fun u w1 bI hSd hF=>?_);have hSd:=(show(fun w'=>Sn.jG w'∨True) w1 from hSd);dsimp only at hSd;obtain⟨f12,f13, -⟩:=hF;have d12:u 12=_:=f12;have d13:=(show(fun x w'=>x= .pointer none∧dA w w' base d F A2) (u 13) w1 from f13);dsimp only at d13;clear f12 f13;simp only[List.take_succ_cons,List.take_zero,List.drop_succ_cons,List.drop_zero,ax,Act.put,List.setIfInBounds_toArray,List.set_cons_succ,List.set_cons_zero,Nat.zero_add,Nat.reduceAdd,d12];obtain⟨e13,akR⟩:=d13;rw[e13];have HD:=hide (H.out.did akR);clear d12 e13 akR bI hSd;go_wp2
  go_ret
  unfold dX;simp only;rw[HR.out,HA2.out,if_neg (by rw[←HC.out];exact BU.out)];exact⟨rfl,HD.out⟩
 ·have ac8:c=0:=Classical.not_not.1 hne
  have BU:=hide ac8;clear hne ac8 hc;go_enter Tryz.func16,Tryz.ntmps16
  go_wp2
  refine bP 14 (Turn F) (Turn []) (fun k w=>match k with|0=>(fun w'=>aj w' base d F A∧Sn.jG w') w|_=>(fun w'=>Sn.jG w'∨True) w) [9] (by kernel_rfl) (by kernel_rfl) (by kernel_rfl) (by kernel_rfl) (by kernel_rfl) (by kernel_rfl) (Nat.le_of_ble_eq_true rfl) (by decide) rfl (Turn.refl _) (fun _ _ _ h k=>h.same k) (fun _ _ h=>h.mono (by simp)) ?_ ?_ ?_
  ·intro k a b hk hR
   match k,hk with
   |0,hk=>
    have hk:=(show(fun w'=>aj w' base d F A∧Sn.jG w') a from hk);dsimp only at hk;show(fun w'=>aj w' base d F A∧Sn.jG w') b;dsimp only;first|exact⟨hk.1.kept hR (by simp),hk.2.below hR.nil⟩|exact .inr trivial
   |_+1,hk=>
    have hk:=(show(fun w'=>Sn.jG w'∨True) a from hk);dsimp only at hk;show(fun w'=>Sn.jG w'∨True) b;dsimp only;first|exact⟨hk.1.kept hR (by simp),hk.2.below hR.nil⟩|exact .inr trivial
  ·show(fun w'=>aj w' base d F A∧Sn.jG w') _
   dsimp only;exact⟨H.out.disk.kept ((Turn.refl [] w).drew) (by simp),HV.out.below ((Turn.refl [] w).drew).nil⟩
  apply Lo.r0 1 rfl 0 (by intro u;conv=>lhs;whnf) rfl
  ·intro a w1 hR e0 K hK
   go_simp
   exact hK _ rfl
  apply Lo.r1 2 rfl 8 0 (fun _=>rfl) rfl (by kernel_rfl)
  ·intro a w1 hR e8 K hK
   go_simp
   exact hK _ rfl
  apply Lo.r1 3 rfl 9 1 (fun _=>rfl) rfl (by kernel_rfl)
  ·intro a w1 hR e9 K hK
   go_simp
   exact hK _ rfl
  apply Lo.r1 4 rfl 10 2 (fun _=>rfl) rfl (by kernel_rfl)
  ·intro a w1 hR e10 K hK
   have hb:=(((Turn.refl [] w).drew.mono (T:=F) (by simp)).same hR).heap H.out.box H.out.vk;have c0:w1.cell? ⟨lb,0,none⟩=some (.pointer (some ⟨d,0,none⟩)):=by rw[cell_of hb];rfl
   have z1:=lt_of_heap hb;go_simp
   exact hK _ rfl
  apply Lo.r0 5 rfl 0 (by intro u;conv=>lhs;whnf) rfl
  ·intro a w1 hR e0 K hK
   go_simp
   exact hK _ rfl
  apply Lo.r1 6 rfl 12 4 (fun _=>rfl) rfl (by kernel_rfl)
  ·intro a w1 hR e12 K hK
   go_simp
   exact hK _ rfl
  apply Lo.r1 7 rfl 13 5 (fun _=>rfl) rfl (by kernel_rfl)
  ·intro a w1 hR e13 K hK
   go_simp
   exact hK _ rfl
  apply Lo.r1 8 rfl 14 6 (fun _=>rfl) rfl (by kernel_rfl)
  ·intro a w1 hR e14 K hK
   have hb:=(((Turn.refl [] w).drew.mono (T:=F) (by simp)).same hR).heap H.out.box H.out.vk;have c0:w1.cell? ⟨lb,1,none⟩=some (.string dir):=by rw[cell_of hb];rfl
   have z1:=lt_of_heap hb;go_simp
   exact hK _ rfl
  apply Lo.r0 9 rfl 1 (by intro u;conv=>lhs;whnf) rfl
  ·intro a w1 hR e1 K hK
   go_simp
   exact hK _ rfl
  refine Lo.je 10 rfl 0 rfl [3,7,8] (fun x w'=>∃sb,x= .tuple #[.pointer (some ⟨sb,0,none⟩), .nilIface]∧Sg.dK w w' base d F A2 sb (Sn.nameB dir n) n) (by kernel_rfl) (fun x w w' h hR=>?_) (.inl (by kernel_rfl)) (fun u w1 hR hS hF=>?_) ?_
  ·obtain⟨sb,e,h⟩:=h;exact⟨sb,e,iI h hR⟩
  ·obtain⟨h3,h7,h8, -⟩:=hF
   have hS:=(show(fun w'=>aj w' base d F A∧Sn.jG w') w1 from hS);dsimp only at hS;refine⟨rfl,fun a ha K hK=>?_⟩;have e11:=(ha 11).trans h3;have e15:=(ha 15).trans h7;have e16:=(ha 16).trans h8;clear ha h3 h7 h8;go_simp
   have hr0:=((Turn.refl [] w).drew.mono (T:=F) (by simp)).same hR;refine(Sg.wH w1 base d F A hS.1 dir gG n hn hS.2).mono ?_;rintro e w2 (⟨hne, -⟩|⟨he,sb,rfl,hfr⟩)
   ·exact absurd (HC.out.symm.trans BU.out) hne
   ·rw[HA2.out]at hfr
    exact hK _ _ ⟨sb,rfl,tu hr0 hfr⟩ (vz hfr) (.inr trivial)
  refine Lo.late 11 rfl rfl [9] (fun x w'=>∃sb,x= .tuple #[.pointer (some ⟨sb,0,none⟩), .nilIface]∧Sg.dK w w' base d F A2 sb (Sn.nameB dir n) n) (by kernel_rfl) (fun x w w' h hR=>?_) (by kernel_rfl) (fun u w1 hR hF=>?_) ?_
  ·obtain⟨sb,e,h⟩:=h;exact⟨sb,e,iI h hR⟩
  ·obtain⟨h9, -⟩:=hF
   refine⟨rfl,fun a ha K hK=>?_⟩;have e17:a.tmps.getD 17 undef=u 9:=ha 17;have h9:=(show(fun x w'=>∃sb,x= .tuple #[.pointer (some ⟨sb,0,none⟩), .nilIface]∧Sg.dK w w' base d F A2 sb (Sn.nameB dir n) n) (u 9) w1 from h9);dsimp only at h9;clear ha;obtain⟨sb,e9,BZ⟩:=h9;rw[e9]at e17;go_simp
   exact hK _ _ ⟨sb,rfl,BZ⟩ (Turn.refl _ _)
  refine Lo.late 12 rfl rfl [10] (fun x w'=>∃sb,x= .pointer (some ⟨sb,0,none⟩)∧Sg.dK w w' base d F A2 sb (Sn.nameB dir n) n) (by kernel_rfl) (fun x w w' h hR=>?_) (by kernel_rfl) (fun u w1 hR hF=>?_) ?_
  ·obtain⟨sb,e,h⟩:=h;exact⟨sb,e,iI h hR⟩
  ·obtain⟨h10, -⟩:=hF
   refine⟨rfl,fun a ha K hK=>?_⟩;have e7:a.tmps.getD 7 undef=u 10:=ha 7;have h10:=(show(fun x w'=>∃sb,x= .tuple #[.pointer (some ⟨sb,0,none⟩), .nilIface]∧Sg.dK w w' base d F A2 sb (Sn.nameB dir n) n) (u 10) w1 from h10);dsimp only at h10;clear ha;obtain⟨sb,e9,BZ⟩:=h10;rw[e9]at e7;go_simp
   exact hK _ _ ⟨sb,rfl,BZ⟩ (Turn.refl _ _)
  refine Lo.df 13 rfl rfl [10] (.nilIface) (by kernel_rfl) (fun u w1 hR hF=>?_) (Turn.refl _) ?_
  ·obtain⟨h10, -⟩:=hF
   refine⟨rfl,fun a ha K hK=>?_⟩;have e7:a.tmps.getD 7 undef=u 10:=ha 7;have h10:=(show(fun x w'=>∃sb,x= .tuple #[.pointer (some ⟨sb,0,none⟩), .nilIface]∧Sg.dK w w' base d F A2 sb (Sn.nameB dir n) n) (u 10) w1 from h10);dsimp only at h10;clear ha;obtain⟨sb,e9,BZ⟩:=h10;rw[e9]at e7;go_simp
   exact hK _ rfl
  refine Lo.late 14 rfl rfl [11] (fun x w'=>∃sb,x= .pointer (some ⟨sb,0,none⟩)∧Sg.dK w w' base d F A2 sb (Sn.nameB dir n) n) (by kernel_rfl) (fun x w w' h hR=>?_) (by kernel_rfl) (fun u w1 hR hF=>?_) ?_
  ·obtain⟨sb,e,h⟩:=h;exact⟨sb,e,iI h hR⟩
  ·obtain⟨h11, -⟩:=hF
   refine⟨rfl,fun a ha K hK=>?_⟩;have e18:a.tmps.getD 18 undef=u 11:=ha 18;have h11:=(show(fun x w'=>∃sb,x= .pointer (some ⟨sb,0,none⟩)∧Sg.dK w w' base d F A2 sb (Sn.nameB dir n) n) (u 11) w1 from h11);dsimp only at h11;clear ha;go_simp
   exact hK _ _ h11 (Turn.refl _ _)
  refine Lo.done [12,13] (fun u w1 bI hSd hF=>?_);have hSd:=(show(fun w'=>Sn.jG w'∨True) w1 from hSd);dsimp only at hSd;obtain⟨f12,f13, -⟩:=hF;have d12:u 12=_:=f12;have d13:=(show(fun x w'=>∃sb,x= .pointer (some ⟨sb,0,none⟩)∧Sg.dK w w' base d F A2 sb (Sn.nameB dir n) n) (u 13) w1 from f13);dsimp only at d13;clear f12 f13;simp only[List.take_succ_cons,List.take_zero,List.drop_succ_cons,List.drop_zero,ax,Act.put,List.setIfInBounds_toArray,List.set_cons_succ,List.set_cons_zero,Nat.zero_add,Nat.reduceAdd,d12];obtain⟨sb,e13,F2,hb2,ht2,hf2,hs2⟩:=d13;rw[e13];clear d12 e13 bI hSd;have hs0:az w1 base d F2 A2 lb (.slice ga ms.length gc) dir v ms:=⟨hb2.disk,ht2.heap H.out.box H.out.vk,H.out.row.kept ht2 H.out.O8,H.out.low,fun m hm=>(H.out.jo m hm).kept ht2 (Jg H.out.disk (H.out.jo m hm)),H.out.apart⟩;have hap:∀x∈ms,∀k∈x.foot,k∉aA sb (.slice none 0 0):=fun x hx k hk hm=>by
   simp only[aA,Value.ownBlock,List.mem_cons,Option.mem_toList]at hm;rcases hm with rfl|hm
   ·have:=((H.out.jo x hx).lt k hk).2;omega
   ·simp at hm
  have HF2:=hide hf2;have HS2:=hide hs2;have acN:=hide ht2;have c3:=hs0.c3;have z2:=lt_of_heap hs0.box;have h23:Turn [] w1 (w1.alloc (.cells #[.pointer (some ⟨sb,0,none⟩)] 61)):=(Turn.refl [] w1).alloc _;obtain⟨v7,w7,hr7,aai,ht7,aaq⟩:=RU (w1.alloc (.cells #[.pointer (some ⟨sb,0,none⟩)] 61)) base (.slice ga ms.length gc) ms ⟨sb, .slice none 0 0,n,[]⟩ w1.heap.size (hs0.row.still h23) (ai w1 _) hl (by have:=(hs0.lt _ (ay.2 (.inl rfl))).1;have:=h23.size;omega);obtain⟨va7,vc7,hv7, -, -⟩:=aai.form;subst hv7;have hgr:=(hs0.still h23).grow (m:=⟨sb, .slice none 0 0,n,[]⟩) ht7 aai ((hb2.still h23).jh) hap;have hfr:=(hs0.still h23).fr 3;have ac0:=ht7.heap (hs0.still h23).box (by simpa using(hs0.still h23).Fq);have fr7:=au ac0 3;have c37:w7.cell? ⟨lb,3,none⟩=some (.slice ga ms.length gc):=by rw[cell_of ac0];rfl
  have z7:=lt_of_heap ac0;have aes:(ms++[(⟨sb, .slice none 0 0,n,[]⟩:SM)]).length=ms.length+1:=by rw[List.length_append,List.length_singleton]
  rw[aes]at hgr hr7 aai aaq;clear aes;have HR7:=hide hr7;have Y4:=hide hgr;have HT7:=hide ht7;have adD:=hide aaq;have H23:=hide h23;clear hb2 hf2 hs2 ht2 hs0 hap h23 hr7 aai ht7 aaq hgr ac0 hfr;go_wp2_with (at_builtin;go_must (refine bU rfl rfl rfl rfl HR7.out ?_))
  go_ret
  unfold dX;simp only;rw[←HC.out,HA2.out,BU.out,if_pos rfl];refine⟨rfl,F2,_,_,Y4.out,by simp[SM.abs],?_,fun k hk=>?_⟩
  ·have h1:Turn (aJ F lb (.slice ga ms.length gc) ms) w w1:=acN.out.mono (fun k hk=> .inl (ay.2 (.inr (.inr (.inr hk)))))
   have h2:=(h1.same (H23.out.mono (by simp))).same (HT7.out.mono (T:=aJ F lb (.slice ga ms.length gc) ms) (fun k hk=> .inl (ay.2 (.inr (.inl (by simpa using hk))))));exact h2.setCell (.inl (ay.2 (.inl rfl))) _
  ·have hw1:=acN.out.size
   rcases ay.1 hk with h1|h1|⟨x,hx,h1⟩|h1
   ·exact .inl (ay.2 (.inl h1))
   ·rcases adD.out k h1 with h2|h2
    ·exact .inl (ay.2 (.inr (.inl h2)))
    ·exact .inr (by have:=H23.out.size;omega)
   ·rcases List.mem_append.1 hx with hx|hx
    ·exact .inl (ay.2 (.inr (.inr (.inl ⟨x,hx,h1⟩))))
    ·obtain rfl:=List.mem_singleton.1 hx
     simp only[SM.foot,aA,Value.ownBlock,List.mem_cons,Option.mem_toList]at h1;rcases h1 with rfl|h1
     ·exact .inr (by have:=HS2.out;omega)
     ·simp at h1
   ·rcases HF2.out k h1 with h2|h2
    ·exact .inl (ay.2 (.inr (.inr (.inr h2))))
    ·exact .inr h2
end Lg
end
section
open Go.RowKit Go.Extern.Stop Go.Stop Go.Extern
set_option linter.unusedSimpArgs false
set_option linter.unusedVariables false
namespace As
theorem RV(t:Addr)(w:World):(ReflectliteValue.unpack (.iface 101 (.pointer (some t)))).run Tryz.prog w
 = .ok (.agg #[.pointer (some ⟨7,101,none⟩), .pointer (some ⟨w.heap.size,0,none⟩), .int .u64 150]) (w.alloc (.cells #[.pointer (some t)] 101)):=by kernel_rfl
theorem Y7(a:Addr)(w:World):(ReflectliteValue.methodAny (ReflectliteValue.valueError "reflectlite.Value.Type" 0) (fun t _ _ _=>ReflectliteType.toType t) #[.agg #[.pointer (some ⟨7,101,none⟩), .pointer (some a), .int .u64 150]]).run Tryz.prog w
 = .ok (.iface 165 (.agg #[.pointer (some ⟨7,101,none⟩)])) w:=by kernel_rfl
theorem Y8(w:World):((ReflectliteType.abiMethod fun t=>(fun a:Nat=>Value.int IntKind.u8 (a:Int))<$>Rtype.kind t) #[.pointer (some ⟨7,101,none⟩)]).run Tryz.prog w= .ok (.int .u8 22) w:=by kernel_rfl
theorem Y9(w:World):((ReflectliteType.abiMethod fun t=>(fun a:Nat=>Value.int IntKind.u8 (a:Int))<$>Rtype.kind t) #[.pointer (some ⟨7,45,none⟩)]).run Tryz.prog w= .ok (.int .u8 2) w:=by kernel_rfl
theorem rlm(z:Sem Value)(f:TypeId→Addr→Nat→Nat→Sem Value)(v:Value):
 ReflectliteValue.method z f #[v]=(do match ←ReflectliteValue.parts v with|none=>z|some (t,a,fl)=>f t a fl (fl%32)):=rfl
theorem RX(a:Addr)(w:World):(ReflectliteValue.parts (.agg #[.pointer (some ⟨7,101,none⟩), .pointer (some a), .int .u64 150])).run Tryz.prog w= .ok (some (101,a,150)) w:=by kernel_rfl
theorem W9(a p:Addr)(W:World)(ha:W.cell? a=some (.pointer (some p))):
 (ReflectliteValue.method (ReflectliteValue.valueError "reflectlite.Value.IsNil" 0) ReflectliteValue.isNil #[.agg #[.pointer (some ⟨7,101,none⟩), .pointer (some a), .int .u64 150]]).run Tryz.prog W= .ok (.bool false) W:=by
 rw[rlm];simp only[Sem.run_bind,RX,Result.andThen];simp[ReflectliteValue.isNil,loadVar,isAgg,underlying,Tryz.underlying101,ha,Result.andThen]
theorem Za(w:World):(ReflectliteType.method ReflectliteType.elem #[.agg #[.pointer (some ⟨7,101,none⟩)]]).run Tryz.prog w= .ok (.iface 165 (.agg #[.pointer (some ⟨7,45,none⟩)])) w:=by kernel_rfl
theorem Jk(w:World):(ReflectliteType.relation "Implements" ReflectliteType.implements_ #[.agg #[.pointer (some ⟨7,45,none⟩)], .iface 165 (.agg #[.pointer (some ⟨7,26,none⟩)])]).run Tryz.prog w= .ok (.bool true) w:=by kernel_rfl
theorem UJ(v:Value)(w:World):(ReflectliteType.typeOf #[.iface 45 v]).run Tryz.prog w= .ok (.iface 165 (.agg #[.pointer (some ⟨7,45,none⟩)])) w:=by kernel_rfl
theorem Jl(w:World):(ReflectliteType.relation "AssignableTo" ReflectliteType.assignableTo #[.agg #[.pointer (some ⟨7,45,none⟩)], .iface 165 (.agg #[.pointer (some ⟨7,45,none⟩)])]).run Tryz.prog w= .ok (.bool true) w:=by kernel_rfl
theorem RY(n:Int)(w:World):(ReflectliteValue.unpack (.iface 45 (.int .i64 n))).run Tryz.prog w
 = .ok (.agg #[.pointer (some ⟨7,45,none⟩), .pointer (some ⟨w.heap.size,0,none⟩), .int .u64 130]) (w.alloc (.cells #[.int .i64 n] 45)):=by kernel_rfl
theorem UK(w:World):(Rtype.elem? 101).run Tryz.prog w= .ok (some 45) w:=by kernel_rfl
theorem mkE(p:Addr)(w:World):(ReflectliteValue.mk 45 p ReflectliteValue.flagAddr).run Tryz.prog w= .ok (.agg #[.pointer (some ⟨7,45,none⟩), .pointer (some p), .int .u64 386]) w:=by kernel_rfl
theorem elemV(a p:Addr)(W:World)(ha:W.cell? a=some (.pointer (some p))):
 (ReflectliteValue.method (ReflectliteValue.valueError "reflectlite.Value.Elem" 0) ReflectliteValue.elem #[.agg #[.pointer (some ⟨7,101,none⟩), .pointer (some a), .int .u64 150]]).run Tryz.prog W
   = .ok (.agg #[.pointer (some ⟨7,45,none⟩), .pointer (some p), .int .u64 386]) W:=by
 rw[rlm];simp only[Sem.run_bind,RX,Result.andThen];simp[ReflectliteValue.elem,loadVar,isAgg,underlying,Tryz.underlying101,ha,Result.andThen,UK,mkE]
theorem Xa(a:Addr)(w:World):(ReflectliteValue.parts (.agg #[.pointer (some ⟨7,45,none⟩), .pointer (some a), .int .u64 386])).run Tryz.prog w= .ok (some (45,a,386)) w:=by kernel_rfl
theorem Xb(a:Addr)(w:World):(ReflectliteValue.parts (.agg #[.pointer (some ⟨7,45,none⟩), .pointer (some a), .int .u64 130])).run Tryz.prog w= .ok (some (45,a,130)) w:=by kernel_rfl
theorem UL(w:World):(Rtype.directlyAssignable 45 45).run Tryz.prog w= .ok true w:=by kernel_rfl
theorem rls(v x:Value):∃(f1:Sem Value) (f2:Sem Value) (g:TypeId→Nat→TypeId→Value→Addr→Sem Value),ReflectliteValue.set #[v,x]=(do
 let (some (dst,a,fl),some (src,b,_)):=(←ReflectliteValue.parts v,←ReflectliteValue.parts x)|f1
 if fl/ReflectliteValue.flagAddr%2==0 then f2
 else
  let val ←loadVar src b;if ←Rtype.directlyAssignable dst src then do
   storeVar dst a val
   pure (.tuple #[])
  else g dst fl src val a):=⟨_,_,_,rfl⟩
theorem setE(ta b:Addr)(n:Int)(old:Value)(W:World)(hb:W.cell? b=some (.int .i64 n))(ht:W.cell? ta=some old)(hf:W.frozen? ta=false):
 (ReflectliteValue.set #[.agg #[.pointer (some ⟨7,45,none⟩), .pointer (some ta), .int .u64 386], .agg #[.pointer (some ⟨7,45,none⟩), .pointer (some b), .int .u64 130]]).run Tryz.prog W
   = .ok (.tuple #[]) (W.setCell ta (.int .i64 n)):=by
 obtain⟨f1,f2,g,hs⟩:=rls (.agg #[.pointer (some ⟨7,45,none⟩), .pointer (some ta), .int .u64 386]) (.agg #[.pointer (some ⟨7,45,none⟩), .pointer (some b), .int .u64 130]);rw[hs];simp only[Sem.run_bind,Xa,Xb,Result.andThen];simp[ReflectliteValue.flagAddr,loadVar,isAgg,underlying,Tryz.underlying45,hb,Result.andThen,UL,storeVar,Value.cells,storeCells,Addr.add];rw[run_store Tryz.prog W ta _ _ (by rfl)];simp[ht,hf]
theorem methodKind(h:Value)(w:World):(Go.method 394 165 (.agg #[h]) "Kind").run Tryz.prog w= .ok (226,h) w:=by kernel_rfl
theorem methodElem(h:Value)(w:World):(Go.method 394 165 (.agg #[h]) "Elem").run Tryz.prog w= .ok (236, .agg #[h]) w:=by kernel_rfl
theorem methodImplements(h:Value)(w:World):(Go.method 394 165 (.agg #[h]) "Implements").run Tryz.prog w= .ok (237, .agg #[h]) w:=by kernel_rfl
theorem methodAssignableTo(h:Value)(w:World):(Go.method 394 165 (.agg #[h]) "AssignableTo").run Tryz.prog w= .ok (234, .agg #[h]) w:=by kernel_rfl
set_option maxRecDepth 100000 in
theorem as_hit(n:Int)(t:Addr)(old:Value)(w:World)(hg:w.cell? ⟨0,0,none⟩=some (.iface 165 (.agg #[.pointer (some ⟨7,26,none⟩)])))(ht0:w.cell? t=some old)(hf0:w.frozen? t=false):
 Calls Tryz.prog 54 #[.iface 45 (.int .i64 n), .iface 101 (.pointer (some t))] w fun ev w'=>ev= .returned (.bool true)∧w'=((((w.alloc (.cells #[.pointer (some t)] 101)).alloc (.cells #[.pointer (some ⟨7,101,none⟩), .pointer (some ⟨w.heap.size,0,none⟩), .int .u64 150] 135)).alloc (.cells #[.pointer (some ⟨7,101,none⟩), .pointer (some ⟨w.heap.size,0,none⟩), .int .u64 150] 135)).alloc (.cells #[.int .i64 n] 45)).setCell t (.int .i64 n):=by
 have h6:= @run_callFunc_extern Tryz.prog 83 _ (fun args=>ReflectliteValue.unpack (args.getD 0 (.tuple #[]))) Tryz.func83 (by kernel_rfl) (by kernel_rfl) (by kernel_rfl) (by kernel_rfl);have h7:= @run_callFunc_extern Tryz.prog 84 _ (ReflectliteValue.methodAny (ReflectliteValue.valueError "reflectlite.Value.Type" 0) (fun t _ _ _=>ReflectliteType.toType t)) Tryz.func84 (by kernel_rfl) (by kernel_rfl) (by kernel_rfl) (by kernel_rfl);have h8:= @run_callFunc_extern Tryz.prog 85 _ (ReflectliteValue.method (ReflectliteValue.valueError "reflectlite.Value.IsNil" 0) ReflectliteValue.isNil) Tryz.func85 (by kernel_rfl) (by kernel_rfl) (by kernel_rfl) (by kernel_rfl);have h27:= @run_callFunc_extern Tryz.prog 226 _ (ReflectliteType.abiMethod fun t=>do pure (.int .u8 (←Rtype.kind t))) Tryz.func226 (by kernel_rfl) (by kernel_rfl) (by kernel_rfl) (by kernel_rfl);have h37:= @run_callFunc_extern Tryz.prog 236 _ (ReflectliteType.method ReflectliteType.elem) Tryz.func236 (by kernel_rfl) (by kernel_rfl) (by kernel_rfl) (by kernel_rfl);have h38:= @run_callFunc_extern Tryz.prog 237 _ (ReflectliteType.relation "Implements" ReflectliteType.implements_) Tryz.func237 (by kernel_rfl) (by kernel_rfl) (by kernel_rfl) (by kernel_rfl);have h10:= @run_callFunc_extern Tryz.prog 117 _ ReflectliteType.typeOf Tryz.func117 (by kernel_rfl) (by kernel_rfl) (by kernel_rfl) (by kernel_rfl);have h35:= @run_callFunc_extern Tryz.prog 234 _ (ReflectliteType.relation "AssignableTo" ReflectliteType.assignableTo) Tryz.func234 (by kernel_rfl) (by kernel_rfl) (by kernel_rfl) (by kernel_rfl);have h11:= @run_callFunc_extern Tryz.prog 118 _ (ReflectliteValue.method (ReflectliteValue.valueError "reflectlite.Value.Elem" 0) ReflectliteValue.elem) Tryz.func118 (by kernel_rfl) (by kernel_rfl) (by kernel_rfl) (by kernel_rfl);have h12:= @run_callFunc_extern Tryz.prog 119 _ ReflectliteValue.set Tryz.func119 (by kernel_rfl) (by kernel_rfl) (by kernel_rfl) (by kernel_rfl);have tO:=UJ;have mA:=methodAssignableTo;have aE:=Jl;have vE:=RY;have f6:=RV;have f7:=Y7;have mK:=methodKind;have mE:=methodElem;have mI:=methodImplements;have kP:=Y8;have kE:=Y9;have eP:=Za;have iE:=Jk;have n8:=W9 ⟨w.heap.size,0,none⟩ t ((w.alloc (.cells #[.pointer (some t)] 101)).alloc (.cells #[.pointer (some ⟨7,101,none⟩), .pointer (some ⟨w.heap.size,0,none⟩), .int .u64 150] 135)) (by simp);have hlt:0<w.heap.size:=by
  rcases Nat.lt_or_ge 0 w.heap.size with h|h
  ·exact h
  ·simp[World.cell?,Array.getElem?_eq_none h]at hg
 have hg2:((w.alloc (.cells #[.pointer (some t)] 101)).alloc (.cells #[.pointer (some ⟨7,101,none⟩), .pointer (some ⟨w.heap.size,0,none⟩), .int .u64 150] 135)).cell? ⟨0,0,none⟩=some (.iface 165 (.agg #[.pointer (some ⟨7,26,none⟩)])):=by
  rw[World.cell?_alloc_lt _ _ ⟨0,0,none⟩ (by rw[World.size_alloc];show 0<_;omega),World.cell?_alloc_lt _ _ ⟨0,0,none⟩ hlt];exact hg
 have htl:t.block<w.heap.size:=by
  rcases Nat.lt_or_ge t.block w.heap.size with h|h
  ·exact h
  ·simp[World.cell?,Array.getElem?_eq_none h]at ht0
 have el:=elemV ⟨w.heap.size,0,none⟩ t (((w.alloc (.cells #[.pointer (some t)] 101)).alloc (.cells #[.pointer (some ⟨7,101,none⟩), .pointer (some ⟨w.heap.size,0,none⟩), .int .u64 150] 135)).alloc (.cells #[.pointer (some ⟨7,101,none⟩), .pointer (some ⟨w.heap.size,0,none⟩), .int .u64 150] 135)) (by rw[World.cell?_alloc_lt _ _ ⟨w.heap.size,0,none⟩ (by simp;omega)];simp);have st:=setE t ⟨w.heap.size+1+1+1,0,none⟩ n old ((((w.alloc (.cells #[.pointer (some t)] 101)).alloc (.cells #[.pointer (some ⟨7,101,none⟩), .pointer (some ⟨w.heap.size,0,none⟩), .int .u64 150] 135)).alloc (.cells #[.pointer (some ⟨7,101,none⟩), .pointer (some ⟨w.heap.size,0,none⟩), .int .u64 150] 135)).alloc (.cells #[.int .i64 n] 45))
  (by rw[World.cell?_alloc_at _ _ _ _ (by simp)];rfl)
  (by rw[World.cell?_alloc_lt _ _ t (by simp;omega),World.cell?_alloc_lt _ _ t (by simp;omega),World.cell?_alloc_lt _ _ t (by simp;omega),World.cell?_alloc_lt _ _ t htl];exact ht0)
  (by rw[World.frozen?_alloc_old _ _ t (by simp;omega),World.frozen?_alloc_old _ _ t (by simp;omega),World.frozen?_alloc_old _ _ t (by simp;omega),World.frozen?_alloc_old _ _ t (Nat.ne_of_lt htl)];exact hf0)
 go_enter Tryz.func54,Tryz.ntmps54
 go_wp2
 refine wp_loop_rounds 1 ?_;rw[rounds_succ];go_wp2
 go_ret
 exact⟨rfl,rfl⟩
end As
end
section
open Go.RowKit Go.Extern.Stop Go.Stop Go.Extern
set_option maxRecDepth 100000
set_option linter.unusedSimpArgs false
set_option linter.unusedVariables false
namespace As
def iq(w:World):Prop:=w.cell? ⟨0,0,none⟩=some (.iface 165 (.agg #[.pointer (some ⟨7,26,none⟩)]))
theorem iq.lt{w:World}(h:iq w):0<w.heap.size:=by
 rcases Nat.lt_or_ge 0 w.heap.size with h1|h1
 ·exact h1
 ·simp[iq,World.cell?,Array.getElem?_eq_none h1]at h
theorem iq.below{w w':World}(h:iq w)(hb:Below w.heap.size w w'):iq w':=by
 have hl:=h.lt;unfold iq at*;rw[hb.cell (p:=⟨0,0,none⟩) hl];exact h
theorem Jm(w:World):Calls Tryz.prog 28 #[.nilIface] w fun e w'=>e= .returned (.int .i64 0)∧w=w':=by
 go_enter Tryz.func28,Tryz.ntmps28
 go_wp2
 go_ret
 exact⟨rfl,rfl⟩
theorem rC(n:Int)(w:World)(hg:iq w):Calls Tryz.prog 28 #[.iface 45 (.int .i64 n)] w fun e w'=>e= .returned (.int .i64 n)∧Below w.heap.size w w':=by
 have HG:Hid (iq w):=hg;have hlt:=hg.lt;clear hg;go_enter Tryz.func28,Tryz.ntmps28
 go_wp2_with fail
 refine(as_hit n ⟨w.heap.size,0,none⟩ (.int .i64 0) _ (HG.out.below ((Below.refl _ w).alloc (Nat.le_refl _) _)) (by simp) (by simp)).mono ?_;rintro e w' ⟨rfl,rfl⟩;go_wp2
 go_ret
 exact⟨rfl,(((((Below.refl _ w).alloc (Nat.le_refl _) _).alloc (by simp) _).alloc (by simp;omega) _).alloc (by simp;omega) _).alloc (by simp;omega) _⟩
end As
end
section
open Go.RowKit Go.Maps
set_option maxRecDepth 100000
set_option linter.unusedSimpArgs false
set_option linter.unusedVariables false
attribute [local go_sem] Oper.semAt_some
open Dk (DA aj Parts dA aC bQ)
open Sg (aS aA dV Both Came ae flat)
namespace Lg
def iJ(A:DA)(dir:ByteArray)(v:LV)(n:Nat)(m:Nat×List Bt.aB)(ss:List (Nat×List Bt.aB)):Int×DA×LV×List (Nat×List Bt.aB):=
 if (A.sync (Sn.nameB dir m.1).data.toList).1=0 then
  ((dX (A.sync (Sn.nameB dir m.1).data.toList).2 dir n ss).1,(dX (A.sync (Sn.nameB dir m.1).data.toList).2 dir n ss).2.1,{v with safe:=(n:Int)},(dX (A.sync (Sn.nameB dir m.1).data.toList).2 dir n ss).2.2)
 else((A.sync (Sn.nameB dir m.1).data.toList).1,(A.sync (Sn.nameB dir m.1).data.toList).2,v,ss)
theorem ig.turn{w w':World}{base d:Nat}{G:List Nat}{A':DA}{lb:Nat}{dir:ByteArray}{v':LV}{ss':List (Nat×List Bt.aB)}(h:ig w w' base d G A' lb dir v' ss'):Turn G w w':=by
 obtain⟨F',gv',ms',hl,hm,ht2,hf⟩:=h;exact ht2
theorem ig.then{w w1 w':World}{base d lb:Nat}{F:List Nat}{G:List Nat}{A':DA}{gv:Value}{dir:ByteArray}{v':LV}{ms:List SM}{ss':List (Nat×List Bt.aB)}(h:ig w1 w' base d (aJ F lb gv ms) A' lb dir v' ss')(ht:Turn G w w1)(hf:∀k∈aJ F lb gv ms,k∈G∨w.heap.size≤k):ig w w' base d G A' lb dir v' ss':=by
 obtain⟨F',gv',ms',hl,hm,ht2,hf2⟩:=h;refine⟨F',gv',ms',hl,hm,ht.trans ht2 hf,fun k hk=>?_⟩;rcases hf2 k hk with h|h
 ·exact hf k h
 ·exact .inr (Nat.le_trans ht.size h)
theorem RZ(w:World)(base d:Nat)(F:List Nat)(A:DA)(lb:Nat)(gv:Value)(dir:ByteArray)(v:LV)(ms0:List SM)(m:SM)(h:az w base d F A lb gv dir v (ms0++[m]))(hl:ms0.length≤900000)(hx:m.xs.length≤1000000)(hmn:m.n≤1099511627776)(gG:dir.size≤1000)(n:Nat)(hn:n≤1099511627776)(hnx:ae m.n m.xs=n)(hv:∀Z,Turn (aJ F lb gv (ms0++[m])) w Z→Sn.jG Z):
 Calls Tryz.prog 57 #[.pointer (some ⟨lb,0,none⟩)] w fun e w'=>e= .returned (aC (iJ A dir v n m.abs ((ms0++[m]).map SM.abs)).1)∧
  ig w w' base d (aJ F lb gv (ms0++[m])) (iJ A dir v n m.abs ((ms0++[m]).map SM.abs)).2.1 lb dir (iJ A dir v n m.abs ((ms0++[m]).map SM.abs)).2.2.1 (iJ A dir v n m.abs ((ms0++[m]).map SM.abs)).2.2.2:=by
 have H:=hide h;have HV:=hide hv;have hsy:=ku w base d F A lb gv dir v ms0 m h (by omega) hx (Sg.ja hmn gG);rw[hnx]at hsy;have Ey:=hide hnx;clear h hnx hv;obtain⟨c,hc⟩:∃c,c=(A.sync (Sn.nameB dir m.n).data.toList).1:=⟨_,rfl⟩;obtain⟨A2,hA2⟩:∃A2,A2=(A.sync (Sn.nameB dir m.n).data.toList).2:=⟨_,rfl⟩;rw[←hc,←hA2]at hsy;have HC:=hide hc;have HA:=hide hA2;clear hc hA2;go_enter Tryz.func57,Tryz.ntmps57
 go_wp2_with fail
 refine hsy.mono ?_;rintro e w2 ⟨rfl,hd2⟩;by_cases hc0:c=0
 ·have hr0:aC c= .nilIface:=by rw[hc0];rfl
  have hs:jH c v (n:Int)={v with safe:=(n:Int)}:=by unfold jH;rw[if_pos hc0]
  rw[hs]at hd2;rw[hr0];obtain⟨F2,gv2,ms2,hl2,hm2,ht2,hf2⟩:=hd2;rw[List.map_append,List.map_singleton]at hm2;obtain⟨ms20,m2,rfl,ab8,lL⟩:=dB hm2;have aah:ms20.length=ms0.length:=by rw[←List.length_map (f:=SM.abs),ab8,List.length_map]
  have e1:m2.n=m.n:=congrArg Prod.fst lL;have e2:m2.xs=m.xs:=congrArg Prod.snd lL;have hen:=kD w2 base d F2 A2 lb gv2 dir _ ms20 m2 hl2 (by omega) (by rw[e2];exact hx);rw[e1,e2,Ey.out]at hen;have HC0:=hide hc0;have Lj:=hide hen;have HL2:=hide hl2;have HM2:=hide hm2;have HT2:=hide ht2;have HF2:=hide hf2;have acO:=hide aah;clear hc0 hr0 hs hl2 hm2 ht2 hf2 hen ab8 lL aah e1 e2 hsy;go_wp2_with fail
  refine Lj.out.mono ?_;rintro e w3 ⟨rfl,ht3⟩;have hb:=xM w3 base d F2 A2 lb gv2 dir _ (ms20++[m2]) (HL2.out.still ht3) (by rw[List.length_append,List.length_singleton,acO.out];omega) gG n hn (HV.out w3 (HT2.out.same (ht3.mono (by simp))));rw[show(ms20++[m2]).map SM.abs=(ms0++[m]).map SM.abs by rw[List.map_append,List.map_append,List.map_singleton,List.map_singleton,←HM2.out,List.map_append,List.map_singleton]]at hb;have HB:=hide hb;have HT3:=hide ht3;clear hb ht3 Lj;go_wp2_with fail
  refine HB.out.mono ?_;rintro e w4 ⟨rfl,hd4⟩;obtain⟨r,hr⟩:∃r,r=aC (dX A2 dir n ((ms0++[m]).map SM.abs)).1:=⟨_,rfl⟩;rw[←hr];have HR:=hide hr;have HD:=hide (hd4.then (HT2.out.same (HT3.out.mono (by simp))) HF2.out);clear hr hd4 HB;go_wp2
  go_ret
  unfold iJ SM.abs;simp only;rw[←HC.out,←HA.out,if_pos HC0.out];simp only;exact⟨by rw[HR.out];rfl,HD.out⟩
 ·have hr0:aC c= .iface 45 (.int .i64 c):=by unfold aC;rw[if_neg hc0];rfl
  have hs:jH c v (n:Int)=v:=by unfold jH;rw[if_neg hc0]
  rw[hs]at hd2;rw[hr0];have HC0:=hide hc0;have HR0:=hide hr0;have HD:=hide hd2;clear hc0 hr0 hs hd2 hsy;go_wp2
  go_ret
  unfold iJ SM.abs;simp only;rw[←HC.out,←HA.out,if_neg HC0.out];simp only;exact⟨by rw[HR0.out];rfl,HD.out⟩
end Lg
end
section
open Go.RowKit Go.Maps
set_option maxRecDepth 100000
set_option linter.unusedSimpArgs false
set_option linter.unusedVariables false
attribute [local go_sem] Oper.semAt_some
def mix(b:Int)(rs:List Bt.Rec)(k:Nat):List Bt.Rec:=gp b (rs.take k)++rs.drop k
theorem Si(b:Int)(rs:List Bt.Rec):mix b rs 0=rs:=by simp[mix,gp]
theorem UM(b:Int)(rs:List Bt.Rec):mix b rs rs.length=gp b rs:=by simp[mix]
theorem wQ(b:Int)(rs:List Bt.Rec){k:Nat}(hk:k≤rs.length):(mix b rs k).length=rs.length:=by
 unfold mix;rw[List.length_append,ou,List.length_take,List.length_drop];omega
theorem Sj(b:Int)(rs:List Bt.Rec){k:Nat}(hk:k<rs.length):(mix b rs k)[k]'(by rw[wQ b rs (by omega)];exact hk)=rs[k]:=by
 have hl:(gp b (rs.take k)).length=k:=by rw[ou,List.length_take];omega
 have h:(mix b rs k)[k]? =some rs[k]:=by
  unfold mix;rw[List.getElem?_append_right (by omega),hl,Nat.sub_self,List.getElem?_drop,Nat.add_zero,List.getElem?_eq_getElem hk]
 rw[List.getElem?_eq_getElem (by rw[wQ b rs (by omega)];exact hk)]at h;exact Option.some.inj h
theorem UN(b:Int)(rs:List Bt.Rec){k:Nat}(hk:k<rs.length):(mix b rs k).set k {rs[k]with off:=b+k}=mix b rs (k+1):=by
 have hl:(gp b (rs.take k)).length=k:=by rw[ou,List.length_take];omega
 unfold mix;rw[List.set_append_right _ _ (by omega),hl,Nat.sub_self,List.drop_eq_getElem_cons hk,List.set_cons_zero,Di b rs hk,List.append_assoc,List.singleton_append]
theorem Ll(w:World)(b:Int)(v:Value)(rs:List Bt.Rec)(h:bF w v rs)(hb:0≤b)(hb2:b≤1099511627776)(hl:rs.length≤1000000):
 Calls Tryz.prog 30 #[.int .i64 b,v] w fun e w'=>∃sv,e= .returned (.agg #[.int .i64 b, .int .i64 (b+rs.length),sv])∧aO 52 6 recC w' w.heap.size sv (gp b rs)∧Turn [] w w':=by
 have H:=hide h;clear h;go_enter Tryz.func30,Tryz.ntmps30
 go_wp2_with fail
 obtain⟨w0,hw0⟩:∃w0,w0=w.alloc (.cells #[.int .i64 0, .int .i64 0, .slice none 0 0] 71):=⟨_,rfl⟩;have ht0:Turn [] w w0:=by rw[hw0];exact(Turn.refl [] w).alloc _
 have hX0:w0.heap[w.heap.size]? =some (.cells #[.int .i64 0, .int .i64 0, .slice none 0 0] 71 (0,0)):=by rw[hw0];exact ai w _
 have hs0:w0.heap.size=w.heap.size+1:=by rw[hw0,World.size_alloc]
 rw[←hw0];refine(OQ w0 v rs (H.out.still ht0) hl).mono ?_;rintro e w1 ⟨sv,rfl,Pe,ht1⟩;obtain⟨sa,sc,rfl,aoE,aoF⟩:=Pe.form;have hX1:=ht1.heap hX0 (by simp);have hst:aO 52 6 recC w1 (w.heap.size+1) (.slice sa rs.length sc) (mix b rs 0)∧w1.heap[w.heap.size]? =some (.cells #[.int .i64 0, .int .i64 0, .slice none 0 0] 71 (0,0))∧Turn [] w w1:=by
  rw[Si,←hs0];exact⟨Pe,hX1,ht0.same ht1⟩
 have hmx:maxLen=9223372036854775807:=by simp[maxLen]
 rw[hmx]at aoF;have HST:=hide hst;clear hw0 ht0 hX0 hs0 Pe ht1 hX1 hst;go_wp2
 go_loopw [10] (fun kv wr=>∃k:Nat,k≤rs.length∧kv= .int .i64 k∧aO 52 6 recC wr (w.heap.size+1) (.slice sa rs.length sc) (mix b rs k)∧wr.heap[w.heap.size]? =some (.cells #[.int .i64 0, .int .i64 0, .slice none 0 0] 71 (0,0))∧Turn [] w wr) (fun kv _=>rs.length-(intOf kv).toNat)
 case atStart=>exact⟨0,Nat.zero_le _,rfl,HST.out⟩
 case round=>
  obtain⟨k,hk,rfl,Pe,hX,htw⟩:=hrel;have dI:=hide Pe;have HX:=hide hX;have dO:=hide htw;clear Pe hX htw;by_cases hlt:k<rs.length
  ·obtain⟨g,cap,e,hc,hfz⟩:=dI.out.at bH (j:=k) (by rw[wQ b rs hk];exact hlt)
   rw[wQ b rs hk]at e;simp only[Value.slice.injEq,true_and]at e;obtain⟨rfl,rfl⟩:=e;have c0:wr.cell? ⟨g,k*6,none⟩=some (.int .i64 (rs[k]).off):=by
    have:=hc 0 (by omega);rw[Sj b rs hlt]at this;simpa[recC]using this
   have f0:=hfz (k*6);have hg:=dI.out.lt g (by simp[Value.ownBlock]);have z1:=hg.2;have abw:=dI.out.set bH (j:=k) (i:=0) (by rw[wQ b rs hk];exact hlt) (by omega) (u:= .int .i64 (b+k)) (x':={rs[k]with off:=b+k}) (by rw[Sj b rs hlt];rfl);rw[UN b rs hlt,Nat.add_zero]at abw;have hts:Turn [g] wr (wr.setCell ⟨g,k*6,none⟩ (.int .i64 (b+k))):=(Turn.refl _ _).setCell (.inl (by simp)) _;have hX2:=hts.heap HX.out (by simp;omega);have ht2:=dO.out.trans hts (fun j hj=> .inr (by simp at hj;omega));have Xc:=hide abw;have HX2:=hide hX2;have HT2:=hide ht2;clear abw hts hX2 ht2 hc hfz hg;go_wp2
   all_goals refine⟨⟨k+1,by omega,by go_num,Xc.out,HX2.out,HT2.out⟩,?_⟩
   all_goals (simp only[intOf];omega)
  ·obtain rfl:k=rs.length:=by omega
   have y0:wr.cell? ⟨w.heap.size,0,none⟩=some (.int .i64 0):=by simpa using cell_of HX.out 0
   have y1:wr.cell? ⟨w.heap.size,1,none⟩=some (.int .i64 0):=by simpa using cell_of HX.out 1
   have y2:wr.cell? ⟨w.heap.size,2,none⟩=some (.slice none 0 0):=by simpa using cell_of HX.out 2
   have q0:wr.frozen? ⟨w.heap.size,0,none⟩=false:=au HX.out 0;have q1:wr.frozen? ⟨w.heap.size,1,none⟩=false:=au HX.out 1;have q2:wr.frozen? ⟨w.heap.size,2,none⟩=false:=au HX.out 2;have z1:=lt_of_heap HX.out;go_wp2
   have hy:=heap_set (heap_set (heap_set HX.out 0 (.int .i64 b)) 1 (.int .i64 (b+rs.length))) 2 (.slice sa rs.length sc);have ht:Turn [w.heap.size] wr (((wr.setCell ⟨w.heap.size,0,none⟩ (.int .i64 b)).setCell ⟨w.heap.size,1,none⟩ (.int .i64 (b+rs.length))).setCell ⟨w.heap.size,2,none⟩ (.slice sa rs.length sc)):=
    (((Turn.refl _ _).setCell (.inl (by simp)) _).setCell (.inl (by simp)) _).setCell (.inl (by simp)) _
   have hld:=jl (by simpa using hy);refine bodyPost_ret (v:= .agg #[.int .i64 b, .int .i64 (b+rs.length), .slice sa rs.length sc]) (by simp[results,Tryz.results30,asAddr,hld,Result.andThen]) rfl ⟨_,rfl,?_,dO.out.trans ht (fun k hk=> .inr (by simp at hk;omega))⟩;rw[←UM];exact(dI.out.kept ht (fun k hk hm=>by have:=(dI.out.lt k hk).1;simp at hm;omega)).jA (by omega)
end
end Go.Proofs.YtficbckncieabaaGreatDoor
