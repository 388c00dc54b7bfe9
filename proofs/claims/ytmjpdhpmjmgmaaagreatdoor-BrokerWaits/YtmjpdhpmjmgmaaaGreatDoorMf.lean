/- Lemmas of the claim, part f of 14. -/
import Derived.Test.YtmjpdhpmjmgmaaaGreatDoorMe
import Derived.Test.YtmjpdhpmjmgmaaaGreatDoorMb
import Derived.Test.YtmjpdhpmjmgmaaaGreatDoorMa
import Derived.Test.YtmjpdhpmjmgmaaaGreatDoorMc
import Derived.Test.YtmjpdhpmjmgmaaaGreatDoorProg
import Derived.WalkKit
import Derived.LaidEql
import Derived.Stop.Asserts
import Derived.RowKitTokens
import Derived.Test.YtmjpdhpmjmgmaaaGreatDoorMd
import Derived.Below
import Derived.WalkLawsBesides
namespace Go.Proofs.YtmjpdhpmjmgmaaaGreatDoor
section
open Go.RowKit Go.Maps
set_option maxRecDepth 100000
set_option linter.unusedSimpArgs false
set_option linter.unusedVariables false
attribute [local go_sem] Oper.semAt_some
open Dk (DA ay Parts fE aW dI)
open Sg (BO BV rM mf Chain flat kL Both Least aQ JZ lU aA)
namespace Lg
theorem qA:∀{rs:List Bt.Rec} {lo hi:Int},Bt.bK rs lo hi=0→∀r∈rs,lo≤r.off∧r.off<hi
 |[],_,_,_,r,hr=>by simp at hr
 |q::rs,lo,hi,h,r,hr=>by
  unfold Bt.bK at h;split at h
  ·rename_i h0
   have h1:=Bt.jV h0;rcases List.mem_cons.1 hr with rfl|hr
   ·exact⟨h1.1,h1.2.1⟩
   ·have:=qA h r hr
    omega
  ·rename_i h0
   exact absurd h h0
theorem uB{x:Bt.aX}(h:Bt.aO x=0):∀r∈x.recs,x.base≤r.off∧r.off<x.fin:=qA (Bt.l7 (Bt.eY h).1).2.2.2.2.2
theorem Fj{x:Bt.aX}(h:Bt.aO x=0):x.base<x.fin:=(Bt.l7 (Bt.eY h).1).2.2.1
theorem sU:∀{xs:List Bt.aX} {b:Int},Chain b xs→∀x∈xs,b≤x.base
 |x::r,b,h,y,hy=>by
  rcases List.mem_cons.1 hy with rfl|hy
  ·exact h.2.1
  ·have:=sU h.2.2 y hy
   have:=Fj h.1;have:=h.2.1;omega
theorem BR:∀{xs:List Bt.aX} {b:Int},Chain b xs→∀{i j:Nat} (hij:i<j) (hj:j<xs.length),(xs[i]'(by omega)).fin≤xs[j].base
 |x::r,b,h,0,j+1,_,hj=>by
  have:=sU h.2.2 (r[j]'(by simpa using hj)) (List.getElem_mem _);simpa using this
 |x::r,b,h,i+1,j+1,hij,hj=>by
  have:=BR h.2.2 (i:=i) (j:=j) (by omega) (by simpa using hj);simpa using this
theorem nU{fr:Int}{rs:List Bt.Rec}(h:∀r∈rs,fr≤r.off):dK fr rs=rs:=by
 unfold dK;rw[List.filter_eq_self];intro r hr;exact decide_eq_true (h r hr)
theorem sV{fr:Int}{rs:List Bt.Rec}(h:∀r∈rs,r.off<fr):dK fr rs=[]:=by
 unfold dK;rw[List.filter_eq_nil_iff];intro r hr;have:=h r hr;simp;omega
theorem nC(fr:Int)(xs ys:List Bt.aX):aV fr (xs++ys)=aV fr xs++aV fr ys:=by unfold aV;rw[List.flatMap_append]
theorem xA{fr:Int}{xs:List Bt.aX}(h:∀x∈xs,dK fr x.recs=[]):aV fr xs=[]:=by
 unfold aV;rw[List.flatMap_eq_nil_iff];exact h
theorem Fp{fr fr':Int}{xs:List Bt.aX}(h:∀x∈xs,dK fr' x.recs=dK fr x.recs):aV fr' xs=aV fr xs:=by
 induction xs with
 |nil=>rfl
 |cons x r ih=>
  unfold aV at ih⊢;rw[List.flatMap_cons,List.flatMap_cons,h x (by simp),ih (fun y hy=>h y (by simp[hy]))]
structure RInv(fr fr':Int)(xs:List Bt.aX)(a:Nat):Prop where
 le:a≤xs.length
 none:aV fr (xs.take a)=[]
 rest:∀x∈xs.drop a,dK fr' x.recs=dK fr x.recs
 yj:∀i (h:i<xs.length),i<a→(xs[i]).fin≤fr'
 ge:fr≤fr'
theorem RInv.first(fr:Int)(xs:List Bt.aX):RInv fr fr xs 0:=⟨Nat.zero_le _,by simp[aV],fun _ _=>rfl,fun i _ h=>absurd h (Nat.not_lt_zero _),Int.le_refl _⟩
theorem Og{xs:List Bt.aX}{fr:Int}{i:Nat}(hi:i<xs.length)(h:aQ xs fr i=false):xs[i].fin≤fr:=by
 unfold aQ at h;rw[List.getElem?_eq_getElem hi]at h;simp at h;exact h
theorem BU{xs:List Bt.aX}{fr:Int}{i:Nat}(hi:i<xs.length)(h:aQ xs fr i=true):fr<xs[i].fin:=by
 unfold aQ at h;rw[List.getElem?_eq_getElem hi]at h;simpa using h
section
variable {fr fr' b most:Int} {xs:List Bt.aX} {a m k:Nat}
theorem RInv.ahead(hr:RInv fr fr' xs a)(hl:Least xs.length (aQ xs fr') m):a≤m:=by
 rcases Nat.lt_or_ge m a with h|h
 ·have hm:m<xs.length:=Nat.lt_of_lt_of_le h hr.le
  have h1:=BU hm (hl.2.2 m (Nat.le_refl _) hm);have h2:=hr.yj m hm h;omega
 ·exact h
theorem RInv.upto(hc:Chain b xs)(hr:RInv fr fr' xs a)(hl:Least xs.length (aQ xs fr') m):aV fr (xs.take m)=[]:=by
 have ham:=hr.ahead hl;have e:xs.take m=xs.take a++(xs.drop a).take (m-a):=by
  rw[←List.take_append_drop a (xs.take m),List.take_take,Nat.min_eq_left ham,List.drop_take]
 rw[e,nC,hr.none,List.nil_append];refine xA fun x hx=>?_
 rw[←hr.rest x (List.mem_of_mem_take hx)];obtain⟨i,hi,rfl⟩:=List.mem_iff_getElem.1 hx;rw[List.length_take,List.length_drop]at hi;have hi2:a+i<xs.length:=by omega
 have hxi:((xs.drop a).take (m-a))[i]=xs[a+i]:=by rw[List.getElem_take,List.getElem_drop]
 rw[hxi];have h1:=Og hi2 (hl.2.1 (a+i) (by omega));exact sV fun r hr'=>by have:=(uB (Chain.mem hc _ (List.getElem_mem hi2)) r hr').2;omega
theorem RInv.group(hc:Chain b xs)(hr:RInv fr fr' xs a)(hl:Least xs.length (aQ xs fr') m):aV fr' ((xs.drop m).take k)=aV fr (xs.take (m+k)):=by
 have ham:=hr.ahead hl;have e:xs.take (m+k)=xs.take m++(xs.drop m).take k:=List.take_add;rw[e,nC,hr.upto hc hl,List.nil_append];refine Fp fun x hx=>hr.rest x ?_
 have h1:=List.mem_of_mem_take hx;have e2:xs.drop m=(xs.drop a).drop (m-a):=by rw[List.drop_drop];congr 1;omega
 rw[e2]at h1;exact List.mem_of_mem_drop h1
theorem RInv.over(hc:Chain b xs)(hr:RInv fr fr' xs a)(hl:Least xs.length (aQ xs fr') m)(hs:JZ most (xs.drop m) k)(hk:k=0):aV fr xs=[]:=by
 have hm:m=xs.length:=by
  rcases Nat.lt_or_ge m xs.length with h|h
  ·have:=(hs.2.2 (by rw[List.length_drop];omega)).1;omega
  ·have:=hl.1;omega
 have:=hr.upto hc hl;rwa [hm,List.take_length]at this
theorem RInv.next(hc:Chain b xs)(hr:RInv fr fr' xs a)(hl:Least xs.length (aQ xs fr') m)(hs:JZ most (xs.drop m) k)(hk:0<k)(hn:aV fr (xs.take (m+k))=[])(h:m+k-1<xs.length):RInv fr (xs[m+k-1]).fin xs (m+k)∧fr'<(xs[m+k-1]).fin∧m+k≤xs.length:=by
 have ham:=hr.ahead hl;have h1:=hs.1;rw[List.length_drop]at h1;have h0:=BU (i:=m) (by omega) (hl.2.2 m (Nat.le_refl _) (by omega));have hmono:∀i (hi:i<xs.length),i<m+k→(xs[i]).fin≤(xs[m+k-1]).fin:=by
  intro i hi hik;rcases Nat.lt_or_ge i (m+k-1)with h'|h'
  ·have:=BR hc h' h
   have:=Fj (Chain.mem hc _ (List.getElem_mem h));omega
  ·obtain rfl:i=m+k-1:=by omega
   exact Int.le_refl _
 have hge:fr≤(xs[m+k-1]).fin:=by have:=hmono m (by omega) (by omega);have:=hr.ge;omega
 refine⟨⟨by omega,hn,fun x hx=>?_,hmono,hge⟩,by have:=hmono m (by omega) (by omega);omega,by omega⟩;obtain⟨i,hi,rfl⟩:=List.mem_iff_getElem.1 hx;rw[List.length_drop]at hi;have hi2:m+k+i<xs.length:=by omega
 rw[List.getElem_drop];have h2:=BR hc (i:=m+k-1) (j:=m+k+i) (by omega) hi2;have hmem:=uB (Chain.mem hc _ (List.getElem_mem hi2));rw[nU (fun r hr'=>by have:=(hmem r hr').1;omega),nU (fun r hr'=>by have:=(hmem r hr').1;omega)]
end
theorem uC(xs:List Bt.aX)(m k:Nat):((((xs.drop m).take k)).flatMap (·.recs)).length≤(xs.flatMap (·.recs)).length:=by
 have e:xs=xs.take m++((xs.drop m).take k++(xs.drop m).drop k):=by rw[List.take_append_drop,List.take_append_drop]
 have h:(xs.flatMap (·.recs)).length=((xs.take m++((xs.drop m).take k++(xs.drop m).drop k)).flatMap (·.recs)).length:=congrArg (fun l:List Bt.aX=>(l.flatMap (·.recs)).length) e;rw[h,List.flatMap_append,List.flatMap_append,List.length_append,List.length_append];omega
set_option maxHeartbeats 8000000 in
theorem BQ(w:World)(base d:Nat)(F:List Nat)(A:DA)(sb:Nat)(sv:Value)(file:ByteArray)(b0:Int)(xs:List Bt.aX)(h:Both w base d F A sb sv file b0 (kL 0 (-1) xs))(hfs:file.size≤maxLen)(f:Dk.FA)(hf:A.file file.data.toList=some f)(hfb:f.bytes=flat xs)(hch:Chain b0 xs)
 (fr most:Int)(hmo: -9223372036854775808≤most∧most≤9223372036854775807)(hT:(xs.flatMap (·.recs)).length≤900000)(hxl:xs.length≤1000000):
 Calls Tryz.prog 146 #[.pointer (some ⟨sb,0,none⟩), .int .i64 fr, .int .i64 most] w fun e w'=>∃ov q,e= .returned (.tuple #[ov, .nilIface])∧q≤xs.length∧aH 47 6 recC w' w.heap.size ov (aV fr (xs.take q))∧(aV fr (xs.take q)=[]→aV fr xs=[])∧Turn [] w w':=by
 have H:=hide h;have HF:=hide hf;have Ym:=hide hfb;have J3:=hide hch;have HT:=hide hT;clear h hf hfb hch hT;go_enter Tryz.func146,Tryz.ntmps146
 go_wp2
 go_loopw [1] (fun fv wr=>∃(fr':Int) (a:Nat),fv= .int .i64 fr'∧RInv fr fr' xs a∧Turn [] w wr) (fun fv _=>(1099511627777-intOf fv).toNat)
 case atStart=>exact⟨fr,0,rfl,RInv.first fr xs,Turn.refl _ _⟩
 case round=>
  obtain⟨fr',a,rfl,hinv,htw⟩:=hrel;have Fq:=hide hinv;have dJ:=hide htw;clear hinv htw;go_wp2_with fail
  refine(Sg.BQ wr base d F A sb sv file b0 xs (H.out.still dJ.out) hfs f HF.out Ym.out J3.out fr' most hmo).mono ?_;rintro e w1 ⟨lv,ys,m,k,rfl,hle,hrow,hys,hsel,ht1⟩;have hk1:=hsel.1;rw[List.length_drop]at hk1;have hkl:ys.length=k:=by rw[←List.length_map (f:=fun y:BV=>y.x),hys,List.length_take,List.length_drop];omega
  obtain⟨la,lc,hlv,Qm,Qn⟩:=hrow.row.form;rw[hkl]at hlv Qm;subst hlv;have hml:=hle.1;have hmx:maxLen=9223372036854775807:=by simp[maxLen]
  rw[hmx]at Qn;have hgr:=Fq.out.group (k:=k) J3.out hle;have MI:=hide hle;have Oh:=hide hsel;have bQ:=hide hrow;have SG:=hide hys;have J5:=hide hkl;have HT1:=hide (dJ.out.same ht1);have SH:=hide hgr;clear hle hsel hrow hys hkl ht1 hgr;by_cases hk0:k=0
  ·have hov:=Fq.out.over J3.out MI.out Oh.out hk0
   have Qp:=hide hov;clear hov;subst hk0;go_wp2
   go_ret2
   refine⟨_,xs.length,rfl,Nat.le_refl _, .inl ⟨rfl,by rw[List.take_length];exact Qp.out⟩,fun _=>Qp.out,HT1.out⟩
  ·obtain⟨k',rfl⟩:=Nat.exists_eq_succ_of_ne_zero hk0
   have hkb:(((k'+1:Nat):Int)==0)=false:=by rw[beq_eq_false_iff_ne];omega
   go_wp2_with fail
   refine(Es w1 _ _ ys bQ.out fr' (by rw[J5.out];omega) (by rw[SG.out];exact Nat.le_trans (uC xs m (k'+1)) HT.out)).mono ?_;rintro e w2 ⟨ov,rfl,hov,ht2⟩;rw[SG.out,SH.out]at hov;obtain⟨R,hR⟩:∃R,R=aV fr (xs.take (m+(k'+1))):=⟨_,rfl⟩;rw[←hR]at hov;obtain⟨oa,oc,hoe,hol,hom⟩:=hov.form;subst hoe;have HR:=hide hR;have Qp:=hide hov;have HT12:=hide ht2;have HT2:=hide (HT1.out.same ht2);have HW1:=hide HT1.out.size;have hRl:R.length≤900000:=by
    rw[hR];refine Nat.le_trans (qX fr _) (Nat.le_trans ?_ HT.out);have:=uC xs 0 (m+(k'+1));rwa [List.drop_zero]at this
   clear hR hov ht2;by_cases hR0:0<(R.length:Int)
   ·go_wp2
    go_ret2
    refine⟨_,m+(k'+1),rfl,by omega,by rw[←HR.out];exact Qp.out.aZ HW1.out,fun h=>?_,HT2.out⟩;rw[←HR.out]at h;rw[h]at hR0;exact absurd hR0 (by simp)
   ·have SI:R=[]:=List.eq_nil_of_length_eq_zero (by omega)
    have hlt:m+k'<xs.length:=by omega
    obtain⟨hn1,hn2,hn3⟩:=Fq.out.next (k:=k'+1) J3.out MI.out Oh.out (by omega) (by rw[←HR.out];exact SI) hlt;obtain⟨g,cap,e,hc, -⟩:=bQ.out.row.at mf (j:=k') (by rw[J5.out];omega);rw[J5.out]at e;simp only[Value.slice.injEq,true_and]at e;obtain⟨rfl,rfl⟩:=e;have hyx:(ys[k']'(by rw[J5.out];omega)).x=xs[m+k']:=by
     have h1:(ys.map (fun y:BV=>y.x))[k']? =some (ys[k']'(by rw[J5.out];omega)).x:=by rw[List.getElem?_map,List.getElem?_eq_getElem (by rw[J5.out];omega)];rfl
     rw[SG.out,List.getElem?_take_of_lt (by omega),List.getElem?_drop,List.getElem?_eq_getElem hlt]at h1;exact(Option.some.inj h1).symm
    have c1:w2.cell? ⟨g,k'*3+1,none⟩=some (.int .i64 (xs[m+k']).fin):=by
     have h1:=hc 1 (by omega);have h2:(rM (ys[k']'(by rw[J5.out];omega)))[1]? =some (.int .i64 (xs[m+k']).fin):=by simp[rM,hyx]
     rw[h2]at h1;have ht12:=HT12.out;rw[World.cell?_of_block (w:=w1) (ht12.block _ (World.block_lt_of_cell? _ _ h1) (by simp)),h1]
    have hi1:(k':Int)<(k':Int)+1:=by omega
    have hfin:=(Bt.l7 (Bt.eY (Chain.mem J3.out _ (List.getElem_mem hlt))).1).2.1;obtain⟨fx,hfx⟩:∃fx,fx=(xs[m+k']).fin:=⟨_,rfl⟩;have hn1':RInv fr fx xs (m+(k'+1)):=by rw[hfx];exact hn1
    have hn2':fr'<fx:=by rw[hfx];exact hn2
    rw[←hfx]at c1 hfin;have HN1:=hide hn1';have HRN:=hide SI;clear hn1 hn1' hn2 hfx hyx hc SI;go_wp2
    all_goals refine⟨⟨fx,m+(k'+1),rfl,HN1.out,HT2.out⟩,?_⟩
    all_goals (simp only[intOf];omega)
end Lg
end
section
open Go.RowKit Go.Maps
set_option maxRecDepth 100000
set_option linter.unusedSimpArgs false
set_option linter.unusedVariables false
attribute [local go_sem] Oper.semAt_some
open Dk (DA ay Parts fE aW dI)
open Sg (bu bJ kL Both Came)
namespace Lg
theorem ai{w:World}{i j:Nat}{c1 c2:Array Value}{T1 T2:TypeId}{f1 f2:Nat×Nat}(h1:w.heap[i]? =some (.cells c1 T1 f1)) (h2:w.heap[j]? =some (.cells c2 T2 f2)) (hT:T1≠T2):i≠j:=by
 rintro rfl;rw[h1]at h2;simp at h2;exact hT h2.2.1
theorem _root_.Go.Proofs.YtmjpdhpmjmgmaaaGreatDoor.aH.kind{α:Type}{T:TypeId}{n:Nat}{enc:α→List Value}{w:World}{base:Nat}{sv:Value}{xs:List α}(h:aH T n enc w base sv xs):∀k∈sv.ownBlock,∃cs,w.heap[k]? =some (.cells cs T (0,0)):=by
 intro k hk;rcases h with⟨rfl, -⟩|⟨g,cap,cur,rfl, -,hg, -⟩
 ·simp[Value.ownBlock]at hk
 ·simp[Value.ownBlock]at hk;subst hk;exact⟨_,hg⟩
theorem _root_.Go.Proofs.YtmjpdhpmjmgmaaaGreatDoor.aH.congr{α:Type}{T:TypeId}{n:Nat}{enc:α→List Value}{w:World}{base:Nat}{sv:Value}{xs ys:List α}(h:aH T n enc w base sv xs)(hl:xs.length=ys.length)(he:xs.flatMap enc=ys.flatMap enc):aH T n enc w base sv ys:=by
 rcases h with⟨h1,rfl⟩|⟨g,cap,cur,e,hb,hg,r⟩
 ·exact .inl ⟨h1,List.eq_nil_of_length_eq_zero hl.symm⟩
 ·rw[hl,he]at r
  rw[hl]at e;exact .inr ⟨g,cap,cur,e,hb,hg,r⟩
theorem mg{w:World}{base d sb:Nat}{sv:Value}{file:ByteArray}{b0:Int}{ps:List Sg.Pl}(h:bu w base d sb sv file b0 ps):∀k∈bJ sb sv,∃cs T,w.heap[k]? =some (.cells cs T (0,0))∧(T=209∨T=253):=by
 intro k hk;simp only[bJ,List.mem_cons,Option.mem_toList]at hk;rcases hk with rfl|hk
 ·exact⟨_,_,h.box, .inl rfl⟩
 ·obtain⟨cs,e⟩:=h.row.kind k hk
  exact⟨_,_,e, .inr rfl⟩
theorem lV{w:World}{base d:Nat}{F:List Nat}{A:DA}(h:ay w base d F A){k:Nat}(hk:k∈F){cs:Array Value}{T:TypeId}{fr:Nat×Nat}(hc:w.heap[k]? =some (.cells cs T fr)):T=93∨T=136∨T=5:=by
 obtain⟨ah,ms,hp⟩:=h;rw[hp.foot]at hk;simp only[List.mem_cons,List.mem_append,List.mem_flatMap,Option.mem_toList]at hk;rcases hk with rfl|hk|⟨m,hm,hk⟩
 ·rw[hp.self]at hc;simp at hc;exact .inl hc.2.1.symm
 ·have hmap:=hp.map
  cases ah with
  |none=>simp at hk
  |some mb=>
   simp at hk;subst hk;obtain⟨D,⟨es,clock,hb, -⟩, -⟩:=hmap;rw[hb]at hc;simp at hc
 ·have hf:=hp.each m hm
  simp only[Dk.au.foot,List.mem_cons,Option.mem_toList]at hk;rcases hk with rfl|hk
  ·rw[hf.1]at hc;simp at hc;exact .inr (.inl hc.2.1.symm)
  ·rcases hf.2 with⟨e, -⟩|⟨g,cap,cur,e, -,hg, -⟩
   ·rw[e]at hk;simp[Value.ownBlock]at hk
   ·rw[e]at hk
    simp[Value.ownBlock]at hk;subst hk;rw[hg]at hc;simp at hc;exact .inr (.inr hc.2.1.symm)
structure SM where
 sb:Nat
 sv:Value
 n:Nat
 xs:List Bt.aX
def SM.foot(m:SM):List Nat:=bJ m.sb m.sv
def SK(m:SM):List Value:=[.pointer (some ⟨m.sb,0,none⟩)]
theorem uD:∀m,(SK m).length=1:=fun _=>rfl
structure LV where
 most:Int
 start:Int
 safe:Int
 down:Bool
def Qq(d:Nat)(dir:ByteArray)(gv:Value)(v:LV):Array Value:= #[.pointer (some ⟨d,0,none⟩), .string dir, .int .i64 v.most,gv, .int .i64 v.start, .int .i64 v.safe, .bool v.down]
structure aI(w:World)(base d:Nat)(F:List Nat)(A:DA)(lb:Nat)(gv:Value)(dir:ByteArray)(v:LV)(ms:List SM):Prop where
 disk:ay w base d F A
 box:w.heap[lb]? =some (.cells (Qq d dir gv v) 171 (0,0))
 row:aH 174 1 SK w base gv ms
 low:base≤lb
 lL:∀m∈ms,bu w base d m.sb m.sv (Sn.nameB dir m.n) m.n (kL 0 (-1) m.xs)
 apart:ms.Pairwise (fun a b=>∀k∈a.foot,k∉b.foot)
def aS(F:List Nat)(lb:Nat)(gv:Value)(ms:List SM):List Nat:=lb::(gv.ownBlock.toList++(ms.flatMap SM.foot++F))
theorem aC{F:List Nat}{lb:Nat}{gv:Value}{ms:List SM}{k:Nat}:k∈aS F lb gv ms↔k=lb∨k∈gv.ownBlock∨(∃m∈ms,k∈m.foot)∨k∈F:=by
 unfold aS;rw[List.mem_cons,List.mem_append,List.mem_append,Option.mem_toList,List.mem_flatMap];exact Iff.rfl
section
variable {w w':World} {base d lb:Nat} {F:List Nat} {A:DA} {gv:Value} {dir:ByteArray} {v:LV} {ms ms0 ms1:List SM} {m:SM}
theorem aI.c0(h:aI w base d F A lb gv dir v ms):w.cell? ⟨lb,0,none⟩=some (.pointer (some ⟨d,0,none⟩)):=by rw[cell_of h.box];rfl
theorem aI.c1(h:aI w base d F A lb gv dir v ms):w.cell? ⟨lb,1,none⟩=some (.string dir):=by rw[cell_of h.box];rfl
theorem aI.c2(h:aI w base d F A lb gv dir v ms):w.cell? ⟨lb,2,none⟩=some (.int .i64 v.most):=by rw[cell_of h.box];rfl
theorem aI.c3(h:aI w base d F A lb gv dir v ms):w.cell? ⟨lb,3,none⟩=some gv:=by rw[cell_of h.box];rfl
theorem aI.c4(h:aI w base d F A lb gv dir v ms):w.cell? ⟨lb,4,none⟩=some (.int .i64 v.start):=by rw[cell_of h.box];rfl
theorem aI.c5(h:aI w base d F A lb gv dir v ms):w.cell? ⟨lb,5,none⟩=some (.int .i64 v.safe):=by rw[cell_of h.box];rfl
theorem aI.c6(h:aI w base d F A lb gv dir v ms):w.cell? ⟨lb,6,none⟩=some (.bool v.down):=by rw[cell_of h.box];rfl
theorem aI.fr(h:aI w base d F A lb gv dir v ms)(i:Nat):w.frozen? ⟨lb,i,none⟩=false:=af h.box i
theorem aI.lt(h:aI w base d F A lb gv dir v ms):∀k∈aS F lb gv ms,base≤k∧k<w.heap.size:=by
 intro k hk;rcases aC.1 hk with rfl|hk|⟨m,hm,hk⟩|hk
 ·exact⟨h.low,lt_of_heap h.box⟩
 ·exact h.row.lt k hk
 ·exact(h.lL m hm).lt k hk
 ·exact⟨h.disk.low k hk,h.disk.lt k hk⟩
theorem aI.kept{S:List Nat}(h:aI w base d F A lb gv dir v ms)(ht:Turn S w w')(hn:∀k∈aS F lb gv ms,k∉S):aI w' base d F A lb gv dir v ms:=
 {disk:=h.disk.kept ht (fun k hk=>hn k (aC.2 (.inr (.inr (.inr hk)))))
  box:=ht.heap h.box (hn lb (aC.2 (.inl rfl)))
  row:=h.row.kept ht (fun k hk=>hn k (aC.2 (.inr (.inl hk))))
  low:=h.low
  lL:=fun m hm=>(h.lL m hm).kept ht (fun k hk=>hn k (aC.2 (.inr (.inr (.inl ⟨m,hm,hk⟩)))))
  apart:=h.apart}
theorem aI.still(h:aI w base d F A lb gv dir v ms)(ht:Turn [] w w'):aI w' base d F A lb gv dir v ms:=h.kept ht (by simp)
theorem aI.Fv(h:aI w base d F A lb gv dir v ms):lb∉F:=fun hm=>by
 rcases lV h.disk hm h.box with e|e|e<;>exact absurd e (by decide)
theorem aI.TM(h:aI w base d F A lb gv dir v ms):∀k∈gv.ownBlock,k∉F:=fun k hk hm=>by
 obtain⟨cs,e⟩:=h.row.kind k hk;rcases lV h.disk hm e with e|e|e<;>exact absurd e (by decide)
theorem MJ{sb:Nat}{sv:Value}{file:ByteArray}{b0:Int}{ps:List Sg.Pl}(h:ay w base d F A)(hs:bu w base d sb sv file b0 ps):∀k∈bJ sb sv,k∉F:=fun k hk hm=>by
 obtain⟨cs,T,e,hT⟩:=mg hs k hk;rcases hT with rfl|rfl<;>rcases lV h hm e with e|e|e<;>exact absurd e (by decide)
theorem aI.J6(h:aI w base d F A lb gv dir v ms)(hm:m∈ms):lb∉m.foot:=fun hk=>by
 obtain⟨cs,T,e,hT⟩:=mg (h.lL m hm) lb hk;rcases hT with rfl|rfl<;>exact ai h.box e (by decide) rfl
theorem aI.Qr(h:aI w base d F A lb gv dir v ms)(hm:m∈ms):∀k∈gv.ownBlock,k∉m.foot:=fun k hk hs=>by
 obtain⟨cs,e⟩:=h.row.kind k hk;obtain⟨cs',T,e',hT⟩:=mg (h.lL m hm) k hs;rcases hT with rfl|rfl<;>exact ai e e' (by decide) rfl
theorem aI.Qs(h:aI w base d F A lb gv dir v ms):lb∉gv.ownBlock:=fun hk=>by
 obtain⟨cs,e⟩:=h.row.kind lb hk;exact ai h.box e (by decide) rfl
theorem aI.both(h:aI w base d F A lb gv dir v ms)(hm:m∈ms):Both w base d F A m.sb m.sv (Sn.nameB dir m.n) m.n (kL 0 (-1) m.xs):=
 ⟨h.disk,h.lL m hm,MJ h.disk (h.lL m hm)⟩
theorem aI.back{A':DA}{xs':List Bt.aX}(h:aI w base d F A lb gv dir v (ms0++m::ms1))(hc:Came w w' base d F A' m.sb m.sv (Sn.nameB dir m.n) m.n (kL 0 (-1) xs')):
 ∃F' sv',aI w' base d F' A' lb gv dir v (ms0++⟨m.sb,sv',m.n,xs'⟩::ms1)∧Turn (F++m.foot) w w'∧∀k∈aS F' lb gv (ms0++⟨m.sb,sv',m.n,xs'⟩::ms1),k∈aS F lb gv (ms0++m::ms1)∨w.heap.size≤k:=by
 obtain⟨F',sv',hb,ht,hF,hS⟩:=hc;have hmm:m∈ms0++m::ms1:=by simp
 have hap:=h.apart;rw[List.pairwise_append,List.pairwise_cons]at hap;obtain⟨ap0,⟨ap1,ap2⟩,ap3⟩:=hap;have VM:∀k∈bJ m.sb sv',k∈m.foot∨w.heap.size≤k:=hS;have hother:∀x,x∈ms0∨x∈ms1→∀k∈x.foot,k∉F++m.foot:=by
  intro x hx k hk hm';have hxm:x∈ms0++m::ms1:=by rcases hx with hx|hx<;>simp[hx]
  rcases List.mem_append.1 hm' with h'|h'
  ·exact MJ h.disk (h.lL x hxm) k hk h'
  ·rcases hx with hx|hx
   ·exact ap3 x hx m (by simp) k hk h'
   ·exact ap1 x hx k h' hk
 refine⟨F',sv',⟨hb.disk,?_,?_,h.low,?_,?_⟩,ht,?_⟩
 ·exact ht.heap h.box (fun hm'=>(List.mem_append.1 hm').elim h.Fv (h.J6 hmm))
 ·refine(h.row.kept ht (fun k hk hm'=>(List.mem_append.1 hm').elim (h.TM k hk) (h.Qr hmm k hk))).congr ?_ ?_
  ·simp
  ·simp[SK]
 ·intro x hx
  rcases List.mem_append.1 hx with hx|hx
  ·exact(h.lL x (by simp[hx])).kept ht (hother x (.inl hx))
  ·rcases List.mem_cons.1 hx with rfl|hx
   ·exact hb.qg
   ·exact(h.lL x (by simp[hx])).kept ht (hother x (.inr hx))
 ·rw[List.pairwise_append,List.pairwise_cons]
  refine⟨ap0,⟨fun x hx k hk hk'=>?_,ap2⟩,fun x hx y hy=>?_⟩
  ·rcases VM k hk with h'|h'
   ·exact ap1 x hx k h' hk'
   ·have:=((h.lL x (by simp[hx])).lt k hk').2;omega
  ·rcases List.mem_cons.1 hy with rfl|hy
   ·intro k hk hk'
    rcases VM k hk' with h'|h'
    ·exact ap3 x hx m (by simp) k hk h'
    ·have:=((h.lL x (by simp[hx])).lt k hk).2;omega
   ·exact ap3 x hx y (by simp[hy])
 ·intro k hk
  rcases aC.1 hk with rfl|hk|⟨x,hx,hk⟩|hk
  ·exact .inl (aC.2 (.inl rfl))
  ·exact .inl (aC.2 (.inr (.inl hk)))
  ·rcases List.mem_append.1 hx with hx|hx
   ·exact .inl (aC.2 (.inr (.inr (.inl ⟨x,by simp[hx],hk⟩))))
   ·rcases List.mem_cons.1 hx with rfl|hx
    ·rcases VM k hk with h'|h'
     ·exact .inl (aC.2 (.inr (.inr (.inl ⟨m,hmm,h'⟩))))
     ·exact .inr h'
    ·exact .inl (aC.2 (.inr (.inr (.inl ⟨x,by simp[hx],hk⟩))))
  ·rcases hF k hk with h'|h'
   ·exact .inl (aC.2 (.inr (.inr (.inr h'))))
   ·exact .inr h'
end
end Lg
end
section
open Go.RowKit Go.Maps
set_option maxRecDepth 100000
set_option linter.unusedSimpArgs false
set_option linter.unusedVariables false
namespace Dk
theorem Qu{l l':List au}(h:l.Sublist l'):(l.flatMap au.foot).Sublist (l'.flatMap au.foot):=by
 induction h with
 |slnil=>exact List.Sublist.refl _
 |cons a _ ih=>rw[List.flatMap_cons];exact ih.trans (List.sublist_append_right _ _)
 |cons_cons a _ ih=>rw[List.flatMap_cons,List.flatMap_cons];exact List.Sublist.append (List.Sublist.refl _) ih
section
variable {w w':World} {base d:Nat} {F:List Nat} {A A':DA} {ah:Option Nat} {ms ms':List au} {mb:Nat}
theorem Parts.sW(h:Parts w base d F A (some mb) ms)(ht:Turn [mb] w w')(hm:MapAt w' (some mb) ms')
 (hin:∀x∈ms',∃m∈ms,x.blk=m.blk∧x.sl=m.sl∧x.abs.bytes=m.abs.bytes∧x.abs.safe=m.abs.safe)(hnd:(ms'.flatMap au.foot).Nodup)
 (hroom:A'.room=A.room)(hlim:A'.limited=A.limited)(hleft:A'.left=A.left)(hf:A'.files=ms'.map (·.abs))(hg:Good A'):
 Parts w' base d (d::mb::ms'.flatMap au.foot) A' (some mb) ms'∧∀k∈d::mb::ms'.flatMap au.foot,k∈F:=by
 have Bg:=h.foot;have hnd0:=h.nodup;rw[Bg]at hnd0;simp only[Option.toList_some,List.cons_append,List.nil_append,List.nodup_cons,List.mem_cons,not_or]at hnd0;have hsub:∀k∈ms'.flatMap au.foot,k∈ms.flatMap au.foot:=by
  intro k hk;obtain⟨x,hx,hkx⟩:=List.mem_flatMap.1 hk;obtain⟨m,hm1,e1,e2,_⟩:=hin x hx;exact List.mem_flatMap.2 ⟨m,hm1,by rw[au.foot,e1,e2]at hkx;exact hkx⟩
 have hall:∀k∈d::mb::ms'.flatMap au.foot,k∈F:=by
  intro k hk;rw[Bg];simp only[List.mem_cons]at hk;rcases hk with rfl|rfl|hk
  ·simp
  ·simp
  ·have:=hsub k hk
   simp only[List.mem_cons,List.mem_append];exact .inr (.inr this)
 refine⟨{foot:=by simp,nodup:=?_,low:=fun k hk=>h.low k (hall k hk),self:=?_,map:=hm,each:=?_,files:=hf,good:=hg},hall⟩
 ·simp only[List.nodup_cons,List.mem_cons,not_or]
  exact⟨⟨hnd0.1.1,fun e=>hnd0.1.2 (hsub _ e)⟩,fun e=>hnd0.2.1 (hsub _ e),hnd⟩
 ·rw[hroom,hlim,hleft]
  exact ht.heap h.self (by simp;exact hnd0.1.1)
 ·intro x hx
  obtain⟨m,hm1,e1,e2,e3,e4⟩:=hin x hx;have hq:=(h.each m hm1).kept ht (by
   intro k hk e;simp only[List.mem_singleton]at e;subst e;exact hnd0.2.1 (List.mem_flatMap.2 ⟨m,hm1,hk⟩))
  unfold iF at hq⊢;rw[e1,e2,e3,e4];exact hq
theorem J7(pre post:List au)(m:au)(hn:((pre++m::post).map (·.abs.name)).Nodup):kz (pre++m::post) m.abs.name=pre++post:=by
 have h1:∀x∈pre,(!(x.abs.name==m.abs.name))=true:=by
  intro x hx;simp only[List.map_append,List.map_cons,List.nodup_append]at hn;have:=hn.2.2 x.abs.name (List.mem_map.2 ⟨x,hx,rfl⟩) m.abs.name (by simp);simpa using this
 have h2:∀x∈post,(!(x.abs.name==m.abs.name))=true:=by
  intro x hx;simp only[List.map_append,List.map_cons,List.nodup_append,List.nodup_cons]at hn;have:x.abs.name≠m.abs.name:=fun e=>hn.2.1.1 (by rw[←e];exact List.mem_map.2 ⟨x,hx,rfl⟩)
  simpa using this
 unfold kz;rw[List.filter_append,List.filter_cons];simp only[beq_self_eq_true,Bool.not_true,Bool.false_eq_true,if_false];rw[List.filter_eq_self.2 h1,List.filter_eq_self.2 h2]
def iV(l:List FA)(nm:List UInt8):List FA:=l.filter (fun f=> !(f.name==nm))
theorem Ih(ms:List au)(nm:List UInt8):(kz ms nm).map (·.abs)=iV (ms.map (·.abs)) nm:=by
 unfold kz iV;rw[List.filter_map];rfl
theorem Ii{l l':List FA}(h:l.Sublist l'):bH l≤bH l':=by
 unfold bH;induction h with
 |slnil=>exact Nat.le_refl _
 |cons a _ ih=>simp only[List.map_cons,List.sum_cons];omega
 |cons_cons a _ ih=>simp only[List.map_cons,List.sum_cons];omega
theorem Good.sub(h:Good A){l:List FA}(hs:l.Sublist A.files):Good {A with files:=l} where
 room:=h.room
 used:=Nat.le_trans (Ii hs) h.used
 count:=Nat.le_trans hs.length_le h.count
 names:=(hs.map _).nodup h.names
 short:=fun f hf=>h.short f (hs.subset hf)
 safe:=fun f hf=>h.safe f (hs.subset hf)
 left:=h.left
def DA.remove(A:DA)(nm:List UInt8):Int×DA:=
 if A.fails then(14,A)
 else if !A.has nm then(7,A.tick)
 else(0,{A.tick with files:=iV A.files nm})
def DA.rename(A:DA)(nm:List UInt8)(tn:ByteArray):Int×DA:=
 if A.fails then(14,A)
 else match A.file nm with
  |none=>(7,A.tick)
  |some f=>if !nameB tn then(5,A.tick)else(0,{A.tick with files:=iV (iV A.files nm) tn.data.toList++[{f with name:=tn.data.toList}]})
theorem J8{X o Y Z:List Nat}(h:(X++(o++Y)).Nodup)(hz:Z.Sublist (X++Y)):(Z++o).Nodup:=by
 have h1:((X++Y)++o).Nodup:=by
  refine(List.Perm.nodup_iff ?_).1 h;rw[List.append_assoc];exact List.Perm.append_left X List.perm_append_comm
 rw[List.nodup_append]at h1⊢;exact⟨hz.nodup h1.1,h1.2.1,fun a ha b hb=>h1.2.2 a (hz.subset ha) b hb⟩
set_option maxHeartbeats 1000000 in
theorem J9(h:Parts w base d F A ah ms)(s:ByteArray)(hs:s.size≤maxLen)(s2:ByteArray)(hs2:s2.size≤maxLen):
 Calls Tryz.prog 225 #[.pointer (some ⟨d,0,none⟩), .string s, .string s2] w fun e w'=>e= .returned (aW (A.rename s.data.toList s2).1)∧fE w w' base d F (A.rename s.data.toList s2).2:=by
 have H:Hid (Parts w base d F A ah ms):=h;have hdF:=h.jH;have Gp:=qH h s.data.toList;clear h;cases hf:A.fails
 case true=>
  have HV:Hid (A.rename s.data.toList s2=(14,A)):=by show _=_;simp[DA.rename,hf]
  have HF:Hid (A.fails=true):=hf;clear hf Gp;go_enter Tryz.func225,Tryz.ntmps225
  go_wp2_with (go_at_call 85;refine(mZ H.out HF.out _).mono ?_;rintro e w' ⟨rfl,rfl⟩;unfold dI)
  go_ret
  exact⟨by rw[HV.out];rfl,by rw[HV.out];exact fE.none H.out⟩
 case false=>
  have HF:Hid (A.fails=false):=hf;cases hm:bM ms s.data.toList with
  |none=>
   have HV:Hid (A.rename s.data.toList s2=(7,A.tick)):=by show _=_;simp[DA.rename,hf,Gp,hm]
   have HM:Hid (bM ms s.data.toList=none):=hm;clear hf Gp hm;go_enter Tryz.func225,Tryz.ntmps225
   go_wp2_with (go_at_call 85;refine(iG H.out HF.out _ hs _ HM.out).mono ?_;rintro e w1 ⟨rfl,hp,ht⟩;simp only[tN];unfold dI)
   go_ret
   exact⟨by rw[HV.out];rfl,by rw[HV.out];exact fE.tick hp hdF ht⟩
  |some m=>
   have HM:Hid (bM ms s.data.toList=some m):=hm;cases hb:nameB s2
   case false=>
    have HV:Hid (A.rename s.data.toList s2=(5,A.tick)):=by show _=_;simp[DA.rename,hf,Gp,hm,hb]
    clear hf Gp hm;go_enter Tryz.func225,Tryz.ntmps225
    go_wp2_with fail
    refine(iG H.out HF.out _ hs _ HM.out).mono ?_;rintro e w1 ⟨rfl,hp,ht⟩;simp only[tN];go_wp2_with (go_at_call 223;refine(jQ _ _ hs2).mono ?_;rintro e w' ⟨rfl,rfl⟩)
    go_ret
    exact⟨by rw[HV.out];rfl,by rw[HV.out];exact fE.tick hp hdF ht⟩
   case true=>
    have HV:Hid (A.rename s.data.toList s2=(0,{A.tick with files:=iV (iV A.files s.data.toList) s2.data.toList++[{m.abs with name:=s2.data.toList}]})):=by show _=_;simp[DA.rename,hf,Gp,hm,hb]
    have HN:Hid ((ms.map (·.abs.name)).Nodup):=H.out.names;clear hf Gp;cases ah with
    |none=>
     have hms:ms=[]:=H.out.map;subst hms;simp[bM]at hm
    |some mb=>
     clear hm;go_enter Tryz.func225,Tryz.ntmps225
     go_wp2_with fail
     refine(iG H.out HF.out _ hs _ HM.out).mono ?_;rintro e w1 ⟨rfl,hp,ht⟩;simp only[tN];have c1:=hp.c1;have HP:Hid (Parts w1 base d F A.tick (some mb) ms):=hp;have hnd:=hp.nodup;rw[hp.foot]at hnd;have hdm:d∉[mb]:=by
      simp only[Option.toList_some,List.cons_append,List.nil_append,List.nodup_cons,List.mem_cons,not_or]at hnd;simp only[List.mem_singleton];exact hnd.1.1
     have HD:Hid (d∉[mb]):=hdm;clear hp hnd hdm;obtain⟨D,hown,hrd⟩:=HP.out.map;have HR:Hid (Reads D ms):=hrd;have hsm:=HP.out.good.count;rw[HP.out.files,List.length_map]at hsm;clear hrd;go_wp2_with (first|(go_at_call 223;refine(jQ _ _ hs2).mono ?_;rintro e w' ⟨rfl,rfl⟩)|(at_delete;refine wpList_delete_own _ rfl _ _ 91 9 rfl 133 law Tryz.underlying91 pz mb ms.length D rfl hown _ _ rfl (keyS hs) ?_;intro w2 hown2 hgr2;have c12:=cell_of ((Turn.grown (Turn.refl [mb] _) hgr2.grown (by intro k hk;cases hk;simp)).heap HP.out.self HD.out) 1;simp only[List.getElem?_toArray,List.getElem?_cons_succ,List.getElem?_cons_zero]at c12))
     obtain⟨w3,hrun,ho3,hgr3⟩:=hown2.store law Tryz.underlying91 (by simp only[maxLen];omega) (keyS hs2) (val:= .pointer (some ⟨m.blk,0, .none⟩)) (d:= .lit (.int .i64 (m.blk:Int))) (ps:=[]) rfl;rw[hrun];simp only[Result.andThen];rw[Oper.upon_skip];go_wp2
     go_ret
     have ht2:=(Turn.refl [mb] _).grown hgr2.grown (by intro k hk;cases hk;simp);have ht3:=(Turn.refl [mb] w2).grown hgr3.grown (by intro k hk;cases hk;simp);have ht23:=ht2.same ht3;have hrd2:=HR.out.del HN.out (hown.tidy law) s.data.toList;obtain⟨pre,post,rfl,hnm⟩:=tX HM.out;have hds:kz (pre++m::post) s.data.toList=pre++post:=by rw[←hnm];exact J7 pre post m HN.out
     rw[hds]at hrd2;have Yq:((pre++post).map (·.abs.name)).Nodup:=by
      refine(List.Sublist.map _ ?_).nodup HN.out;exact List.Sublist.append (List.Sublist.refl _) (List.sublist_cons_self _ _)
     have hrd3:=hrd2.put Yq (hown2.tidy law) ⟨{m.abs with name:=s2.data.toList},m.blk,m.sl⟩;obtain⟨Z,hZ⟩:∃Z,Z=kz (pre++post) s2.data.toList:=⟨_,rfl⟩;simp only at hrd3;rw[←hZ]at hrd3;have hZs:Z.Sublist (pre++post):=by rw[hZ];exact List.filter_sublist
     have hmap3:MapAt w3 (some mb) (Z++[⟨{m.abs with name:=s2.data.toList},m.blk,m.sl⟩]):=⟨_,by have:=fH ho3;rw[hrd3.1]at this;exact this,hrd3⟩;have hfl:A.tick.files=(pre++m::post).map (·.abs):=HP.out.files;have Yr:(Z++[(⟨{m.abs with name:=s2.data.toList},m.blk,m.sl⟩:au)]).flatMap au.foot=Z.flatMap au.foot++m.foot:=by
      rw[List.flatMap_append];simp[au.foot]
     have hnd0:((Z++[(⟨{m.abs with name:=s2.data.toList},m.blk,m.sl⟩:au)]).flatMap au.foot).Nodup:=by
      rw[Yr];have:=HP.out.nodup;rw[HP.out.foot,List.nodup_cons,List.nodup_append]at this;have h1:=this.2.2.1;rw[List.flatMap_append,List.flatMap_cons]at h1;refine J8 h1 ?_;rw[←List.flatMap_append];exact Qu hZs
     have hout:iV (iV A.files s.data.toList) s2.data.toList=Z.map (·.abs):=by
      rw[hZ,Ih,←hds,Ih,←hfl,dw]
     have hA':(iV (iV A.files s.data.toList) s2.data.toList++[{m.abs with name:=s2.data.toList}])=(Z++[(⟨{m.abs with name:=s2.data.toList},m.blk,m.sl⟩:au)]).map (·.abs):=by rw[hout];simp
     have Qv:∀x∈Z,x∈pre++m::post:=fun x hx=>by
      have:=hZs.subset hx;simp only[List.mem_append,List.mem_cons]at this⊢;rcases this with h|h
      ·exact .inl h
      ·exact .inr (.inr h)
     have hg:=HP.out.good;have hsz:s2.size≤40:=by
      simp only[nameB,Bool.and_eq_true,decide_eq_true_eq]at hb;exact hb.2.2
     have hgood:Good {A.tick with files:=iV (iV A.files s.data.toList) s2.data.toList++[{m.abs with name:=s2.data.toList}]}:=by
      refine {room:=hg.room,used:=?_,count:=?_,names:=?_,short:=?_,safe:=?_,left:=hg.left}
      ·have h1:=hg.used
       rw[hfl,List.map_append,List.map_cons,jB]at h1;have h2:=Ii (List.Sublist.map (fun x:au=>x.abs) hZs);rw[List.map_append]at h2;rw[hout,jB];have h3:bH (pre.map (fun x:au=>x.abs)++post.map (fun x:au=>x.abs))=bH (pre.map (fun x:au=>x.abs))+bH (post.map (fun x:au=>x.abs)):=by simp[bH,List.sum_append]
       have h4:bH ([]:List FA)=0:=rfl;show bH (Z.map (fun x:au=>x.abs))+m.abs.bytes.length+bH []≤A.tick.room;omega
      ·have h1:=hg.count
       rw[hfl]at h1;have h2:=hZs.length_le;rw[hout];simp only[List.length_append,List.length_map,List.length_cons,List.length_nil]at h1 h2⊢;omega
      ·rw[hout,List.map_append,List.map_cons,List.map_nil,List.nodup_append]
       refine⟨?_,by simp,?_⟩
       ·rw[List.map_map]
        exact(List.Sublist.map _ hZs).nodup Yq
       ·intro a ha b hb e
        simp only[List.mem_singleton]at hb;rw[hb]at e;rw[List.map_map]at ha;obtain⟨x,hx,e2⟩:=List.mem_map.1 ha;rw[hZ]at hx;have:=(List.mem_filter.1 hx).2;simp only[Function.comp_def]at e2;rw[e2,e]at this;simp at this
      ·intro f hf
       rw[hA']at hf;obtain⟨x,hx,rfl⟩:=List.mem_map.1 hf;rcases List.mem_append.1 hx with hx|hx
       ·exact hg.short _ (by rw[hfl];exact List.mem_map.2 ⟨x,Qv x hx,rfl⟩)
       ·simp only[List.mem_singleton]at hx
        subst hx;simpa using hsz
      ·intro f hf
       rw[hA']at hf;obtain⟨x,hx,rfl⟩:=List.mem_map.1 hf;rcases List.mem_append.1 hx with hx|hx
       ·exact hg.safe _ (by rw[hfl];exact List.mem_map.2 ⟨x,Qv x hx,rfl⟩)
       ·simp only[List.mem_singleton]at hx
        subst hx;exact hg.safe m.abs (by rw[hfl];simp)
     have hP:=HP.out.sW (ms':=Z++[⟨{m.abs with name:=s2.data.toList},m.blk,m.sl⟩]) (A':={A.tick with files:=iV (iV A.files s.data.toList) s2.data.toList++[{m.abs with name:=s2.data.toList}]}) ht23 hmap3
      (fun x hx=>by
        rcases List.mem_append.1 hx with hx|hx
        ·exact⟨x,Qv x hx,rfl,rfl,rfl,rfl⟩
        ·simp only[List.mem_singleton]at hx
         subst hx;exact⟨m,by simp,rfl,rfl,rfl,rfl⟩) hnd0 rfl rfl rfl hA' hgood
     refine⟨by rw[HV.out];rfl,?_⟩;rw[HV.out];exact⟨_,⟨_,_,hP.1⟩,(ht.mono (by simpa using .inl hdF)).trans ht23 (by simpa using .inl (HP.out.mem_map rfl)),fun k hk=> .inl (hP.2 k hk)⟩
end
end Dk
end
section
open Go.RowKit Go.Maps
set_option maxRecDepth 100000
set_option linter.unusedSimpArgs false
set_option linter.unusedVariables false
attribute [local go_sem] Oper.semAt_some
open Dk (DA ay Parts fE aW dI)
namespace Sg
theorem Ko{w w1 w':World}{base d:Nat}{F:List Nat}{A':DA}(ht:Turn [] w w1)(h:fE w1 w' base d F A'):fE w w' base d F A':=by
 obtain⟨F',hd,ht2,hf⟩:=h;exact⟨F',hd,(ht.mono (T:=F) (by simp)).same ht2,fun k hk=>(hf k hk).imp_right (Nat.le_trans ht.size)⟩
theorem Both.did{w w':World}{base d sb:Nat}{F:List Nat}{A A':DA}{sv:Value}{file:ByteArray}{b0:Int}{ps:List Pl}(h:Both w base d F A sb sv file b0 ps)(hd:fE w w' base d F A'):Came w w' base d F A' sb sv file b0 ps:=by
 obtain⟨F',hd,ht,hf⟩:=hd;exact⟨F',sv,⟨hd,h.qg.kept ht h.sep,fun k hk hm=>(hf k hm).elim (h.sep k hk) (fun h'=>by have:=(h.qg.lt k hk).2;omega)⟩,ht.mono (fun k hk=> .inl (List.mem_append_left _ hk)),hf,fun _ hk=> .inl hk⟩
set_option maxHeartbeats 1000000 in
theorem lY(w:World)(base d:Nat)(F:List Nat)(A:DA)(sb:Nat)(sv:Value)(file:ByteArray)(b0:Int)(ps:List Pl)(h:Both w base d F A sb sv file b0 ps)(hfs:file.size≤maxLen):
 Calls Tryz.prog 132 #[.pointer (some ⟨sb,0,none⟩)] w fun e w'=>e= .returned (aW (A.sync file.data.toList).1)∧fE w w' base d F (A.sync file.data.toList).2:=by
 have HB:=hide h;have hsb:=lt_of_heap h.qg.box;clear h;go_enter Tryz.func132,Tryz.ntmps132
 go_wp2
 refine aB 8 (Turn []) (by kernel_rfl) (by kernel_rfl) (by kernel_rfl) (by kernel_rfl) (by kernel_rfl) (Nat.le_of_ble_eq_true rfl) rfl (Turn.refl _) (fun _ _ _ h k=>h.same k) ?_;apply Lo.ag 1 rfl rfl [] (by kernel_rfl) (Turn.refl _);apply Exists.intro;apply And.intro
 ·intro u w1 hR hF
  clear hF;refine⟨rfl,fun a ha K hK=>?_⟩;have e0:=ha 0;conv at e0=>rhs;whnf
  clear ha;go_simp
  refine hK _ ?_;rfl
 apply Lo.ag 2 rfl rfl [0] (by kernel_rfl) (Turn.refl _);apply Exists.intro;apply And.intro
 ·intro u w1 hR hF
  obtain⟨h0, -⟩:=hF;refine⟨rfl,fun a ha K hK=>?_⟩;have e3:=(ha 3).trans h0;clear ha h0;go_simp
  refine hK _ ?_;rfl
 apply Lo.ag 3 rfl rfl [1] (by kernel_rfl) (Turn.refl _);apply Exists.intro;apply And.intro
 ·intro u w1 hR hF
  obtain⟨h1, -⟩:=hF;refine⟨rfl,fun a ha K hK=>?_⟩;have e4:=(ha 4).trans h1;clear ha h1;go_simp
  refine hK _ ?_;rfl
 apply Lo.ag 4 rfl rfl [2] (by kernel_rfl) (Turn.refl _);apply Exists.intro;apply And.intro
 ·intro u w1 hR hF
  obtain⟨h2, -⟩:=hF;refine⟨rfl,fun a ha K hK=>?_⟩;have e5:=(ha 5).trans h2;clear ha h2;have hS:=HB.out.qg.still (((Turn.refl [] _).drew).same hR);have c0:=hS.c0;have z1:=lt_of_heap hS.box;go_simp
  refine hK _ ?_;rfl
 apply Lo.ag 5 rfl rfl [] (by kernel_rfl) (Turn.refl _);apply Exists.intro;apply And.intro
 ·intro u w1 hR hF
  clear hF;refine⟨rfl,fun a ha K hK=>?_⟩;have e0:=ha 0;conv at e0=>rhs;whnf
  clear ha;go_simp
  refine hK _ ?_;rfl
 apply Lo.ag 6 rfl rfl [4] (by kernel_rfl) (Turn.refl _);apply Exists.intro;apply And.intro
 ·intro u w1 hR hF
  obtain⟨h4, -⟩:=hF;refine⟨rfl,fun a ha K hK=>?_⟩;have e7:=(ha 7).trans h4;clear ha h4;go_simp
  refine hK _ ?_;rfl
 apply Lo.ag 7 rfl rfl [5] (by kernel_rfl) (Turn.refl _);apply Exists.intro;apply And.intro
 ·intro u w1 hR hF
  obtain⟨h5, -⟩:=hF;refine⟨rfl,fun a ha K hK=>?_⟩;have e8:=(ha 8).trans h5;clear ha h5;go_simp
  refine hK _ ?_;rfl
 apply Lo.ag 8 rfl rfl [6] (by kernel_rfl) (Turn.refl _);apply Exists.intro;apply And.intro
 ·intro u w1 hR hF
  obtain⟨h6, -⟩:=hF;refine⟨rfl,fun a ha K hK=>?_⟩;have e9:=(ha 9).trans h6;clear ha h6;have hS:=HB.out.qg.still (((Turn.refl [] _).drew).same hR);have c1:=hS.c1;have z1:=lt_of_heap hS.box;go_simp
  refine hK _ ?_;rfl
 refine Lo.done [3,7] (fun u w1 bP hSd hF=>?_);clear hSd;obtain⟨f3,f7, -⟩:=hF;have d3:u 3=_:=f3;have d7:u 7=_:=f7;clear f3 f7;simp only[List.take_succ_cons,List.take_zero,List.drop_succ_cons,List.drop_zero,ax,Act.put,List.setIfInBounds_toArray,List.set_cons_succ,List.set_cons_zero,Nat.zero_add,Nat.reduceAdd,d3,d7];have HT:=hide (((Turn.refl [] w).drew).same bP);clear d3 d7 bP;go_wp2_with fail
 obtain⟨ah,ms,hp⟩:=HB.out.disk.kept HT.out (by simp);refine(Dk.lY hp file hfs).mono ?_;rintro e w2 ⟨rfl,hd⟩;obtain⟨r,hr⟩:∃r,r=aW (A.sync file.data.toList).1:=⟨_,rfl⟩;rw[←hr];have HR:=hide hr;have HD:=hide hd;clear hr hd hp;go_wp2
 go_ret
 rw[HR.out];exact⟨rfl,Ko HT.out HD.out⟩
end Sg
end
section
open Go.RowKit Go.Maps
set_option maxRecDepth 100000
set_option linter.unusedSimpArgs false
set_option linter.unusedVariables false
attribute [local go_sem] Oper.semAt_some
open Dk (DA ay Parts fE aW dI)
open Sg (bu bJ kL Both Came aA)
namespace Lg
def SM.abs(m:SM):Nat×List Bt.aX:=(m.n,m.xs)
def pJ(w w':World)(base d:Nat)(G:List Nat)(A':DA)(lb:Nat)(dir:ByteArray)(v':LV)(ss':List (Nat×List Bt.aX)):Prop:=
 ∃F' gv' ms',aI w' base d F' A' lb gv' dir v' ms'∧ms'.map SM.abs=ss'∧Turn G w w'∧∀k∈aS F' lb gv' ms',k∈G∨w.heap.size≤k
section
variable {w w' w1:World} {base d lb:Nat} {F G:List Nat} {A A':DA} {gv:Value} {dir:ByteArray} {v v':LV} {ms ms0 ms1:List SM} {m:SM} {ss':List (Nat×List Bt.aX)}
theorem pJ.before(ht:Turn [] w w1)(h:pJ w1 w' base d G A' lb dir v' ss'):pJ w w' base d G A' lb dir v' ss':=by
 obtain⟨F',gv',ms',hl,hm,ht2,hf⟩:=h;exact⟨F',gv',ms',hl,hm,(ht.mono (T:=G) (by simp)).same ht2,fun k hk=>(hf k hk).imp_right (Nat.le_trans ht.size)⟩
theorem aI.quiet(h:aI w base d F A lb gv dir v ms)(ht:Turn [] w w'):pJ w w' base d (aS F lb gv ms) A lb dir v (ms.map SM.abs):=
 ⟨F,gv,ms,h.still ht,rfl,ht.mono (by simp),fun _ hk=> .inl hk⟩
theorem aI.did(h:aI w base d F A lb gv dir v ms)(hd:fE w w' base d F A'):pJ w w' base d (aS F lb gv ms) A' lb dir v (ms.map SM.abs):=by
 obtain⟨F',hd,ht,hf⟩:=hd;refine⟨F',gv,ms,⟨hd,ht.heap h.box h.Fv,h.row.kept ht h.TM,h.low,fun m hm=>(h.lL m hm).kept ht (MJ h.disk (h.lL m hm)),h.apart⟩,rfl,ht.mono (fun k hk=> .inl (aC.2 (.inr (.inr (.inr hk))))),fun k hk=>?_⟩;rcases aC.1 hk with h1|h1|h1|h1
 ·exact .inl (aC.2 (.inl h1))
 ·exact .inl (aC.2 (.inr (.inl h1)))
 ·exact .inl (aC.2 (.inr (.inr (.inl h1))))
 ·rcases hf k h1 with h2|h2
  ·exact .inl (aC.2 (.inr (.inr (.inr h2))))
  ·exact .inr h2
theorem aI.came{xs':List Bt.aX}(h:aI w base d F A lb gv dir v (ms0++m::ms1))(hc:Came w w' base d F A' m.sb m.sv (Sn.nameB dir m.n) m.n (kL 0 (-1) xs')):
 pJ w w' base d (aS F lb gv (ms0++m::ms1)) A' lb dir v (ms0.map SM.abs++(m.n,xs')::ms1.map SM.abs):=by
 obtain⟨F',sv',hl,ht,hf⟩:=h.back hc;refine⟨F',gv,_,hl,by simp[SM.abs],ht.mono (fun k hk=> .inl ?_),hf⟩;rcases List.mem_append.1 hk with h1|h1
 ·exact aC.2 (.inr (.inr (.inr h1)))
 ·exact aC.2 (.inr (.inr (.inl ⟨m,by simp,h1⟩)))
theorem aI.Kq{i:Nat}{u:Value}{v':LV}(h:aI w base d F A lb gv dir v ms)(hc:(Qq d dir gv v).setIfInBounds i u=Qq d dir gv v'):aI (w.setCell ⟨lb,i,none⟩ u) base d F A lb gv dir v' ms:=by
 have ht:Turn [lb] w (w.setCell ⟨lb,i,none⟩ u):=(Turn.refl _ _).setCell (.inl (by simp)) _;refine⟨h.disk.kept ht (fun k hk hm=>?_),?_,h.row.kept ht (fun k hk hm=>?_),h.low,fun m hm=>(h.lL m hm).kept ht (fun k hk hm'=>?_),h.apart⟩
 ·obtain rfl:=List.mem_singleton.1 hm;exact h.Fv hk
 ·rw[heap_set h.box,hc]
 ·obtain rfl:=List.mem_singleton.1 hm;exact h.Qs hk
 ·obtain rfl:=List.mem_singleton.1 hm';exact h.J6 hm hk
end
theorem jw{α β:Type}{f:α→β}{l:List α}{r:List β}{b:β}(h:l.map f=r++[b]):∃l0 a,l=l0++[a]∧l0.map f=r∧f a=b:=by
 obtain⟨l0,l1,rfl,h1,h2⟩:=List.map_eq_append_iff.1 h;obtain⟨a,l2,rfl,h3,h4⟩:=List.map_eq_cons_iff.1 h2;obtain rfl:=List.map_eq_nil_iff.1 h4;exact⟨l0,a,rfl,h1,h3⟩
set_option maxHeartbeats 2000000 in
theorem last_any(w:World)(base d:Nat)(F:List Nat)(A:DA)(lb:Nat)(gv:Value)(dir:ByteArray)(v:LV)(ms0:List SM)(m:SM)(h:aI w base d F A lb gv dir v (ms0++[m]))(hl:ms0.length≤1000000):
 Calls Tryz.prog 131 #[.pointer (some ⟨lb,0,none⟩)] w fun e w'=>e= .returned (.pointer (some ⟨m.sb,0,none⟩))∧Turn [] w w':=by
 obtain⟨g,cap,hgv,hc, -⟩:=h.row.at uD (j:=ms0.length) (by simp);subst hgv;have H:=hide h;clear h hc;have hlb:=lt_of_heap H.out.box;go_enter Tryz.func131,Tryz.ntmps131
 go_wp2
 refine aB 12 (Turn []) (by kernel_rfl) (by kernel_rfl) (by kernel_rfl) (by kernel_rfl) (by kernel_rfl) (Nat.le_of_ble_eq_true rfl) rfl (Turn.refl _) (fun _ _ _ h k=>h.same k) ?_;apply Lo.ag 1 rfl rfl [] (by kernel_rfl) (Turn.refl _);apply Exists.intro;apply And.intro
 ·intro u w1 hR hF
  clear hF;refine⟨rfl,fun a ha K hK=>?_⟩;have e0:=ha 0;conv at e0=>rhs;whnf
  clear ha;go_simp
  refine hK _ ?_;rfl
 apply Lo.ag 2 rfl rfl [0] (by kernel_rfl) (Turn.refl _);apply Exists.intro;apply And.intro
 ·intro u w1 hR hF
  obtain⟨h0, -⟩:=hF;refine⟨rfl,fun a ha K hK=>?_⟩;have e3:=(ha 3).trans h0;clear ha h0;go_simp
  refine hK _ ?_;rfl
 apply Lo.ag 3 rfl rfl [1] (by kernel_rfl) (Turn.refl _);apply Exists.intro;apply And.intro
 ·intro u w1 hR hF
  obtain⟨h1, -⟩:=hF;refine⟨rfl,fun a ha K hK=>?_⟩;have e4:=(ha 4).trans h1;clear ha h1;go_simp
  refine hK _ ?_;rfl
 refine Lo.aJ 4 rfl rfl [2] (.slice (some ⟨g,0,none⟩) (ms0.length+1) cap) (by kernel_rfl) (fun u w1 hR hF=>?_) (Turn.refl _) ?_
 ·obtain⟨h2, -⟩:=hF
  refine⟨rfl,fun a ha K hK=>?_⟩;have e5:=(ha 5).trans h2;clear ha h2;have hL:=H.out.still (((Turn.refl [] _).drew).same hR);have c3:=hL.c3;have z1:=lt_of_heap hL.box;rw[List.length_append,List.length_singleton]at c3;go_simp
  refine hK _ ?_;rfl
 apply Lo.ag 5 rfl rfl [] (by kernel_rfl) (Turn.refl _);apply Exists.intro;apply And.intro
 ·intro u w1 hR hF
  clear hF;refine⟨rfl,fun a ha K hK=>?_⟩;have e0:=ha 0;conv at e0=>rhs;whnf
  clear ha;go_simp
  refine hK _ ?_;rfl
 apply Lo.ag 6 rfl rfl [4] (by kernel_rfl) (Turn.refl _);apply Exists.intro;apply And.intro
 ·intro u w1 hR hF
  obtain⟨h4, -⟩:=hF;refine⟨rfl,fun a ha K hK=>?_⟩;have e7:=(ha 7).trans h4;clear ha h4;go_simp
  refine hK _ ?_;rfl
 apply Lo.ag 7 rfl rfl [5] (by kernel_rfl) (Turn.refl _);apply Exists.intro;apply And.intro
 ·intro u w1 hR hF
  obtain⟨h5, -⟩:=hF;refine⟨rfl,fun a ha K hK=>?_⟩;have e8:=(ha 8).trans h5;clear ha h5;go_simp
  refine hK _ ?_;rfl
 refine Lo.aJ 8 rfl rfl [6] (.slice (some ⟨g,0,none⟩) (ms0.length+1) cap) (by kernel_rfl) (fun u w1 hR hF=>?_) (Turn.refl _) ?_
 ·obtain⟨h6, -⟩:=hF
  refine⟨rfl,fun a ha K hK=>?_⟩;have e9:=(ha 9).trans h6;clear ha h6;have hL:=H.out.still (((Turn.refl [] _).drew).same hR);have c3:=hL.c3;have z1:=lt_of_heap hL.box;rw[List.length_append,List.length_singleton]at c3;go_simp
  refine hK _ ?_;rfl
 apply Lo.ag 9 rfl rfl [7] (by kernel_rfl) (Turn.refl _);apply Exists.intro;apply And.intro
 ·intro u w1 hR hF
  obtain⟨h7, -⟩:=hF;refine⟨rfl,fun a ha K hK=>?_⟩;have e10:=(ha 10).trans h7;clear ha h7;go_simp
  refine hK _ ?_;rfl
 refine Lo.aJ 10 rfl rfl [8] (.int .i64 (ms0.length:Int)) (by kernel_rfl) (fun u w1 hR hF=>?_) (Turn.refl _) ?_
 ·obtain⟨h8, -⟩:=hF
  refine⟨rfl,fun a ha K hK=>?_⟩;have e11:=(ha 11).trans h8;clear ha h8;go_simp
  refine hK _ ?_;rw[IntWalk.i64_left,IntWalk.wrap64_in _ (by omega)]
 refine Lo.aJ 11 rfl rfl [3,9] (.pointer (some ⟨g,ms0.length,none⟩)) (by kernel_rfl) (fun u w1 hR hF=>?_) (Turn.refl _) ?_
 ·obtain⟨h3,h9, -⟩:=hF
  refine⟨rfl,fun a ha K hK=>?_⟩;have e6:=(ha 6).trans h3;have e12:=(ha 12).trans h9;clear ha h3 h9;have h10:(ms0.length:Int)<ms0.length+1:=by omega
  go_simp
  refine hK _ ?_;rfl
 refine Lo.aJ 12 rfl rfl [10] (.pointer (some ⟨m.sb,0,none⟩)) (by kernel_rfl) (fun u w1 hR hF=>?_) (Turn.refl _) ?_
 ·obtain⟨h10, -⟩:=hF
  refine⟨rfl,fun a ha K hK=>?_⟩;have e13:=(ha 13).trans h10;clear ha h10;have hL:=H.out.still (((Turn.refl [] _).drew).same hR);obtain⟨g',cap',e,hc, -⟩:=hL.row.at uD (j:=ms0.length) (by simp);simp at e;obtain⟨rfl,rfl⟩:=e;have hc0:w1.cell? ⟨g,ms0.length,none⟩=some (.pointer (some ⟨m.sb,0,none⟩)):=by simpa[SK]using hc 0 (by omega)
  clear hc;go_simp
  refine hK _ ?_;rfl
 refine Lo.done [11] (fun u w1 bP hSd hF=>?_);clear hSd;obtain⟨f11, -⟩:=hF;have d11:u 11=_:=f11;clear f11;simp only[List.take_succ_cons,List.take_zero,List.drop_succ_cons,List.drop_zero,ax,Act.put,List.setIfInBounds_toArray,List.set_cons_succ,List.set_cons_zero,Nat.zero_add,Nat.reduceAdd,d11];have HT:=hide (((Turn.refl [] w).drew).same bP);clear d11 bP;go_wp2
 go_ret
 exact⟨rfl,HT.out⟩
set_option maxHeartbeats 1000000 in
theorem qY(w:World)(base d:Nat)(F:List Nat)(A:DA)(lb:Nat)(gv:Value)(dir:ByteArray)(v:LV)(ms0:List SM)(m:SM)(h:aI w base d F A lb gv dir v (ms0++[m]))(hl:ms0.length≤1000000)(hx:m.xs.length≤1000000):
 Calls Tryz.prog 90 #[.pointer (some ⟨lb,0,none⟩)] w fun e w'=>e= .returned (.int .i64 (aA m.n m.xs))∧Turn [] w w':=by
 have H:=hide h;have hla:=last_any w base d F A lb gv dir v ms0 m h hl;clear h;go_enter Tryz.func90,Tryz.ntmps90
 go_wp2_with fail
 refine hla.mono ?_;rintro e w1 ⟨rfl,ht1⟩;have HT1:=hide ht1;clear ht1 hla;go_wp2_with fail
 refine(Sg.next_any _ base d m.sb m.sv _ m.n _ ((H.out.lL m (by simp)).still HT1.out) (by rw[Sg.qU];exact hx)).mono ?_;rintro e w2 ⟨rfl,ht2⟩;rw[Sg.Ei];obtain⟨nx,hnx⟩:∃nx,nx=aA m.n m.xs:=⟨_,rfl⟩;rw[←hnx];have tK:=hide hnx;have HT2:=hide (HT1.out.same ht2);clear hnx ht2;go_wp2
 go_ret
 rw[←tK.out];exact⟨rfl,HT2.out⟩
def mi(c:Int)(v:LV)(nx:Int):LV:=if c=0 then {v with safe:=nx}else v
set_option maxHeartbeats 2000000 in
theorem lY(w:World)(base d:Nat)(F:List Nat)(A:DA)(lb:Nat)(gv:Value)(dir:ByteArray)(v:LV)(ms0:List SM)(m:SM)(h:aI w base d F A lb gv dir v (ms0++[m]))(hl:ms0.length≤1000000)(hx:m.xs.length≤1000000)(hfs:(Sn.nameB dir m.n).size≤maxLen):
 Calls Tryz.prog 88 #[.pointer (some ⟨lb,0,none⟩)] w fun e w'=>e= .returned (aW (A.sync (Sn.nameB dir m.n).data.toList).1)∧
  pJ w w' base d (aS F lb gv (ms0++[m])) (A.sync (Sn.nameB dir m.n).data.toList).2 lb dir (mi (A.sync (Sn.nameB dir m.n).data.toList).1 v (aA m.n m.xs)) ((ms0++[m]).map SM.abs):=by
 have H:=hide h;have hla:=last_any w base d F A lb gv dir v ms0 m h hl;clear h;go_enter Tryz.func88,Tryz.ntmps88
 go_wp2_with fail
 refine hla.mono ?_;rintro e w1 ⟨rfl,ht1⟩;have HT1:=hide ht1;clear ht1 hla;go_wp2_with fail
 refine(Sg.lY _ base d F A m.sb m.sv _ m.n _ ((H.out.still HT1.out).both (by simp)) hfs).mono ?_;rintro e w2 ⟨rfl,hd⟩;obtain⟨c,hc⟩:∃c,c=(A.sync (Sn.nameB dir m.n).data.toList).1:=⟨_,rfl⟩;obtain⟨A2,hA2⟩:∃A2,A2=(A.sync (Sn.nameB dir m.n).data.toList).2:=⟨_,rfl⟩;rw[←hA2]at hd;rw[←hc];have Ec:=hide hc;have VY:=hide hA2;obtain⟨F2,gv2,ms2,hl2,hm2,ht2,hf2⟩:=((H.out.still HT1.out).did hd).before HT1.out;rw[List.map_append,List.map_singleton]at hm2;obtain⟨ms20,m2,rfl,hm20,qB⟩:=jw hm2;have hla2:=qY w2 base d F2 A2 lb gv2 dir v ms20 m2 hl2 (by rw[←List.length_map (f:=SM.abs),hm20,List.length_map];exact hl) (by have:m2.xs=m.xs:=congrArg Prod.snd qB;rw[this];exact hx);have e1:aA m2.n m2.xs=aA m.n m.xs:=by
  have h1:m2.n=m.n:=congrArg Prod.fst qB;have h2:m2.xs=m.xs:=congrArg Prod.snd qB;rw[h1,h2]
 rw[e1]at hla2;have HL2:=hide hl2;have V9:=hide hla2;have HM2:=hide hm2;have HT2:=hide ht2;have HF2:=hide hf2;clear hd hc hA2 hl2 hm2 ht2 hf2 hla2 hm20 qB e1;by_cases hc0:c=0
 ·have hr0:aW c= .nilIface:=by rw[hc0];rfl
  have HC0:=hide hc0;rw[hr0];clear hr0 hc0;go_wp2_with fail
  refine V9.out.mono ?_;rintro e w3 ⟨rfl,ht3⟩;obtain⟨nx,hnx⟩:∃nx,nx=aA m.n m.xs:=⟨_,rfl⟩;rw[←hnx];have hl3:=HL2.out.still ht3;have c5:=hl3.c5;have fr:=hl3.fr 5;have hlb:=lt_of_heap hl3.box;have HL3:=hide hl3;have HT3:=hide ht3;have tK:=hide hnx;clear ht3 hl3 hnx V9;go_wp2
  go_ret
  have e:aW c= .nilIface:=by rw[HC0.out];rfl
  have hs:mi c v nx={v with safe:=nx}:=by unfold mi;rw[if_pos HC0.out]
  rw[←VY.out,←Ec.out,←tK.out,e,hs];refine⟨rfl,F2,gv2,_,HL3.out.Kq (i:=5) (u:= .int .i64 nx) (v':={v with safe:=nx}) rfl,by rw[HM2.out,List.map_append,List.map_singleton],?_,fun k hk=>HF2.out k hk⟩;exact(HT2.out.same (HT3.out.mono (by simp))).setCell (.inl (aC.2 (.inl rfl))) _
 ·have hr0:aW c= .iface 38 (.int .i64 c):=by unfold aW;rw[if_neg hc0];rfl
  have HC0:=hide hc0;have HR0:=hide hr0;rw[hr0];clear hr0 hc0 V9;go_wp2
  go_ret
  have hs:mi c v (aA m.n m.xs)=v:=by unfold mi;rw[if_neg HC0.out]
  rw[←VY.out,←Ec.out,HR0.out,hs];exact⟨rfl,F2,gv2,_,HL2.out,by rw[HM2.out,List.map_append,List.map_singleton],HT2.out,HF2.out⟩
end Lg
end
section
open Go.RowKit Go.Maps
set_option maxRecDepth 100000
set_option linter.unusedSimpArgs false
set_option linter.unusedVariables false
attribute [local go_sem] Oper.semAt_some
open Dk (DA ay Parts fE aW dI)
open Sg (Chain flat kL Both aA)
namespace Lg
def df(ss:List (Nat×List Bt.aX)):List Bt.aX:=ss.flatMap (·.2)
structure Yt(A:DA)(dir:ByteArray)(ss:List (Nat×List Bt.aX)):Prop where
 base:∀p∈ss,p.1≤1099511627776
 file:∀p∈ss,∃f,A.file (Sn.nameB dir p.1).data.toList=some f∧f.bytes=flat p.2
 chain:∀p∈ss,Chain p.1 p.2
 many:ss.length≤1000
theorem sZ{w:World}{base d:Nat}{F:List Nat}{A:DA}{dir:ByteArray}{ss:List (Nat×List Bt.aX)}(hd:ay w base d F A)(h:Yt A dir ss){p:Nat×List Bt.aX}(hp:p∈ss):(flat p.2).length≤1048576:=by
 obtain⟨f,hf,hb⟩:=h.file p hp;have:=Sg.BN hd hf;rwa [hb]at this
theorem lQ(base:Int):∀rs:List Bt.Rec,3*rs.length≤(Bt.iw base rs).length
 |[]=>by simp[Bt.iw]
 |r::rs=>by
  have h:=lQ base rs;have h1:3≤(Bt.ni base r).length:=by
   unfold Bt.ni;have:=Nu.put_pos (r.off-base).toNat;have:=Nu.put_pos r.time.toNat;have:=Nu.put_pos (Bt.mark r);simp only[List.length_append];omega
  unfold Bt.iw at h⊢;rw[List.flatMap_cons,List.length_append,List.length_cons];omega
theorem Ij:∀xs:List Bt.aX,3*(xs.flatMap (·.recs)).length≤(flat xs).length
 |[]=>by simp
 |x::r=>by
  have h1:=Ij r;have h2:=lQ x.base x.recs;have h3:(Bt.iw x.base x.recs).length≤(Bt.aj x).length:=by
   rw[Bt.gK];unfold Bt.body;simp only[List.length_append];omega
  have h4:flat (x::r)=Bt.aj x++flat r:=by
   rw[←Sg.kK,←Sg.bZ];rfl
  rw[h4,List.flatMap_cons,List.length_append,List.length_append];omega
end Lg
end
section
open Go.RowKit
section
variable {P:Program} {l:List Oper} {Q:Exit→Act→World→Prop} {R R':World→World→Prop} {S:Nat→World→Prop} {loud:List Nat} {a0:Act} {w0:World} {E:Act→World→Prop}
theorem Lo.late{o:Oper}{os:List Oper}{Vs:List (Nat×(Value→World→Prop))}{i:Nat}(n:Nat)(hn:i+1=n)(hq:posOf loud i=none)(js:List Nat)(V:Value→World→Prop)(hj:JG l o js=true)(hV:∀x w w',V x w→R' w w'→V x w')(hlast:BB l loud i o=true)
 (h1:∀u w,R w0 w→jJ Vs u w js→jl o (iR l 0 u a0.tmps) l true∧∀a:Act,(∀d,a.tmps.getD d undef=iR l 0 u a0.tmps d)→∀K:Act→World→Prop,(∀x w',V x w'→R' w w'→K (a.put o.dst x) w')→o.wp P a w K Q)
 (h2:Lo P l Q E R R' S loud w0 a0 os n ((i,V)::Vs)):Lo P l Q E R R' S loud w0 a0 (o::os) i Vs:=
 ⟨V,hV,fun hl=>(by rw[hlast]at hl;cases hl),fun u w hR _ hF=> .inl (by unfold qi;rw[hq];exact h1 u w hR (jq hF js hj)),by rw[hn];exact h2⟩
end
end
section
open Go.RowKit Go.Maps
set_option maxRecDepth 100000
set_option linter.unusedSimpArgs false
set_option linter.unusedVariables false
attribute [local go_sem] Oper.semAt_some
open Dk (DA ay Parts fE aW dI)
open Sg (bu bJ kL Both Came aA flat)
namespace Lg
theorem Tryz.We:(Tryz.prog.info? 174).map (fun i=>(i.zero,i.size,i.bytes))=some (some (.pointer none),1,8):=by kernel_rfl
theorem Wi(w:World)(base:Nat)(v:Value)(xs:List SM)(x:SM)(k:Nat)(hrow:aH 174 1 SK w base v xs)(hk:w.heap[k]? =some (.cells (SK x).toArray 174 (0,0))) (hlen:xs.length≤1000000) (hbase:base≤w.heap.size):
 ∃v' w',(Builtin.append_ #[169,169] 169 #[v, .slice (some ⟨k,0,none⟩) 1 1]).run Tryz.prog w= .ok v' w'∧aH 174 1 SK w' base v' (xs++[x])∧Turn v.ownBlock.toList w w'∧(∀j∈v'.ownBlock,j∈v.ownBlock∨w.heap.size≤j):=by
 obtain⟨i,hi,e⟩:=Option.map_eq_some_iff.1 Tryz.We;simp only[Prod.mk.injEq]at e;exact dS (P:=Tryz.prog) 169 169 Tryz.underlying169 i _ hi e.1 (by rfl) e.2.1 (by omega) uD (fun x u hu=>by simp[SK]at hu;subst hu;rfl) w base v xs x k hrow hk hlen hbase
section
variable {w w' w1:World} {base d lb:Nat} {F G:List Nat} {A A':DA} {gv gv':Value} {dir:ByteArray} {v v':LV} {ms ms0 ms1:List SM} {m:SM}
theorem aI.grow(h:aI w base d F A lb gv dir v ms)(ht:Turn gv.ownBlock.toList w w')(hrow:aH 174 1 SK w' base gv' (ms++[m]))(hseg:bu w base d m.sb m.sv (Sn.nameB dir m.n) m.n (kL 0 (-1) m.xs))(hap:∀x∈ms,∀k∈x.foot,k∉m.foot):
 aI (w'.setCell ⟨lb,3,none⟩ gv') base d F A lb gv' dir v (ms++[m]):=by
 have hb':=ht.heap h.box (by simpa using h.Qs);have ht2:Turn [lb] w' (w'.setCell ⟨lb,3,none⟩ gv'):=(Turn.refl _ _).setCell (.inl (by simp)) _;have hgs:∀k∈gv.ownBlock,k∉m.foot:=fun k hk hs=>by
  obtain⟨cs,e⟩:=h.row.kind k hk;obtain⟨cs',T,e',hT⟩:=mg hseg k hs;rcases hT with rfl|rfl<;>exact ai e e' (by decide) rfl
 have hls:lb∉m.foot:=fun hs=>by
  obtain⟨cs',T,e',hT⟩:=mg hseg lb hs;rcases hT with rfl|rfl<;>exact ai h.box e' (by decide) rfl
 refine⟨(h.disk.kept ht (fun k hk hm=>h.TM k (by simpa using hm) hk)).kept ht2 (fun k hk hm=>by obtain rfl:=List.mem_singleton.1 hm;exact h.Fv hk),?_,hrow.kept ht2 (fun k hk hm=>?_),h.low,fun x hx=>?_,?_⟩
 ·rw[heap_set hb'];rfl
 ·obtain rfl:=List.mem_singleton.1 hm
  obtain⟨cs,e⟩:=hrow.kind k hk;exact ai hb' e (by decide) rfl
 ·rcases List.mem_append.1 hx with hx|hx
  ·exact((h.lL x hx).kept ht (fun k hk hm=>h.Qr hx k (by simpa using hm) hk)).kept ht2 (fun k hk hm=>by obtain rfl:=List.mem_singleton.1 hm;exact h.J6 hx hk)
  ·obtain rfl:=List.mem_singleton.1 hx
   exact(hseg.kept ht (fun k hk hm=>hgs k (by simpa using hm) hk)).kept ht2 (fun k hk hm=>by obtain rfl:=List.mem_singleton.1 hm;exact hls hk)
 ·rw[List.pairwise_append]
  exact⟨h.apart,List.pairwise_singleton _ _,fun x hx y hy=>by obtain rfl:=List.mem_singleton.1 hy;exact hap x hx⟩
end
def jW(A:DA)(dir:ByteArray)(n:Nat)(ss:List (Nat×List Bt.aX)):Int×DA×List (Nat×List Bt.aX):=
 ((A.make (Sn.nameB dir n)).1,(A.make (Sn.nameB dir n)).2,if (A.make (Sn.nameB dir n)).1=0 then ss++[(n,[])]else ss)
theorem _root_.Go.Proofs.YtmjpdhpmjmgmaaaGreatDoor.Dk.fE.turn{w w':World}{base d:Nat}{F:List Nat}{A':DA}(h:fE w w' base d F A'):Turn F w w':=by
 obtain⟨F', -,h2, -⟩:=h;exact h2
theorem jE{w w1 w':World}{base d:Nat}{F:List Nat}{A':DA}(ht:Turn F w w1)(h:fE w1 w' base d F A'):fE w w' base d F A':=by
 obtain⟨F',hd,ht2,hf⟩:=h;exact⟨F',hd,ht.same ht2,fun k hk=>(hf k hk).imp_right (Nat.le_trans ht.size)⟩
theorem qZ{w w1 w':World}{base d:Nat}{F:List Nat}{A':DA}(h:fE w w1 base d F A')(ht:Turn [] w1 w'):fE w w' base d F A':=by
 obtain⟨F',hd,ht2,hf⟩:=h;exact⟨F',hd.kept ht (by simp),ht2.same (ht.mono (by simp)),hf⟩
theorem Kr{w w':World}{base d sb:Nat}{F:List Nat}{A':DA}{file:ByteArray}{b0:Int}(h:Sg.iU w w' base d F A' sb file b0):Turn F w w':=by
 obtain⟨F', -,h2, -⟩:=h;exact h2
theorem Ik{w w1 w':World}{base d sb:Nat}{F:List Nat}{A':DA}{file:ByteArray}{b0:Int}(ht:Turn F w w1)(h:Sg.iU w1 w' base d F A' sb file b0):Sg.iU w w' base d F A' sb file b0:=by
 obtain⟨F',hb,ht2,hf,hs⟩:=h;exact⟨F',hb,ht.same ht2,fun k hk=>(hf k hk).imp_right (Nat.le_trans ht.size),Nat.le_trans ht.size hs⟩
theorem mP{w w1 w':World}{base d sb:Nat}{F:List Nat}{A':DA}{file:ByteArray}{b0:Int}(h:Sg.iU w w1 base d F A' sb file b0)(ht:Turn [] w1 w'):Sg.iU w w' base d F A' sb file b0:=by
 obtain⟨F',hb,ht2,hf,hs⟩:=h;exact⟨F',hb.still ht,ht2.same (ht.mono (by simp)),hf,hs⟩
set_option maxHeartbeats 4000000 in
theorem Et(w:World)(base d:Nat)(F:List Nat)(A:DA)(lb:Nat)(gv:Value)(dir:ByteArray)(v:LV)(ms:List SM)(h:aI w base d F A lb gv dir v ms)(hl:ms.length≤1000000)(mr:dir.size≤1000)(n:Nat)(hn:n≤1099511627776)(hv:Sn.dA w):
 Calls Tryz.prog 87 #[.pointer (some ⟨lb,0,none⟩), .int .i64 n] w fun e w'=>e= .returned (aW (jW A dir n (ms.map SM.abs)).1)∧
  pJ w w' base d (aS F lb gv ms) (jW A dir n (ms.map SM.abs)).2.1 lb dir v (jW A dir n (ms.map SM.abs)).2.2:=by
 obtain⟨ga,gc,hgv,hglc,Yu⟩:=h.row.form;subst hgv;have H:=hide h;have HV:=hide hv;have hlb:=lt_of_heap h.box;obtain⟨c,hc⟩:∃c,c=(A.make (Sn.nameB dir n)).1:=⟨_,rfl⟩;obtain⟨A2,hA2⟩:∃A2,(A.make (Sn.nameB dir n)).2=A2:=⟨_,rfl⟩;have HC:=hide hc;have HA2:=hide hA2;clear h hv hA2;by_cases hne:c≠0
 ·have hr:aW (A.make (Sn.nameB dir n)).1= .iface 38 (.int .i64 c):=by rw[←hc];unfold aW;rw[if_neg hne];rfl
  have HR:=hide hr;have SE:=hide hne;clear hr hne hc;go_enter Tryz.func87,Tryz.ntmps87
  go_wp2
  refine cZ 14 (Turn F) (Turn []) (fun k w=>match k with|0=>(fun w'=>ay w' base d F A∧Sn.dA w') w|_=>(fun w'=>Sn.dA w'∨True) w) [9] (by kernel_rfl) (by kernel_rfl) (by kernel_rfl) (by kernel_rfl) (by kernel_rfl) (by kernel_rfl) (Nat.le_of_ble_eq_true rfl) (by decide) rfl (Turn.refl _) (fun _ _ _ h k=>h.same k) (fun _ _ h=>h.mono (by simp)) ?_ ?_ ?_
  ·intro k a b hk hR
   match k,hk with
   |0,hk=>
    have hk:=(show(fun w'=>ay w' base d F A∧Sn.dA w') a from hk);dsimp only at hk;show(fun w'=>ay w' base d F A∧Sn.dA w') b;dsimp only;first|exact⟨hk.1.kept hR (by simp),hk.2.below hR.nil⟩|exact .inr trivial
   |_+1,hk=>
    have hk:=(show(fun w'=>Sn.dA w'∨True) a from hk);dsimp only at hk;show(fun w'=>Sn.dA w'∨True) b;dsimp only;first|exact⟨hk.1.kept hR (by simp),hk.2.below hR.nil⟩|exact .inr trivial
  ·show(fun w'=>ay w' base d F A∧Sn.dA w') _
   dsimp only;exact⟨H.out.disk.kept ((Turn.refl [] w).drew) (by simp),HV.out.below ((Turn.refl [] w).drew).nil⟩
  apply Lo.ag 1 rfl rfl [] (by kernel_rfl) (Turn.refl _);apply Exists.intro;apply And.intro
  ·intro u w1 hR hF
   clear hF;refine⟨rfl,fun a ha K hK=>?_⟩;have e0:=ha 0;conv at e0=>rhs;whnf
   clear ha;go_simp
   refine hK _ ?_;rfl
  apply Lo.ag 2 rfl rfl [0] (by kernel_rfl) (Turn.refl _);apply Exists.intro;apply And.intro
  ·intro u w1 hR hF
   obtain⟨h0, -⟩:=hF;refine⟨rfl,fun a ha K hK=>?_⟩;have e8:=(ha 8).trans h0;clear ha h0;go_simp
   refine hK _ ?_;rfl
  apply Lo.ag 3 rfl rfl [1] (by kernel_rfl) (Turn.refl _);apply Exists.intro;apply And.intro
  ·intro u w1 hR hF
   obtain⟨h1, -⟩:=hF;refine⟨rfl,fun a ha K hK=>?_⟩;have e9:=(ha 9).trans h1;clear ha h1;go_simp
   refine hK _ ?_;rfl
  apply Lo.ag 4 rfl rfl [2] (by kernel_rfl) (Turn.refl _);apply Exists.intro;apply And.intro
  ·intro u w1 hR hF
   obtain⟨h2, -⟩:=hF;refine⟨rfl,fun a ha K hK=>?_⟩;have e10:=(ha 10).trans h2;clear ha h2;have hb:=(((Turn.refl [] w).drew.mono (T:=F) (by simp)).same hR).heap H.out.box H.out.Fv;have c0:w1.cell? ⟨lb,0,none⟩=some (.pointer (some ⟨d,0,none⟩)):=by rw[cell_of hb];rfl
   have z1:=lt_of_heap hb;go_simp
   refine hK _ ?_;rfl
  apply Lo.ag 5 rfl rfl [] (by kernel_rfl) (Turn.refl _);apply Exists.intro;apply And.intro
  ·intro u w1 hR hF
   clear hF;refine⟨rfl,fun a ha K hK=>?_⟩;have e0:=ha 0;conv at e0=>rhs;whnf
   clear ha;go_simp
   refine hK _ ?_;rfl
  apply Lo.ag 6 rfl rfl [4] (by kernel_rfl) (Turn.refl _);apply Exists.intro;apply And.intro
  ·intro u w1 hR hF
   obtain⟨h4, -⟩:=hF;refine⟨rfl,fun a ha K hK=>?_⟩;have e12:=(ha 12).trans h4;clear ha h4;go_simp
   refine hK _ ?_;rfl
  apply Lo.ag 7 rfl rfl [5] (by kernel_rfl) (Turn.refl _);apply Exists.intro;apply And.intro
  ·intro u w1 hR hF
   obtain⟨h5, -⟩:=hF;refine⟨rfl,fun a ha K hK=>?_⟩;have e13:=(ha 13).trans h5;clear ha h5;go_simp
   refine hK _ ?_;rfl
  apply Lo.ag 8 rfl rfl [6] (by kernel_rfl) (Turn.refl _);apply Exists.intro;apply And.intro
  ·intro u w1 hR hF
   obtain⟨h6, -⟩:=hF;refine⟨rfl,fun a ha K hK=>?_⟩;have e14:=(ha 14).trans h6;clear ha h6;have hb:=(((Turn.refl [] w).drew.mono (T:=F) (by simp)).same hR).heap H.out.box H.out.Fv;have c0:w1.cell? ⟨lb,1,none⟩=some (.string dir):=by rw[cell_of hb];rfl
   have z1:=lt_of_heap hb;go_simp
   refine hK _ ?_;rfl
  apply Lo.ag 9 rfl rfl [] (by kernel_rfl) (Turn.refl _);apply Exists.intro;apply And.intro
  ·intro u w1 hR hF
   clear hF;refine⟨rfl,fun a ha K hK=>?_⟩;have e1:=ha 1;conv at e1=>rhs;whnf
   clear ha;go_simp
   refine hK _ ?_;rfl
  refine Lo.rX 10 rfl 0 rfl [3,7,8] (fun x w'=>x= .tuple #[.pointer none, .iface 38 (.int .i64 c)]∧fE w w' base d F A2) (by kernel_rfl) (fun x w w' h hR=>?_) (.inl (by kernel_rfl)) (fun u w1 hR hS hF=>?_) ?_
  ·exact⟨h.1,qZ h.2 hR⟩
  ·obtain⟨h3,h7,h8, -⟩:=hF
   have hS:=(show(fun w'=>ay w' base d F A∧Sn.dA w') w1 from hS);dsimp only at hS;refine⟨rfl,fun a ha K hK=>?_⟩;have e11:=(ha 11).trans h3;have e15:=(ha 15).trans h7;have e16:=(ha 16).trans h8;clear ha h3 h7 h8;go_simp
   have hr0:=((Turn.refl [] w).drew.mono (T:=F) (by simp)).same hR;refine(Sg.pV w1 base d F A hS.1 dir mr n hn hS.2).mono ?_;rintro e w2 (⟨hne,rfl,hd⟩|⟨he, -⟩)
   ·rw[HR.out]
    rw[HA2.out]at hd;exact hK _ _ ⟨rfl,jE hr0 hd⟩ hd.turn (.inr trivial)
   ·exact absurd (HC.out.trans he) SE.out
  refine Lo.late 11 rfl rfl [9] (fun x w'=>x= .tuple #[.pointer none, .iface 38 (.int .i64 c)]∧fE w w' base d F A2) (by kernel_rfl) (fun x w w' h hR=>?_) (by kernel_rfl) (fun u w1 hR hF=>?_) ?_
  ·exact⟨h.1,qZ h.2 hR⟩
  ·obtain⟨h9, -⟩:=hF
   refine⟨rfl,fun a ha K hK=>?_⟩;have e17:a.tmps.getD 17 undef=u 9:=ha 17;have h9:=(show(fun x w'=>x= .tuple #[.pointer none, .iface 38 (.int .i64 c)]∧fE w w' base d F A2) (u 9) w1 from h9);dsimp only at h9;clear ha;obtain⟨e9,U8⟩:=h9;rw[e9]at e17;go_simp
   exact hK _ _ ⟨rfl,U8⟩ (Turn.refl _ _)
  refine Lo.late 12 rfl rfl [10] (fun x w'=>x= .pointer none∧fE w w' base d F A2) (by kernel_rfl) (fun x w w' h hR=>?_) (by kernel_rfl) (fun u w1 hR hF=>?_) ?_
  ·exact⟨h.1,qZ h.2 hR⟩
  ·obtain⟨h10, -⟩:=hF
   refine⟨rfl,fun a ha K hK=>?_⟩;have e7:a.tmps.getD 7 undef=u 10:=ha 7;have h10:=(show(fun x w'=>x= .tuple #[.pointer none, .iface 38 (.int .i64 c)]∧fE w w' base d F A2) (u 10) w1 from h10);dsimp only at h10;clear ha;obtain⟨e9,U8⟩:=h10;rw[e9]at e7;go_simp
   exact hK _ _ ⟨rfl,U8⟩ (Turn.refl _ _)
  refine Lo.aJ 13 rfl rfl [10] (.iface 38 (.int .i64 c)) (by kernel_rfl) (fun u w1 hR hF=>?_) (Turn.refl _) ?_
  ·obtain⟨h10, -⟩:=hF
   refine⟨rfl,fun a ha K hK=>?_⟩;have e7:a.tmps.getD 7 undef=u 10:=ha 7;have h10:=(show(fun x w'=>x= .tuple #[.pointer none, .iface 38 (.int .i64 c)]∧fE w w' base d F A2) (u 10) w1 from h10);dsimp only at h10;clear ha;obtain⟨e9, -⟩:=h10;rw[e9]at e7;go_simp
   refine hK _ ?_;rfl
  refine Lo.late 14 rfl rfl [11] (fun x w'=>x= .pointer none∧fE w w' base d F A2) (by kernel_rfl) (fun x w w' h hR=>?_) (by kernel_rfl) (fun u w1 hR hF=>?_) ?_
  ·exact⟨h.1,qZ h.2 hR⟩
  ·obtain⟨h11, -⟩:=hF
   refine⟨rfl,fun a ha K hK=>?_⟩;have e18:a.tmps.getD 18 undef=u 11:=ha 18;have h11:=(show(fun x w'=>x= .pointer none∧fE w w' base d F A2) (u 11) w1 from h11);dsimp only at h11;clear ha;go_simp
   exact hK _ _ ⟨rfl,h11.2⟩ (Turn.refl _ _)
  refine Lo.done [12,13] (fun u w1 bP hSd hF=>?_);have hSd:=(show(fun w'=>Sn.dA w'∨True) w1 from hSd);dsimp only at hSd;obtain⟨f12,f13, -⟩:=hF;have d12:u 12=_:=f12;have d13:=(show(fun x w'=>x= .pointer none∧fE w w' base d F A2) (u 13) w1 from f13);dsimp only at d13;clear f12 f13;simp only[List.take_succ_cons,List.take_zero,List.drop_succ_cons,List.drop_zero,ax,Act.put,List.setIfInBounds_toArray,List.set_cons_succ,List.set_cons_zero,Nat.zero_add,Nat.reduceAdd,d12];obtain⟨e13,hd13⟩:=d13;rw[e13];have HD:=hide (H.out.did hd13);clear d12 e13 hd13 bP hSd;go_wp2
  go_ret
  unfold jW;simp only;rw[HR.out,HA2.out,if_neg (by rw[←HC.out];exact SE.out)];exact⟨rfl,HD.out⟩
 ·have hne0:c=0:=Classical.not_not.1 hne
  have SE:=hide hne0;clear hne hne0 hc;go_enter Tryz.func87,Tryz.ntmps87
  go_wp2
  refine cZ 14 (Turn F) (Turn []) (fun k w=>match k with|0=>(fun w'=>ay w' base d F A∧Sn.dA w') w|_=>(fun w'=>Sn.dA w'∨True) w) [9] (by kernel_rfl) (by kernel_rfl) (by kernel_rfl) (by kernel_rfl) (by kernel_rfl) (by kernel_rfl) (Nat.le_of_ble_eq_true rfl) (by decide) rfl (Turn.refl _) (fun _ _ _ h k=>h.same k) (fun _ _ h=>h.mono (by simp)) ?_ ?_ ?_
  ·intro k a b hk hR
   match k,hk with
   |0,hk=>
    have hk:=(show(fun w'=>ay w' base d F A∧Sn.dA w') a from hk);dsimp only at hk;show(fun w'=>ay w' base d F A∧Sn.dA w') b;dsimp only;first|exact⟨hk.1.kept hR (by simp),hk.2.below hR.nil⟩|exact .inr trivial
   |_+1,hk=>
    have hk:=(show(fun w'=>Sn.dA w'∨True) a from hk);dsimp only at hk;show(fun w'=>Sn.dA w'∨True) b;dsimp only;first|exact⟨hk.1.kept hR (by simp),hk.2.below hR.nil⟩|exact .inr trivial
  ·show(fun w'=>ay w' base d F A∧Sn.dA w') _
   dsimp only;exact⟨H.out.disk.kept ((Turn.refl [] w).drew) (by simp),HV.out.below ((Turn.refl [] w).drew).nil⟩
  apply Lo.ag 1 rfl rfl [] (by kernel_rfl) (Turn.refl _);apply Exists.intro;apply And.intro
  ·intro u w1 hR hF
   clear hF;refine⟨rfl,fun a ha K hK=>?_⟩;have e0:=ha 0;conv at e0=>rhs;whnf
   clear ha;go_simp
   refine hK _ ?_;rfl
  apply Lo.ag 2 rfl rfl [0] (by kernel_rfl) (Turn.refl _);apply Exists.intro;apply And.intro
  ·intro u w1 hR hF
   obtain⟨h0, -⟩:=hF;refine⟨rfl,fun a ha K hK=>?_⟩;have e8:=(ha 8).trans h0;clear ha h0;go_simp
   refine hK _ ?_;rfl
  apply Lo.ag 3 rfl rfl [1] (by kernel_rfl) (Turn.refl _);apply Exists.intro;apply And.intro
  ·intro u w1 hR hF
   obtain⟨h1, -⟩:=hF;refine⟨rfl,fun a ha K hK=>?_⟩;have e9:=(ha 9).trans h1;clear ha h1;go_simp
   refine hK _ ?_;rfl
  apply Lo.ag 4 rfl rfl [2] (by kernel_rfl) (Turn.refl _);apply Exists.intro;apply And.intro
  ·intro u w1 hR hF
   obtain⟨h2, -⟩:=hF;refine⟨rfl,fun a ha K hK=>?_⟩;have e10:=(ha 10).trans h2;clear ha h2;have hb:=(((Turn.refl [] w).drew.mono (T:=F) (by simp)).same hR).heap H.out.box H.out.Fv;have c0:w1.cell? ⟨lb,0,none⟩=some (.pointer (some ⟨d,0,none⟩)):=by rw[cell_of hb];rfl
   have z1:=lt_of_heap hb;go_simp
   refine hK _ ?_;rfl
  apply Lo.ag 5 rfl rfl [] (by kernel_rfl) (Turn.refl _);apply Exists.intro;apply And.intro
  ·intro u w1 hR hF
   clear hF;refine⟨rfl,fun a ha K hK=>?_⟩;have e0:=ha 0;conv at e0=>rhs;whnf
   clear ha;go_simp
   refine hK _ ?_;rfl
  apply Lo.ag 6 rfl rfl [4] (by kernel_rfl) (Turn.refl _);apply Exists.intro;apply And.intro
  ·intro u w1 hR hF
   obtain⟨h4, -⟩:=hF;refine⟨rfl,fun a ha K hK=>?_⟩;have e12:=(ha 12).trans h4;clear ha h4;go_simp
   refine hK _ ?_;rfl
  apply Lo.ag 7 rfl rfl [5] (by kernel_rfl) (Turn.refl _);apply Exists.intro;apply And.intro
  ·intro u w1 hR hF
   obtain⟨h5, -⟩:=hF;refine⟨rfl,fun a ha K hK=>?_⟩;have e13:=(ha 13).trans h5;clear ha h5;go_simp
   refine hK _ ?_;rfl
  apply Lo.ag 8 rfl rfl [6] (by kernel_rfl) (Turn.refl _);apply Exists.intro;apply And.intro
  ·intro u w1 hR hF
   obtain⟨h6, -⟩:=hF;refine⟨rfl,fun a ha K hK=>?_⟩;have e14:=(ha 14).trans h6;clear ha h6;have hb:=(((Turn.refl [] w).drew.mono (T:=F) (by simp)).same hR).heap H.out.box H.out.Fv;have c0:w1.cell? ⟨lb,1,none⟩=some (.string dir):=by rw[cell_of hb];rfl
   have z1:=lt_of_heap hb;go_simp
   refine hK _ ?_;rfl
  apply Lo.ag 9 rfl rfl [] (by kernel_rfl) (Turn.refl _);apply Exists.intro;apply And.intro
  ·intro u w1 hR hF
   clear hF;refine⟨rfl,fun a ha K hK=>?_⟩;have e1:=ha 1;conv at e1=>rhs;whnf
   clear ha;go_simp
   refine hK _ ?_;rfl
  refine Lo.rX 10 rfl 0 rfl [3,7,8] (fun x w'=>∃sb,x= .tuple #[.pointer (some ⟨sb,0,none⟩), .nilIface]∧Sg.iU w w' base d F A2 sb (Sn.nameB dir n) n) (by kernel_rfl) (fun x w w' h hR=>?_) (.inl (by kernel_rfl)) (fun u w1 hR hS hF=>?_) ?_
  ·obtain⟨sb,e,h⟩:=h;exact⟨sb,e,mP h hR⟩
  ·obtain⟨h3,h7,h8, -⟩:=hF
   have hS:=(show(fun w'=>ay w' base d F A∧Sn.dA w') w1 from hS);dsimp only at hS;refine⟨rfl,fun a ha K hK=>?_⟩;have e11:=(ha 11).trans h3;have e15:=(ha 15).trans h7;have e16:=(ha 16).trans h8;clear ha h3 h7 h8;go_simp
   have hr0:=((Turn.refl [] w).drew.mono (T:=F) (by simp)).same hR;refine(Sg.pV w1 base d F A hS.1 dir mr n hn hS.2).mono ?_;rintro e w2 (⟨hne, -⟩|⟨he,sb,rfl,hfr⟩)
   ·exact absurd (HC.out.symm.trans SE.out) hne
   ·rw[HA2.out]at hfr
    exact hK _ _ ⟨sb,rfl,Ik hr0 hfr⟩ (Kr hfr) (.inr trivial)
  refine Lo.late 11 rfl rfl [9] (fun x w'=>∃sb,x= .tuple #[.pointer (some ⟨sb,0,none⟩), .nilIface]∧Sg.iU w w' base d F A2 sb (Sn.nameB dir n) n) (by kernel_rfl) (fun x w w' h hR=>?_) (by kernel_rfl) (fun u w1 hR hF=>?_) ?_
  ·obtain⟨sb,e,h⟩:=h;exact⟨sb,e,mP h hR⟩
  ·obtain⟨h9, -⟩:=hF
   refine⟨rfl,fun a ha K hK=>?_⟩;have e17:a.tmps.getD 17 undef=u 9:=ha 17;have h9:=(show(fun x w'=>∃sb,x= .tuple #[.pointer (some ⟨sb,0,none⟩), .nilIface]∧Sg.iU w w' base d F A2 sb (Sn.nameB dir n) n) (u 9) w1 from h9);dsimp only at h9;clear ha;obtain⟨sb,e9,U8⟩:=h9;rw[e9]at e17;go_simp
   exact hK _ _ ⟨sb,rfl,U8⟩ (Turn.refl _ _)
  refine Lo.late 12 rfl rfl [10] (fun x w'=>∃sb,x= .pointer (some ⟨sb,0,none⟩)∧Sg.iU w w' base d F A2 sb (Sn.nameB dir n) n) (by kernel_rfl) (fun x w w' h hR=>?_) (by kernel_rfl) (fun u w1 hR hF=>?_) ?_
  ·obtain⟨sb,e,h⟩:=h;exact⟨sb,e,mP h hR⟩
  ·obtain⟨h10, -⟩:=hF
   refine⟨rfl,fun a ha K hK=>?_⟩;have e7:a.tmps.getD 7 undef=u 10:=ha 7;have h10:=(show(fun x w'=>∃sb,x= .tuple #[.pointer (some ⟨sb,0,none⟩), .nilIface]∧Sg.iU w w' base d F A2 sb (Sn.nameB dir n) n) (u 10) w1 from h10);dsimp only at h10;clear ha;obtain⟨sb,e9,U8⟩:=h10;rw[e9]at e7;go_simp
   exact hK _ _ ⟨sb,rfl,U8⟩ (Turn.refl _ _)
  refine Lo.aJ 13 rfl rfl [10] (.nilIface) (by kernel_rfl) (fun u w1 hR hF=>?_) (Turn.refl _) ?_
  ·obtain⟨h10, -⟩:=hF
   refine⟨rfl,fun a ha K hK=>?_⟩;have e7:a.tmps.getD 7 undef=u 10:=ha 7;have h10:=(show(fun x w'=>∃sb,x= .tuple #[.pointer (some ⟨sb,0,none⟩), .nilIface]∧Sg.iU w w' base d F A2 sb (Sn.nameB dir n) n) (u 10) w1 from h10);dsimp only at h10;clear ha;obtain⟨sb,e9,U8⟩:=h10;rw[e9]at e7;go_simp
   refine hK _ ?_;rfl
  refine Lo.late 14 rfl rfl [11] (fun x w'=>∃sb,x= .pointer (some ⟨sb,0,none⟩)∧Sg.iU w w' base d F A2 sb (Sn.nameB dir n) n) (by kernel_rfl) (fun x w w' h hR=>?_) (by kernel_rfl) (fun u w1 hR hF=>?_) ?_
  ·obtain⟨sb,e,h⟩:=h;exact⟨sb,e,mP h hR⟩
  ·obtain⟨h11, -⟩:=hF
   refine⟨rfl,fun a ha K hK=>?_⟩;have e18:a.tmps.getD 18 undef=u 11:=ha 18;have h11:=(show(fun x w'=>∃sb,x= .pointer (some ⟨sb,0,none⟩)∧Sg.iU w w' base d F A2 sb (Sn.nameB dir n) n) (u 11) w1 from h11);dsimp only at h11;clear ha;go_simp
   exact hK _ _ h11 (Turn.refl _ _)
  refine Lo.done [12,13] (fun u w1 bP hSd hF=>?_);have hSd:=(show(fun w'=>Sn.dA w'∨True) w1 from hSd);dsimp only at hSd;obtain⟨f12,f13, -⟩:=hF;have d12:u 12=_:=f12;have d13:=(show(fun x w'=>∃sb,x= .pointer (some ⟨sb,0,none⟩)∧Sg.iU w w' base d F A2 sb (Sn.nameB dir n) n) (u 13) w1 from f13);dsimp only at d13;clear f12 f13;simp only[List.take_succ_cons,List.take_zero,List.drop_succ_cons,List.drop_zero,ax,Act.put,List.setIfInBounds_toArray,List.set_cons_succ,List.set_cons_zero,Nat.zero_add,Nat.reduceAdd,d12];obtain⟨sb,e13,F2,hb2,ht2,hf2,hs2⟩:=d13;rw[e13];clear d12 e13 bP hSd;have hs0:aI w1 base d F2 A2 lb (.slice ga ms.length gc) dir v ms:=⟨hb2.disk,ht2.heap H.out.box H.out.Fv,H.out.row.kept ht2 H.out.TM,H.out.low,fun m hm=>(H.out.lL m hm).kept ht2 (MJ H.out.disk (H.out.lL m hm)),H.out.apart⟩;have hap:∀x∈ms,∀k∈x.foot,k∉bJ sb (.slice none 0 0):=fun x hx k hk hm=>by
   simp only[bJ,Value.ownBlock,List.mem_cons,Option.mem_toList]at hm;rcases hm with rfl|hm
   ·have:=((H.out.lL x hx).lt k hk).2;omega
   ·simp at hm
  have HF2:=hide hf2;have HS2:=hide hs2;have HT02:=hide ht2;have c3:=hs0.c3;have z2:=lt_of_heap hs0.box;have h23:Turn [] w1 (w1.alloc (.cells #[.pointer (some ⟨sb,0,none⟩)] 174)):=(Turn.refl [] w1).alloc _;obtain⟨v7,w7,hr7,hrow7,ht7,hown7⟩:=Wi (w1.alloc (.cells #[.pointer (some ⟨sb,0,none⟩)] 174)) base (.slice ga ms.length gc) ms ⟨sb, .slice none 0 0,n,[]⟩ w1.heap.size (hs0.row.still h23) (ae w1 _) hl (by have:=(hs0.lt _ (aC.2 (.inl rfl))).1;have:=h23.size;omega);obtain⟨va7,vc7,hv7, -, -⟩:=hrow7.form;subst hv7;have hgr:=(hs0.still h23).grow (m:=⟨sb, .slice none 0 0,n,[]⟩) ht7 hrow7 ((hb2.still h23).qg) hap;have hfr:=(hs0.still h23).fr 3;have hbx7:=ht7.heap (hs0.still h23).box (by simpa using(hs0.still h23).Qs);have fr7:=af hbx7 3;have c37:w7.cell? ⟨lb,3,none⟩=some (.slice ga ms.length gc):=by rw[cell_of hbx7];rfl
  have z7:=lt_of_heap hbx7;have hlen7:(ms++[(⟨sb, .slice none 0 0,n,[]⟩:SM)]).length=ms.length+1:=by rw[List.length_append,List.length_singleton]
  rw[hlen7]at hgr hr7 hrow7 hown7;clear hlen7;have HR7:=hide hr7;have SH:=hide hgr;have HT7:=hide ht7;have HOWN7:=hide hown7;have H23:=hide h23;clear hb2 hf2 hs2 ht2 hs0 hap h23 hr7 hrow7 ht7 hown7 hgr hbx7 hfr;go_wp2_with (at_builtin;go_must (refine fA rfl rfl rfl rfl HR7.out ?_))
  go_ret
  unfold jW;simp only;rw[←HC.out,HA2.out,SE.out,if_pos rfl];refine⟨rfl,F2,_,_,SH.out,by simp[SM.abs],?_,fun k hk=>?_⟩
  ·have h1:Turn (aS F lb (.slice ga ms.length gc) ms) w w1:=HT02.out.mono (fun k hk=> .inl (aC.2 (.inr (.inr (.inr hk)))))
   have h2:=(h1.same (H23.out.mono (by simp))).same (HT7.out.mono (T:=aS F lb (.slice ga ms.length gc) ms) (fun k hk=> .inl (aC.2 (.inr (.inl (by simpa using hk))))));exact h2.setCell (.inl (aC.2 (.inl rfl))) _
  ·have hw1:=HT02.out.size
   rcases aC.1 hk with h1|h1|⟨x,hx,h1⟩|h1
   ·exact .inl (aC.2 (.inl h1))
   ·rcases HOWN7.out k h1 with h2|h2
    ·exact .inl (aC.2 (.inr (.inl h2)))
    ·exact .inr (by have:=H23.out.size;omega)
   ·rcases List.mem_append.1 hx with hx|hx
    ·exact .inl (aC.2 (.inr (.inr (.inl ⟨x,hx,h1⟩))))
    ·obtain rfl:=List.mem_singleton.1 hx
     simp only[SM.foot,bJ,Value.ownBlock,List.mem_cons,Option.mem_toList]at h1;rcases h1 with rfl|h1
     ·exact .inr (by have:=HS2.out;omega)
     ·simp at h1
   ·rcases HF2.out k h1 with h2|h2
    ·exact .inl (aC.2 (.inr (.inr (.inr h2))))
    ·exact .inr h2
end Lg
end
section
open Go.RowKit Go.Extern.Stop Go.Stop Go.Extern
set_option linter.unusedSimpArgs false
set_option linter.unusedVariables false
namespace As
theorem Qw(t:Addr)(w:World):(ReflectliteValue.unpack (.iface 152 (.pointer (some t)))).run Tryz.prog w
 = .ok (.agg #[.pointer (some ⟨9,152,none⟩), .pointer (some ⟨w.heap.size,0,none⟩), .int .u64 150]) (w.alloc (.cells #[.pointer (some t)] 152)):=by kernel_rfl
theorem Yv(a:Addr)(w:World):(ReflectliteValue.methodAny (ReflectliteValue.valueError "reflectlite.Value.Type" 0) (fun t _ _ _=>ReflectliteType.toType t) #[.agg #[.pointer (some ⟨9,152,none⟩), .pointer (some a), .int .u64 150]]).run Tryz.prog w
 = .ok (.iface 224 (.agg #[.pointer (some ⟨9,152,none⟩)])) w:=by kernel_rfl
theorem Yw(w:World):((ReflectliteType.abiMethod fun t=>(fun a:Nat=>Value.int IntKind.u8 (a:Int))<$>Rtype.kind t) #[.pointer (some ⟨9,152,none⟩)]).run Tryz.prog w= .ok (.int .u8 22) w:=by kernel_rfl
theorem Yx(w:World):((ReflectliteType.abiMethod fun t=>(fun a:Nat=>Value.int IntKind.u8 (a:Int))<$>Rtype.kind t) #[.pointer (some ⟨9,38,none⟩)]).run Tryz.prog w= .ok (.int .u8 2) w:=by kernel_rfl
theorem rlm(z:Sem Value)(f:TypeId→Addr→Nat→Nat→Sem Value)(v:Value):
 ReflectliteValue.method z f #[v]=(do match ←ReflectliteValue.parts v with|none=>z|some (t,a,fl)=>f t a fl (fl%32)):=rfl
theorem Qx(a:Addr)(w:World):(ReflectliteValue.parts (.agg #[.pointer (some ⟨9,152,none⟩), .pointer (some a), .int .u64 150])).run Tryz.prog w= .ok (some (152,a,150)) w:=by kernel_rfl
theorem Wj(a p:Addr)(W:World)(ha:W.cell? a=some (.pointer (some p))):
 (ReflectliteValue.method (ReflectliteValue.valueError "reflectlite.Value.IsNil" 0) ReflectliteValue.isNil #[.agg #[.pointer (some ⟨9,152,none⟩), .pointer (some a), .int .u64 150]]).run Tryz.prog W= .ok (.bool false) W:=by
 rw[rlm];simp only[Sem.run_bind,Qx,Result.andThen];simp[ReflectliteValue.isNil,loadVar,isAgg,underlying,Tryz.underlying152,ha,Result.andThen]
theorem Yy(w:World):(ReflectliteType.method ReflectliteType.elem #[.agg #[.pointer (some ⟨9,152,none⟩)]]).run Tryz.prog w= .ok (.iface 224 (.agg #[.pointer (some ⟨9,38,none⟩)])) w:=by kernel_rfl
theorem Il(w:World):(ReflectliteType.relation "Implements" ReflectliteType.implements_ #[.agg #[.pointer (some ⟨9,38,none⟩)], .iface 224 (.agg #[.pointer (some ⟨9,25,none⟩)])]).run Tryz.prog w= .ok (.bool true) w:=by kernel_rfl
theorem TN(v:Value)(w:World):(ReflectliteType.typeOf #[.iface 38 v]).run Tryz.prog w= .ok (.iface 224 (.agg #[.pointer (some ⟨9,38,none⟩)])) w:=by kernel_rfl
theorem Io(w:World):(ReflectliteType.relation "AssignableTo" ReflectliteType.assignableTo #[.agg #[.pointer (some ⟨9,38,none⟩)], .iface 224 (.agg #[.pointer (some ⟨9,38,none⟩)])]).run Tryz.prog w= .ok (.bool true) w:=by kernel_rfl
theorem Qy(n:Int)(w:World):(ReflectliteValue.unpack (.iface 38 (.int .i64 n))).run Tryz.prog w
 = .ok (.agg #[.pointer (some ⟨9,38,none⟩), .pointer (some ⟨w.heap.size,0,none⟩), .int .u64 130]) (w.alloc (.cells #[.int .i64 n] 38)):=by kernel_rfl
theorem TP(w:World):(Rtype.elem? 152).run Tryz.prog w= .ok (some 38) w:=by kernel_rfl
theorem mkE(p:Addr)(w:World):(ReflectliteValue.mk 38 p ReflectliteValue.flagAddr).run Tryz.prog w= .ok (.agg #[.pointer (some ⟨9,38,none⟩), .pointer (some p), .int .u64 386]) w:=by kernel_rfl
theorem elemV(a p:Addr)(W:World)(ha:W.cell? a=some (.pointer (some p))):
 (ReflectliteValue.method (ReflectliteValue.valueError "reflectlite.Value.Elem" 0) ReflectliteValue.elem #[.agg #[.pointer (some ⟨9,152,none⟩), .pointer (some a), .int .u64 150]]).run Tryz.prog W
   = .ok (.agg #[.pointer (some ⟨9,38,none⟩), .pointer (some p), .int .u64 386]) W:=by
 rw[rlm];simp only[Sem.run_bind,Qx,Result.andThen];simp[ReflectliteValue.elem,loadVar,isAgg,underlying,Tryz.underlying152,ha,Result.andThen,TP,mkE]
theorem Wl(a:Addr)(w:World):(ReflectliteValue.parts (.agg #[.pointer (some ⟨9,38,none⟩), .pointer (some a), .int .u64 386])).run Tryz.prog w= .ok (some (38,a,386)) w:=by kernel_rfl
theorem Wn(a:Addr)(w:World):(ReflectliteValue.parts (.agg #[.pointer (some ⟨9,38,none⟩), .pointer (some a), .int .u64 130])).run Tryz.prog w= .ok (some (38,a,130)) w:=by kernel_rfl
theorem TQ(w:World):(Rtype.directlyAssignable 38 38).run Tryz.prog w= .ok true w:=by kernel_rfl
theorem rls(v x:Value):∃(f1:Sem Value) (f2:Sem Value) (g:TypeId→Nat→TypeId→Value→Addr→Sem Value),ReflectliteValue.set #[v,x]=(do
 let (some (dst,a,fl),some (src,b,_)):=(←ReflectliteValue.parts v,←ReflectliteValue.parts x)|f1
 if fl/ReflectliteValue.flagAddr%2==0 then f2
 else
  let val ←loadVar src b;if ←Rtype.directlyAssignable dst src then do
   storeVar dst a val
   pure (.tuple #[])
  else g dst fl src val a):=⟨_,_,_,rfl⟩
theorem setE(ta b:Addr)(n:Int)(old:Value)(W:World)(hb:W.cell? b=some (.int .i64 n))(ht:W.cell? ta=some old)(hf:W.frozen? ta=false):
 (ReflectliteValue.set #[.agg #[.pointer (some ⟨9,38,none⟩), .pointer (some ta), .int .u64 386], .agg #[.pointer (some ⟨9,38,none⟩), .pointer (some b), .int .u64 130]]).run Tryz.prog W
   = .ok (.tuple #[]) (W.setCell ta (.int .i64 n)):=by
 obtain⟨f1,f2,g,hs⟩:=rls (.agg #[.pointer (some ⟨9,38,none⟩), .pointer (some ta), .int .u64 386]) (.agg #[.pointer (some ⟨9,38,none⟩), .pointer (some b), .int .u64 130]);rw[hs];simp only[Sem.run_bind,Wl,Wn,Result.andThen];simp[ReflectliteValue.flagAddr,loadVar,isAgg,underlying,Tryz.underlying38,hb,Result.andThen,TQ,storeVar,Value.cells,storeCells,Addr.add];rw[run_store Tryz.prog W ta _ _ (by rfl)];simp[ht,hf]
theorem methodKind(h:Value)(w:World):(Go.method 486 224 (.agg #[h]) "Kind").run Tryz.prog w= .ok (307,h) w:=by kernel_rfl
theorem methodElem(h:Value)(w:World):(Go.method 486 224 (.agg #[h]) "Elem").run Tryz.prog w= .ok (320, .agg #[h]) w:=by kernel_rfl
theorem methodImplements(h:Value)(w:World):(Go.method 486 224 (.agg #[h]) "Implements").run Tryz.prog w= .ok (321, .agg #[h]) w:=by kernel_rfl
theorem methodAssignableTo(h:Value)(w:World):(Go.method 486 224 (.agg #[h]) "AssignableTo").run Tryz.prog w= .ok (318, .agg #[h]) w:=by kernel_rfl
set_option maxRecDepth 100000 in
set_option maxHeartbeats 4000000 in
theorem as_hit(n:Int)(t:Addr)(old:Value)(w:World)(hg:w.cell? ⟨0,0,none⟩=some (.iface 224 (.agg #[.pointer (some ⟨9,25,none⟩)])))(ht0:w.cell? t=some old)(hf0:w.frozen? t=false):
 Calls Tryz.prog 67 #[.iface 38 (.int .i64 n), .iface 152 (.pointer (some t))] w fun ev w'=>ev= .returned (.bool true)∧w'=((((w.alloc (.cells #[.pointer (some t)] 152)).alloc (.cells #[.pointer (some ⟨9,152,none⟩), .pointer (some ⟨w.heap.size,0,none⟩), .int .u64 150] 185)).alloc (.cells #[.pointer (some ⟨9,152,none⟩), .pointer (some ⟨w.heap.size,0,none⟩), .int .u64 150] 185)).alloc (.cells #[.int .i64 n] 38)).setCell t (.int .i64 n):=by
 have h6:= @run_callFunc_extern Tryz.prog 104 _ (fun args=>ReflectliteValue.unpack (args.getD 0 (.tuple #[]))) Tryz.func104 (by kernel_rfl) (by kernel_rfl) (by kernel_rfl) (by kernel_rfl);have h7:= @run_callFunc_extern Tryz.prog 105 _ (ReflectliteValue.methodAny (ReflectliteValue.valueError "reflectlite.Value.Type" 0) (fun t _ _ _=>ReflectliteType.toType t)) Tryz.func105 (by kernel_rfl) (by kernel_rfl) (by kernel_rfl) (by kernel_rfl);have h8:= @run_callFunc_extern Tryz.prog 106 _ (ReflectliteValue.method (ReflectliteValue.valueError "reflectlite.Value.IsNil" 0) ReflectliteValue.isNil) Tryz.func106 (by kernel_rfl) (by kernel_rfl) (by kernel_rfl) (by kernel_rfl);have h27:= @run_callFunc_extern Tryz.prog 307 _ (ReflectliteType.abiMethod fun t=>do pure (.int .u8 (←Rtype.kind t))) Tryz.func307 (by kernel_rfl) (by kernel_rfl) (by kernel_rfl) (by kernel_rfl);have h37:= @run_callFunc_extern Tryz.prog 320 _ (ReflectliteType.method ReflectliteType.elem) Tryz.func320 (by kernel_rfl) (by kernel_rfl) (by kernel_rfl) (by kernel_rfl);have h38:= @run_callFunc_extern Tryz.prog 321 _ (ReflectliteType.relation "Implements" ReflectliteType.implements_) Tryz.func321 (by kernel_rfl) (by kernel_rfl) (by kernel_rfl) (by kernel_rfl);have h10:= @run_callFunc_extern Tryz.prog 150 _ ReflectliteType.typeOf Tryz.func150 (by kernel_rfl) (by kernel_rfl) (by kernel_rfl) (by kernel_rfl);have h35:= @run_callFunc_extern Tryz.prog 318 _ (ReflectliteType.relation "AssignableTo" ReflectliteType.assignableTo) Tryz.func318 (by kernel_rfl) (by kernel_rfl) (by kernel_rfl) (by kernel_rfl);have h11:= @run_callFunc_extern Tryz.prog 151 _ (ReflectliteValue.method (ReflectliteValue.valueError "reflectlite.Value.Elem" 0) ReflectliteValue.elem) Tryz.func151 (by kernel_rfl) (by kernel_rfl) (by kernel_rfl) (by kernel_rfl);have h12:= @run_callFunc_extern Tryz.prog 152 _ ReflectliteValue.set Tryz.func152 (by kernel_rfl) (by kernel_rfl) (by kernel_rfl) (by kernel_rfl);have tO:=TN;have mA:=methodAssignableTo;have aE:=Io;have vE:=Qy;have f6:=Qw;have f7:=Yv;have mK:=methodKind;have mE:=methodElem;have mI:=methodImplements;have kP:=Yw;have kE:=Yx;have eP:=Yy;have iE:=Il;have n8:=Wj ⟨w.heap.size,0,none⟩ t ((w.alloc (.cells #[.pointer (some t)] 152)).alloc (.cells #[.pointer (some ⟨9,152,none⟩), .pointer (some ⟨w.heap.size,0,none⟩), .int .u64 150] 185)) (by simp);have hlt:0<w.heap.size:=by
  rcases Nat.lt_or_ge 0 w.heap.size with h|h
  ·exact h
  ·simp[World.cell?,Array.getElem?_eq_none h]at hg
 have hg2:((w.alloc (.cells #[.pointer (some t)] 152)).alloc (.cells #[.pointer (some ⟨9,152,none⟩), .pointer (some ⟨w.heap.size,0,none⟩), .int .u64 150] 185)).cell? ⟨0,0,none⟩=some (.iface 224 (.agg #[.pointer (some ⟨9,25,none⟩)])):=by
  rw[World.cell?_alloc_lt _ _ ⟨0,0,none⟩ (by rw[World.size_alloc];show 0<_;omega),World.cell?_alloc_lt _ _ ⟨0,0,none⟩ hlt];exact hg
 have htl:t.block<w.heap.size:=by
  rcases Nat.lt_or_ge t.block w.heap.size with h|h
  ·exact h
  ·simp[World.cell?,Array.getElem?_eq_none h]at ht0
 have el:=elemV ⟨w.heap.size,0,none⟩ t (((w.alloc (.cells #[.pointer (some t)] 152)).alloc (.cells #[.pointer (some ⟨9,152,none⟩), .pointer (some ⟨w.heap.size,0,none⟩), .int .u64 150] 185)).alloc (.cells #[.pointer (some ⟨9,152,none⟩), .pointer (some ⟨w.heap.size,0,none⟩), .int .u64 150] 185)) (by rw[World.cell?_alloc_lt _ _ ⟨w.heap.size,0,none⟩ (by simp;omega)];simp);have st:=setE t ⟨w.heap.size+1+1+1,0,none⟩ n old ((((w.alloc (.cells #[.pointer (some t)] 152)).alloc (.cells #[.pointer (some ⟨9,152,none⟩), .pointer (some ⟨w.heap.size,0,none⟩), .int .u64 150] 185)).alloc (.cells #[.pointer (some ⟨9,152,none⟩), .pointer (some ⟨w.heap.size,0,none⟩), .int .u64 150] 185)).alloc (.cells #[.int .i64 n] 38))
  (by rw[World.cell?_alloc_at _ _ _ _ (by simp)];rfl)
  (by rw[World.cell?_alloc_lt _ _ t (by simp;omega),World.cell?_alloc_lt _ _ t (by simp;omega),World.cell?_alloc_lt _ _ t (by simp;omega),World.cell?_alloc_lt _ _ t htl];exact ht0)
  (by rw[World.frozen?_alloc_old _ _ t (by simp;omega),World.frozen?_alloc_old _ _ t (by simp;omega),World.frozen?_alloc_old _ _ t (by simp;omega),World.frozen?_alloc_old _ _ t (Nat.ne_of_lt htl)];exact hf0)
 go_enter Tryz.func67,Tryz.ntmps67
 go_wp2
 refine wp_loop_rounds 1 ?_;rw[rounds_succ];go_wp2
 go_ret
 exact⟨rfl,rfl⟩
end As
end
section
open Go.RowKit Go.Extern.Stop Go.Stop Go.Extern
set_option maxRecDepth 100000
set_option linter.unusedSimpArgs false
set_option linter.unusedVariables false
namespace As
def lM(w:World):Prop:=w.cell? ⟨0,0,none⟩=some (.iface 224 (.agg #[.pointer (some ⟨9,25,none⟩)]))
theorem lM.lt{w:World}(h:lM w):0<w.heap.size:=by
 rcases Nat.lt_or_ge 0 w.heap.size with h1|h1
 ·exact h1
 ·simp[lM,World.cell?,Array.getElem?_eq_none h1]at h
theorem lM.below{w w':World}(h:lM w)(hb:Below w.heap.size w w'):lM w':=by
 have hl:=h.lt;unfold lM at*;rw[hb.cell (p:=⟨0,0,none⟩) hl];exact h
theorem Qz(w:World):Calls Tryz.prog 36 #[.nilIface] w fun e w'=>e= .returned (.int .i64 0)∧w=w':=by
 go_enter Tryz.func36,Tryz.ntmps36
 go_wp2
 go_ret
 exact⟨rfl,rfl⟩
set_option maxHeartbeats 1000000 in
theorem BX(n:Int)(w:World)(hg:lM w):Calls Tryz.prog 36 #[.iface 38 (.int .i64 n)] w fun e w'=>e= .returned (.int .i64 n)∧Below w.heap.size w w':=by
 have HG:Hid (lM w):=hg;have hlt:=hg.lt;clear hg;go_enter Tryz.func36,Tryz.ntmps36
 go_wp2_with fail
 refine(as_hit n ⟨w.heap.size,0,none⟩ (.int .i64 0) _ (HG.out.below ((Below.refl _ w).alloc (Nat.le_refl _) _)) (by simp) (by simp)).mono ?_;rintro e w' ⟨rfl,rfl⟩;go_wp2
 go_ret
 exact⟨rfl,(((((Below.refl _ w).alloc (Nat.le_refl _) _).alloc (by simp) _).alloc (by simp;omega) _).alloc (by simp;omega) _).alloc (by simp;omega) _⟩
end As
end
section
open Go.RowKit Go.Maps
set_option maxRecDepth 100000
set_option linter.unusedSimpArgs false
set_option linter.unusedVariables false
attribute [local go_sem] Oper.semAt_some
open Dk (DA ay Parts fE aW dI)
open Sg (bu bJ kL Both Came aA flat)
namespace Lg
def jF(A:DA)(dir:ByteArray)(v:LV)(n:Nat)(m:Nat×List Bt.aX)(ss:List (Nat×List Bt.aX)):Int×DA×LV×List (Nat×List Bt.aX):=
 if (A.sync (Sn.nameB dir m.1).data.toList).1=0 then
  ((jW (A.sync (Sn.nameB dir m.1).data.toList).2 dir n ss).1,(jW (A.sync (Sn.nameB dir m.1).data.toList).2 dir n ss).2.1,{v with safe:=(n:Int)},(jW (A.sync (Sn.nameB dir m.1).data.toList).2 dir n ss).2.2)
 else((A.sync (Sn.nameB dir m.1).data.toList).1,(A.sync (Sn.nameB dir m.1).data.toList).2,v,ss)
theorem pJ.turn{w w':World}{base d:Nat}{G:List Nat}{A':DA}{lb:Nat}{dir:ByteArray}{v':LV}{ss':List (Nat×List Bt.aX)}(h:pJ w w' base d G A' lb dir v' ss'):Turn G w w':=by
 obtain⟨F',gv',ms',hl,hm,ht2,hf⟩:=h;exact ht2
theorem pJ.then{w w1 w':World}{base d lb:Nat}{F:List Nat}{G:List Nat}{A':DA}{gv:Value}{dir:ByteArray}{v':LV}{ms:List SM}{ss':List (Nat×List Bt.aX)}(h:pJ w1 w' base d (aS F lb gv ms) A' lb dir v' ss')(ht:Turn G w w1)(hf:∀k∈aS F lb gv ms,k∈G∨w.heap.size≤k):pJ w w' base d G A' lb dir v' ss':=by
 obtain⟨F',gv',ms',hl,hm,ht2,hf2⟩:=h;refine⟨F',gv',ms',hl,hm,ht.trans ht2 hf,fun k hk=>?_⟩;rcases hf2 k hk with h|h
 ·exact hf k h
 ·exact .inr (Nat.le_trans ht.size h)
set_option maxHeartbeats 2000000 in
theorem QA(w:World)(base d:Nat)(F:List Nat)(A:DA)(lb:Nat)(gv:Value)(dir:ByteArray)(v:LV)(ms0:List SM)(m:SM)(h:aI w base d F A lb gv dir v (ms0++[m]))(hl:ms0.length≤900000)(hx:m.xs.length≤1000000)(hmn:m.n≤1099511627776)(mr:dir.size≤1000)(n:Nat)(hn:n≤1099511627776)(hnx:aA m.n m.xs=n)(hv:∀Z,Turn (aS F lb gv (ms0++[m])) w Z→Sn.dA Z):
 Calls Tryz.prog 187 #[.pointer (some ⟨lb,0,none⟩)] w fun e w'=>e= .returned (aW (jF A dir v n m.abs ((ms0++[m]).map SM.abs)).1)∧
  pJ w w' base d (aS F lb gv (ms0++[m])) (jF A dir v n m.abs ((ms0++[m]).map SM.abs)).2.1 lb dir (jF A dir v n m.abs ((ms0++[m]).map SM.abs)).2.2.1 (jF A dir v n m.abs ((ms0++[m]).map SM.abs)).2.2.2:=by
 have H:=hide h;have HV:=hide hv;have hsy:=lY w base d F A lb gv dir v ms0 m h (by omega) hx (Sg.lT hmn mr);rw[hnx]at hsy;have tK:=hide hnx;clear h hnx hv;obtain⟨c,hc⟩:∃c,c=(A.sync (Sn.nameB dir m.n).data.toList).1:=⟨_,rfl⟩;obtain⟨A2,hA2⟩:∃A2,A2=(A.sync (Sn.nameB dir m.n).data.toList).2:=⟨_,rfl⟩;rw[←hc,←hA2]at hsy;have HC:=hide hc;have HA:=hide hA2;clear hc hA2;go_enter Tryz.func187,Tryz.ntmps187
 go_wp2_with fail
 refine hsy.mono ?_;rintro e w2 ⟨rfl,hd2⟩;by_cases hc0:c=0
 ·have hr0:aW c= .nilIface:=by rw[hc0];rfl
  have hs:mi c v (n:Int)={v with safe:=(n:Int)}:=by unfold mi;rw[if_pos hc0]
  rw[hs]at hd2;rw[hr0];obtain⟨F2,gv2,ms2,hl2,hm2,ht2,hf2⟩:=hd2;rw[List.map_append,List.map_singleton]at hm2;obtain⟨ms20,m2,rfl,hm20,qB⟩:=jw hm2;have hlen:ms20.length=ms0.length:=by rw[←List.length_map (f:=SM.abs),hm20,List.length_map]
  have e1:m2.n=m.n:=congrArg Prod.fst qB;have e2:m2.xs=m.xs:=congrArg Prod.snd qB;have hen:=qY w2 base d F2 A2 lb gv2 dir _ ms20 m2 hl2 (by omega) (by rw[e2];exact hx);rw[e1,e2,tK.out]at hen;have HC0:=hide hc0;have U9:=hide hen;have HL2:=hide hl2;have HM2:=hide hm2;have HT2:=hide ht2;have HF2:=hide hf2;have HLEN:=hide hlen;clear hc0 hr0 hs hl2 hm2 ht2 hf2 hen hm20 qB hlen e1 e2 hsy;go_wp2_with fail
  refine U9.out.mono ?_;rintro e w3 ⟨rfl,ht3⟩;have hb:=Et w3 base d F2 A2 lb gv2 dir _ (ms20++[m2]) (HL2.out.still ht3) (by rw[List.length_append,List.length_singleton,HLEN.out];omega) mr n hn (HV.out w3 (HT2.out.same (ht3.mono (by simp))));rw[show(ms20++[m2]).map SM.abs=(ms0++[m]).map SM.abs by rw[List.map_append,List.map_append,List.map_singleton,List.map_singleton,←HM2.out,List.map_append,List.map_singleton]]at hb;have HB:=hide hb;have HT3:=hide ht3;clear hb ht3 U9;go_wp2_with fail
  refine HB.out.mono ?_;rintro e w4 ⟨rfl,hd4⟩;obtain⟨r,hr⟩:∃r,r=aW (jW A2 dir n ((ms0++[m]).map SM.abs)).1:=⟨_,rfl⟩;rw[←hr];have HR:=hide hr;have HD:=hide (hd4.then (HT2.out.same (HT3.out.mono (by simp))) HF2.out);clear hr hd4 HB;go_wp2
  go_ret
  unfold jF SM.abs;simp only;rw[←HC.out,←HA.out,if_pos HC0.out];simp only;exact⟨by rw[HR.out];rfl,HD.out⟩
 ·have hr0:aW c= .iface 38 (.int .i64 c):=by unfold aW;rw[if_neg hc0];rfl
  have hs:mi c v (n:Int)=v:=by unfold mi;rw[if_neg hc0]
  rw[hs]at hd2;rw[hr0];have HC0:=hide hc0;have HR0:=hide hr0;have HD:=hide hd2;clear hc0 hr0 hs hd2 hsy;go_wp2
  go_ret
  unfold jF SM.abs;simp only;rw[←HC.out,←HA.out,if_neg HC0.out];simp only;exact⟨by rw[HR0.out];rfl,HD.out⟩
end Lg
end
section
open Go.RowKit Go.Maps
set_option maxRecDepth 100000
set_option linter.unusedSimpArgs false
set_option linter.unusedVariables false
attribute [local go_sem] Oper.semAt_some
def mix(b:Int)(rs:List Bt.Rec)(k:Nat):List Bt.Rec:=kH b (rs.take k)++rs.drop k
theorem QB(b:Int)(rs:List Bt.Rec):mix b rs 0=rs:=by simp[mix,kH]
theorem TT(b:Int)(rs:List Bt.Rec):mix b rs rs.length=kH b rs:=by simp[mix]
theorem uF(b:Int)(rs:List Bt.Rec){k:Nat}(hk:k≤rs.length):(mix b rs k).length=rs.length:=by
 unfold mix;rw[List.length_append,qR,List.length_take,List.length_drop];omega
theorem QC(b:Int)(rs:List Bt.Rec){k:Nat}(hk:k<rs.length):(mix b rs k)[k]'(by rw[uF b rs (by omega)];exact hk)=rs[k]:=by
 have hl:(kH b (rs.take k)).length=k:=by rw[qR,List.length_take];omega
 have h:(mix b rs k)[k]? =some rs[k]:=by
  unfold mix;rw[List.getElem?_append_right (by omega),hl,Nat.sub_self,List.getElem?_drop,Nat.add_zero,List.getElem?_eq_getElem hk]
 rw[List.getElem?_eq_getElem (by rw[uF b rs (by omega)];exact hk)]at h;exact Option.some.inj h
theorem TU(b:Int)(rs:List Bt.Rec){k:Nat}(hk:k<rs.length):(mix b rs k).set k {rs[k]with off:=b+k}=mix b rs (k+1):=by
 have hl:(kH b (rs.take k)).length=k:=by rw[qR,List.length_take];omega
 unfold mix;rw[List.set_append_right _ _ (by omega),hl,Nat.sub_self,List.drop_eq_getElem_cons hk,List.set_cons_zero,JM b rs hk,List.append_assoc,List.singleton_append]
set_option maxHeartbeats 4000000 in
theorem Kt(w:World)(b:Int)(v:Value)(rs:List Bt.Rec)(h:bn w v rs)(hb:0≤b)(hb2:b≤1099511627776)(hl:rs.length≤1000000):
 Calls Tryz.prog 143 #[.int .i64 b,v] w fun e w'=>∃sv,e= .returned (.agg #[.int .i64 b, .int .i64 (b+rs.length),sv])∧aH 47 6 recC w' w.heap.size sv (kH b rs)∧Turn [] w w':=by
 have H:=hide h;clear h;go_enter Tryz.func143,Tryz.ntmps143
 go_wp2_with fail
 obtain⟨w0,hw0⟩:∃w0,w0=w.alloc (.cells #[.int .i64 0, .int .i64 0, .slice none 0 0] 215):=⟨_,rfl⟩;have ht0:Turn [] w w0:=by rw[hw0];exact(Turn.refl [] w).alloc _
 have hX0:w0.heap[w.heap.size]? =some (.cells #[.int .i64 0, .int .i64 0, .slice none 0 0] 215 (0,0)):=by rw[hw0];exact ae w _
 have hs0:w0.heap.size=w.heap.size+1:=by rw[hw0,World.size_alloc]
 rw[←hw0];refine(NV w0 v rs (H.out.still ht0) hl).mono ?_;rintro e w1 ⟨sv,rfl,hrow,ht1⟩;obtain⟨sa,sc,rfl,hslc,hscm⟩:=hrow.form;have hX1:=ht1.heap hX0 (by simp);have hst:aH 47 6 recC w1 (w.heap.size+1) (.slice sa rs.length sc) (mix b rs 0)∧w1.heap[w.heap.size]? =some (.cells #[.int .i64 0, .int .i64 0, .slice none 0 0] 215 (0,0))∧Turn [] w w1:=by
  rw[QB,←hs0];exact⟨hrow,hX1,ht0.same ht1⟩
 have hmx:maxLen=9223372036854775807:=by simp[maxLen]
 rw[hmx]at hscm;have HST:=hide hst;clear hw0 ht0 hX0 hs0 hrow ht1 hX1 hst;go_wp2
 go_loopw [10] (fun kv wr=>∃k:Nat,k≤rs.length∧kv= .int .i64 k∧aH 47 6 recC wr (w.heap.size+1) (.slice sa rs.length sc) (mix b rs k)∧wr.heap[w.heap.size]? =some (.cells #[.int .i64 0, .int .i64 0, .slice none 0 0] 215 (0,0))∧Turn [] w wr) (fun kv _=>rs.length-(intOf kv).toNat)
 case atStart=>exact⟨0,Nat.zero_le _,rfl,HST.out⟩
 case round=>
  obtain⟨k,hk,rfl,hrow,hX,htw⟩:=hrel;have bQ:=hide hrow;have HX:=hide hX;have dJ:=hide htw;clear hrow hX htw;by_cases hlt:k<rs.length
  ·obtain⟨g,cap,e,hc,hfz⟩:=bQ.out.at eF (j:=k) (by rw[uF b rs hk];exact hlt)
   rw[uF b rs hk]at e;simp only[Value.slice.injEq,true_and]at e;obtain⟨rfl,rfl⟩:=e;have c0:wr.cell? ⟨g,k*6,none⟩=some (.int .i64 (rs[k]).off):=by
    have:=hc 0 (by omega);rw[QC b rs hlt]at this;simpa[recC]using this
   have f0:=hfz (k*6);have hg:=bQ.out.lt g (by simp[Value.ownBlock]);have z1:=hg.2;have hset:=bQ.out.set eF (j:=k) (i:=0) (by rw[uF b rs hk];exact hlt) (by omega) (u:= .int .i64 (b+k)) (x':={rs[k]with off:=b+k}) (by rw[QC b rs hlt];rfl);rw[TU b rs hlt,Nat.add_zero]at hset;have hts:Turn [g] wr (wr.setCell ⟨g,k*6,none⟩ (.int .i64 (b+k))):=(Turn.refl _ _).setCell (.inl (by simp)) _;have hX2:=hts.heap HX.out (by simp;omega);have ht2:=dJ.out.trans hts (fun j hj=> .inr (by simp at hj;omega));have QD:=hide hset;have HX2:=hide hX2;have HT2:=hide ht2;clear hset hts hX2 ht2 hc hfz hg;go_wp2
   all_goals refine⟨⟨k+1,by omega,by go_num,QD.out,HX2.out,HT2.out⟩,?_⟩
   all_goals (simp only[intOf];omega)
  ·obtain rfl:k=rs.length:=by omega
   have y0:wr.cell? ⟨w.heap.size,0,none⟩=some (.int .i64 0):=by simpa using cell_of HX.out 0
   have y1:wr.cell? ⟨w.heap.size,1,none⟩=some (.int .i64 0):=by simpa using cell_of HX.out 1
   have y2:wr.cell? ⟨w.heap.size,2,none⟩=some (.slice none 0 0):=by simpa using cell_of HX.out 2
   have q0:wr.frozen? ⟨w.heap.size,0,none⟩=false:=af HX.out 0;have q1:wr.frozen? ⟨w.heap.size,1,none⟩=false:=af HX.out 1;have q2:wr.frozen? ⟨w.heap.size,2,none⟩=false:=af HX.out 2;have z1:=lt_of_heap HX.out;go_wp2
   have hy:=heap_set (heap_set (heap_set HX.out 0 (.int .i64 b)) 1 (.int .i64 (b+rs.length))) 2 (.slice sa rs.length sc);have ht:Turn [w.heap.size] wr (((wr.setCell ⟨w.heap.size,0,none⟩ (.int .i64 b)).setCell ⟨w.heap.size,1,none⟩ (.int .i64 (b+rs.length))).setCell ⟨w.heap.size,2,none⟩ (.slice sa rs.length sc)):=
    (((Turn.refl _ _).setCell (.inl (by simp)) _).setCell (.inl (by simp)) _).setCell (.inl (by simp)) _
   have hld:=iI (by simpa using hy);refine bodyPost_ret (v:= .agg #[.int .i64 b, .int .i64 (b+rs.length), .slice sa rs.length sc]) (by simp[results,Tryz.results143,asAddr,hld,Result.andThen]) rfl ⟨_,rfl,?_,dJ.out.trans ht (fun k hk=> .inr (by simp at hk;omega))⟩;rw[←TT];exact(bQ.out.kept ht (fun k hk hm=>by have:=(bQ.out.lt k hk).1;simp at hm;omega)).aZ (by omega)
end
end Go.Proofs.YtmjpdhpmjmgmaaaGreatDoor
