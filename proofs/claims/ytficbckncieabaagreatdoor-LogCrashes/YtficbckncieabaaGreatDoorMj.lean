/- Lemmas of the claim, part j of 14. -/
import Derived.Test.YtficbckncieabaaGreatDoorMi
import Derived.Test.YtficbckncieabaaGreatDoorMh
import Derived.Test.YtficbckncieabaaGreatDoorMg
import Derived.Maps.OwnIn
import Derived.Maps.AppendAt
import Derived.Test.YtficbckncieabaaGreatDoorProg
import Derived.Test.YtficbckncieabaaGreatDoorMa
import Derived.Shelf.Strings.Builder1
import Derived.Shelf.Strings.Builder2
import Derived.Shelf.Small.Bits
import Derived.Shelf.Strings.BuilderF
import Derived.Shelf.Strconv.Atoi
import Derived.Shelf.Strconv.Itoa0
import Derived.Shelf.Strconv.Itoa1
import Derived.Shelf.LaysM
import Derived.Shelf.Strconv.Itoa2
import Derived.Shelf.Strconv.Itoa3
import Derived.Shelf.Strconv.AtoiErrFast
import Derived.Shelf.Strconv.ParseIntEmpty
import Derived.Shelf.Strconv.AtoiFail
import Derived.Shelf.Strconv.Clone
import Derived.Shelf.Strconv.SyntaxError
import Derived.Shelf.LaysC
import Derived.Shelf.Strconv.ToError
import Derived.Shelf.Strconv.Lower
import Derived.Shelf.Strconv.ParseUint10
import Derived.Shelf.Strconv.ParseUint10Empty
import Derived.Shelf.Strconv.ParseUint10Any
import Derived.Shelf.Strconv.ParseInt10
import Derived.Shelf.Strconv.AtoiLong
import Derived.Shelf.Strconv.AtoiInnerAll
import Derived.Shelf.Strconv.RangeError
import Derived.Shelf.Strconv.ToErrorRange
import Derived.Shelf.Strconv.AtoiAll
import Derived.Shelf.Strconv.ErrVarAll
import Derived.Shelf.Strconv.ParseUintEmpty
import Derived.Shelf.Strconv.ParseUint10b64
import Derived.Shelf.Strconv.ParseUint10b32
import Derived.Shelf.Strconv.ParseUint10b16
import Derived.Shelf.Strconv.ParseUint10b8
import Derived.Shelf.Strconv.ParseUint10At
import Derived.Shelf.Strconv.ParseInt10At64
import Derived.Shelf.Strconv.ParseInt10At32
import Derived.Shelf.Strconv.ParseInt10At16
import Derived.Shelf.Strconv.ParseInt10At8
import Derived.Shelf.Strconv.ParseInt10All
import Derived.Shelf.Sort.Plain
import Derived.Shelf.Strings.Prefix
import Derived.Shelf.Bits.Mul64
import Derived.Shelf.Strings.Repeat
import Derived.Shelf.Slices.In.SortNone
import Derived.Test.YtficbckncieabaaGreatDoorMf
import Derived.Test.YtficbckncieabaaGreatDoorMe
import Derived.Sort.OwnSortedInts
set_option maxHeartbeats 16000000
namespace Go.Proofs.YtficbckncieabaaGreatDoor
section
open Go.RowKit Go.Maps
set_option linter.unusedSimpArgs false
set_option linter.unusedVariables false
open Dk (DA FA aH)
open Sg (Chain flat ae)
namespace Lg
structure Eb(A:DA)(room:Nat)(dir:ByteArray)(X:FL)(st n:Nat)(ss0:List (Nat×List Bt.aB))(m:Nat×List Bt.aB):Prop where
 disk:FP A room (fG dir (ss0++[m])++X)
 base:∀p∈ss0++[m],p.1≤1099511627776
 chains:∀p∈ss0++[m],Chain p.1 p.2
 chain:Chain st (af (ss0++[m]))
 next:ae m.1 m.2=n
 lK:∀x∈af (ss0++[m]),x.fin≤n
 keys:∀p∈ss0,p.1<m.1
 le:m.1≤n
 st:st≤n
 Jn:((ss0++[m]).map (·.1)).Pairwise (· < ·)
theorem pX(dir:ByteArray)(ss0:List (Nat×List Bt.aB))(m:Nat×List Bt.aB)(X:FL):(fG dir (ss0++[m])++X).Perm ((bJ dir m.1,flat m.2)::(fG dir ss0++X)):=by
 unfold fG;rw[List.map_append,List.map_singleton,List.append_assoc];exact List.perm_middle
theorem rG{L L':FL}(h:L.Perm L'):nT L=nT L':=wS (h.map _)
theorem vJ(q:List UInt8×List UInt8)(L:FL):nT (q::L)=q.2.length+nT L:=by simp[nT]
section
variable {A:DA} {room:Nat} {dir:ByteArray} {X:FL} {st n:Nat} {ss0:List (Nat×List Bt.aB)} {m:Nat×List Bt.aB} {v:LV} {x:Bt.aB}
theorem Eb.ok(h:Eb A room dir X st n ss0 m)(hl:(ss0++[m]).length≤1000):sW A dir (ss0++[m]):=
 ⟨h.base,fun p hp=>vC (h.disk.bytes (List.mem_append_left _ (List.mem_map.2 ⟨p,hp,rfl⟩))),h.chains,hl⟩
theorem Eb.put(h:Eb A room dir X st n ss0 m)(hx:Bt.aQ x=0)(hb:x.base=n){n':Nat}(hf:x.fin=n')(hr:nT (fG dir (ss0++[m])++X)+(Bt.ah x).length≤room)(v:LV):
 ∃A',oW A dir v ss0 m x=(0,A',v,ss0++[(m.1,m.2++[x])])∧Eb A' room dir X st n' ss0 (m.1,m.2++[x])∧af (ss0++[(m.1,m.2++[x])])=af (ss0++[m])++[x]∧nT (fG dir (ss0++[(m.1,m.2++[x])])++X)=nT (fG dir (ss0++[m])++X)+(Bt.ah x).length:=by
 have hp:=pX dir ss0 m X;have hp':=pX dir ss0 (m.1,m.2++[x]) X;obtain⟨h1,h2⟩:=(h.disk.perm hp).add (bs:=Bt.ah x) (by rw[←rG hp];exact hr);have hfl:flat (m.2++[x])=flat m.2++Bt.ah x:=by rw[Sg.aP,Sg.gB]
 have hlt:=ru hx;have hnn:n<n':=by omega
 have hbl:af (ss0++[(m.1,m.2++[x])])=af (ss0++[m])++[x]:=by rw[aV,aV,List.append_assoc]
 refine⟨(A.add (bJ dir m.1) (Bt.ah x)).2,?_,⟨?_,fun p hp=>?_,fun p hp=>?_,?_,?_,fun y hy=>?_,h.keys,by have:=h.le;simp only;omega,by have:=h.st;omega,by have:=h.Jn;rw[List.map_append]at this⊢;exact this⟩,hbl,?_⟩
 ·unfold oW
  rw[show A.add (Sn.nameB dir m.1).data.toList (Bt.ah x)=A.add (bJ dir m.1) (Bt.ah x)from rfl,h1,if_pos rfl]
 ·refine FP.perm ?_ hp'.symm
  simp only;rw[hfl];exact h2
 ·rcases List.mem_append.1 hp with hp|hp
  ·exact h.base p (by simp[hp])
  ·obtain rfl:=List.mem_singleton.1 hp
   exact h.base m (by simp)
 ·rcases List.mem_append.1 hp with hp|hp
  ·exact h.chains p (by simp[hp])
  ·obtain rfl:=List.mem_singleton.1 hp
   exact Sg.kL (h.chains m (by simp)) hx (by rw[h.next,hb];exact Int.le_refl _)
 ·rw[hbl]
  exact Sg.kL h.chain hx (by rw[hb];exact uo (by have:=h.st;omega) h.lK)
 ·simp only
  rw[Sg.dG,hf]
 ·rw[hbl]at hy
  rcases List.mem_append.1 hy with hy|hy
  ·have:=h.lK y hy;omega
  ·obtain rfl:=List.mem_singleton.1 hy
   omega
 ·rw[rG hp,rG hp',vJ,vJ]
  simp only;rw[hfl,List.length_append];omega
theorem Eb.roll(h:Eb A room dir X st n ss0 m)(hn:n≤1099511627776)(hz:0<(flat m.2).length)(hok:Dk.nameB (Sn.nameB dir n)=true)(hl:(fG dir (ss0++[m])++X).length<200)(hX:bJ dir n∉X.map (·.1))(v:LV):
 ∃A',iJ A dir v n m (ss0++[m])=(0,A',{v with safe:=(n:Int)},ss0++[m]++[(n,[])])∧Eb A' room dir X st n (ss0++[m]) (n,[])∧af (ss0++[m]++[(n,[])])=af (ss0++[m])∧nT (fG dir (ss0++[m]++[(n,[])])++X)=nT (fG dir (ss0++[m])++X):=by
 have hms:bJ dir m.1∈(fG dir (ss0++[m])++X).map (·.1):=List.mem_map.2 ⟨(bJ dir m.1,flat m.2),List.mem_append_left _ (List.mem_map.2 ⟨m,by simp,rfl⟩),rfl⟩;obtain⟨h1,h2⟩:=h.disk.sync hms;have hmn:m.1<n:=by
  cases hm2:m.2 with
  |nil=>rw[hm2]at hz;simp[flat]at hz
  |cons y r=>
   have hc:=h.chains m (by simp);rw[hm2]at hc;have h3:=Sg.kM hc y (by simp);have h4:=h.lK y (by rw[aV,hm2];simp);omega
 have hno:bJ dir n∉(fG dir (ss0++[m])++X).map (·.1):=by
  intro hc;rw[List.map_append]at hc;rcases List.mem_append.1 hc with hc|hc
  ·obtain⟨q,hq,e⟩:=List.mem_map.1 hc
   obtain⟨p,hp,rfl⟩:=List.mem_map.1 hq;have e2:=fK (h.base p hp) hn e;rcases List.mem_append.1 hp with hp|hp
   ·have:=h.keys p hp;omega
   ·obtain rfl:=List.mem_singleton.1 hp
    omega
  ·exact hX hc
 obtain⟨h3,h4⟩:=h2.make (s:=Sn.nameB dir n) hno hok hl;have hbl:af (ss0++[m]++[(n,[])])=af (ss0++[m]):=by rw[aV,List.append_nil]
 have hp':=pX dir (ss0++[m]) (n,[]) X;refine⟨((A.sync (bJ dir m.1)).2.make (Sn.nameB dir n)).2,?_,⟨FP.perm h4 hp'.symm,fun p hp=>?_,fun p hp=>?_,?_,by simp[ae],?_,fun p hp=>?_,Nat.le_refl _,h.st,?_⟩,hbl,?_⟩
 ·unfold iJ dX
  rw[show A.sync (Sn.nameB dir m.1).data.toList=A.sync (bJ dir m.1)from rfl,if_pos h1,h3,if_pos rfl]
 ·rcases List.mem_append.1 hp with hp|hp
  ·exact h.base p hp
  ·obtain rfl:=List.mem_singleton.1 hp
   exact hn
 ·rcases List.mem_append.1 hp with hp|hp
  ·exact h.chains p hp
  ·obtain rfl:=List.mem_singleton.1 hp
   trivial
 ·rw[hbl];exact h.chain
 ·rw[hbl];exact h.lK
 ·simp only
  rcases List.mem_append.1 hp with hp|hp
  ·have:=h.keys p hp;omega
  ·obtain rfl:=List.mem_singleton.1 hp
   exact hmn
 ·rw[List.map_append,List.pairwise_append]
  refine⟨h.Jn,by simp,fun a ha b hb=>?_⟩;obtain rfl:b=n:=by simpa using hb
  obtain⟨p,hp,rfl⟩:=List.mem_map.1 ha;rcases List.mem_append.1 hp with hp|hp
  ·have:=h.keys p hp;omega
  ·obtain rfl:=List.mem_singleton.1 hp
   exact hmn
 ·rw[rG hp',vJ]
  simp[flat]
theorem Eb.add(h:Eb A room dir X st n ss0 m)(hn:n≤1099511627776)(rs:List Bt.Rec)(hx:Bt.aQ (cO n rs)=0)(hok:Dk.nameB (Sn.nameB dir n)=true)(hl:(fG dir (ss0++[m])++X).length<200)(hX:bJ dir n∉X.map (·.1))(hr:nT (fG dir (ss0++[m])++X)+(Bt.ah (cO n rs)).length≤room)(v:LV):
 ∃A' v' ss0' m',rX A dir v n ss0 m rs=(0,A',v',ss0'++[m'])∧v'.start=v.start∧v'.most=v.most∧v'.down=v.down∧Eb A' room dir X st (n+rs.length) ss0' m'∧af (ss0'++[m'])=af (ss0++[m])++[cO n rs]∧ss0'.length≤ss0.length+1∧nT (fG dir (ss0'++[m'])++X)=nT (fG dir (ss0++[m])++X)+(Bt.ah (cO n rs)).length∧dH ss0' m'=dH ss0 m:=by
 unfold rX qG;rw[if_neg (by rw[hx];simp)];have hno:∀w:LV,fF 0 w=w:=fun w=>by unfold fF;rw[if_neg (by omega)]
 by_cases hc:0<(flat m.2).length∧v.most<((flat m.2).length+(Bt.ah (cO n rs)).length:Nat)
 ·rw[if_pos hc]
  obtain⟨A1,e1,g1,b1,u1⟩:=h.roll hn hc.1 hok hl hX v;rw[e1,if_neg (fun hc2=>hc2 rfl)];obtain⟨A2,e2,g2,b2,u2⟩:=g1.put (x:=cO n rs) hx rfl (n':=n+rs.length) (by show((n:Int)+rs.length)=_;omega) (by rw[u1];exact hr) {v with safe:=(n:Int)};simp only;rw[e2];exact⟨A2,{v with safe:=(n:Int)},_,_,by rw[hno],rfl,rfl,rfl,g2,by rw[b2,b1],by simp,by rw[u2,u1],by cases ss0<;>rfl⟩
 ·rw[if_neg hc]
  obtain⟨A2,e2,g2,b2,u2⟩:=h.put (x:=cO n rs) hx rfl (n':=n+rs.length) (by show((n:Int)+rs.length)=_;omega) hr v;rw[e2];exact⟨A2,v,_,_,by rw[hno],rfl,rfl,rfl,g2,b2,by omega,u2,by cases ss0<;>rfl⟩
end
end Lg
end
section
open Go.RowKit Go.Maps
set_option linter.unusedSimpArgs false
set_option linter.unusedVariables false
open Dk (DA FA aH fO dm dF)
open Sg (Chain flat ae Scan)
namespace Lg
def jW(dir:ByteArray)(p:Nat×List Bt.aB):FA:=⟨bJ dir p.1,flat p.2,(flat p.2).length⟩
def lg(dir:ByteArray)(p:Nat×List Bt.aB)(tail:List UInt8)(s:Nat):FA:=⟨bJ dir p.1,flat p.2++tail,s⟩
structure QM(st n:Nat)(ss0:List (Nat×List Bt.aB))(m:Nat×List Bt.aB):Prop where
 base:∀p∈ss0++[m],p.1≤1099511627776
 chains:∀p∈ss0++[m],Chain p.1 p.2
 chain:Chain st (af (ss0++[m]))
 next:ae m.1 m.2=n
 lK:∀x∈af (ss0++[m]),x.fin≤n
 keys:∀p∈ss0,p.1<m.1
 le:m.1≤n
 st:st≤n
 Jn:((ss0++[m]).map (·.1)).Pairwise (· < ·)
 fit:(ss0++[m]).Pairwise (fun p q=>ae p.1 p.2≤(q.1:Int))
structure eG(A:DA)(room:Nat)(dir:ByteArray)(X:List FA)(st n:Nat)(ss0:List (Nat×List Bt.aB))(m:Nat×List Bt.aB)(js:Nat):Prop where
 disk:FS A room (lg dir m [] (flat (m.2.take js)).length::(ss0.map (jW dir)++X))
 qm:QM st n ss0 m
 js:js≤m.2.length
structure JI(A:DA)(room:Nat)(dir:ByteArray)(X:List FA)(st n:Nat)(ss0:List (Nat×List Bt.aB))(m:Nat×List Bt.aB)(tail:List UInt8):Prop where
 disk:FS A room (lg dir m tail ((flat m.2).length+tail.length)::(ss0.map (jW dir)++X))
 qm:QM st n ss0 m
 scan:Scan m.1 (flat m.2++tail) m.2
theorem qJ{xs:List Bt.aB}{b:Int}(h:Chain b xs):b≤ae b xs:=by
 rcases List.eq_nil_or_concat xs with rfl|⟨ys,x,rfl⟩
 ·exact Int.le_refl _
 ·rw[List.concat_eq_append,Sg.dG]
  have:=oP h x (by simp);have:=ru (Sg.Chain.mem h x (by simp));omega
theorem xW(xs:List Bt.aB){i j:Nat}(h:i≤j):(flat (xs.take i)).length≤(flat (xs.take j)).length:=by
 have e:xs.take j=xs.take i++(xs.take j).drop i:=by
  conv=>lhs;rw[←List.take_append_drop i (xs.take j),List.take_take,Nat.min_eq_left h]
 rw[e,Sg.aP,List.length_append];omega
theorem Ec:∀(xs:List Bt.aB) (k:Nat),∃j,j≤xs.length∧(flat (xs.take j)).length≤k∧(j=xs.length∨k<(flat (xs.take (j+1))).length)
 |[],k=>⟨0,Nat.le_refl _,by simp[flat], .inl rfl⟩
 |x::r,k=>by
  by_cases h:(Bt.ah x).length≤k
  ·obtain⟨j,h1,h2,h3⟩:=Ec r (k-(Bt.ah x).length)
   refine⟨j+1,by simp;omega,?_,?_⟩
   ·have:flat ((x::r).take (j+1))=Bt.ah x++flat (r.take j):=by simp[flat]
    rw[this,List.length_append];omega
   ·rcases h3 with h3|h3
    ·exact .inl (by simp;omega)
    ·refine .inr ?_
     have:flat ((x::r).take (j+1+1))=Bt.ah x++flat (r.take (j+1)):=by simp[flat]
     rw[this,List.length_append];omega
  ·exact⟨0,Nat.zero_le _,by simp[flat], .inr (by simp[flat];omega)⟩
theorem QM.take{st n:Nat}{ss0:List (Nat×List Bt.aB)}{m:Nat×List Bt.aB}(h:QM st n ss0 m)(j:Nat)(hst:st≤m.1):QM st (ae m.1 (m.2.take j)).toNat ss0 (m.1,m.2.take j):=by
 have hcm:=h.chains m (by simp);have hct:=hcm.take j;have hge:=qJ hct;have hn:(((ae m.1 (m.2.take j)).toNat:Nat):Int)=ae m.1 (m.2.take j):=by omega
 have hbl:af (ss0++[(m.1,m.2.take j)])=af ss0++m.2.take j:=by rw[aV]
 have hbm:af (ss0++[m])=af ss0++m.2:=by rw[aV]
 have aa8:∀p∈ss0,ae p.1 p.2≤(m.1:Int):=fun p hp=>by
  have:=h.fit;rw[List.pairwise_append]at this;exact this.2.2 p hp m (by simp)
 refine⟨fun p hp=>?_,fun p hp=>?_,?_,hn.symm,fun x hx=>?_,h.keys,by omega,by omega,?_,?_⟩
 ·rcases List.mem_append.1 hp with hp|hp
  ·exact h.base p (by simp[hp])
  ·obtain rfl:=List.mem_singleton.1 hp
   exact h.base m (by simp)
 ·rcases List.mem_append.1 hp with hp|hp
  ·exact h.chains p (by simp[hp])
  ·obtain rfl:=List.mem_singleton.1 hp
   exact hct
 ·rw[hbl]
  have:=h.chain;rw[hbm]at this;have h2:=this.take ((af ss0).length+j);rw[List.take_append,List.take_of_length_le (by omega),Nat.add_sub_cancel_left]at h2;exact h2
 ·rw[hbl]at hx
  rw[hn];rcases List.mem_append.1 hx with hx|hx
  ·obtain⟨p,hp,hx⟩:=List.mem_flatMap.1 hx
   have h1:=aa8 p hp;have h2:x.fin≤ae p.1 p.2:=by
    obtain⟨i,hi,rfl⟩:=List.mem_iff_getElem.1 hx;rcases List.eq_nil_or_concat p.2 with e|⟨ys,y,e⟩
    ·rw[e]at hi;simp at hi
    ·rw[List.concat_eq_append]at e
     have hc:=h.chains p (by simp[hp]);simp only[e]at hi hc⊢;rw[Sg.dG];rcases Nat.lt_or_ge i ys.length with h3|h3
     ·have h4:=qB hc (i:=i) (j:=ys.length) h3 (by simp)
      have h5:=ru (Sg.Chain.mem hc _ (List.getElem_mem (l:=ys++[y]) (n:=ys.length) (by simp)));simp only[List.getElem_concat_length]at h4 h5;omega
     ·have:i=ys.length:=by simp at hi;omega
      subst this;simp
   omega
  ·rcases List.eq_nil_or_concat (m.2.take j)with e|⟨ys,y,e⟩
   ·rw[e]at hx;simp at hx
   ·rw[List.concat_eq_append]at e
    rw[e]at hct hx⊢;rw[Sg.dG];obtain⟨i,hi,rfl⟩:=List.mem_iff_getElem.1 hx;rcases Nat.lt_or_ge i ys.length with h3|h3
    ·have h4:=qB hct (i:=i) (j:=ys.length) h3 (by simp)
     have h5:=ru (Sg.Chain.mem hct _ (List.getElem_mem (l:=ys++[y]) (n:=ys.length) (by simp)));simp only[List.getElem_concat_length]at h4 h5;omega
    ·have:i=ys.length:=by simp at hi;omega
     subst this;simp
 ·have:=h.Jn
  rw[List.map_append]at this⊢;exact this
 ·have:=h.fit
  rw[List.pairwise_append]at this⊢;refine⟨this.1,by simp,fun p hp q hq=>?_⟩;obtain rfl:=List.mem_singleton.1 hq;exact aa8 p hp
theorem zk(fs:List UInt8)(k:Nat)(f:FA)(h:f.safe=f.bytes.length):dF fs k f=f:=by
 unfold Dk.dF;rw[h,Nat.min_eq_right (Nat.le_add_right _ _),List.take_length,←h]
theorem Ed(fs:List UInt8)(k:List UInt8→Nat)(dir:ByteArray)(ss:List (Nat×List Bt.aB)):(ss.map (jW dir)).map (fun f=>dF fs (k f.name) f)=ss.map (jW dir):=by
 rw[List.map_map];apply List.map_congr_left;intro p _;exact zk fs _ _ rfl
section
variable {A:DA} {room:Nat} {dir:ByteArray} {X:List FA} {st n:Nat} {ss0:List (Nat×List Bt.aB)} {m:Nat×List Bt.aB} {js:Nat} {tail:List UInt8}
theorem eG.gI(h:eG A room dir X st n ss0 m js)(hst:st≤m.1)(fs:List UInt8):∃j tail X',js≤j∧j≤m.2.length∧X'.map (·.name)=X.map (·.name)∧JI (A.gI fs) room dir X' st (ae m.1 (m.2.take j)).toNat ss0 (m.1,m.2.take j) tail:=by
 obtain⟨k,hk⟩:=h.disk.gI fs;rw[List.map_cons,List.map_append,Ed]at hk;obtain⟨c,hc⟩:∃c,c=min ((flat (m.2.take js)).length+Dk.nS fs (k (bJ dir m.1))) (flat m.2).length:=⟨_,rfl⟩;have hcl:c≤(flat m.2).length:=by omega
 have hsl:(flat (m.2.take js)).length≤(flat m.2).length:=by
  have:=xW m.2 h.js;rwa [List.take_length]at this
 have hsc:(flat (m.2.take js)).length≤c:=by omega
 obtain⟨j,hj1,hj2,hj3⟩:=Ec m.2 c;have hjs:js≤j:=by
  rcases Nat.lt_or_ge j js with hlt|hge
  ·rcases hj3 with h3|h3
   ·have:=h.js;omega
   ·have:=xW m.2 (i:=j+1) (j:=js) (by omega)
    omega
  ·exact hge
 obtain⟨is,his⟩:∃l,l=(flat m.2).take c:=⟨_,rfl⟩;have hil:is.length=c:=by rw[his,List.length_take];omega
 have hup:Sg.Wv (flat m.2) ((flat m.2).take c++[]) m.2 j:=by
  refine⟨by rw[List.append_nil,←his,hil];exact hj2,?_⟩;rw[List.append_nil,List.take_take,Nat.min_eq_left hj2]
 have aep:=Sg.torn (h.qm.chains m (by simp)) hcl (more:=[]) (by simp) hj1 hup (by
  rcases hj3 with h3|h3
  ·exact .inl h3
  ·refine .inr fun hc2=>?_
   have:=hc2.1;rw[List.append_nil,←his,hil]at this;omega)
 rw[List.append_nil,←his]at aep;obtain⟨tl,htl⟩:∃t,t=is.drop (flat (m.2.take j)).length:=⟨_,rfl⟩;have acs:is=flat (m.2.take j)++tl:=by
  rw[htl];conv=>lhs;rw[←List.take_append_drop (flat (m.2.take j)).length is]
  congr 1
  rw[his,List.take_take,Nat.min_eq_left hj2,Sg.qw]
 have abo:dF fs (k (lg dir m [] (flat (m.2.take js)).length).name) (lg dir m [] (flat (m.2.take js)).length)=lg dir (m.1,m.2.take j) tl ((flat (m.2.take j)).length+tl.length):=by
  unfold Dk.dF lg;simp only[List.append_nil];rw[←hc];have e1:(flat m.2).take c=flat (m.2.take j)++tl:=by rw[←his];exact acs
  have e2:c=(flat (m.2.take j)).length+tl.length:=by rw[←hil,acs,List.length_append]
  rw[e1,←e2]
 rw[abo]at hk;refine⟨j,tl,X.map (fun f=>dF fs (k f.name) f),hjs,hj1,?_,hk,h.qm.take j hst,?_⟩
 ·rw[List.map_map];rfl
 ·rw[←acs];exact aep
theorem JI.gI(h:JI A room dir X st n ss0 m tail)(fs:List UInt8):∃X',X'.map (·.name)=X.map (·.name)∧JI (A.gI fs) room dir X' st n ss0 m tail:=by
 obtain⟨k,hk⟩:=h.disk.gI fs;rw[List.map_cons,List.map_append,Ed,zk fs _ (lg dir m tail _) (by simp[lg])]at hk;exact⟨_,by rw[List.map_map];rfl,hk,h.qm,h.scan⟩
end
def JJ(ss:List (Nat×List Bt.aB))(n:Nat):Prop:=∀p,ss.getLast? =some p→ae p.1 p.2≤(n:Int)
def pI(dir:ByteArray)(nm:List UInt8):Prop:=∃n:Nat,n≤1099511627776∧nm=bJ dir n
inductive jr (dir:ByteArray):DA→Bool→List (Nat×List Bt.aB)→List (List UInt8)→Int→DA→List (Nat×List Bt.aB)→Prop
 |done {A:DA} {t:Bool} {ss:List (Nat×List Bt.aB)}:jr dir A t ss [] 0 A ss
 |Ee {A:DA} {t:Bool} {ss:List (Nat×List Bt.aB)} {nm:List UInt8} {r:List (List UInt8)} (hg:t=true∨¬pI dir nm∨∃n:Nat,n≤1099511627776∧nm=bJ dir n∧¬JJ ss n) (h:(A.remove nm).1≠0):jr dir A t ss (nm::r) (A.remove nm).1 (A.remove nm).2 ss
 |gone {A A':DA} {t:Bool} {ss ss':List (Nat×List Bt.aB)} {nm:List UInt8} {r:List (List UInt8)} {c:Int} (hg:t=true∨¬pI dir nm∨∃n:Nat,n≤1099511627776∧nm=bJ dir n∧¬JJ ss n) (h:(A.remove nm).1=0) (k:jr dir (A.remove nm).2 t ss r c A' ss'):jr dir A t ss (nm::r) c A' ss'
 |lost {A:DA} {ss:List (Nat×List Bt.aB)} {n:Nat} {r:List (List UInt8)} {nm:List UInt8} (hn:n≤1099511627776) (e:nm=bJ dir n) (hf:A.file nm=none):jr dir A false ss (nm::r) 7 A ss
 |whole {A A':DA} {ss ss':List (Nat×List Bt.aB)} {n:Nat} {r:List (List UInt8)} {c:Int} {f:FA} {xs:List Bt.aB} {nm:List UInt8} (hn:n≤1099511627776) (e:nm=bJ dir n) (hf:A.file nm=some f) (hs:Scan n f.bytes xs) (hl:f.bytes.length=(flat xs).length) (k:jr dir A false (ss++[(n,xs)]) r c A' ss'):jr dir A false ss (nm::r) c A' ss'
 |JK {A:DA} {ss:List (Nat×List Bt.aB)} {n:Nat} {r:List (List UInt8)} {f:FA} {xs:List Bt.aB} {nm:List UInt8} (hn:n≤1099511627776) (e:nm=bJ dir n) (hf:A.file nm=some f) (hs:Scan n f.bytes xs) (hl:(flat xs).length<f.bytes.length) (h:(A.cut nm (flat xs).length).1≠0):jr dir A false ss (nm::r) (A.cut nm (flat xs).length).1 (A.cut nm (flat xs).length).2 ss
 |cut {A A':DA} {ss ss':List (Nat×List Bt.aB)} {n:Nat} {r:List (List UInt8)} {c:Int} {f:FA} {xs:List Bt.aB} {nm:List UInt8} (hn:n≤1099511627776) (e:nm=bJ dir n) (hf:A.file nm=some f) (hs:Scan n f.bytes xs) (hl:(flat xs).length<f.bytes.length) (h:(A.cut nm (flat xs).length).1=0) (k:jr dir (A.cut nm (flat xs).length).2 true (ss++[(n,xs)]) r c A' ss'):jr dir A false ss (nm::r) c A' ss'
inductive Inter (dir:ByteArray):List (List UInt8)→List (Nat×List Bt.aB)→List FA→Prop
 |nil:Inter dir [] [] []
 |jh {L:List (List UInt8)} {ss:List (Nat×List Bt.aB)} {J:List FA} (p:Nat×List Bt.aB) (h:Inter dir L ss J):Inter dir (bJ dir p.1::L) (p::ss) J
 |qK {L:List (List UInt8)} {ss:List (Nat×List Bt.aB)} {J:List FA} (f:FA) (hf:¬pI dir f.name) (h:Inter dir L ss J):Inter dir (f.name::L) ss (f::J)
theorem cu{A:DA}(h:A.fails=true):A.limited=true:=by
 unfold DA.fails at h;simp only[Bool.and_eq_true]at h;exact h.1
section
variable {A A':DA} {room:Nat} {dir:ByteArray} {X Y J:List FA} {st n:Nat} {ss0 pre ss ss':List (Nat×List Bt.aB)} {m:Nat×List Bt.aB} {tail:List UInt8} {L:List (List UInt8)} {c:Int} {t:Bool}
theorem FT:∀{L:List (List UInt8)} {J:List FA} {A:DA} {t:Bool},Inter dir L [] J→FS A room (J++Y)→jr dir A t ss L c A' ss'→
 ss'=ss∧((c=0∧FS A' room Y∧A'.limited=A.limited)∨(c=14∧A.limited=true∧A'.limited=true∧∃J',(∀f∈J',f∈J)∧FS A' room (J'++Y)))
 |[],J,A,t,hi,hd,hf=>by
  cases hi
  cases hf
  exact⟨rfl, .inl ⟨rfl,hd,rfl⟩⟩
 |nm::r,J,A,t,hi,hd,hf=>by
  cases hi with
  |qK f hj h=>
   rename_i J
   have hd1:FS A room (f::(J++Y)):=hd;have hrm:A.fails=false→_:=fun hfl=>hd1.remove hfl
   cases hf with
   |Ee hg h1=>
    cases hfl:A.fails with
    |false=>exact absurd (hrm hfl).1 h1
    |true=>
     rw[jD hfl];exact⟨rfl, .inr ⟨rfl,cu hfl,cu hfl,f::J,fun _ h=>h,hd⟩⟩
   |gone hg h1 k=>
    cases hfl:A.fails with
    |true=>rw[jD hfl]at h1;simp at h1
    |false=>
     obtain⟨-,h3,h4⟩:=hrm hfl;obtain⟨h5,h6⟩:=FT h h3 k;refine⟨h5,h6.imp (fun⟨a,b,c⟩=>⟨a,b,c.trans h4⟩) (fun⟨a,b,b',J',c,d⟩=>⟨a,by rw[←h4];exact b,b',J',fun g hg=>List.mem_cons_of_mem _ (c g hg),d⟩)⟩
   |lost hn e _=>exact absurd ⟨_,hn,e⟩ hj
   |whole hn e _ _ _ _=>exact absurd ⟨_,hn,e⟩ hj
   |JK hn e _ _ _ _=>exact absurd ⟨_,hn,e⟩ hj
   |cut hn e _ _ _ _ _=>exact absurd ⟨_,hn,e⟩ hj
theorem Xx(hq:(pre++ss).Pairwise (fun p q=>ae p.1 p.2≤(q.1:Int))){p:Nat×List Bt.aB}(hp:p∈ss):JJ pre p.1:=by
 intro q hql;rw[List.pairwise_append]at hq;exact hq.2.2 q (List.mem_of_getLast? hql) p hp
theorem Ef{p:Nat×List Bt.aB}(hc:Chain p.1 p.2){xs:List Bt.aB}(hs:Scan p.1 (jW dir p).bytes xs):xs=p.2:=hs.unique (Sg.uV hc)
theorem xX:∀{L:List (List UInt8)} {post pre:List (Nat×List Bt.aB)} {J:List FA} {A:DA},Inter dir L (post++[m]) J→QM st n (pre++post) m→FS A room (lg dir m tail ((flat m.2).length+tail.length)::((pre++post).map (jW dir)++(J++X)))→Scan m.1 (flat m.2++tail) m.2→jr dir A false pre L c A' ss'→
 (c=0∧ss'=pre++post++[m]∧FS A' room (lg dir m [] (flat m.2).length::((pre++post).map (jW dir)++X))∧A'.limited=A.limited)∨
 (c=14∧A.limited=true∧A'.limited=true∧∃J' tail',(∀f∈J',f∈J)∧(tail'=tail∨tail'=[])∧FS A' room (lg dir m tail' ((flat m.2).length+tail'.length)::((pre++post).map (jW dir)++(J'++X))))
 |[],post,pre,J,A,hi,hq,hd,hs,hf=>by
  generalize hps:post++[m]=ps at hi
  cases hi
  simp at hps
 |nm::r,post,pre,J,A,hi,hq,hd,hs,hf=>by
  generalize hps:post++[m]=ps at hi
  cases hi with
  |qK f hj h=>
   rename_i J
   subst hps;have hd1:FS A room (f::(lg dir m tail ((flat m.2).length+tail.length)::((pre++post).map (jW dir)++(J++X)))):=hd.perm (by
    rw[List.cons_append];exact(List.Perm.cons _ List.perm_middle).trans (List.Perm.swap _ _ _))
   cases hf with
   |Ee hg h1=>
    cases hfl:A.fails with
    |false=>exact absurd (hd1.remove hfl).1 h1
    |true=>
     rw[jD hfl];exact .inr ⟨rfl,cu hfl,cu hfl,f::J,tail,fun _ h=>h, .inl rfl,hd⟩
   |gone hg h1 k=>
    cases hfl:A.fails with
    |true=>rw[jD hfl]at h1;simp at h1
    |false=>
     obtain⟨-,h3,h4⟩:=hd1.remove hfl;rcases xX h hq h3 hs k with⟨a,b,c,d⟩|⟨a,b,b',J',tail',c,d,e⟩
     ·exact .inl ⟨a,b,c,d.trans h4⟩
     ·exact .inr ⟨a,by rw[←h4];exact b,b',J',tail',fun g hg=>List.mem_cons_of_mem _ (c g hg),d,e⟩
   |lost hn e _=>exact absurd ⟨_,hn,e⟩ hj
   |whole hn e _ _ _ _=>exact absurd ⟨_,hn,e⟩ hj
   |JK hn e _ _ _ _=>exact absurd ⟨_,hn,e⟩ hj
   |cut hn e _ _ _ _ _=>exact absurd ⟨_,hn,e⟩ hj
  |jh p h=>
   rename_i ss1
   have hpm:p∈post++[m]:=by rw[hps];simp
   have alq:p∈(pre++post)++[m]:=by rw[List.append_assoc];exact List.mem_append_right _ hpm
   have hpb:=hq.base p alq;have hpc:=hq.chains p alq;have aa8:JJ pre p.1:=Xx (ss:=post++[m]) (by rw[←List.append_assoc];exact hq.fit) hpm;have afD:¬(false=true∨¬pI dir (bJ dir p.1)∨∃n:Nat,n≤1099511627776∧bJ dir p.1=bJ dir n∧¬JJ pre n):=by
    rintro(h|h|⟨k,hk,e,h⟩)
    ·simp at h
    ·exact h ⟨_,hpb,rfl⟩
    ·rw[fK hpb hk e]at aa8
     exact h aa8
   cases post with
   |cons q post1=>
    rw[List.cons_append]at hps;obtain⟨rfl,rfl⟩:=List.cons.inj hps;have jE:A.file (bJ dir q.1)=some (jW dir q):=hd.file (f:=jW dir q) (by simp);cases hf with
    |Ee hg _=>exact absurd hg afD
    |gone hg _ _=>exact absurd hg afD
    |lost hn e hf=>rw[jE]at hf;simp at hf
    |whole hn e hf hs2 hl k=>
     obtain rfl:=fK hpb hn e;rw[jE]at hf;obtain rfl:=Option.some.inj hf;obtain rfl:=Ef hpc hs2;have e1:pre++q::post1=(pre++[(q.1,q.2)])++post1:=by simp
     rw[e1]at hq hd⊢;have:=xX h hq hd hs k;exact this
    |JK hn e hf hs2 hl _=>
     obtain rfl:=fK hpb hn e;rw[jE]at hf;obtain rfl:=Option.some.inj hf;obtain rfl:=Ef hpc hs2;exact absurd hl (Nat.lt_irrefl _)
    |cut hn e hf hs2 hl _ _=>
     obtain rfl:=fK hpb hn e;rw[jE]at hf;obtain rfl:=Option.some.inj hf;obtain rfl:=Ef hpc hs2;exact absurd hl (Nat.lt_irrefl _)
   |nil=>
    rw[List.nil_append]at hps;obtain⟨rfl,rfl⟩:=List.cons.inj hps;rw[List.append_nil]at hq hd⊢;have jE:A.file (bJ dir m.1)=some (lg dir m tail ((flat m.2).length+tail.length)):=hd.file (f:=lg dir m tail ((flat m.2).length+tail.length)) (by simp);have VP:∀{B:DA} {t:Bool} {c:Int},FS B room (lg dir m [] (flat m.2).length::(pre.map (jW dir)++(J++X)))→B.limited=A.limited→jr dir B t (pre++[(m.1,m.2)]) r c A' ss'→
     (c=0∧ss'=pre++[m]∧FS A' room (lg dir m [] (flat m.2).length::(pre.map (jW dir)++X))∧A'.limited=A.limited)∨
     (c=14∧A.limited=true∧A'.limited=true∧∃J' tail',(∀f∈J',f∈J)∧(tail'=tail∨tail'=[])∧FS A' room (lg dir m tail' ((flat m.2).length+tail'.length)::(pre.map (jW dir)++(J'++X)))):=by
     intro B t c hB ab5 k;have hp:∀Z:List FA,(lg dir m [] (flat m.2).length::(pre.map (jW dir)++(Z++X))).Perm (Z++(lg dir m [] (flat m.2).length::(pre.map (jW dir)++X))):=fun Z=>by
      rw[←List.cons_append,←List.cons_append,←List.append_assoc,←List.append_assoc];exact List.Perm.append_right _ List.perm_append_comm
     obtain⟨h1,h2⟩:=FT h (hB.perm (hp J)) k;rcases h2 with⟨a,b,c⟩|⟨a,b,b',J',c,d⟩
     ·exact .inl ⟨a,h1,b,c.trans ab5⟩
     ·exact .inr ⟨a,by rw[←ab5];exact b,b',J',[],c, .inr rfl,by simpa using d.perm (hp J').symm⟩
    cases hf with
    |Ee hg _=>exact absurd hg afD
    |gone hg _ _=>exact absurd hg afD
    |lost hn e hf=>rw[jE]at hf;simp at hf
    |whole hn e hf hs2 hl k=>
     obtain rfl:=fK hpb hn e;rw[jE]at hf;obtain rfl:=Option.some.inj hf;obtain rfl:=hs2.unique hs;have ht:tail=[]:=by
      have:(lg dir m tail ((flat m.2).length+tail.length)).bytes.length=(flat m.2).length+tail.length:=by simp[lg]
      rw[this]at hl;exact List.eq_nil_of_length_eq_zero (by omega)
     subst ht;exact VP (by simpa using hd) rfl k
    |JK hn e hf hs2 hl hc=>
     obtain rfl:=fK hpb hn e;rw[jE]at hf;obtain rfl:=Option.some.inj hf;obtain rfl:=hs2.unique hs;cases hfl:A.fails with
     |false=>exact absurd (hd.cut hfl (by simp[lg])).1 hc
     |true=>
      rw[Tc hfl];exact .inr ⟨rfl,cu hfl,cu hfl,J,tail,fun _ h=>h, .inl rfl,hd⟩
    |cut hn e hf hs2 hl hc k=>
     obtain rfl:=fK hpb hn e;rw[jE]at hf;obtain rfl:=Option.some.inj hf;obtain rfl:=hs2.unique hs;cases hfl:A.fails with
     |true=>rw[Tc hfl]at hc;simp at hc
     |false=>
      obtain⟨-,h3,h4⟩:=hd.cut hfl (n:=(flat m.2).length) (by simp[lg]);have e1:Dk.wI (flat m.2).length (lg dir m tail ((flat m.2).length+tail.length))=lg dir m [] (flat m.2).length:=by
       unfold Dk.wI lg;simp
      rw[e1]at h3;exact VP h3 h4 k
end
end Lg
end
section
open Go.RowKit Go.Maps
set_option maxRecDepth 100000
set_option linter.unusedSimpArgs false
set_option linter.unusedVariables false
attribute [local go_sem] Oper.semAt_some
open Dk (DA aj Parts dA aC bQ)
open Sg (aS aA dV Both Came ae flat)
namespace Lg
theorem L6(w:World)(base d:Nat)(F:List Nat)(A:DA)(hd:aj w base d F A)(dir:ByteArray)(gG:dir.size≤1000)(mo st:Nat)(hm1:100≤mo)(hm2:mo≤1048576)(hs:st≤1099511627776)
 (hmk:(A.make (Sn.nameB dir st)).1=0)(hsy:((A.make (Sn.nameB dir st)).2.sync (Sn.nameB dir st).data.toList).1=0)
 (hv:∀Z,Turn F w Z→Sn.jG Z)
 (aik:∀Z lb,Turn [] w Z→az Z base d F A lb (.slice none 0 0) dir ⟨mo,0,0,false⟩ []→Calls Tryz.prog 15 #[.pointer (some ⟨lb,0,none⟩)] Z fun e w'=>e= .returned .nilIface∧Turn [] Z w'):
 Calls Tryz.prog 7 #[.pointer (some ⟨d,0,none⟩), .string dir, .int .i64 (mo:Int), .int .i64 (st:Int)] w fun e w'=>∃lb F' gv m,e= .returned (.tuple #[.pointer (some ⟨lb,0,none⟩), .nilIface])∧
  az w' base d F' ((A.make (Sn.nameB dir st)).2.sync (Sn.nameB dir st).data.toList).2 lb gv dir ⟨mo,st,st,false⟩ [m]∧m.abs=(st,[])∧Turn F w w'∧∀k∈aJ F' lb gv [m],k∈F∨w.heap.size≤k:=by
 have HD:=hide hd;have HV:=hide hv;have HF:=hide aik;have L8:=hide hmk;have VG:=hide hsy;have hbw:=Sg.jA hd;clear hd hv aik hmk hsy;go_enter Tryz.func7,Tryz.ntmps7
 go_wp2_with fail
 obtain⟨w0,hw0⟩:∃w0,w0=w.alloc (.cells (KZ d dir (.slice none 0 0) ⟨mo,0,0,false⟩) 58):=⟨_,rfl⟩;have ht0:Turn [] w w0:=by rw[hw0];exact(Turn.refl [] w).alloc _
 have hl0:az w0 base d F A w.heap.size (.slice none 0 0) dir ⟨mo,0,0,false⟩ []:=
  ⟨HD.out.kept ht0 (by simp),by rw[hw0];exact ai w _, .inl ⟨rfl,rfl⟩,hbw,by simp,List.Pairwise.nil⟩
 unfold KZ at hw0;simp only at hw0;rw[←hw0];refine(HF.out w0 w.heap.size ht0 hl0).mono ?_;rintro e w1 ⟨rfl,ht1⟩;have hl1:=hl0.still ht1;have c3:=hl1.c3;have hlb:=lt_of_heap hl1.box;have HL1:=hide hl1;have HT1:=hide (ht0.same ht1);clear hw0 ht0 hl0 ht1 hl1;go_wp2_with fail
 refine(xM w1 base d F A w.heap.size _ dir _ [] HL1.out (by simp) gG st hs (HV.out w1 (HT1.out.mono (by simp)))).mono ?_;rintro e w2 ⟨rfl,hd2⟩;unfold dX at hd2⊢;simp only[List.map_nil,List.nil_append]at hd2⊢;rw[L8.out,if_pos rfl]at hd2;rw[L8.out,show aC 0= .nilIface from rfl];obtain⟨A2,hA2⟩:∃A2,A2=(A.make (Sn.nameB dir st)).2:=⟨_,rfl⟩;rw[←hA2]at hd2 VG;have WC:=hide hA2;obtain⟨F2,gv2,ms2,hl2,hm2,ht2,hf2⟩:=hd2;obtain⟨ms20,m2,rfl,ab8,lL⟩:=dB (r:=[]) (by simpa using hm2);obtain rfl:=List.map_eq_nil_iff.1 ab8;rw[List.nil_append]at hl2 hf2;have hmn:m2.n=st:=congrArg Prod.fst lL;have hmx:m2.xs=[]:=congrArg Prod.snd lL;have hsy:=ku w2 base d F2 A2 w.heap.size gv2 dir _ [] m2 hl2 (by simp) (by rw[hmx];simp) (by rw[hmn];exact Sg.ja hs gG);rw[hmn,hmx,VG.out]at hsy;have HS:=hide hsy;have HT2:=hide ((HT1.out.mono (T:=F) (by simp)).trans ht2 (fun k hk=>by
  rcases ay.1 hk with rfl|hk|⟨x,hx, -⟩|hk
  ·exact .inr (Nat.le_refl _)
  ·simp[Value.ownBlock]at hk
  ·simp at hx
  ·exact .inl hk))
 have hlf:∀k∈aJ F2 w.heap.size gv2 [m2],k∈F∨w.heap.size≤k:=fun k hk=>by
  rcases hf2 k hk with h|h
  ·rcases ay.1 h with rfl|h|⟨x,hx, -⟩|h
   ·exact .inr (Nat.le_refl _)
   ·simp[Value.ownBlock]at h
   ·simp at hx
   ·exact .inl h
  ·exact .inr (Nat.le_trans HT1.out.size h)
 have HLF:=hide hlf;have HM2:Hid (m2.abs=(st,[])):=lL;clear c3 hlb hA2 hl2 hm2 ht2 hf2 lL ab8 hmn hmx hsy hlf;go_wp2_with fail
 refine HS.out.mono ?_;rintro e w3 ⟨rfl,hd3⟩;rw[show aC 0= .nilIface from rfl];obtain⟨F3,gv3,ms3,hl3,hm3,ht3,hf3⟩:=hd3;obtain⟨ms30,m3,rfl,afY,L9⟩:=dB (r:=[]) (by simpa using hm3);obtain rfl:=List.map_eq_nil_iff.1 afY;rw[List.nil_append]at hl3 hf3;have ahN:m3.abs=(st,[]):=L9.trans HM2.out;have hmn:m3.n=st:=congrArg Prod.fst ahN;have hmx:m3.xs=[]:=congrArg Prod.snd ahN;have hv3:jH 0 (⟨mo,0,0,false⟩:LV) (ae st [])=⟨mo,0,st,false⟩:=rfl;rw[hv3]at hl3;obtain⟨g,cap,hgv,hc, -⟩:=hl3.row.at fJ (j:=0) (by simp);rw[List.length_singleton]at hgv;subst hgv;have c3:=hl3.c3;have hlb:=lt_of_heap hl3.box;have c0:w3.cell? ⟨g,0,none⟩=some (.pointer (some ⟨m3.sb,0,none⟩)):=hc 0 (by omega);have hba:=Sg.jP w3 base d m3.sb m3.sv _ m3.n _ (hl3.jo m3 (by simp));have hen:=kD w3 base d F3 _ w.heap.size _ dir _ [] m3 hl3 (by simp) (by rw[hmx];simp);rw[hmn]at hba;rw[hmn,hmx,show ae (st:Int) []=(st:Int)from rfl]at hen;have HM3:=hide ahN;have HL3:=hide hl3;have Aa:=hide hba;have Lj:=hide hen;have HT3:=hide (HT2.out.trans ht3 HLF.out);have HF3:Hid (∀k∈aJ F3 w.heap.size (.slice (some ⟨g,0,none⟩) 1 cap) [m3],k∈F∨w.heap.size≤k):=fun k hk=>by
  rcases hf3 k hk with h|h
  ·exact HLF.out k h
  ·exact .inr (Nat.le_trans HT2.out.size h)
 clear L9 hm3 afY ahN hmn hmx hv3 hl3 hc hba hen ht3 hf3 HS;go_wp2_with fail
 refine Aa.out.mono ?_;rintro e w4 ⟨rfl,rfl⟩;go_wp2_with fail
 refine Lj.out.mono ?_;rintro e w4 ⟨rfl,ht4⟩;have hl4:=HL3.out.still ht4;have ajl:=lt_of_heap hl4.box;have c44:=hl4.c4;have f4:=hl4.fr 4;have HL4:=hide hl4;have HT4:=hide (HT3.out.same (ht4.mono (by simp)));clear ht4 hl4 Aa Lj c3 c0 hlb;go_wp2
 go_ret2
 rw[←WC.out];refine⟨_,F3,_,m3,rfl,?_,HM3.out,HT4.out.setCell (.inr (Nat.le_refl _)) _,HF3.out⟩;exact HL4.out.xK (i:=4) (u:= .int .i64 (st:Int)) (v':=⟨mo,st,st,false⟩) rfl
end Lg
end
section
open Go.RowKit Go.Maps Go.Shelf Go.Sort
set_option maxRecDepth 100000
set_option linter.unusedSimpArgs false
set_option linter.unusedVariables false
attribute [local go_sem] Oper.semAt_some
namespace Dk
def Eg(Bs:Nat)(W:World):Option Nat:=match W.heap[Bs]? with
 |some (.cells cs _ _)=>(cs[0]?).bind Value.ownBlock
 |_=>none
theorem uz{Bs:Nat}{W:World}{v:Value}{t:TypeId}{fr:Nat×Nat}(h:W.heap[Bs]? =some (.cells #[v] t fr)):Eg Bs W=v.ownBlock:=by simp[Eg,h]
structure U5(Bs:Nat)(W W':World):Prop where
 size:W.heap.size≤W'.heap.size
 cells:∀k cs t fr,W.heap[k]? =some (.cells cs t fr)→k≠Bs→Eg Bs W≠some k→W'.heap[k]? =some (.cells cs t fr)
 own:Eg Bs W'=Eg Bs W∨∃b,Eg Bs W'=some b∧W.heap.size≤b
theorem U5.refl(Bs:Nat)(W:World):U5 Bs W W:=⟨Nat.le_refl _,fun _ _ _ _ h _ _=>h, .inl rfl⟩
theorem VQ{Bs:Nat}{A B C:World}(h:U5 Bs A B)(k:U5 Bs B C):U5 Bs A C:=by
 refine⟨Nat.le_trans h.size k.size,fun i cs t fr hi hn ho=>?_,?_⟩
 ·refine k.cells i cs t fr (h.cells i cs t fr hi hn ho) hn (fun e=>?_)
  rcases h.own with h1|⟨b,h1,h2⟩
  ·exact ho (h1▸e)
  ·rw[h1]at e;cases e
   have:=lt_of_heap hi;omega
 ·rcases k.own with h1|⟨b,h1,h2⟩
  ·rw[h1];exact h.own
  ·exact .inr ⟨b,h1,Nat.le_trans h.size h2⟩
theorem ZP{Bs:Nat}{w:World}(hB:Bs<w.heap.size)(W:World)(l:Nat)(o o':Obj)(hl:w.heap.size≤l)(h:W.heap[l]? =some o) (ho:o.isCells=false) (_:o.isWalk=false):U5 Bs W (W.putObj l o'):=by
 refine⟨by simp,fun k cs t fr hk _ _=>?_, .inl ?_⟩
 ·have hne:k≠l:=by
   intro e;subst e;rw[h]at hk;cases hk;cases ho
  rw[World.putObj_heap_other hne];exact hk
 ·unfold Eg;rw[World.putObj_heap_other (show Bs≠l by omega)]
theorem uM{W W':World}{row:Option Nat}{base:Nat}{e:TypeId}{size:Nat}{v:Value}{k:Nat}{xs:List Value}(h:W.ownsRow base e size v k xs)(hg:W.grownBy W' row)
 (Pe:∀r,row=some r→∃o:Obj,W.heap[r]? =some o∧o.isCells=false):W'.ownsRow base e size v k xs:=by
 refine h.kept hg ?_;rcases h.2 with⟨rfl,_⟩|⟨g,cap,cur,rfl,_,hgb,_⟩
 ·exact .inl rfl
 ·refine .inr fun e'=>?_
  obtain⟨o,ho,hw⟩:=Pe g (by simpa[Value.ownBlock]using e'.symm);rw[hgb]at ho;cases ho;cases hw
theorem zl{W:World}{base:Nat}{e:TypeId}{size:Nat}{v:Value}{k:Nat}{xs:List Value}(h:W.ownsRow base e size v k xs){j:Nat}{cs:Array Value}{t:TypeId}(hj:W.heap[j]? =some (.cells cs t (0,0))) (hno:t≠e):
 v.ownBlock≠some j:=by
 rcases h.2 with⟨rfl,_⟩|⟨g,cap,cur,rfl,_,hgb,_⟩
 ·simp[Value.ownBlock]
 ·intro e'
  have:g=j:=by simpa[Value.ownBlock]using e'
  subst this;rw[hgb]at hj;cases hj;exact hno rfl
theorem EJ{W:World}{base:Nat}{e:TypeId}{v:Value}{k:Nat}{xs:List Value}(h:W.ownsRow base e 1 v k xs):∃a n c,v= .slice a n c:=by
 rcases h.2 with⟨rfl,_⟩|⟨g,cap,cur,rfl,_⟩
 ·exact⟨_,_,_,rfl⟩
 ·exact⟨_,_,_,rfl⟩
theorem uN{W:World}{base:Nat}{e:TypeId}{size:Nat}{v:Value}{k:Nat}{xs:List Value}(h:W.ownsRow base e size v k xs){g:Nat}(hg:v.ownBlock=some g):base≤g∧∃cur,W.heap[g]? =some (.cells cur e (0,0)):=by
 rcases h.2 with⟨rfl,_⟩|⟨g',cap,cur,rfl,hb,hgb,_⟩
 ·simp[Value.ownBlock]at hg
 ·have:g'=g:=by simpa[Value.ownBlock]using hg
  subst this;exact⟨hb,cur,hgb⟩
theorem Mc{W w3:World}{b:Nat}{v:Value}{t:TypeId}{o:Obj}(h:W.heap[b]? =some (.cells #[v] t (0,0))) (hs:v.ownBlock≠some b) (hg:(W.alloc o).grownBy w3 v.ownBlock):w3.heap[b]? =some (.cells #[v] t (0,0)):=by
 have t1:Turn v.ownBlock.toList (W.alloc o) w3:=(Turn.refl _ _).grown hg (by intro k hk;exact .inl (by simp[hk]));refine t1.heap (((Turn.refl [] W).alloc o).heap h (by simp)) ?_;intro e;exact hs (by simpa using e)
theorem Tryz.ZQ:(Tryz.prog.info? 9).map (fun i=>(i.zero,i.size,i.bytes))=some (some (.string ⟨#[]⟩),1,16):=by kernel_rfl
section
variable {w w':World} {base d:Nat} {F:List Nat} {A A':DA} {aI:Option Nat} {ms:List aF}
def VR(w:World)(A:DA)(pre:List (pV A))(W:World):Prop:=
 ∃v,W.heap[w.heap.size]? =some (.cells #[v] 77 (0,0))∧W.ownsRow w.heap.size 9 1 v pre.length (pre.map (fun x=>encStr x.1))∧Turn [] w W
theorem EK(h:Parts w base d F A aI ms)(s:ByteArray)(hs:s.size≤maxLen)(B1 B2:Nat)(hB1:w.heap[B1]? =some (.cells #[.pointer (some ⟨d,0,none⟩)] 24 (0,0))) (hB2:w.heap[B2]? =some (.cells #[.string s] 9 (0,0))):
 Calls Tryz.prog 127 #[.slice none 0 0, .func (.func 78) #[] #[.pointer (some ⟨B1,0,none⟩), .pointer (some ⟨B2,0,none⟩)]] w fun e w'=>
  ∃v,e= .returned v∧w'.ownsRow w.heap.size 9 1 v (cZ A s.data.toList).length ((cZ A s.data.toList).map (fun x=>encStr x.1))∧Turn [] w w':=by
 refine(callsIn_wide (n:=7)).1 ?_;have H:Hid (Parts w base d F A aI ms):=h;have apD:=h.good.count;clear h;refine callsIn_of_wp_marks Tryz.func127 rfl trivial ?_ rfl;simp only[Tryz.ntmps127,List.size_toArray,List.length_cons,List.length_nil,Nat.reduceAdd,Nat.reduceSub,Array.replicate_succ,Array.replicate_zero,List.push_toArray,List.append_toArray,List.nil_append,List.cons_append];gi_wp2
 obtain⟨W1,hW1⟩:∃W1,w.alloc (.cells #[.slice none 0 0] 77)=W1:=⟨_,rfl⟩;rw[hW1];have hs1:W1.heap.size=w.heap.size+1:=by rw[←hW1];simp
 have t1:Turn [] w W1:=by rw[←hW1];exact(Turn.refl _ _).alloc _
 have acf:W1.heap[w.heap.size]? =some (.cells #[.slice none 0 0] 77 (0,0)):=by rw[←hW1];exact ai w _
 have hb1:W1.heap[B1]? =_:=t1.heap hB1 (by simp)
 have hb2:W1.heap[B2]? =_:=t1.heap hB2 (by simp)
 have hP1:=H.out.kept t1 (by simp);have au8:B2<w.heap.size:=lt_of_heap hB2;have acP:=zi hP1 s hs B1 B2 hb1 hb2 (U5 w.heap.size) (U5.refl _) VQ (fun W0 W W' k cs t fr hb0 hb hk hkp hc=>by
  have e1:W.heap[w.heap.size]? =some (.cells #[.slice none 0 0] 77 (0,0)):=by
   have h0:=hb0.block w.heap.size (by omega);have h1:=hb.block w.heap.size (by have:=hb0.size;omega);rw[h1,h0];exact acf
  refine hkp.cells k cs t fr hc ?_ ?_
  ·have:=hb0.size
   rcases hk with rfl|hk<;>omega
  ·rw[uz e1];simp[Value.ownBlock])
 have Xv:Hid (SeqStopsK Fence.wide 6 Tryz.prog 78 #[.pointer (some ⟨B1,0,none⟩), .pointer (some ⟨B2,0,none⟩)] (fun x:pV A=> #[encStr x.1]) (U5 w.heap.size)
  (fun xs=>xs=cZ A s.data.toList) (fun pre=>pre<+:cZ A s.data.toList) (cZ A s.data.toList).length W1):=acP
 have HI:Hid (VR w A [] W1):=⟨_,acf,World.ownsRow_nil _ _ _ _,t1⟩;have hnl:(cZ A s.data.toList).length≤200:=by
  have h2:(cZ A s.data.toList).length≤(aT A).attach.length:=List.length_filter_le _ _;rw[List.length_attach,lQ]at h2;omega
 clear acP acf hb1 hb2 hP1 hW1 t1;refine wpIn_rangeFunc_ownG rfl (by omega) (gf:=78) (lb:= #[.pointer (some ⟨B1,0,none⟩), .pointer (some ⟨B2,0,none⟩)]) rfl trivial (enters_of Tryz.func78 (by kernel_rfl) rfl)
  Xv.out (fun h k=>VQ h k) (fun W l o o' h1 h2 h3 h4=>ZP (w:=W1) (by omega) W l o o' h1 h2 h3 h4) (Below.refl _ _) (fun _=>rfl)
  (VR w A) (fun _ _ _=>False) ?own (fun _ _ _ _ _ hs _ _=>hs) HI.out
  (fun x=>{tmps:= #[.slice none 0 0, .func (.func 78) #[] #[.pointer (some ⟨B1,0,none⟩), .pointer (some ⟨B2,0,none⟩)], .pointer (some ⟨w.heap.size,0,none⟩),undef, .slice none 0 0,encStr x.1, .func (.func 78) #[] #[.pointer (some ⟨B1,0,none⟩), .pointer (some ⟨B2,0,none⟩)],encStr x.1,undef,undef,undef,undef,undef],defers:=[]}) ?assign ?body ?done ?stop
 case own=>
  rintro pre X Y row ⟨v,hv,hr,ht⟩ hg Pe;have t:Turn row.toList X Y:=(Turn.refl _ _).grown hg (by intro k hk;exact .inl (by simp[hk]));refine⟨v,t.heap hv (fun e=>?_),uM hr hg (fun r e=>(Pe r e).2),ht.trans t (fun k hk=> .inr ?_)⟩
  ·obtain⟨o,ho,hw⟩:=(Pe _ (by simpa using e)).2
   rw[hv]at ho;cases ho;cases hw
  ·have:=(Pe k (by simpa using hk)).1
   omega
 case assign=>
  intro l x W K hK;gi_wp2
  exact hK
 case body=>
  rintro l pre x W ⟨v,hv,hr,ht⟩ aah;obtain⟨i0,hi,hz0,hz1,hz2⟩:=info_parts Tryz.ZQ;have cb:W.cell? ⟨w.heap.size,0,none⟩=some v:=by rw[cell_of hv];rfl
  have hle:=ht.size;have hvl:=lt_of_heap hv;have HV:Hid (W.heap[w.heap.size]? =some (.cells #[v] 77 (0,0))):=hv
  have HT:Hid (Turn [] w W):=ht;have abV:=zl hr hv (by decide);have HS:Hid (v.ownBlock≠some w.heap.size):=abV;clear hv ht abV;gi_wp2_with (first
   |(gi_at_builtin;refine wpListIn_append_own_at _ rfl _ _ 77 rfl w.heap.size 9 i0 (.string ⟨#[]⟩) 1 16 Tryz.underlying77 hi hz0 hz1 hz2 rfl (by decide) _ _ _ rfl (hr.alloc _) ⟨W.heap.size,0,none⟩ 1 1 [encStr x.1] rfl rfl (cell_one_new _ _ _) (by simp[Value.oneCell',encStr]) (by simp only[maxLen];omega) (by omega) (by simp;omega) ?_;intro v' w3 adE hg3 hnil3 hob3;obtain⟨a3,n3,c3,rfl⟩:=EJ adE)
   |gi_in)
  all_goals
   have HB3:Hid (w3.heap[w.heap.size]? =some (.cells #[v] 77 (0,0))):=Mc HV.out HS.out hg3
   have cb3:w3.cell? ⟨w.heap.size,0,none⟩=some v:=by rw[cell_of HB3.out];rfl
   have ff3:w3.frozen? ⟨w.heap.size,0,none⟩=false:=au HB3.out 0;have HR:Hid (W.ownsRow w.heap.size 9 1 v pre.length (pre.map (fun x=>encStr x.1))):=hr;have HG3:Hid ((W.alloc (.cells #[encStr x.1] 9)).grownBy w3 v.ownBlock):=hg3;have HO:Hid (w3.ownsRow w.heap.size 9 1 (.slice a3 n3 c3) (pre.length+1) (pre.map (fun x=>encStr x.1)++[encStr x.1])):=adE;have HOB:Hid ((Value.slice a3 n3 c3).ownBlock=v.ownBlock∨(Value.slice a3 n3 c3).ownBlock=some (W.alloc (.cells #[encStr x.1] 9)).heap.size):=hob3;clear hr adE hg3 hnil3 hob3;first
    |(exfalso;have e:w3.frozen? ⟨w.heap.size,0,none⟩=true:=(by assumption);rw[ff3]at e;cases e;done)
    |(exfalso;have e:w3.cell? ⟨w.heap.size,0,none⟩=none:=(by assumption);rw[cb3]at e;cases e;done)
    |skip
  have t3:Turn v.ownBlock.toList W w3:=((Turn.refl _ W).alloc _).grown HG3.out (by intro k hk;exact .inl (by simp[hk]));have t4:Turn (w.heap.size::v.ownBlock.toList) W (w3.setCell ⟨w.heap.size,0,none⟩ (.slice a3 n3 c3)):=(t3.mono (by intro k hk;exact .inl (by simp only[List.mem_cons];exact .inr hk))).setCell (by simp) _;have ail:(w3.setCell ⟨w.heap.size,0,none⟩ (.slice a3 n3 c3)).heap[w.heap.size]? =some (.cells #[.slice a3 n3 c3] 77 (0,0)):=by rw[heap_set HB3.out];simp
  refine⟨⟨t4.size,fun k o hB hk ho=>t4.heap hk (fun e=>?_)⟩,⟨t4.size,fun k cs t fr hk hn ho=>t4.heap hk (fun e=>?_),?_⟩, .slice a3 n3 c3,ail,?_,HT.out.trans t4 (fun k hk=>?_)⟩
  ·simp only[List.mem_cons,Option.mem_toList]at e
   rcases e with rfl|e
   ·omega
   ·obtain⟨_,cur,hc⟩:=uN HR.out e
    rw[hk]at hc;cases hc;cases ho
  ·simp only[List.mem_cons,Option.mem_toList]at e
   rcases e with rfl|e
   ·exact hn rfl
   ·rw[uz HV.out]at ho
    exact ho e
  ·rw[uz ail,uz HV.out]
   rcases HOB.out with h1|h1
   ·exact .inl h1
   ·exact .inr ⟨_,h1,by simp⟩
  ·have hq:=HO.out.kept (((Turn.refl [w.heap.size] w3).setCell (p:=⟨w.heap.size,0,none⟩) (by simp) (.slice a3 n3 c3)).grownBy (k:=w.heap.size) (by simp)) (.inr (zl HO.out HB3.out (by decide)))
   simpa using hq
  ·simp only[List.mem_cons,Option.mem_toList]at hk
   rcases hk with rfl|hk
   ·exact .inr (Nat.le_refl _)
   ·exact .inr (uN HR.out hk).1
 case done=>
  rintro D xs W hD rfl ⟨v,hv,hr,ht⟩ hK;have cb:W.cell? ⟨w.heap.size,0,none⟩=some v:=by rw[cell_of hv];rfl
  gi_wp2
  refine⟨by simp, .inl ⟨_,_,rfl,run_takeDeferred hK,?_⟩⟩;have tD:Turn [D] W (W.putObj D (.deferred none)):=⟨rfl,rfl,rfl,by simp,fun k _ hn=>World.putObj_heap_other (by simpa using hn)⟩;refine⟨v,?_,v,rfl,uM hr (tD.grownBy (k:=D) (by simp)) (fun r e=>by cases e;exact⟨_,hK,rfl⟩),ht.trans tD (fun k hk=>?_)⟩
  ·simp[results,Tryz.f127,go_sem]
  ·simp only[List.mem_singleton]at hk
   exact .inr (by omega)
 case stop=>
  rintro D c pre W hD _ h _;exact h.elim
theorem JL(h:Parts w base d F A aI ms)(s:ByteArray)(hs:s.size≤maxLen)(B1 B2:Nat)(hB1:w.heap[B1]? =some (.cells #[.pointer (some ⟨d,0,none⟩)] 24 (0,0))) (hB2:w.heap[B2]? =some (.cells #[.string s] 9 (0,0))):
 Calls Tryz.prog 96 #[.func (.func 78) #[] #[.pointer (some ⟨B1,0,none⟩), .pointer (some ⟨B2,0,none⟩)]] w fun e w'=>
  ∃v,e= .returned v∧w'.ownsRow w.heap.size 9 1 v (cZ A s.data.toList).length ((cZ A s.data.toList).map (fun x=>encStr x.1))∧Turn [] w w':=by
 have HC:Hid (Calls Tryz.prog 127 #[.slice none 0 0, .func (.func 78) #[] #[.pointer (some ⟨B1,0,none⟩), .pointer (some ⟨B2,0,none⟩)]] w fun e w'=>
  ∃v,e= .returned v∧w'.ownsRow w.heap.size 9 1 v (cZ A s.data.toList).length ((cZ A s.data.toList).map (fun x=>encStr x.1))∧Turn [] w w'):=EK h s hs B1 B2 hB1 hB2
 clear h hB1 hB2;go_enter Tryz.func96,Tryz.ntmps96
 go_wp2_with fail
 refine HC.out.mono ?_;rintro e w' ⟨v,rfl,hr,ht⟩;go_wp2
 go_ret
 exact⟨v,rfl,hr,ht⟩
theorem JM(h:Parts w base d F A aI ms)(s:ByteArray)(hs:s.size≤maxLen):
 Calls Tryz.prog 62 #[.pointer (some ⟨d,0,none⟩), .string s] w fun e w'=>
  ∃v,e= .returned v∧w'.ownsRow w.heap.size 9 1 v (dN A s.data.toList).length ((dN A s.data.toList).map encStr)∧Turn [] w w':=by
 have H:Hid (Parts w base d F A aI ms):=h;clear h;go_enter Tryz.func62,Tryz.ntmps62
 go_wp2_with fail
 refine(callsIn_wide.1 (names_in d s w)).mono ?_;rintro e w' ⟨rfl,rfl⟩;go_wp2_with fail
 have t2:Turn [] w ((w.alloc (.cells #[.pointer (some ⟨d,0,none⟩)] 24)).alloc (.cells #[.string s] 9)):=((Turn.refl [] w).alloc _).alloc _;have e1:((w.alloc (.cells #[.pointer (some ⟨d,0,none⟩)] 24)).alloc (.cells #[.string s] 9)).heap[w.heap.size]? =some (.cells #[.pointer (some ⟨d,0,none⟩)] 24 (0,0)):=by
  rw[Below.heap_alloc _ _ _ (by simp)];exact ai w _
 have e2:((w.alloc (.cells #[.pointer (some ⟨d,0,none⟩)] 24)).alloc (.cells #[.string s] 9)).heap[w.heap.size+1]? =some (.cells #[.string s] 9 (0,0)):=by
  have:=ai (w.alloc (.cells #[.pointer (some ⟨d,0,none⟩)] 24)) (.cells #[.string s] 9);rwa [World.size_alloc]at this
 refine(JL (H.out.kept t2 (by simp)) s hs w.heap.size (w.heap.size+1) e1 e2).mono ?_;rintro e w' ⟨v,rfl,hr,ht⟩;go_wp2
 go_ret
 refine⟨v,rfl,?_,t2.trans ht (by simp)⟩;rw[←zf,List.map_map,List.length_map];exact⟨hr.1,hr.2.imp id (fun⟨g,cap,cur,h1,h2,h3⟩=>⟨g,cap,cur,h1,by simp at h2;omega,h3⟩)⟩
end
end Dk
end
section
open Go.RowKit Go.Maps
set_option maxRecDepth 100000
set_option linter.unusedSimpArgs false
set_option linter.unusedVariables false
attribute [local go_sem] Oper.semAt_some
namespace Lg
theorem JO(p:Option Addr)(cap:Nat)(w:World):Calls Tryz.prog 128 #[.slice p 0 cap, .int .i64 0, .int .i64 0] w fun e w'=>e= .returned (.tuple #[])∧Turn [] w w':=by
 go_enter Tryz.func128,Tryz.ntmps128
 go_wp2
 refine wp_loop_rounds 1 ?_;rw[rounds_succ];go_wp2
 go_end0
 exact⟨rfl,Turn.refl _ _⟩
theorem Td(p:Option Addr)(cap:Nat)(k:Int)(w:World):Calls Tryz.prog 97 #[.slice p 0 cap, .int .i64 0, .int .i64 0, .int .i64 k] w fun e w'=>e= .returned (.tuple #[])∧Turn [] w w':=by
 go_enter Tryz.func97,Tryz.ntmps97
 go_wp2
 refine wp_loop_rounds 1 ?_;rw[rounds_succ];go_wp2_with fail
 refine(JO p cap _).mono ?_;rintro e w' ⟨rfl,ht⟩;go_wp2
 refine bodyPost_ret (results_none rfl _ _ _) rfl ?_;exact⟨rfl,ht⟩
theorem U6(w:World):Calls Tryz.prog 138 #[.int .u64 0] w fun e w'=>e= .returned (.int .i64 0)∧Turn [] w w':=by
 go_enter Tryz.func138,Tryz.ntmps138
 go_wp2
 go_ret
 exact⟨by kernel_rfl,Turn.refl _ _⟩
theorem ZR(w:World):Calls Tryz.prog 98 #[.int .u64 0] w fun e w'=>e= .returned (.int .i64 0)∧Turn [] w w':=by
 go_enter Tryz.func98,Tryz.ntmps98
 go_wp2_with fail
 refine(U6 _).mono ?_;rintro e w' ⟨rfl,ht⟩;go_wp2
 go_ret
 exact⟨rfl,ht⟩
theorem PV(p:Option Addr)(cap:Nat)(w:World):Calls Tryz.prog 63 #[.slice p 0 cap] w fun e w'=>e= .returned (.tuple #[])∧Turn [] w w':=by
 go_enter Tryz.func63,Tryz.ntmps63
 go_wp2_with fail
 refine(ZR _).mono ?_;rintro e w' ⟨rfl,ht⟩;go_wp2_with fail
 refine(Td p cap _ _).mono ?_;rintro e w' ⟨rfl,ht2⟩;go_wp2
 go_end0
 exact⟨rfl,ht.same ht2⟩
end Lg
end
section
open Go.RowKit Go.Maps
set_option maxRecDepth 100000
set_option linter.unusedSimpArgs false
set_option linter.unusedVariables false
attribute [local go_sem] Oper.semAt_some
open Dk (DA aj Parts dA aC bQ)
open Sg (aS aA dV Both Came ae flat Chain)
namespace Lg
def aX:ByteArray:=⟨#[112]⟩
theorem oU(n:Nat)(hn:n≤1099511627776):Dk.nameB (Sn.nameB aX n)=true:=by
 have hd:∀c∈Sn.pad (Lib.decDigits n),Dk.Kq c=true:=by
  intro c hc;have h:=Sn.Ff n c hc;unfold Dk.Kq Dk.nb;rw[decide_eq_true_eq];omega
 have hl:=Sn.oG hn;have hsz:(Sn.nameB aX n).size=(Sn.iF [112] n).length:=by rw[Lib.size_eq];rfl
 have aah:(Sn.iF [112] n).length≤40∧1≤(Sn.iF [112] n).length:=by
  unfold Sn.iF Sn.pad;simp;omega
 unfold Dk.nameB;rw[hsz];have ha:Dk.allB Dk.Kq (Sn.nameB aX n)=true:=by
  unfold Dk.allB;show(Sn.iF [112] n).all Dk.Kq=true;rw[List.all_eq_true];intro c hc;unfold Sn.iF at hc;simp only[List.mem_append,List.mem_cons,List.mem_nil_iff,or_false]at hc;rcases hc with((rfl|rfl)|hc)|hc
  ·decide
  ·decide
  ·exact hd c hc
  ·rcases hc with rfl|rfl|rfl|rfl<;>decide
 rw[ha];simp[aah]
theorem GInv.first(room st:Nat)(hs:st≤1099511627776):((DA.empty room).make (Sn.nameB aX st)).1=0∧(((DA.empty room).make (Sn.nameB aX st)).2.sync (Sn.nameB aX st).data.toList).1=0∧
 GInv (((DA.empty room).make (Sn.nameB aX st)).2.sync (Sn.nameB aX st).data.toList).2 room aX st st [] (st,[]):=by
 have h0:bK (DA.empty room) room aX []:=⟨rfl,rfl,rfl,by simp,by simp⟩;obtain⟨h1,h2⟩:=h0.make hs (by simp) (oU st hs) (by simp);obtain⟨h3,h4⟩:=bK.sync (ss0:=[]) (m:=(st,[])) h2;exact⟨h1,h3,⟨h4,by simp[Chain],by simp[af,Chain],by simp[ae],by simp[af],by simp,Nat.le_refl _,Nat.le_refl _,by simp⟩⟩
theorem Md(w:World)(base d:Nat)(F:List Nat)(A:DA)(lb:Nat)(gv:Value)(dir:ByteArray)(v:LV)(ms:List SM)(h:az w base d F A lb gv dir v ms)(gG:dir.size≤1000)(hn:Dk.dN A (dir++⟨#[47]⟩:ByteArray).data.toList=[]):
 Calls Tryz.prog 36 #[.pointer (some ⟨lb,0,none⟩)] w fun e w'=>∃a c,e= .returned (.slice a 0 c)∧Turn [] w w':=by
 have H:=hide h;have HN:=hide hn;clear h hn;go_enter Tryz.func36,Tryz.ntmps36
 go_wp2
 refine gU 9 [] (by kernel_rfl) rfl ?_;apply Lo.r0 1 rfl 0 (by intro u;conv=>lhs;whnf) rfl
 ·intro a w1 hR e0 K hK
  go_simp
  exact hK _ rfl
 apply Lo.r1 2 rfl 10 0 (fun _=>rfl) rfl (by kernel_rfl)
 ·intro a w1 hR e10 K hK
  go_simp
  exact hK _ rfl
 apply Lo.r1 3 rfl 11 1 (fun _=>rfl) rfl (by kernel_rfl)
 ·intro a w1 hR e11 K hK
  go_simp
  exact hK _ rfl
 apply Lo.r1 4 rfl 12 2 (fun _=>rfl) rfl (by kernel_rfl)
 ·intro a w1 hR e12 K hK
  have hL:=H.out.still hR.dr;have c0:=hL.c0;have z1:=lt_of_heap hL.box;go_simp
  exact hK _ rfl
 apply Lo.r0 5 rfl 0 (by intro u;conv=>lhs;whnf) rfl
 ·intro a w1 hR e0 K hK
  go_simp
  exact hK _ rfl
 apply Lo.r1 6 rfl 14 4 (fun _=>rfl) rfl (by kernel_rfl)
 ·intro a w1 hR e14 K hK
  go_simp
  exact hK _ rfl
 apply Lo.r1 7 rfl 15 5 (fun _=>rfl) rfl (by kernel_rfl)
 ·intro a w1 hR e15 K hK
  go_simp
  exact hK _ rfl
 apply Lo.r1 8 rfl 16 6 (fun _=>rfl) rfl (by kernel_rfl)
 ·intro a w1 hR e16 K hK
  have hL:=H.out.still hR.dr;have c1:=hL.c1;have z1:=lt_of_heap hL.box;go_simp
  exact hK _ rfl
 refine Lo.df 9 rfl rfl [7] (.string (dir++⟨#[47]⟩)) (by kernel_rfl) (fun u w1 hR hF=>?_) (Turn.refl _) ?_
 ·obtain⟨h7, -⟩:=hF
  refine⟨rfl,fun a ha K hK=>?_⟩;have e17:=(ha 17).trans h7;clear ha h7;have hsz:¬(9223372036854775807<dir.size+1):=by omega
  go_simp
  exact hK _ rfl
 refine Lo.done [3,8] (fun u w1 bI hSd hF=>?_);clear hSd;obtain⟨f3,f8, -⟩:=hF;have d3:u 3=_:=f3;have d8:u 8=_:=f8;clear f3 f8;simp only[List.take_succ_cons,List.take_zero,List.drop_succ_cons,List.drop_zero,ax,Act.put,List.setIfInBounds_toArray,List.set_cons_succ,List.set_cons_zero,Nat.zero_add,Nat.reduceAdd,d3,d8];have HT:=hide bI.dr;clear d3 d8 bI;obtain⟨aI,Zg,hp⟩:=H.out.disk.kept HT.out (by simp);have hsz:(dir++⟨#[47]⟩:ByteArray).size≤maxLen:=by
  rw[show(dir++⟨#[47]⟩:ByteArray).size=dir.size+1 from ByteArray.size_append];simp only[maxLen];omega
 have ES:=Dk.JM hp (dir++⟨#[47]⟩:ByteArray) hsz;rw[HN.out]at ES;have ZT:=hide ES;clear ES hp hsz;go_wp2_with fail
 refine ZT.out.mono ?_;rintro e w2 ⟨v1,rfl,hr,ht1⟩;have hv1:∃a c,v1= .slice a 0 c:=by
  rcases hr.2 with⟨rfl, -⟩|⟨g,cap,cur,rfl, -⟩
  ·exact⟨_,_,rfl⟩
  ·exact⟨_,_,rfl⟩
 obtain⟨a1,c1,rfl⟩:=hv1;have HT1:=hide (HT.out.same ht1);clear hr ht1 ZT;go_wp2
 refine wp_loop_rounds 1 ?_;rw[rounds_succ];go_wp2_with fail
 refine(PV none 0 _).mono ?_;rintro e w3 ⟨rfl,ht3⟩;have HT3:=hide (HT1.out.same ht3);clear ht3;go_wp2
 refine wp_loop_rounds 1 ?_;rw[rounds_succ];go_wp2
 go_ret
 exact⟨_,_,rfl,HT3.out⟩
theorem PW(w:World)(base d:Nat)(F:List Nat)(A:DA)(lb:Nat)(gv:Value)(dir:ByteArray)(v:LV)(ms:List SM)(h:az w base d F A lb gv dir v ms)(gG:dir.size≤1000)(hn:Dk.dN A (dir++⟨#[47]⟩:ByteArray).data.toList=[]):
 Calls Tryz.prog 15 #[.pointer (some ⟨lb,0,none⟩)] w fun e w'=>e= .returned .nilIface∧Turn [] w w':=by
 have hf:=Md w base d F A lb gv dir v ms h gG hn;clear h hn;have HF:=hide hf;clear hf;go_enter Tryz.func15,Tryz.ntmps15
 go_wp2_with fail
 refine HF.out.mono ?_;rintro e w1 ⟨a,c,rfl,ht⟩;have HT:=hide ht;clear ht HF;go_wp2
 refine wp_loop_rounds 1 ?_;rw[rounds_succ];go_wp2
 go_ret
 exact⟨rfl,HT.out⟩
theorem zq(room:Nat)(bg:List UInt8):Dk.dN (DA.empty room) bg=[]:=by
 have h:Dk.aT (DA.empty room)=[]:=by
  have:=Dk.lQ (DA.empty room);exact List.eq_nil_of_length_eq_zero this
 unfold Dk.dN;rw[h];rfl
end Lg
end
end Go.Proofs.YtficbckncieabaaGreatDoor
section
open Go.Shelf
namespace Go.Proofs
def Tryz.JP:Go.Shelf.Ren:=⟨fun|189=>63|125=>98|257=>97|128=>137|129=>138|294=>128|295=>129|296=>130|297=>131|298=>132|299=>133|216=>134|300=>135|301=>136|328=>163|329=>164|330=>165|331=>166|332=>167|215=>168|343=>190|n=>n,fun|28=>36|3=>3|46=>44|0=>0|51=>180|53=>195|4=>4|183=>187|182=>186|131=>191|5=>5|9=>9|218=>219|222=>223|228=>245|229=>246|n=>n,fun|n=>n⟩
theorem Tryz.lays189:Go.Proofs.Lays.n189 Tryz.prog Tryz.JP:={
 mixed:=by kernel_rfl
 f125:=Tryz.func98.trans (congrArg some (by kernel_rfl))
 f128:=Tryz.func137.trans (congrArg some (by kernel_rfl))
 f129:=Tryz.func138.trans (congrArg some (by kernel_rfl))
 f189:=Tryz.func63.trans (congrArg some (by kernel_rfl))
 f215:=Tryz.func168.trans (congrArg some (by kernel_rfl))
 f216:=Tryz.func134.trans (congrArg some (by kernel_rfl))
 f257:=Tryz.func97.trans (congrArg some (by kernel_rfl))
 f294:=Tryz.func128.trans (congrArg some (by kernel_rfl))
 f295:=Tryz.func129.trans (congrArg some (by kernel_rfl))
 f296:=Tryz.func130.trans (congrArg some (by kernel_rfl))
 f297:=Tryz.func131.trans (congrArg some (by kernel_rfl))
 f298:=Tryz.func132.trans (congrArg some (by kernel_rfl))
 f299:=Tryz.func133.trans (congrArg some (by kernel_rfl))
 f300:=Tryz.func135.trans (congrArg some (by kernel_rfl))
 f301:=Tryz.func136.trans (congrArg some (by kernel_rfl))
 f328:=Tryz.func163.trans (congrArg some (by kernel_rfl))
 f329:=Tryz.func164.trans (congrArg some (by kernel_rfl))
 f330:=Tryz.func165.trans (congrArg some (by kernel_rfl))
 f331:=Tryz.func166.trans (congrArg some (by kernel_rfl))
 f332:=Tryz.func167.trans (congrArg some (by kernel_rfl))
 f343:=Tryz.func190.trans (congrArg some (by kernel_rfl))
 t0:=Tryz.underlying0
 a0:=Tryz.isAgg0
 z0:=Tryz.sizeOf0
 v0:=Tryz.zeroValue0
 t3:=Tryz.underlying3
 a3:=Tryz.isAgg3
 z3:=Tryz.sizeOf3
 v3:=Tryz.zeroValue3
 t4:=Tryz.underlying4
 a4:=Tryz.isAgg4
 z4:=Tryz.sizeOf4
 v4:=Tryz.zeroValue4
 t5:=Tryz.underlying5
 a5:=Tryz.isAgg5
 z5:=Tryz.sizeOf5
 v5:=Tryz.zeroValue5
 t9:=Tryz.underlying9
 a9:=Tryz.isAgg9
 z9:=Tryz.sizeOf9
 v9:=Tryz.zeroValue9
 t28:=Tryz.underlying36
 a28:=Tryz.isAgg36
 z28:=Tryz.sizeOf36
 v28:=Tryz.zeroValue36
 t46:=Tryz.underlying44
 a46:=Tryz.isAgg44
 z46:=Tryz.sizeOf44
 v46:=Tryz.zeroValue44
 t51:=Tryz.underlying180
 a51:=Tryz.isAgg180
 z51:=Tryz.sizeOf180
 v51:=Tryz.zeroValue180
 t53:=Tryz.underlying195
 a53:=Tryz.isAgg195
 z53:=Tryz.sizeOf195
 v53:=Tryz.zeroValue195
 t131:=Tryz.underlying191
 a131:=Tryz.isAgg191
 z131:=Tryz.sizeOf191
 v131:=Tryz.zeroValue191
 t182:=Tryz.underlying186
 a182:=Tryz.isAgg186
 z182:=Tryz.sizeOf186
 v182:=Tryz.zeroValue186
 t183:=Tryz.underlying187
 a183:=Tryz.isAgg187
 z183:=Tryz.sizeOf187
 v183:=Tryz.zeroValue187
 t218:=Tryz.underlying219
 a218:=Tryz.isAgg219
 z218:=Tryz.sizeOf219
 v218:=Tryz.zeroValue219
 t222:=Tryz.underlying223
 a222:=Tryz.isAgg223
 z222:=Tryz.sizeOf223
 v222:=Tryz.zeroValue223
 t228:=Tryz.underlying245
 a228:=Tryz.isAgg245
 z228:=Tryz.sizeOf245
 v228:=Tryz.zeroValue245
 t229:=Tryz.underlying246
 a229:=Tryz.isAgg246
 z229:=Tryz.sizeOf246
 v229:=Tryz.zeroValue246}
open Go.Sort Go.RowKit in
theorem Tryz.slices_Sort_int(blk off cap:Nat)(zs:List Int)(w:World)(hH:Holds (Value.int .i64) w blk off zs.toArray)(aeT:blk<w.heap.size)(hsz:zs.length<4611686018427387904):
 Calls Tryz.prog 63 #[.slice (some ⟨blk,off,none⟩) zs.length cap] w fun e w'=>
  e= .returned (.tuple #[])∧∃n os,w'=grow (putRow (Value.int .i64) (Sort.ahead w n) blk off (zs.mergeSort fun x y=>decide (x≤y)).toArray) os:=Any.slices_Sort_int Tryz.lays189 blk off cap zs w hH aeT hsz
open Go.RowKit Go.Sort in
theorem Tryz.slices_Sort_int_none(p:Option Addr)(cap:Nat)(w:World):
 Calls Tryz.prog 63 #[.slice p 0 cap] w fun e w'=>e= .returned (.tuple #[])∧w'=w:=Any.slices_Sort_int_none Tryz.lays189 p cap w
end Go.Proofs
end
namespace Go.Proofs.YtficbckncieabaaGreatDoor
section
open Go.RowKit Go.Maps Go.Sort
set_option maxRecDepth 100000
set_option linter.unusedSimpArgs false
set_option linter.unusedVariables false
attribute [local go_sem] Oper.semAt_some
open Dk (DA aj Parts dA aC bQ)
open Sg (aS aA dV Both Came ae flat Chain)
namespace Lg
theorem Hr:∀bs:List Nat,bs.flatMap uK=(bs.map (fun n:Nat=>(n:Int))).map (Value.int .i64)
 |[]=>rfl
 |x::r=>by
  have h:=Hr r;rw[List.flatMap_cons,h];rfl
theorem PX(w:World)(base:Nat)(v:Value)(bs:List Nat)(h:aO 3 1 uK w base v bs)(hl:bs.length≤1000000):
 Calls Tryz.prog 63 #[v] w fun e w'=>e= .returned (.tuple #[])∧∃cs,cs.Perm bs∧cs.Pairwise (· ≤ ·)∧aO 3 1 uK w' base v cs∧Turn v.ownBlock.toList w w':=by
 rcases h with⟨rfl,rfl⟩|⟨g,cap,cur,rfl,hb,hg,h1,h2,h3,h4⟩
 ·refine(Tryz.slices_Sort_int_none none 0 w).mono ?_
  rintro e w' ⟨rfl,rfl⟩;exact⟨rfl,[],List.Perm.refl _,List.Pairwise.nil, .inl ⟨rfl,rfl⟩,Turn.refl _ _⟩
 ·obtain⟨zs,hz⟩:∃zs:List Int,zs=bs.map (fun n:Nat=>(n:Int)):=⟨_,rfl⟩
  have hzl:zs.length=bs.length:=by rw[hz,List.length_map]
  have hfm:bs.flatMap uK=zs.map (Value.int .i64):=by rw[hz];exact Hr bs
  rw[Nat.mul_one,hfm,←hzl]at h4;have hH:=holds_of_blockI hg h4;have hs:=Tryz.slices_Sort_int g 0 cap zs w hH (lt_of_heap hg) (by omega);rw[hzl]at hs;refine hs.mono ?_;rintro e w' ⟨rfl,n,os,rfl⟩;obtain⟨ts,hts⟩:∃ts,ts=zs.mergeSort (fun x y=>decide (x≤y)):=⟨_,rfl⟩;rw[←hts];have hp:ts.Perm zs:=by rw[hts];exact List.mergeSort_perm _ _
  have hpw:ts.Pairwise (· ≤ ·):=by
   have:=List.pairwise_mergeSort (le:=fun x y:Int=>decide (x≤y)) (by intro a b c;simp;omega) (by intro a b;simp;omega) zs;rw[←hts]at this;exact this.imp (by intro a b h;simpa using h)
  have hnn:∀t∈ts,0≤t:=fun t ht=>by
   have:=hp.mem_iff.1 ht;rw[hz]at this;obtain⟨n, -,rfl⟩:=List.mem_map.1 this;omega
  have afx:ts=(ts.map Int.toNat).map (fun n:Nat=>(n:Int)):=by
   rw[List.map_map];conv=>lhs;rw[←List.map_id ts]
   apply List.map_congr_left;intro t ht;have:=hnn t ht;simp only[Function.comp,id];omega
  have htl:ts.length=bs.length:=by rw[hp.length_eq,hzl]
  refine⟨rfl,ts.map Int.toNat,?_,?_,?_,?_⟩
  ·have h5:=hp.map Int.toNat
   have h6:zs.map Int.toNat=bs:=by
    rw[hz,List.map_map];conv=>rhs;rw[←List.map_id bs]
    apply List.map_congr_left;intro x _;simp
   rw[h6]at h5;exact h5
  ·rw[List.pairwise_map]
   exact hpw.imp (by intro a b h;omega)
  ·refine .inr ⟨g,cap,_,by rw[List.length_map,htl],hb,heap_sortedI _ hg,by rw[List.length_map,htl];exact h1,by simpa[putCells]using h2,h3,?_⟩
   have h7:=take_putCellsI cur ts (by omega);rw[List.length_map,Nat.mul_one,h7,Hr,←afx]
  ·exact(Turn.refl _ _).grown (grownBy_sortedI (w:=w) (g:=g) (n:=n) (os:=os) ts.toArray) (by intro k hk;cases hk;exact .inl (by simp[Value.ownBlock]))
def PY(x:List UInt8):List Value:=[.string ⟨x.toArray⟩]
theorem wZ:∀x,(PY x).length=1:=fun _=>rfl
theorem Ob:∀xs:List (List UInt8),xs.flatMap PY=xs.map encStr
 |[]=>rfl
 |x::r=>by
  have h:=Ob r;rw[List.flatMap_cons,h];rfl
theorem Ht(dir:ByteArray)(n:Nat):bJ dir n=Sn.iF dir.data.toList n:=by simp[bJ,Sn.nameB]
theorem PZ{w:World}{base:Nat}{v:Value}{n:Nat}{xs:List (List UInt8)}(h:w.ownsRow base 9 1 v n (xs.map encStr)):aO 9 1 PY w base v xs∧n=xs.length:=by
 have hl:=h.1;rw[List.length_map,Nat.mul_one]at hl;subst hl;have hfm:=Ob xs;refine⟨?_,rfl⟩;rcases h.2 with⟨h1,h2⟩|⟨g,cap,cur,h1,h2,h3,h4,h5,h6,h7⟩
 ·exact .inl ⟨h1,List.eq_nil_of_length_eq_zero h2⟩
 ·exact .inr ⟨g,cap,cur,h1,h2,h3,h4,by omega,h5,by rw[h7,hfm]⟩
open Classical in
noncomputable def lS(dir:ByteArray)(nm:List UInt8):Option Nat:=if h:pI dir nm then some h.choose else none
theorem Eh{dir:ByteArray}{n:Nat}(hn:n≤1099511627776):lS dir (bJ dir n)=some n:=by
 have h:pI dir (bJ dir n):=⟨n,hn,rfl⟩;unfold lS;rw[dif_pos h,fK h.choose_spec.1 hn h.choose_spec.2.symm]
theorem Oc{dir:ByteArray}{nm:List UInt8}(h:¬pI dir nm):lS dir nm=none:=by unfold lS;rw[dif_neg h]
theorem oL{dir:ByteArray}{nm:List UInt8}{n:Nat}(h:lS dir nm=some n):n≤1099511627776∧nm=bJ dir n:=by
 unfold lS at h;split at h
 ·rename_i h1
  obtain rfl:=Option.some.inj h;exact h1.choose_spec
 ·simp at h
theorem x9{dir:ByteArray}{nm:List UInt8}(h:lS dir nm=none):¬pI dir nm:=by
 rintro⟨n,hn,rfl⟩;rw[Eh hn]at h;simp at h
noncomputable def aY(dir:ByteArray)(names:List (List UInt8)):List Nat:=names.filterMap (lS dir)
noncomputable def dU(dir:ByteArray):List (List UInt8)→List Nat→List (List UInt8)
 |[],_=>[]
 |nm::r,cs=>match lS dir nm with
  |none=>nm::dU dir r cs
  |some _=>match cs with
   |[]=>nm::dU dir r []
   |c::cs'=>bJ dir c::dU dir r cs'
theorem zt(dir:ByteArray)(names:List (List UInt8)){k:Nat}(h:k<names.length):aY dir (names.take (k+1))=aY dir (names.take k)++(lS dir names[k]).toList:=by
 unfold aY;rw[List.take_succ_eq_append_getElem h,List.filterMap_append];cases hs:lS dir names[k]<;>simp[List.filterMap_cons,hs]
theorem FU(dir:ByteArray)(names:List (List UInt8)):(aY dir names).length≤names.length:=List.length_filterMap_le _ _
theorem tK(dir:ByteArray)(names:List (List UInt8))(k:Nat):(aY dir (names.take k)).length≤(aY dir names).length:=by
 conv=>rhs;rw[←List.take_append_drop k names]
 unfold aY;rw[List.filterMap_append,List.length_append];omega
theorem vK(dir:ByteArray):∀(names:List (List UInt8)) (cs:List Nat) (x:List UInt8),(aY dir (names++[x])).length≤cs.length→
 dU dir (names++[x]) cs=dU dir names cs++[match lS dir x with|none=>x|some _=>bJ dir (cs.getD (aY dir names).length 0)]
 |[],cs,x,h=>by
  unfold aY at h;cases hs:lS dir x with
  |none=>simp[dU,hs]
  |some n=>
   simp[List.filterMap_cons,hs]at h;cases cs with
   |nil=>simp at h
   |cons c cs'=>simp[dU,hs,aY]
 |nm::r,cs,x,h=>by
  cases hs:lS dir nm with
  |none=>
   have e:aY dir ((nm::r)++[x])=aY dir (r++[x]):=by unfold aY;simp[List.filterMap_cons,hs]
   have e2:aY dir (nm::r)=aY dir r:=by unfold aY;simp[List.filterMap_cons,hs]
   rw[e]at h;have ih:=vK dir r cs x h;simp only[List.cons_append,dU,hs,ih,e2]
  |some n=>
   have e:aY dir ((nm::r)++[x])=n::aY dir (r++[x]):=by unfold aY;simp[List.filterMap_cons,hs]
   have e2:aY dir (nm::r)=n::aY dir r:=by unfold aY;simp[List.filterMap_cons,hs]
   rw[e]at h;cases cs with
   |nil=>simp at h
   |cons c cs'=>
    have ih:=vK dir r cs' x (by simpa using h);simp only[List.cons_append,dU,hs,ih,e2,List.length_cons,List.getD_cons_succ]
theorem qL(dir:ByteArray):∀(names:List (List UInt8)) (cs:List Nat),(dU dir names cs).length=names.length
 |[],_=>rfl
 |nm::r,cs=>by
  unfold dU;cases lS dir nm with
  |none=>simp[qL dir r cs]
  |some n=>cases cs with
   |nil=>simp[qL dir r []]
   |cons c cs'=>simp[qL dir r cs']
theorem Ei(dir:ByteArray)(nm:List UInt8)(hd:dir.size≤1000)(hl:nm.length≤1000)(w:World)(hv:Sn.qA w):
 Calls Tryz.prog 37 #[.string dir, .string ⟨nm.toArray⟩] w fun e w'=>e= .returned (.int .i64 (match lS dir nm with|none=> -1|some n=>(n:Int)))∧Turn [] w w':=by
 cases hs:lS dir nm with
 |none=>
  refine(Sn.UE dir ⟨nm.toArray⟩ hd (by show nm.toArray.size≤1000;simpa using hl) w hv (fun⟨n,hn,e⟩=>x9 hs ⟨n,hn,by rw[Ht];simpa using e⟩)).mono ?_;rintro e w' ⟨rfl,hb⟩;exact⟨rfl,Turn.of_below hb []⟩
 |some n=>
  obtain⟨hn,e⟩:=oL hs;refine(Sn.RF dir ⟨nm.toArray⟩ hd (by show nm.toArray.size≤1000;simpa using hl) w hv n hn (by rw[←Ht];simpa using e)).mono ?_;rintro e w' ⟨rfl,hb⟩;exact⟨rfl,Turn.of_below hb []⟩
end Lg
end
section
open Go.RowKit Go.Maps
set_option maxRecDepth 100000
set_option linter.unusedSimpArgs false
set_option linter.unusedVariables false
attribute [local go_sem] Oper.semAt_some
open Dk (DA aj Parts dA aC bQ)
open Sg (aS aA dV Both Came ae flat Chain)
namespace Lg
theorem st_name(dir:ByteArray)(n:Nat):PY (bJ dir n)=[.string (Sn.nameB dir n)]:=by
 unfold PY bJ;congr 2
theorem FV{w:World}{base d:Nat}{F:List Nat}{A:DA}(h:aj w base d F A)(bg:List UInt8):(Dk.dN A bg).length≤200∧∀x∈Dk.dN A bg,x.length≤40:=by
 have hg:=h.good;refine⟨?_,fun x hx=>?_⟩
 ·unfold Dk.dN
  have h1:=List.length_filter_le (Dk.kR bg) (Dk.aT A);rw[Dk.lQ]at h1;exact Nat.le_trans h1 hg.count
 ·unfold Dk.dN at hx
  exact Dk.pW hg x (List.mem_filter.1 hx).1
theorem P5(w:World)(base d:Nat)(F:List Nat)(A:DA)(lb:Nat)(gv:Value)(dir:ByteArray)(v:LV)(ms:List SM)(h:az w base d F A lb gv dir v ms)(gG:dir.size≤900)(hv:∀Z,Turn [] w Z→Sn.qA Z)(NS:List (List UInt8))(hns:Dk.dN A (dir++⟨#[47]⟩:ByteArray).data.toList=NS):
 Calls Tryz.prog 36 #[.pointer (some ⟨lb,0,none⟩)] w fun e w'=>∃ov cs,e= .returned ov∧cs.Perm (aY dir NS)∧cs.Pairwise (· ≤ ·)∧aO 9 1 PY w' w.heap.size ov (dU dir NS cs)∧Turn [] w w':=by
 obtain⟨hnl,hsh⟩:=FV h.disk (dir++⟨#[47]⟩:ByteArray).data.toList;rw[hns]at hnl hsh;have hmx:maxLen=9223372036854775807:=by simp[maxLen]
 have H:=hide h;have HN:=hide hns;have HV:=hide hv;have HSH:=hide hsh;clear h hns hv hsh;go_enter Tryz.func36,Tryz.ntmps36
 go_wp2
 refine gU 9 [] (by kernel_rfl) rfl ?_;apply Lo.r0 1 rfl 0 (by intro u;conv=>lhs;whnf) rfl
 ·intro a w1 hR e0 K hK
  go_simp
  exact hK _ rfl
 apply Lo.r1 2 rfl 10 0 (fun _=>rfl) rfl (by kernel_rfl)
 ·intro a w1 hR e10 K hK
  go_simp
  exact hK _ rfl
 apply Lo.r1 3 rfl 11 1 (fun _=>rfl) rfl (by kernel_rfl)
 ·intro a w1 hR e11 K hK
  go_simp
  exact hK _ rfl
 apply Lo.r1 4 rfl 12 2 (fun _=>rfl) rfl (by kernel_rfl)
 ·intro a w1 hR e12 K hK
  have hL:=H.out.still hR.dr;have c0:=hL.c0;have z1:=lt_of_heap hL.box;go_simp
  exact hK _ rfl
 apply Lo.r0 5 rfl 0 (by intro u;conv=>lhs;whnf) rfl
 ·intro a w1 hR e0 K hK
  go_simp
  exact hK _ rfl
 apply Lo.r1 6 rfl 14 4 (fun _=>rfl) rfl (by kernel_rfl)
 ·intro a w1 hR e14 K hK
  go_simp
  exact hK _ rfl
 apply Lo.r1 7 rfl 15 5 (fun _=>rfl) rfl (by kernel_rfl)
 ·intro a w1 hR e15 K hK
  go_simp
  exact hK _ rfl
 apply Lo.r1 8 rfl 16 6 (fun _=>rfl) rfl (by kernel_rfl)
 ·intro a w1 hR e16 K hK
  have hL:=H.out.still hR.dr;have c1:=hL.c1;have z1:=lt_of_heap hL.box;go_simp
  exact hK _ rfl
 refine Lo.df 9 rfl rfl [7] (.string (dir++⟨#[47]⟩)) (by kernel_rfl) (fun u w1 hR hF=>?_) (Turn.refl _) ?_
 ·obtain⟨h7, -⟩:=hF
  refine⟨rfl,fun a ha K hK=>?_⟩;have e17:=(ha 17).trans h7;clear ha h7;have hsz:¬(9223372036854775807<dir.size+1):=by omega
  go_simp
  exact hK _ rfl
 refine Lo.done [3,8] (fun u w1 bI hSd hF=>?_);clear hSd;obtain⟨f3,f8, -⟩:=hF;have d3:u 3=_:=f3;have d8:u 8=_:=f8;clear f3 f8;simp only[List.take_succ_cons,List.take_zero,List.drop_succ_cons,List.drop_zero,ax,Act.put,List.setIfInBounds_toArray,List.set_cons_succ,List.set_cons_zero,Nat.zero_add,Nat.reduceAdd,d3,d8];have HT:=hide bI.dr;clear d3 d8 bI;obtain⟨wa,rfl⟩:∃wa,wa=w1:=⟨_,rfl⟩;obtain⟨aI,Zg,hp⟩:=H.out.disk.kept HT.out (by simp);have hsz:(dir++⟨#[47]⟩:ByteArray).size≤maxLen:=by
  rw[show(dir++⟨#[47]⟩:ByteArray).size=dir.size+1 from ByteArray.size_append];simp only[maxLen];omega
 have ES:=Dk.JM hp (dir++⟨#[47]⟩:ByteArray) hsz;rw[HN.out]at ES;have ZT:=hide ES;clear ES hp hsz;go_wp2_with fail
 refine ZT.out.mono ?_;rintro e w2 ⟨v1,rfl,hr,ht1⟩;obtain⟨Pe, -⟩:=PZ hr;have Pe:=Pe.jA (base':=w.heap.size) HT.out.size;obtain⟨a1,c1,rfl,hlc,hcm⟩:=Pe.form;rw[hmx]at hcm;have dI:=hide Pe;have HT1:=hide (HT.out.same ht1);clear Pe hr ht1 ZT HT;go_wp2
 go_loopw [4,22] (fun bv kv wr=>∃k:Nat,k≤NS.length∧kv= .int .i64 k∧aO 3 1 uK wr w2.heap.size bv (aY dir (NS.take k))∧Turn [] w2 wr) (fun _ kv _=>NS.length-(intOf kv).toNat)
 case atStart=>exact⟨0,Nat.zero_le _,rfl, .inl ⟨rfl,rfl⟩,Turn.refl _ _⟩
 case round=>
  obtain⟨k,hk,rfl,hbr,htw⟩:=hrel;have dO:=hide htw;have hbl:=Nat.le_trans (tK dir NS k) (FU dir NS);obtain⟨ba,bc,hbe,GG,GH⟩:=hbr.form;subst hbe;rw[hmx]at GH;have xm:=hide hbr;clear htw hbr;by_cases hlt:k<NS.length
  ·obtain⟨g,cap,e,hc, -⟩:=(dI.out.still dO.out).at wZ (j:=k) hlt
   simp only[Value.slice.injEq,true_and]at e;obtain⟨rfl,rfl⟩:=e;obtain⟨nm,hnm⟩:∃nm,nm=NS[k]:=⟨_,rfl⟩;have agW:nm.length≤1000:=by
    have:=HSH.out nm (by rw[hnm];exact List.getElem_mem _);omega
   have hsn:=zt dir NS hlt;rw[←hnm]at hc hsn;have k0:wr.cell? ⟨g,k,none⟩=some (.string ⟨nm.toArray⟩):=by simpa[PY]using hc 0 (by omega)
   have hL:=H.out.still (HT1.out.same dO.out);have k1:=hL.c1;have z1:=lt_of_heap hL.box;have hba:=Ei dir nm (by omega) agW wr (HV.out wr (HT1.out.same dO.out));have Aa:=hide hba;have xJ:=hide hsn;clear hc hsn hba hL agW hnm;go_wp2_with fail
   refine Aa.out.mono ?_;rintro e w3 ⟨rfl,ht3⟩;have HT3:=hide (dO.out.same ht3);have Xy:=hide (xm.out.still ht3);have ZU:Hid (lS dir nm=lS dir nm):=rfl;clear ht3 Aa xm k0 k1 z1;cases hs:lS dir nm with
   |none=>
    have hsn:=xJ.out;rw[hs,Option.toList_none,List.append_nil]at hsn;have Me:=hide hsn;clear hsn hs ZU xJ;go_wp2
    all_goals refine⟨⟨k+1,by omega,by go_num,by rw[Me.out];exact Xy.out,HT3.out⟩,?_⟩
    all_goals (simp only[intOf];omega)
   |some n=>
    have hsn:=xJ.out;rw[hs,Option.toList_some]at hsn;obtain⟨hn1, -⟩:=oL hs;have Me:=hide hsn;clear hsn hs ZU xJ;have hn0:¬(n:Int)<0:=by omega
    have hal:Turn [] w3 (w3.alloc (.cells #[.int .i64 (n:Int)] 3)):=(Turn.refl [] w3).alloc _;have hws:=HT3.out.size;obtain⟨v7,w7,hr7,aai,ht7,aaq⟩:=GV (w3.alloc (.cells #[.int .i64 (n:Int)] 3)) w2.heap.size _ _ n w3.heap.size (Xy.out.still hal) (ai w3 _) (by omega) (by have:=hal.size;omega);rw[←Me.out]at aai;have HR7:=hide hr7;have lF:=hide aai;have HT7:=hide ((HT3.out.same hal).trans ht7 (fun j hj=> .inr (Xy.out.lt j (by simpa using hj)).1));clear hal hr7 aai ht7 aaq;go_wp2_with (at_builtin;go_must (refine bU rfl rfl rfl rfl HR7.out ?_))
    all_goals refine⟨⟨k+1,by omega,by go_num,lF.out,HT7.out⟩,?_⟩
    all_goals (simp only[intOf];omega)
  ·obtain rfl:k=NS.length:=by omega
   rw[List.take_length]at xm GG⊢;have hso:=PX wr w2.heap.size _ _ xm.out (by have:=FU dir NS;omega);have HSO:=hide hso;clear hso;go_wp2_with fail
   refine HSO.out.mono ?_;rintro e w4 ⟨rfl,cs,hcp,hcw,aio,ht4⟩;have hcl:=hcp.length_eq;have HT4:=hide (dO.out.trans ht4 (fun j hj=> .inr (xm.out.lt j (by simpa using hj)).1));have P6:=hide hcp;have Qv:=hide hcw;have NL:=hide aio;have NQ:=hide hcl;clear hcp hcw aio ht4 HSO hcl xm;have aja:aO 9 1 PY w4 w.heap.size (.slice a1 NS.length c1) (dU dir (NS.take 0) cs++NS.drop 0):=by
    have e:dU dir (NS.take 0) cs++NS.drop 0=NS:=by simp[dU]
    rw[e];exact dI.out.still HT4.out
   have apE:=hide aja;have ajm:=hide (HT1.out.same HT4.out);have HB0:Hid (0<cs.length→∃gb,ba=some ⟨gb,0,none⟩):=fun h0=>by
    obtain⟨g,cap,e, -⟩:=NL.out.at wO (j:=0) h0;simp only[Value.slice.injEq]at e;exact⟨g,e.1⟩
   have aip:aO 3 1 uK w4 w2.heap.size (.slice ba cs.length bc) cs:=by rw[NQ.out];exact NL.out
   have ZV:=hide aip;clear aja aip GG;go_wp2
   go_loopw [4,43] (fun bv kv wr=>∃k i:Nat,k≤NS.length∧kv= .int .i64 k∧i=(aY dir (NS.take k)).length∧(i<cs.length→∃gb,ba=some ⟨gb,0,none⟩∧bv= .slice (some ⟨gb,i,none⟩) (cs.length-i) (bc-i))∧aO 3 1 uK wr w2.heap.size (.slice ba cs.length bc) cs∧aO 9 1 PY wr w.heap.size (.slice a1 NS.length c1) (dU dir (NS.take k) cs++NS.drop k)∧Turn [] w wr) (fun _ kv _=>NS.length-(intOf kv).toNat)
   case atStart=>
    refine⟨0,0,Nat.zero_le _,rfl,by simp[aY],fun h0=>?_,ZV.out,apE.out,ajm.out⟩;obtain⟨gb,hgb⟩:=HB0.out h0;refine⟨gb,hgb,?_⟩;rw[hgb,NQ.out,Nat.sub_zero,Nat.sub_zero]
   case round=>
    obtain⟨k,i,hk,rfl,hi,hbv,hri,hrs,htw⟩:=hrel;have hfl:(dU dir (NS.take k) cs).length=k:=by rw[qL,List.length_take];omega
    have dO:=hide htw;have HRI:=hide hri;have Xl:=hide hrs;have HBV:=hide hbv;have HI:=hide hi;clear htw hri hrs hbv hi;by_cases hlt:k<NS.length
    ·obtain⟨nm,hnm⟩:∃nm,nm=NS[k]:=⟨_,rfl⟩
     have hdr:NS.drop k=nm::NS.drop (k+1):=by rw[hnm];exact List.drop_eq_getElem_cons hlt
     have hll:(dU dir (NS.take k) cs++NS.drop k).length=NS.length:=by rw[List.length_append,hfl,List.length_drop];omega
     have hat:(dU dir (NS.take k) cs++NS.drop k)[k]'(by omega)=nm:=by
      rw[List.getElem_append_right (by omega)];simp only[hfl,Nat.sub_self];rw[List.getElem_drop];simp[hnm]
     obtain⟨g,cap,e,hc,hfz⟩:=Xl.out.at wZ (j:=k) (by omega);rw[hat]at hc;simp only[Value.slice.injEq]at e;obtain⟨rfl, -, -⟩:=e;have k0:wr.cell? ⟨g,k,none⟩=some (.string ⟨nm.toArray⟩):=by simpa[PY]using hc 0 (by omega)
     have agW:nm.length≤1000:=by
      have:=HSH.out nm (by rw[hnm];exact List.getElem_mem _);omega
     have hL:=H.out.still dO.out;have k1:=hL.c1;have z1:=lt_of_heap hL.box;have hba:=Ei dir nm (by omega) agW wr (HV.out wr dO.out);have hsn:=zt dir NS hlt;have hfs:=vK dir (NS.take k) cs nm (by
      rw[hnm,←List.take_succ_eq_append_getElem hlt];have h1:=tK dir NS (k+1);have h2:=NQ.out;omega)
     have htk:NS.take (k+1)=NS.take k++[nm]:=by rw[hnm];exact List.take_succ_eq_append_getElem hlt
     rw[←htk]at hfs;rw[←hnm]at hsn;have als:=tK dir NS (k+1);have Aa:=hide hba;have xJ:=hide hsn;have WU:=hide hfs;have HDR:=hide hdr;have apG:=hide als;have HFZ:=hide hfz;have Yo:=hide hll;clear hc hsn hba hL agW hnm hfs hdr htk hat als hfz hll;go_wp2_with fail
     refine Aa.out.mono ?_;rintro e w3 ⟨rfl,ht3⟩;have HT3:=hide (dO.out.same ht3);have U7:=hide (HRI.out.still ht3);have ZW:=hide (Xl.out.still ht3);clear ht3 Aa HRI Xl k0 k1 z1;cases hs:lS dir nm with
     |none=>
      have hsn:=xJ.out;have hfs:=WU.out;rw[hs,Option.toList_none,List.append_nil]at hsn;rw[hs]at hfs;have e1:dU dir (NS.take (k+1)) cs++NS.drop (k+1)=dU dir (NS.take k) cs++NS.drop k:=by rw[hfs,HDR.out,List.append_assoc];rfl
      have E1:=hide e1;have Me:=hide hsn;clear hsn hfs hs e1 xJ WU;go_wp2
      all_goals refine⟨⟨k+1,i,by omega,by go_num,by rw[Me.out];exact HI.out,HBV.out,U7.out,by rw[E1.out];exact ZW.out,HT3.out⟩,?_⟩
      all_goals (simp only[intOf];omega)
     |some n=>
      have hsn:=xJ.out;have hfs:=WU.out;rw[hs,Option.toList_some]at hsn;rw[hs]at hfs;simp only at hfs;have hil:i<cs.length:=by
       have h1:=apG.out;have h2:=NQ.out;have h3:=HI.out;rw[hsn,List.length_append,List.length_singleton]at h1;omega
      obtain⟨gb,rfl,rfl⟩:=HBV.out hil;obtain⟨hn1, -⟩:=oL hs;obtain⟨g2,cap2,e2,hc2, -⟩:=U7.out.at wO (j:=i) hil;simp only[Value.slice.injEq,Option.some.injEq,Addr.mk.injEq,and_true]at e2;obtain⟨rfl, -,rfl⟩:=e2;obtain⟨x,hx⟩:∃x,x=cs[i]:=⟨_,rfl⟩;have hxm:x∈aY dir NS:=P6.out.mem_iff.1 (by rw[hx];exact List.getElem_mem _);have hxb:x≤1099511627776:=by
       unfold aY at hxm;obtain⟨nm', -,hq⟩:=List.mem_filterMap.1 hxm;exact(oL hq).1
      have hgd:cs.getD (aY dir (NS.take k)).length 0=x:=by rw[←HI.out,List.getD_eq_getElem?_getD,List.getElem?_eq_getElem hil,hx];rfl
      rw[hgd]at hfs;rw[←hx]at hc2;have hcs:∀Z,Turn [] w3 Z→Z.cell? ⟨gb,i,none⟩=some (.int .i64 (x:Int))∧Z.cell? ⟨lb,1,none⟩=some (.string dir)∧lb<Z.heap.size:=fun Z hZ=>by
       have hL:=H.out.still (HT3.out.same hZ);have h0:w3.cell? ⟨gb,i,none⟩=some (.int .i64 (x:Int)):=by simpa[uK]using hc2 0 (by omega)
       exact⟨(World.cell?_of_block (w:=w3) (hZ.block _ (World.block_lt_of_cell? _ _ h0) (by simp))).trans h0,hL.c1,lt_of_heap hL.box⟩
      have hna:=fun(Z:World) (hZ:Turn [] w3 Z)=>Sn.name_any dir x hxb (by omega) Z (HV.out Z (HT3.out.same hZ)).tab
      have yZ:=hide hcs;have HNA:=hide hna;have apH:=hide hfs;have Me:=hide hsn;obtain⟨q,hq⟩:∃q,q=cs.length-i:=⟨_,rfl⟩;obtain⟨qc,hqc⟩:∃qc,qc=bc-i:=⟨_,rfl⟩;have hq0:0<q:=by omega
      have hkn:k<NS.length:=hlt;have hki:(k:Int)<(NS.length:Int):=by omega
      have hn0:¬(n:Int)<0:=by omega
      have HQ:=hide hq;have HQC:=hide hqc;have hqq:q≤qc:=by
       have:=U7.out.form;obtain⟨a',c',e',h1,h2⟩:=this;simp only[Value.slice.injEq,true_and]at e';obtain⟨-,rfl⟩:=e';omega
      have hq9:q≤9223372036854775807:=by omega
      have avc:qc≤9223372036854775807:=by omega
      rw[←hq,←hqc];clear hc2 hsn hfs hs hx hxm hgd hcs hna xJ WU HBV hq hqc;go_wp2
      refine gU 11 [] (by kernel_rfl) rfl ?_;apply Lo.r0 1 rfl 3 (by intro u;conv=>lhs;whnf) rfl
      ·intro a w1 hR e3 K hK
       go_simp
       exact hK _ rfl
      apply Lo.r0 2 rfl 8 (by intro u;conv=>lhs;whnf) rfl
      ·intro a w1 hR e8 K hK
       go_simp
       exact hK _ rfl
      apply Lo.r0 3 rfl 0 (by intro u;conv=>lhs;whnf) rfl
      ·intro a w1 hR e0 K hK
       go_simp
       exact hK _ rfl
      apply Lo.r1 4 rfl 57 2 (fun _=>rfl) rfl (by kernel_rfl)
      ·intro a w1 hR e57 K hK
       go_simp
       exact hK _ rfl
      apply Lo.r1 5 rfl 58 3 (fun _=>rfl) rfl (by kernel_rfl)
      ·intro a w1 hR e58 K hK
       go_simp
       exact hK _ rfl
      apply Lo.r1 6 rfl 59 4 (fun _=>rfl) rfl (by kernel_rfl)
      ·intro a w1 hR e59 K hK
       obtain⟨-,c1,z1⟩:=yZ.out w1 hR.dr;go_simp
       exact hK _ rfl
      apply Lo.r0 7 rfl 4 (by intro u;conv=>lhs;whnf) rfl
      ·intro a w1 hR e4 K hK
       go_simp
       exact hK _ rfl
      apply Lo.r1 8 rfl 61 6 (fun _=>rfl) rfl (by kernel_rfl)
      ·intro a w1 hR e61 K hK
       go_simp
       exact hK _ rfl
      apply Lo.r1 9 rfl 62 7 (fun _=>rfl) rfl (by kernel_rfl)
      ·intro a w1 hR e62 K hK
       obtain⟨c0, -, -⟩:=yZ.out w1 hR.dr;go_simp
       exact hK _ rfl
      refine Lo.run 10 rfl rfl [5,8] (fun y w'=>y= .string (Sn.nameB dir x)) (by kernel_rfl) (fun x w w' h hR=>?_) (fun _ _ h=>h) (fun u w1 hR hF=>?_) ?_
      ·exact h
      ·obtain⟨h5,h8, -⟩:=hF
       refine⟨rfl,fun a ha K hK=>?_⟩;have e60:=(ha 60).trans h5;have e63:=(ha 63).trans h8;clear ha h5 h8;go_simp
       refine(HNA.out w1 hR.dr).mono ?_;rintro e w5 ⟨rfl,hb5⟩;exact hK _ _ rfl (Turn.of_below hb5 [])
      apply Lo.r2 11 rfl 55 0 56 1 (fun _=>rfl) (fun _=>rfl) rfl rfl (by kernel_rfl)
      ·intro a w1 hR e55 e56 K hK
       go_simp
       exact hK _ rfl
      refine Lo.done [9,10] (fun u w1 bI hSd hF=>?_);clear hSd;obtain⟨f9,f10, -⟩:=hF;have d9:=(show(fun y w'=>y= .string (Sn.nameB dir x)) (u 9) w1 from f9);dsimp only at d9;have d10:u 10=_:=f10;clear f9 f10;simp only[List.take_succ_cons,List.take_zero,List.drop_succ_cons,List.drop_zero,ax,Act.put,List.setIfInBounds_toArray,List.set_cons_succ,List.set_cons_zero,Nat.zero_add,Nat.reduceAdd,d10];have HT5:=hide bI.dr;obtain⟨wb,rfl⟩:∃wb,wb=w1:=⟨_,rfl⟩;rw[d9];have agX:=ZW.out.still HT5.out;have Xz:=U7.out.still HT5.out;have avd:=Yo.out;obtain⟨g5,cap5,e5,hc5,hf5⟩:=agX.at wZ (j:=k) (by omega);simp only[Value.slice.injEq,Option.some.injEq,Addr.mk.injEq,and_true]at e5;obtain⟨rfl, -, -⟩:=e5;obtain⟨nm5,alu⟩:∃nm5,nm5=(dU dir (NS.take k) cs++NS.drop k)[k]'(by omega):=⟨_,rfl⟩;rw[←alu]at hc5;have c5:wb.cell? ⟨g,k,none⟩=some (.string ⟨nm5.toArray⟩):=by simpa[PY]using hc5 0 (by omega)
      have f5:wb.frozen? ⟨g,k,none⟩=false:=hf5 k;have abw:=agX.set wZ (j:=k) (i:=0) (by omega) (by omega) (u:= .string (Sn.nameB dir x)) (x':=bJ dir x) (by rw[st_name];simp[PY]);have acP:(dU dir (NS.take k) cs++NS.drop k).set k (bJ dir x)=dU dir (NS.take (k+1)) cs++NS.drop (k+1):=by
       rw[apH.out,HDR.out,List.set_append_right _ _ (by omega),hfl,Nat.sub_self,List.set_cons_zero,List.append_assoc,List.singleton_append]
      rw[acP,Nat.mul_one,Nat.add_zero]at abw;have hge:=(agX.lt g (by simp[Value.ownBlock])).1;have htg:Turn [g] wb (wb.setCell ⟨g,k,none⟩ (.string (Sn.nameB dir x))):=(Turn.refl _ _).setCell (.inl (by simp)) _;have ZX:=Xz.kept htg (fun j hj hm=>by
       obtain rfl:=List.mem_singleton.1 hm;exact Xz.apart agX (by decide) _ hj (by simp[Value.ownBlock]))
      have Xc:=hide abw;have apK:=hide ZX;have HT6:=hide ((HT3.out.same HT5.out).setCell (p:=⟨g,k,none⟩) (.inr hge) (.string (Sn.nameB dir x)));have hni:(aY dir (NS.take (k+1))).length=i+1:=by rw[Me.out,List.length_append,List.length_singleton,←HI.out]
      have HNI:=hide hni;clear d9 bI agX Xz hc5 hf5 abw acP hge htg ZX hni alu;go_wp2
      refine⟨⟨k+1,i+1,by omega,by go_num,HNI.out.symm,fun ajg=>⟨gb,rfl,?_⟩,apK.out,Xc.out,HT6.out⟩,?_⟩
      ·have h1:=HQ.out
       have h2:=HQC.out;rw[if_neg (by omega),show q-1=cs.length-(i+1)by omega,show qc-1=bc-(i+1)by omega]
      ·simp only[intOf]
       omega
    ·obtain rfl:k=NS.length:=by omega
     rw[List.take_length,List.drop_length,List.append_nil]at Xl;have asB:∃oc,(.slice a1 NS.length c1:Value)= .slice a1 NS.length oc:=⟨_,rfl⟩;go_wp2
     go_ret
     exact⟨_,cs,rfl,P6.out,Qv.out,Xl.out,dO.out⟩
end Lg
end
section
open Go.RowKit Go.Maps
set_option maxRecDepth 100000
set_option linter.unusedSimpArgs false
set_option linter.unusedVariables false
attribute [local go_sem] Oper.semAt_some
open Dk (DA aj Parts dA aC bQ)
open Sg (aS aA dV Both Came ae flat Chain Scan)
namespace Lg
def P7(ss:List (Nat×List Bt.aB))(n:Nat):Bool:=match ss.getLast? with
 |none=>true
 |some p=>decide (ae p.1 p.2≤(n:Int))
theorem Tf(ss:List (Nat×List Bt.aB))(n:Nat):P7 ss n=true↔JJ ss n:=by
 unfold P7 JJ;cases ss.getLast? with
 |none=>simp
 |some p=>simp
theorem fits_any(w:World)(base d:Nat)(F:List Nat)(A:DA)(lb:Nat)(gv:Value)(dir:ByteArray)(v:LV)(ms:List SM)(h:az w base d F A lb gv dir v ms)(hl:ms.length≤1000)(hx:∀m∈ms,m.xs.length≤1000000)(n:Nat):
 Calls Tryz.prog 38 #[.pointer (some ⟨lb,0,none⟩), .int .i64 n] w fun e w'=>e= .returned (.bool (P7 (ms.map SM.abs) n))∧Turn [] w w':=by
 obtain⟨ga,gc,hgv,Ag,uF⟩:=h.row.form;subst hgv;have c3:=h.c3;have hlb:=lt_of_heap h.box;rcases List.eq_nil_or_concat ms with rfl|⟨ms0,m,rfl⟩
 ·clear h
  go_enter Tryz.func38,Tryz.ntmps38
  go_wp2
  go_ret
  exact⟨rfl,Turn.refl _ _⟩
 ·rw[List.concat_eq_append]at*
  have abn:=kD w base d F A lb _ dir v ms0 m h (by simp at hl;omega) (hx m (by simp));have hf:P7 ((ms0++[m]).map SM.abs) n=decide (ae m.n m.xs≤(n:Int)):=by
   unfold P7;rw[List.map_append,List.map_singleton,List.getLast?_concat];rfl
  have hln:(ms0++[m]).length=ms0.length+1:=by simp
  rw[hln]at c3;obtain⟨nx,hnx⟩:∃nx,nx=ae m.n m.xs:=⟨_,rfl⟩;rw[←hnx]at abn hf;rw[hf];have hl0:¬((ms0.length:Int)+1=0):=by omega
  have HE:=hide abn;clear h abn hf hln hnx hx;go_enter Tryz.func38,Tryz.ntmps38
  go_wp2_with fail
  refine HE.out.mono ?_;rintro e w1 ⟨rfl,ht⟩;have HT:=hide ht;clear ht HE;go_wp2
  go_ret
  exact⟨by congr 3,HT.out⟩
def Opn(w w':World)(base d:Nat)(F:List Nat)(A':DA)(file:ByteArray)(b0:Int)(xs:List Bt.aB)(sb:Nat):Prop:=
 ∃F' sv,Both w' base d F' A' sb sv file b0 (dV 0 (-1) xs)∧Turn F w w'∧(∀k∈F',k∈F∨w.heap.size≤k)∧∀k∈aA sb sv,w.heap.size≤k
theorem Opn.turn{w w':World}{base d sb:Nat}{F:List Nat}{A':DA}{file:ByteArray}{b0:Int}{xs:List Bt.aB}(h:Opn w w' base d F A' file b0 xs sb):Turn F w w':=by
 obtain⟨F',sv, -,h2, -⟩:=h;exact h2
theorem Opn.first{w w1 w':World}{base d sb:Nat}{F:List Nat}{A':DA}{file:ByteArray}{b0:Int}{xs:List Bt.aB}(ht:Turn F w w1)(h:Opn w1 w' base d F A' file b0 xs sb):Opn w w' base d F A' file b0 xs sb:=by
 obtain⟨F',sv,hb,ht2,hf,hs⟩:=h;exact⟨F',sv,hb,ht.same ht2,fun k hk=>(hf k hk).imp_right (Nat.le_trans ht.size),fun k hk=>Nat.le_trans ht.size (hs k hk)⟩
theorem Opn.after{w w1 w':World}{base d sb:Nat}{F:List Nat}{A':DA}{file:ByteArray}{b0:Int}{xs:List Bt.aB}(h:Opn w w1 base d F A' file b0 xs sb)(ht:Turn [] w1 w'):Opn w w' base d F A' file b0 xs sb:=by
 obtain⟨F',sv,hb,ht2,hf,hs⟩:=h;exact⟨F',sv,hb.still ht,ht2.same (ht.mono (by simp)),hf,hs⟩
theorem open_err(w0:World)(base d:Nat)(F:List Nat)(A A2:DA)(lb:Nat)(gv:Value)(dir:ByteArray)(v:LV)(ms:List SM)(h:az w0 base d F A lb gv dir v ms)(n:Nat)(c:Int)
 (aet:∀Z,Turn [] w0 Z→Calls Tryz.prog 70 #[.pointer (some ⟨d,0,none⟩), .string dir, .int .i64 n] Z fun e w'=>e= .returned (.tuple #[.pointer none, .int .i64 0, .iface 45 (.int .i64 c)])∧dA Z w' base d F A2):
 Calls Tryz.prog 40 #[.pointer (some ⟨lb,0,none⟩), .int .i64 n] w0 fun e w'=>e= .returned (.tuple #[.int .i64 0, .iface 45 (.int .i64 c)])∧ig w0 w' base d (aJ F lb gv ms) A2 lb dir v (ms.map SM.abs):=by
 have H:=hide h;have Ti:=hide aet;have hlb:=lt_of_heap h.box;clear h aet;go_enter Tryz.func40,Tryz.ntmps40
 go_wp2
 refine bP 16 (Turn F) (Turn []) (fun k w=>match k with|0=>(fun w'=>Turn [] w0 w') w|_=>(fun w'=>0≤w'.heap.size) w) [9] (by kernel_rfl) (by kernel_rfl) (by kernel_rfl) (by kernel_rfl) (by kernel_rfl) (by kernel_rfl) (Nat.le_of_ble_eq_true rfl) (by decide) rfl (Turn.refl _) (fun _ _ _ h k=>h.same k) (fun _ _ h=>h.mono (by simp)) ?_ ?_ ?_
 ·intro k a b hk hR
  match k,hk with
  |0,hk=>
   have hk:=(show(fun w'=>Turn [] w0 w') a from hk);dsimp only at hk;show(fun w'=>Turn [] w0 w') b;dsimp only;first|exact hk.same hR|exact Nat.zero_le _
  |_+1,hk=>
   have hk:=(show(fun w'=>0≤w'.heap.size) a from hk);dsimp only at hk;show(fun w'=>0≤w'.heap.size) b;dsimp only;first|exact hk.same hR|exact Nat.zero_le _
 ·show(fun w'=>Turn [] w0 w') _
  dsimp only;exact(Turn.refl [] w0).drew
 apply Lo.r0 1 rfl 0 (by intro u;conv=>lhs;whnf) rfl
 ·intro a w1 hR e0 K hK
  go_simp
  exact hK _ rfl
 apply Lo.r1 2 rfl 10 0 (fun _=>rfl) rfl (by kernel_rfl)
 ·intro a w1 hR e10 K hK
  go_simp
  exact hK _ rfl
 apply Lo.r1 3 rfl 11 1 (fun _=>rfl) rfl (by kernel_rfl)
 ·intro a w1 hR e11 K hK
  go_simp
  exact hK _ rfl
 apply Lo.r1 4 rfl 12 2 (fun _=>rfl) rfl (by kernel_rfl)
 ·intro a w1 hR e12 K hK
  have hb:=(((Turn.refl [] w0).drew.mono (T:=F) (by simp)).same hR).heap H.out.box H.out.vk;have c0:w1.cell? ⟨lb,0,none⟩=some (.pointer (some ⟨d,0,none⟩)):=by rw[cell_of hb];rfl
  have z1:=lt_of_heap hb;go_simp
  exact hK _ rfl
 apply Lo.r0 5 rfl 0 (by intro u;conv=>lhs;whnf) rfl
 ·intro a w1 hR e0 K hK
  go_simp
  exact hK _ rfl
 apply Lo.r1 6 rfl 14 4 (fun _=>rfl) rfl (by kernel_rfl)
 ·intro a w1 hR e14 K hK
  go_simp
  exact hK _ rfl
 apply Lo.r1 7 rfl 15 5 (fun _=>rfl) rfl (by kernel_rfl)
 ·intro a w1 hR e15 K hK
  go_simp
  exact hK _ rfl
 apply Lo.r1 8 rfl 16 6 (fun _=>rfl) rfl (by kernel_rfl)
 ·intro a w1 hR e16 K hK
  have hb:=(((Turn.refl [] w0).drew.mono (T:=F) (by simp)).same hR).heap H.out.box H.out.vk;have c0:w1.cell? ⟨lb,1,none⟩=some (.string dir):=by rw[cell_of hb];rfl
  have z1:=lt_of_heap hb;go_simp
  exact hK _ rfl
 apply Lo.r0 9 rfl 1 (by intro u;conv=>lhs;whnf) rfl
 ·intro a w1 hR e1 K hK
  go_simp
  exact hK _ rfl
 refine Lo.je 10 rfl 0 rfl [3,7,8] (fun x w'=>x= .tuple #[.pointer none, .int .i64 0, .iface 45 (.int .i64 c)]∧dA w0 w' base d F A2) (by kernel_rfl) (fun x w w' h hR=>?_) (.inl (by kernel_rfl)) (fun u w1 hR hS hF=>?_) ?_
 ·exact⟨h.1,gu h.2 hR⟩
 ·obtain⟨h3,h7,h8, -⟩:=hF
  have hS:=(show(fun w'=>Turn [] w0 w') w1 from hS);dsimp only at hS;refine⟨rfl,fun a ha K hK=>?_⟩;have e13:=(ha 13).trans h3;have e17:=(ha 17).trans h7;have e18:=(ha 18).trans h8;clear ha h3 h7 h8;go_simp
  refine(Ti.out w1 hS).mono ?_;rintro e w2 ⟨rfl,hd⟩;exact hK _ _ ⟨rfl,um (hS.mono (by simp)) hd⟩ hd.turn (Nat.zero_le _)
 refine Lo.late 11 rfl rfl [9] (fun x w'=>x= .tuple #[.pointer none, .int .i64 0, .iface 45 (.int .i64 c)]∧dA w0 w' base d F A2) (by kernel_rfl) (fun x w w' h hR=>?_) (by kernel_rfl) (fun u w1 hR hF=>?_) ?_
 ·exact⟨h.1,gu h.2 hR⟩
 ·obtain⟨h9, -⟩:=hF
  refine⟨rfl,fun a ha K hK=>?_⟩;have e19:a.tmps.getD 19 undef=u 9:=ha 19;have h9:=(show(fun x w'=>x= .tuple #[.pointer none, .int .i64 0, .iface 45 (.int .i64 c)]∧dA w0 w' base d F A2) (u 9) w1 from h9);dsimp only at h9;clear ha;obtain⟨q9,BZ⟩:=h9;rw[q9]at e19;go_simp
  exact hK _ _ ⟨rfl,BZ⟩ (Turn.refl _ _)
 refine Lo.late 12 rfl rfl [10] (fun x w'=>x= .pointer none∧dA w0 w' base d F A2) (by kernel_rfl) (fun x w w' h hR=>?_) (by kernel_rfl) (fun u w1 hR hF=>?_) ?_
 ·exact⟨h.1,gu h.2 hR⟩
 ·obtain⟨h10, -⟩:=hF
  refine⟨rfl,fun a ha K hK=>?_⟩;have e9:a.tmps.getD 9 undef=u 10:=ha 9;have h10:=(show(fun x w'=>x= .tuple #[.pointer none, .int .i64 0, .iface 45 (.int .i64 c)]∧dA w0 w' base d F A2) (u 10) w1 from h10);dsimp only at h10;clear ha;obtain⟨q9,BZ⟩:=h10;rw[q9]at e9;go_simp
  exact hK _ _ ⟨rfl,BZ⟩ (Turn.refl _ _)
 refine Lo.df 13 rfl rfl [10] (.int .i64 0) (by kernel_rfl) (fun u w1 hR hF=>?_) (Turn.refl _) ?_
 ·obtain⟨h10, -⟩:=hF
  refine⟨rfl,fun a ha K hK=>?_⟩;have e9:a.tmps.getD 9 undef=u 10:=ha 9;have h10:=(show(fun x w'=>x= .tuple #[.pointer none, .int .i64 0, .iface 45 (.int .i64 c)]∧dA w0 w' base d F A2) (u 10) w1 from h10);dsimp only at h10;clear ha;obtain⟨q9, -⟩:=h10;rw[q9]at e9;go_simp
  exact hK _ rfl
 refine Lo.df 14 rfl rfl [10] (.iface 45 (.int .i64 c)) (by kernel_rfl) (fun u w1 hR hF=>?_) (Turn.refl _) ?_
 ·obtain⟨h10, -⟩:=hF
  refine⟨rfl,fun a ha K hK=>?_⟩;have e9:a.tmps.getD 9 undef=u 10:=ha 9;have h10:=(show(fun x w'=>x= .tuple #[.pointer none, .int .i64 0, .iface 45 (.int .i64 c)]∧dA w0 w' base d F A2) (u 10) w1 from h10);dsimp only at h10;clear ha;obtain⟨q9, -⟩:=h10;rw[q9]at e9;go_simp
  exact hK _ rfl
 refine Lo.late 15 rfl rfl [11] (fun x w'=>x= .pointer none∧dA w0 w' base d F A2) (by kernel_rfl) (fun x w w' h hR=>?_) (by kernel_rfl) (fun u w1 hR hF=>?_) ?_
 ·exact⟨h.1,gu h.2 hR⟩
 ·obtain⟨h11, -⟩:=hF
  refine⟨rfl,fun a ha K hK=>?_⟩;have e20:a.tmps.getD 20 undef=u 11:=ha 20;have h11:=(show(fun x w'=>x= .pointer none∧dA w0 w' base d F A2) (u 11) w1 from h11);dsimp only at h11;clear ha;go_simp
  exact hK _ _ ⟨rfl,h11.2⟩ (Turn.refl _ _)
 refine Lo.df 16 rfl rfl [12] (.int .i64 0) (by kernel_rfl) (fun u w1 hR hF=>?_) (Turn.refl _) ?_
 ·obtain⟨h12, -⟩:=hF
  refine⟨rfl,fun a ha K hK=>?_⟩;have e21:=(ha 21).trans h12;clear ha h12;go_simp
  exact hK _ rfl
 refine Lo.done [13,14,15] (fun u w1 bI hSd hF=>?_);have hSd:=(show(fun w'=>0≤w'.heap.size) w1 from hSd);dsimp only at hSd;obtain⟨f13,f14,f15, -⟩:=hF;have d13:u 13=_:=f13;have d14:=(show(fun x w'=>x= .pointer none∧dA w0 w' base d F A2) (u 14) w1 from f14);dsimp only at d14;have d15:u 15=_:=f15;clear f13 f14 f15;simp only[List.take_succ_cons,List.take_zero,List.drop_succ_cons,List.drop_zero,ax,Act.put,List.setIfInBounds_toArray,List.set_cons_succ,List.set_cons_zero,Nat.zero_add,Nat.reduceAdd,d13,d15];obtain⟨q14,alx⟩:=d14;rw[q14];have HD:=hide (H.out.did alx);clear d13 d15 q14 alx bI hSd;go_wp2
 go_ret2
 exact⟨rfl,HD.out⟩
theorem Oe(w0:World)(base d:Nat)(F:List Nat)(A A2:DA)(lb:Nat)(gv:Value)(dir:ByteArray)(v:LV)(ms:List SM)(h:az w0 base d F A lb gv dir v ms)(hl:ms.length≤1000000)(n lost:Nat)(xs:List Bt.aB)
 (aet:∀Z,Turn [] w0 Z→Calls Tryz.prog 70 #[.pointer (some ⟨d,0,none⟩), .string dir, .int .i64 n] Z fun e w'=>∃sb,e= .returned (.tuple #[.pointer (some ⟨sb,0,none⟩), .int .i64 (lost:Int), .nilIface])∧Opn Z w' base d F A2 (Sn.nameB dir n) n xs sb):
 Calls Tryz.prog 40 #[.pointer (some ⟨lb,0,none⟩), .int .i64 n] w0 fun e w'=>e= .returned (.tuple #[.int .i64 (lost:Int), .nilIface])∧ig w0 w' base d (aJ F lb gv ms) A2 lb dir v (ms.map SM.abs++[(n,xs)]):=by
 obtain⟨ga,gc,hgv,Ag,uF⟩:=h.row.form;subst hgv;have H:=hide h;have Ti:=hide aet;have hlb:=lt_of_heap h.box;clear h aet;go_enter Tryz.func40,Tryz.ntmps40
 go_wp2
 refine bP 16 (Turn F) (Turn []) (fun k w=>match k with|0=>(fun w'=>Turn [] w0 w') w|_=>(fun w'=>0≤w'.heap.size) w) [9] (by kernel_rfl) (by kernel_rfl) (by kernel_rfl) (by kernel_rfl) (by kernel_rfl) (by kernel_rfl) (Nat.le_of_ble_eq_true rfl) (by decide) rfl (Turn.refl _) (fun _ _ _ h k=>h.same k) (fun _ _ h=>h.mono (by simp)) ?_ ?_ ?_
 ·intro k a b hk hR
  match k,hk with
  |0,hk=>
   have hk:=(show(fun w'=>Turn [] w0 w') a from hk);dsimp only at hk;show(fun w'=>Turn [] w0 w') b;dsimp only;first|exact hk.same hR|exact Nat.zero_le _
  |_+1,hk=>
   have hk:=(show(fun w'=>0≤w'.heap.size) a from hk);dsimp only at hk;show(fun w'=>0≤w'.heap.size) b;dsimp only;first|exact hk.same hR|exact Nat.zero_le _
 ·show(fun w'=>Turn [] w0 w') _
  dsimp only;exact(Turn.refl [] w0).drew
 apply Lo.r0 1 rfl 0 (by intro u;conv=>lhs;whnf) rfl
 ·intro a w1 hR e0 K hK
  go_simp
  exact hK _ rfl
 apply Lo.r1 2 rfl 10 0 (fun _=>rfl) rfl (by kernel_rfl)
 ·intro a w1 hR e10 K hK
  go_simp
  exact hK _ rfl
 apply Lo.r1 3 rfl 11 1 (fun _=>rfl) rfl (by kernel_rfl)
 ·intro a w1 hR e11 K hK
  go_simp
  exact hK _ rfl
 apply Lo.r1 4 rfl 12 2 (fun _=>rfl) rfl (by kernel_rfl)
 ·intro a w1 hR e12 K hK
  have hb:=(((Turn.refl [] w0).drew.mono (T:=F) (by simp)).same hR).heap H.out.box H.out.vk;have c0:w1.cell? ⟨lb,0,none⟩=some (.pointer (some ⟨d,0,none⟩)):=by rw[cell_of hb];rfl
  have z1:=lt_of_heap hb;go_simp
  exact hK _ rfl
 apply Lo.r0 5 rfl 0 (by intro u;conv=>lhs;whnf) rfl
 ·intro a w1 hR e0 K hK
  go_simp
  exact hK _ rfl
 apply Lo.r1 6 rfl 14 4 (fun _=>rfl) rfl (by kernel_rfl)
 ·intro a w1 hR e14 K hK
  go_simp
  exact hK _ rfl
 apply Lo.r1 7 rfl 15 5 (fun _=>rfl) rfl (by kernel_rfl)
 ·intro a w1 hR e15 K hK
  go_simp
  exact hK _ rfl
 apply Lo.r1 8 rfl 16 6 (fun _=>rfl) rfl (by kernel_rfl)
 ·intro a w1 hR e16 K hK
  have hb:=(((Turn.refl [] w0).drew.mono (T:=F) (by simp)).same hR).heap H.out.box H.out.vk;have c0:w1.cell? ⟨lb,1,none⟩=some (.string dir):=by rw[cell_of hb];rfl
  have z1:=lt_of_heap hb;go_simp
  exact hK _ rfl
 apply Lo.r0 9 rfl 1 (by intro u;conv=>lhs;whnf) rfl
 ·intro a w1 hR e1 K hK
  go_simp
  exact hK _ rfl
 refine Lo.je 10 rfl 0 rfl [3,7,8] (fun x w'=>∃p,x= .tuple #[p, .int .i64 (lost:Int), .nilIface]∧∃sb,p= .pointer (some ⟨sb,0,none⟩)∧Opn w0 w' base d F A2 (Sn.nameB dir n) n xs sb) (by kernel_rfl) (fun x w w' h hR=>?_) (.inl (by kernel_rfl)) (fun u w1 hR hS hF=>?_) ?_
 ·obtain⟨p,e,h⟩:=h;exact⟨p,e,h.imp fun _ h=>⟨h.1,h.2.after hR⟩⟩
 ·obtain⟨h3,h7,h8, -⟩:=hF
  have hS:=(show(fun w'=>Turn [] w0 w') w1 from hS);dsimp only at hS;refine⟨rfl,fun a ha K hK=>?_⟩;have e13:=(ha 13).trans h3;have e17:=(ha 17).trans h7;have e18:=(ha 18).trans h8;clear ha h3 h7 h8;go_simp
  refine(Ti.out w1 hS).mono ?_;rintro e w2 ⟨sb,rfl,hd⟩;exact hK _ _ ⟨_,rfl,sb,rfl,hd.first (hS.mono (by simp))⟩ hd.turn (Nat.zero_le _)
 refine Lo.late 11 rfl rfl [9] (fun x w'=>∃p,x= .tuple #[p, .int .i64 (lost:Int), .nilIface]∧∃sb,p= .pointer (some ⟨sb,0,none⟩)∧Opn w0 w' base d F A2 (Sn.nameB dir n) n xs sb) (by kernel_rfl) (fun x w w' h hR=>?_) (by kernel_rfl) (fun u w1 hR hF=>?_) ?_
 ·obtain⟨p,e,h⟩:=h;exact⟨p,e,h.imp fun _ h=>⟨h.1,h.2.after hR⟩⟩
 ·obtain⟨h9, -⟩:=hF
  refine⟨rfl,fun a ha K hK=>?_⟩;have e19:a.tmps.getD 19 undef=u 9:=ha 19;have h9:=(show(fun x w'=>∃p,x= .tuple #[p, .int .i64 (lost:Int), .nilIface]∧∃sb,p= .pointer (some ⟨sb,0,none⟩)∧Opn w0 w' base d F A2 (Sn.nameB dir n) n xs sb) (u 9) w1 from h9);dsimp only at h9;clear ha;obtain⟨p,q9,BZ⟩:=h9;rw[q9]at e19;go_simp
  exact hK _ _ ⟨p,rfl,BZ⟩ (Turn.refl _ _)
 refine Lo.late 12 rfl rfl [10] (fun x w'=>∃sb,x= .pointer (some ⟨sb,0,none⟩)∧Opn w0 w' base d F A2 (Sn.nameB dir n) n xs sb) (by kernel_rfl) (fun x w w' h hR=>?_) (by kernel_rfl) (fun u w1 hR hF=>?_) ?_
 ·exact h.imp fun _ h=>⟨h.1,h.2.after hR⟩
 ·obtain⟨h10, -⟩:=hF
  refine⟨rfl,fun a ha K hK=>?_⟩;have e9:a.tmps.getD 9 undef=u 10:=ha 9;have h10:=(show(fun x w'=>∃p,x= .tuple #[p, .int .i64 (lost:Int), .nilIface]∧∃sb,p= .pointer (some ⟨sb,0,none⟩)∧Opn w0 w' base d F A2 (Sn.nameB dir n) n xs sb) (u 10) w1 from h10);dsimp only at h10;clear ha;obtain⟨p,q9,BZ⟩:=h10;rw[q9]at e9;go_simp
  exact hK _ _ BZ (Turn.refl _ _)
 refine Lo.df 13 rfl rfl [10] (.int .i64 (lost:Int)) (by kernel_rfl) (fun u w1 hR hF=>?_) (Turn.refl _) ?_
 ·obtain⟨h10, -⟩:=hF
  refine⟨rfl,fun a ha K hK=>?_⟩;have e9:a.tmps.getD 9 undef=u 10:=ha 9;have h10:=(show(fun x w'=>∃p,x= .tuple #[p, .int .i64 (lost:Int), .nilIface]∧∃sb,p= .pointer (some ⟨sb,0,none⟩)∧Opn w0 w' base d F A2 (Sn.nameB dir n) n xs sb) (u 10) w1 from h10);dsimp only at h10;clear ha;obtain⟨p,q9, -⟩:=h10;rw[q9]at e9;go_simp
  exact hK _ rfl
 refine Lo.df 14 rfl rfl [10] (.nilIface) (by kernel_rfl) (fun u w1 hR hF=>?_) (Turn.refl _) ?_
 ·obtain⟨h10, -⟩:=hF
  refine⟨rfl,fun a ha K hK=>?_⟩;have e9:a.tmps.getD 9 undef=u 10:=ha 9;have h10:=(show(fun x w'=>∃p,x= .tuple #[p, .int .i64 (lost:Int), .nilIface]∧∃sb,p= .pointer (some ⟨sb,0,none⟩)∧Opn w0 w' base d F A2 (Sn.nameB dir n) n xs sb) (u 10) w1 from h10);dsimp only at h10;clear ha;obtain⟨p,q9, -⟩:=h10;rw[q9]at e9;go_simp
  exact hK _ rfl
 refine Lo.late 15 rfl rfl [11] (fun x w'=>∃sb,x= .pointer (some ⟨sb,0,none⟩)∧Opn w0 w' base d F A2 (Sn.nameB dir n) n xs sb) (by kernel_rfl) (fun x w w' h hR=>?_) (by kernel_rfl) (fun u w1 hR hF=>?_) ?_
 ·exact h.imp fun _ h=>⟨h.1,h.2.after hR⟩
 ·obtain⟨h11, -⟩:=hF
  refine⟨rfl,fun a ha K hK=>?_⟩;have e20:a.tmps.getD 20 undef=u 11:=ha 20;have h11:=(show(fun x w'=>∃sb,x= .pointer (some ⟨sb,0,none⟩)∧Opn w0 w' base d F A2 (Sn.nameB dir n) n xs sb) (u 11) w1 from h11);dsimp only at h11;clear ha;go_simp
  exact hK _ _ h11 (Turn.refl _ _)
 refine Lo.df 16 rfl rfl [12] (.int .i64 (lost:Int)) (by kernel_rfl) (fun u w1 hR hF=>?_) (Turn.refl _) ?_
 ·obtain⟨h12, -⟩:=hF
  refine⟨rfl,fun a ha K hK=>?_⟩;have e21:=(ha 21).trans h12;clear ha h12;go_simp
  exact hK _ rfl
 refine Lo.done [13,14,15] (fun u w1 bI hSd hF=>?_);have hSd:=(show(fun w'=>0≤w'.heap.size) w1 from hSd);dsimp only at hSd;obtain⟨f13,f14,f15, -⟩:=hF;have d13:u 13=_:=f13;have d14:=(show(fun x w'=>∃sb,x= .pointer (some ⟨sb,0,none⟩)∧Opn w0 w' base d F A2 (Sn.nameB dir n) n xs sb) (u 14) w1 from f14);dsimp only at d14;have d15:u 15=_:=f15;clear f13 f14 f15;simp only[List.take_succ_cons,List.take_zero,List.drop_succ_cons,List.drop_zero,ax,Act.put,List.setIfInBounds_toArray,List.set_cons_succ,List.set_cons_zero,Nat.zero_add,Nat.reduceAdd,d13,d15];obtain⟨sb,q14,F2,sv,hb2,ht2,hf2,hs2⟩:=d14;rw[q14];clear d13 d15 q14 bI hSd;have hs0:az w1 base d F2 A2 lb (.slice ga ms.length gc) dir v ms:=⟨hb2.disk,ht2.heap H.out.box H.out.vk,H.out.row.kept ht2 H.out.O8,H.out.low,fun m hm=>(H.out.jo m hm).kept ht2 (Jg H.out.disk (H.out.jo m hm)),H.out.apart⟩;have hap:∀x∈ms,∀k∈x.foot,k∉aA sb sv:=fun x hx k hk hm=>by
  have h1:=((H.out.jo x hx).lt k hk).2;have h2:=hs2 k hm;omega
 have HF2:=hide hf2;have HS2:=hide hs2;have acN:=hide ht2;have c3:=hs0.c3;have z2:=lt_of_heap hs0.box;have h23:Turn [] w1 (w1.alloc (.cells #[.pointer (some ⟨sb,0,none⟩)] 61)):=(Turn.refl [] w1).alloc _;obtain⟨v7,w7,hr7,aai,ht7,aaq⟩:=RU (w1.alloc (.cells #[.pointer (some ⟨sb,0,none⟩)] 61)) base (.slice ga ms.length gc) ms ⟨sb,sv,n,xs⟩ w1.heap.size (hs0.row.still h23) (ai w1 _) hl (by have:=(hs0.lt _ (ay.2 (.inl rfl))).1;have:=h23.size;omega);obtain⟨va7,vc7,hv7, -, -⟩:=aai.form;subst hv7;have hgr:=(hs0.still h23).grow (m:=⟨sb,sv,n,xs⟩) ht7 aai ((hb2.still h23).jh) hap;have ac0:=ht7.heap (hs0.still h23).box (by simpa using(hs0.still h23).Fq);have fr7:=au ac0 3;have c37:w7.cell? ⟨lb,3,none⟩=some (.slice ga ms.length gc):=by rw[cell_of ac0];rfl
 have z7:=lt_of_heap ac0;have aes:(ms++[(⟨sb,sv,n,xs⟩:SM)]).length=ms.length+1:=by rw[List.length_append,List.length_singleton]
 rw[aes]at hgr hr7 aai aaq;clear aes;have HR7:=hide hr7;have Y4:=hide hgr;have HT7:=hide ht7;have adD:=hide aaq;have H23:=hide h23;clear hb2 hf2 hs2 ht2 hs0 hap h23 hr7 aai ht7 aaq hgr ac0;go_wp2_with (at_builtin;go_must (refine bU rfl rfl rfl rfl HR7.out ?_))
 go_ret2
 refine⟨rfl,F2,_,_,Y4.out,by simp[SM.abs],?_,fun k hk=>?_⟩
 ·have h1:Turn (aJ F lb (.slice ga ms.length gc) ms) w0 w1:=acN.out.mono (fun k hk=> .inl (ay.2 (.inr (.inr (.inr hk)))))
  have h2:=(h1.same (H23.out.mono (by simp))).same (HT7.out.mono (T:=aJ F lb (.slice ga ms.length gc) ms) (fun k hk=> .inl (ay.2 (.inr (.inl (by simpa using hk))))));exact h2.setCell (.inl (ay.2 (.inl rfl))) _
 ·have hw1:=acN.out.size
  rcases ay.1 hk with h1|h1|⟨x,hx,h1⟩|h1
  ·exact .inl (ay.2 (.inl h1))
  ·rcases adD.out k h1 with h2|h2
   ·exact .inl (ay.2 (.inr (.inl h2)))
   ·exact .inr (by have:=H23.out.size;omega)
  ·rcases List.mem_append.1 hx with hx|hx
   ·exact .inl (ay.2 (.inr (.inr (.inl ⟨x,hx,h1⟩))))
   ·obtain rfl:=List.mem_singleton.1 hx
    exact .inr (HS2.out k h1)
  ·rcases HF2.out k h1 with h2|h2
   ·exact .inl (ay.2 (.inr (.inr (.inr h2))))
   ·exact .inr h2
theorem Og:∀(k:Nat) (nx:Int) (b:List UInt8),b.length≤k→∃xs,Scan nx b xs
 |0,nx,b,h=>⟨[], .stop (fun hc=>Sg.BQ (by omega) hc.1)⟩
 |k+1,nx,b,h=>by
  by_cases hc:(dec b).2.2=0∧nx≤(dec b).1.base
  ·obtain⟨h1,h2,h3⟩:=Sg.Dp hc.1
   have h4:=Sg.lJ (dec b).1;obtain⟨xs,hx⟩:=Og k (dec b).1.fin (b.drop (dec b).2.1) (by rw[List.length_drop];omega);exact⟨_, .step hc.1 hc.2 hx⟩
  ·exact⟨[], .stop hc⟩
theorem JQ{nx:Int}{b:List UInt8}{xs:List Bt.aB}(h:Scan nx b xs):(flat xs).length≤b.length:=by
 have:=congrArg List.length h.whole.2;rw[List.length_append]at this;omega
def MB(dir:ByteArray)(A0:DA)(L0:List (List UInt8))(ss0:List (Nat×List Bt.aB))(A:DA)(t:Bool)(ss:List (Nat×List Bt.aB))(L:List (List UInt8)):Prop:=
 ∀c A' ss',jr dir A t ss L c A' ss'→jr dir A0 false ss0 L0 c A' ss'
theorem vM{w:World}{base d lb:Nat}{F:List Nat}{A:DA}{gv:Value}{dir:ByteArray}{v:LV}{ms:List SM}(h:az w base d F A lb gv dir v ms)(nm:List UInt8)(hl:nm.length≤1000):
 Calls Tryz.prog 39 #[.pointer (some ⟨d,0,none⟩), .string ⟨nm.toArray⟩] w fun e w'=>e= .returned (aC (A.remove nm).1)∧ig w w' base d (aJ F lb gv ms) (A.remove nm).2 lb dir v (ms.map SM.abs):=by
 obtain⟨aI,Zg,hp⟩:=h.disk;have hs:(⟨nm.toArray⟩:ByteArray).size≤maxLen:=by
  show nm.toArray.size≤maxLen;simp[maxLen];omega
 refine(Dk.kN hp ⟨nm.toArray⟩ hs).mono ?_;rintro e w' ⟨rfl,hd⟩;exact⟨by simp,by simpa using h.did hd⟩
def Tj(dir:ByteArray)(A:DA)(ss:List (Nat×List Bt.aB))(n:Nat)(c:Int)(A2:DA)(ss2:List (Nat×List Bt.aB))(lost:Nat):Prop:=
 (A.file (bJ dir n)=none∧c=7∧A2=A∧ss2=ss∧lost=0)∨
 ∃f xs,A.file (bJ dir n)=some f∧Scan n f.bytes xs∧
  ((f.bytes.length=(flat xs).length∧c=0∧A2=A∧ss2=ss++[(n,xs)]∧lost=0)∨
   ((flat xs).length<f.bytes.length∧(A.cut (bJ dir n) (flat xs).length).1≠0∧c=(A.cut (bJ dir n) (flat xs).length).1∧A2=(A.cut (bJ dir n) (flat xs).length).2∧ss2=ss∧lost=0)∨
   ((flat xs).length<f.bytes.length∧(A.cut (bJ dir n) (flat xs).length).1=0∧c=0∧A2=(A.cut (bJ dir n) (flat xs).length).2∧ss2=ss++[(n,xs)]∧lost=f.bytes.length-(flat xs).length))
theorem fZ{c:Int}(h:c≠0):aC c= .iface 45 (.int .i64 c):=by unfold aC;rw[if_neg h];rfl
theorem Tm(w:World)(base d:Nat)(F:List Nat)(A:DA)(lb:Nat)(gv:Value)(dir:ByteArray)(v:LV)(ms:List SM)(h:az w base d F A lb gv dir v ms)(hl:ms.length≤1000000)(gG:dir.size≤900)(n:Nat)(hn:n≤1099511627776)(hv:∀Z,Turn [] w Z→Sn.jG Z):
 Calls Tryz.prog 40 #[.pointer (some ⟨lb,0,none⟩), .int .i64 n] w fun e w'=>∃c A2 ss2 lost,e= .returned (.tuple #[.int .i64 ((lost:Nat):Int),aC c])∧Tj dir A (ms.map SM.abs) n c A2 ss2 lost∧ig w w' base d (aJ F lb gv ms) A2 lb dir v ss2:=by
 cases hf:A.file (bJ dir n)with
 |none=>
  refine(open_err w base d F A A lb gv dir v ms h n 7 (fun Z hZ=>?_)).mono ?_
  ·refine(Sg.O0 Z base d F A (h.disk.kept hZ (by simp)) dir (by omega) n hn (hv Z hZ) hf).mono ?_
   rintro e w' ⟨rfl,ht⟩;obtain⟨aI,Zg,hp⟩:=h.disk.kept (hZ.same ht) (by simp);exact⟨rfl,Sg.ry ht (Dk.dA.none hp)⟩
  ·rintro e w' ⟨rfl,hd⟩
   exact⟨7,A,_,0,rfl, .inl ⟨hf,rfl,rfl,rfl,rfl⟩,hd⟩
 |some f=>
  obtain⟨xs,hxs⟩:=Og f.bytes.length n f.bytes (Nat.le_refl _);have hle:=JQ hxs;have hop:=fun(Z:World) (hZ:Turn [] w Z)=>Sg.O1 Z base d F A (h.disk.kept hZ (by simp)) dir (by omega) n hn (hv Z hZ) f hf
  rcases Nat.lt_or_ge (flat xs).length f.bytes.length with hlt|hge
  ·by_cases hc:(A.cut (bJ dir n) (flat xs).length).1=0
   ·refine(Oe w base d F A (A.cut (bJ dir n) (flat xs).length).2 lb gv dir v ms h hl n (f.bytes.length-(flat xs).length) xs (fun Z hZ=>?_)).mono ?_
    ·refine(hop Z hZ).mono ?_
     rintro e w' ⟨xs',hx',ho⟩;obtain rfl:=hx'.unique hxs;rcases ho with⟨h1, -⟩|⟨-,h1, -⟩|⟨-, -,F',sb,sv,rfl,h2,h3,h4,h5⟩
     ·omega
     ·exact absurd hc h1
     ·exact⟨sb,rfl,F',sv,h2,h3,h4,h5⟩
    ·rintro e w' ⟨rfl,hd⟩
     exact⟨0,_,_,_,rfl, .inr ⟨f,xs,hf,hxs, .inr (.inr ⟨hlt,hc,rfl,rfl,rfl,rfl⟩)⟩,hd⟩
   ·refine(open_err w base d F A (A.cut (bJ dir n) (flat xs).length).2 lb gv dir v ms h n (A.cut (bJ dir n) (flat xs).length).1 (fun Z hZ=>?_)).mono ?_
    ·refine(hop Z hZ).mono ?_
     rintro e w' ⟨xs',hx',ho⟩;obtain rfl:=hx'.unique hxs;rcases ho with⟨h1, -⟩|⟨-,h1,rfl,h2⟩|⟨-,h1, -⟩
     ·omega
     ·exact⟨by rw[←fZ hc];rfl,h2⟩
     ·exact absurd h1 hc
    ·rintro e w' ⟨rfl,hd⟩
     exact⟨_,_,_,0,by rw[fZ hc];rfl, .inr ⟨f,xs,hf,hxs, .inr (.inl ⟨hlt,hc,rfl,rfl,rfl,rfl⟩)⟩,hd⟩
  ·have heq:f.bytes.length=(flat xs).length:=by omega
   refine(Oe w base d F A A lb gv dir v ms h hl n 0 xs (fun Z hZ=>?_)).mono ?_
   ·refine(hop Z hZ).mono ?_
    rintro e w' ⟨xs',hx',ho⟩;obtain rfl:=hx'.unique hxs;rcases ho with⟨-,sb,sv,rfl,h2,h3,h4⟩|⟨h1, -⟩|⟨h1, -⟩
    ·exact⟨sb,rfl,F,sv,h2,h3.mono (by simp),fun k hk=> .inl hk,h4⟩
    ·omega
    ·omega
   ·rintro e w' ⟨rfl,hd⟩
    exact⟨0,_,_,0,rfl, .inr ⟨f,xs,hf,hxs, .inl ⟨heq,rfl,rfl,rfl,rfl⟩⟩,hd⟩
end Lg
end
end Go.Proofs.YtficbckncieabaaGreatDoor
