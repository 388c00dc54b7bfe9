/- Lemmas of the claim, part b of 14. -/
import Derived.Test.YtficbckncieabaaGreatDoorMa
import Derived.Laws.BitsAllLaws
set_option maxHeartbeats 16000000
namespace Go.Proofs.YtficbckncieabaaGreatDoor
set_option linter.unusedSimpArgs false
set_option linter.unusedVariables false
section
open Go.RowKit
def ax:List Oper→Nat→(Nat→Value)→Act→Act
 |[],_,_,a=>a
 |o::os,i,u,a=>ax os (i+1) u (a.put o.dst (u i))
def upd(u:Nat→Value)(k:Nat)(x:Value):Nat→Value:=fun j=>if j=k then x else u j
def apartB:List Oper→Bool
 |[]=>true
 |o::os=>(match o.dst with
  |some d=>os.all fun p=>p.dst !=some d
  |none=>true)&&apartB os
theorem OC(a:Act)(d:Option Tmp)(x y:Value):(a.put d x).put d y=a.put d y:=by
 cases d<;>simp[Act.put]
theorem put_comm(a:Act)(d e:Option Tmp)(x y:Value)(h:d=none∨d≠e):(a.put d x).put e y=(a.put e y).put d x:=by
 cases d with
 |none=>simp[Act.put]
 |some d=>
  cases e with
  |none=>simp[Act.put]
  |some e=>
   have:d≠e:=by
    rcases h with h|h
    ·cases h
    ·exact fun he=>h (by rw[he])
   simp only[Act.put];rw[Array.setIfInBounds_comm _ _ this]
theorem yu:∀(os:List Oper) (i:Nat) (u:Nat→Value) (a:Act) (d:Option Tmp) (x:Value),(d=none∨∀p∈os,p.dst≠d)→(ax os i u a).put d x=ax os i u (a.put d x)
 |[],_,_,_,_,_,_=>rfl
 |o::os,i,u,a,d,x,h=>by
  unfold ax;rw[yu os (i+1) u _ d x (h.imp id fun h p hp=>h p (by simp[hp])),put_comm];rcases h with h|h
  ·by_cases e:o.dst=none
   ·exact .inl e
   ·exact .inr (by rw[h];exact e)
  ·exact .inr (h o (by simp))
theorem sF:∀(os:List Oper) (i k:Nat) (u:Nat→Value) (a:Act) (x:Value),k<i→ax os i (upd u k x) a=ax os i u a
 |[],_,_,_,_,_,_=>rfl
 |o::os,i,k,u,a,x,h=>by
  unfold ax;rw[sF os (i+1) k u _ x (by omega)];have:¬i=k:=by omega
  simp only[upd,if_neg this]
theorem yw:∀(os:List Oper) (i k:Nat) (o:Oper) (u:Nat→Value) (a:Act) (x:Value),apartB os=true→os[k]? =some o→(ax os i u a).put o.dst x=ax os i (upd u (i+k) x) a
 |[],_,_,_,_,_,_,_,h=>by simp at h
 |p::os,i,0,o,u,a,x,hd,h=>by
  simp only[List.getElem?_cons_zero,Option.some.injEq]at h;subst h;simp only[apartB,Bool.and_eq_true]at hd;unfold ax;rw[yu,OC,Nat.add_zero,sF _ _ _ _ _ _ (by omega)]
  ·simp[upd]
  ·cases hp:p.dst with
   |none=>exact .inl rfl
   |some d=>
    rw[hp]at hd;refine .inr fun q hq=>?_
    have:=(List.all_eq_true.1 hd.1) q hq;simpa using this
 |p::os,i,k+1,o,u,a,x,hd,h=>by
  simp only[List.getElem?_cons_succ]at h;simp only[apartB,Bool.and_eq_true]at hd;unfold ax;rw[yw os (i+1) k o u _ x hd.2 h,show i+1+k=i+(k+1)by omega];have:¬i=i+(k+1):=by omega
  simp only[upd,if_neg this]
theorem QK(a:Act)(d:Option Tmp):a.put d (match d with|some d=>a.tmps.getD d undef|none=>undef)=a:=by
 cases d with
 |none=>rfl
 |some d=>
  simp only[Act.put];have:a.tmps.setIfInBounds d (a.tmps.getD d undef)=a.tmps:=by
   apply Array.ext_getElem?;intro i;rw[Array.getElem?_setIfInBounds];split
   ·rename_i h
    subst h;split
    ·rename_i h2;simp[Array.getD_eq_getD_getElem?,h2]
    ·rename_i h2;simp at h2;simp[h2]
   ·rfl
  rw[this]
theorem vZ:∀(os:List Oper) (i:Nat) (a:Act),∃u,ax os i u a=a
 |[],_,a=>⟨fun _=>undef,rfl⟩
 |o::os,i,a=>by
  obtain⟨u,hu⟩:=vZ os (i+1) a;refine⟨upd u i (match o.dst with|some d=>a.tmps.getD d undef|none=>undef),?_⟩;unfold ax;rw[show upd u i (match o.dst with|some d=>a.tmps.getD d undef|none=>undef) i=(match o.dst with|some d=>a.tmps.getD d undef|none=>undef)by simp[upd],QK,sF _ _ _ _ _ _ (by omega),hu]
def Iu(P:Program)(ops:Array Oper)(Q:Exit→Act→World→Prop)(R:World→World→Prop)(o:Oper)(V:Value→World→Prop)(a:Act)(w:World):Prop:=
 if Region.wanted o (yielded ops a.tmps)then ∀K:Act→World→Prop,(∀x w',V x w'→R w w'→K (a.put o.dst x) w')→o.wp P a w K Q else V undef w∧R w w
def o5(l:List Oper)(o:Oper):Nat:=vY l l.length (o.after.toList.foldl (fun T e=>if Region.binds .any e then T|||2^e.on else T) 0)
theorem uh{l:List Oper}{listed:Array Bool}(hd:Down l listed){o:Oper}(ho:∀e∈o.after.toList,Region.binds .any e=true→Listed listed e.on):∀j,(o5 l o).testBit j=true→Listed listed j:=
 sD hd _ _ (fun j hj=>ug _ 0 (by simp) ho j hj)
theorem count_set{b:Array Bool}{i:Nat}(h:b[i]? =some false):(b.setIfInBounds i true).toList.countP (! ·)+1=b.toList.countP (! ·):=by
 obtain⟨hi,he⟩:=Array.getElem?_eq_some_iff.1 h;have h1:b.toList[i]=false:=by simpa using he
 have hp:0<b.toList.countP (! ·):=by
  rw[List.countP_pos_iff];exact⟨false,by rw[←h1];exact List.getElem_mem _,rfl⟩
 have h2:=List.countP_set (p:=(! ·)) (l:=b.toList) (i:=i) (a:=true) (by simpa using hi);rw[h1]at h2;rw[Array.toList_setIfInBounds,h2];simp only[Bool.not_true,Bool.not_false,if_true,Bool.false_eq_true,if_false,Nat.add_zero];omega
def yx(L:List Oper)(n:Nat):Bool:=(List.range L.length).all fun i=>decide (i<n)||((L[i]?).map fun o=>(List.range i).all fun j=>(o5 L o).testBit j).getD true
theorem Nq{L:List Oper}{n i:Nat}{o:Oper}{listed:Array Bool}(h:yx L n=true)(ho:L[i]? =some o) (hi:n≤i) (hd:Down L listed) (hr:∀e∈o.after.toList,Region.binds .any e=true→Listed listed e.on):∀j,j<i→Listed listed j:=by
 intro j hj;have hl:=(List.getElem?_eq_some_iff.1 ho).1;have h1:=(List.all_eq_true.1 h) i (List.mem_range.2 hl);rw[Bool.or_eq_true]at h1;rcases h1 with h1|h1
 ·simp at h1;omega
 ·rw[ho,Option.map_some,Option.getD_some]at h1
  exact uh hd hr j ((List.all_eq_true.1 h1) j (List.mem_range.2 hj))
theorem Gn{L:List Oper}(abu:pM L=true){i:Nat}{o:Oper}(ho:L[i]? =some o):∀e∈o.after.toList,Region.binds .any e=true→e.on<i:=by
 intro e he hb;have hi:=(List.getElem?_eq_some_iff.1 ho).1;have h6:=(List.all_eq_true.1 abu) i (List.mem_range.2 hi);rw[ho,Option.map_some,Option.getD_some]at h6;have h7:=(List.all_eq_true.1 h6) e he;rw[hb]at h7;simpa using h7
theorem Nr{P:Program}{L:List Oper}{Q:Exit→Act→World→Prop}{n:Nat}(abu:pM L=true)(ht:yx L n=true):∀(rest pre:List Oper) (fuel:Nat) (listed:Array Bool) (a:Act) (w:World),L=pre++rest→n≤pre.length→listed.size=L.length→Down L listed→(∀j,Listed listed j↔j<pre.length)→rest.length≤fuel→
 wpList P L.toArray Q rest a w→wpAny P .any L.toArray Q fuel listed a w
 |[],pre,fuel,listed,a,w,hL,hn,hs,hd,ES,hf,h=>by
  have hr:Region.ready .any L.toArray listed=[]:=by
   rw[List.eq_nil_iff_forall_not_mem];intro i hi;rw[mem_ready]at hi;have h1:i<pre.length:=by have:=hi.1;rw[hL]at this;simpa using this
   have h2:=(ES i).2 h1;unfold Listed at h2;rw[hi.2.1]at h2;cases h2
  cases fuel with
  |zero=>exact⟨hr,h⟩
  |succ f=>exact⟨fun _=>h,fun i hi=>(by rw[hr]at hi;cases hi)⟩
 |o::os,pre,0,listed,a,w,hL,hn,hs,hd,ES,hf,h=>by simp at hf
 |o::os,pre,f+1,listed,a,w,hL,hn,hs,hd,ES,hf,h=>by
  have ho:L[pre.length]? =some o:=by rw[hL];simp
  have hlt:pre.length<L.length:=(List.getElem?_eq_some_iff.1 ho).1;have afD:listed[pre.length]? =some false:=by
   have h1:¬Listed listed pre.length:=fun h=>by have:=(ES _).1 h;omega
   unfold Listed at h1;rw[Array.getElem?_eq_getElem (by omega)]at h1⊢;simpa using h1
  have hrd:pre.length∈Region.ready .any L.toArray listed:=by
   rw[mem_ready];exact⟨by simpa using hlt,afD,o,by simpa using ho,fun e he hb=>(ES _).2 (Gn abu ho e he hb)⟩
  refine⟨fun h0=>(by rw[h0]at hrd;cases hrd),fun i hi=>?_⟩;rw[mem_ready]at hi;obtain⟨h1,h2,x,hx,h3⟩:=hi;have hx':L[i]? =some x:=by simpa using hx
  have hge:pre.length≤i:=by
   refine Nat.le_of_not_lt fun hlt=>?_
   have:=(ES i).2 hlt;unfold Listed at this;rw[h2]at this;cases this
  have aan:=Nq ht hx' (by omega) hd h3;have hii:i=pre.length:=by
   refine Nat.le_antisymm (Nat.le_of_not_lt fun hlt=>?_) hge;have:=(ES _).1 (aan _ hlt);omega
  subst hii;have hxo:x=o:=by rw[ho]at hx';exact(Option.some.inj hx').symm
  subst hxo;have next:∀a w,wpList P L.toArray Q os a w→wpAny P .any L.toArray Q f (listed.setIfInBounds pre.length true) a w:=fun a w hh=>
   Nr abu ht os (pre++[x]) f _ a w (by rw[hL];simp) (by simp;omega) (by simpa using hs) (CV hd ho h3) (fun j=>by
    rw[fP,ES];simp only[List.length_append,List.length_cons,List.length_nil];constructor
    ·rintro(h|⟨h,_⟩)<;>omega
    ·intro h
     by_cases hj:j<pre.length
     ·exact .inl hj
     ·exact .inr ⟨by omega,by omega⟩) (by simp at hf;omega) hh
  unfold wpOp;rw[hx];simp only[wpList]at h⊢;split
  ·rename_i hw
   rw[if_pos hw]at h;exact h.imp (Oper.wp_mono next) id
  ·rename_i hw
   rw[if_neg hw]at h;exact next _ _ h
def posOf:List Nat→Nat→Option Nat
 |[],_=>none
 |c::cs,i=>bif Nat.beq c i then some 0 else(posOf cs i).map (· +1)
def chainB(l:List Oper):List Nat→Bool
 |[]=>true
 |[c]=>decide (c<l.length)
 |c::d::cs=>decide (c<l.length)&&((l[d]?).map fun o=>(o5 l o).testBit c).getD false&&chainB l (d::cs)
def CW(l:List Oper)(loud:List Nat)(i:Nat)(o:Oper):Bool:=let m:=o5 l o;loud.all fun c=>Nat.beq c i||m.testBit c
theorem Gp{a b:Nat}:Nat.beq a b=true↔a=b:=⟨Nat.eq_of_beq_eq_true,fun h=>by subst h;simp⟩
theorem uS:∀(cs:List Nat) (i p:Nat),posOf cs i=some p→cs[p]? =some i
 |[],_,_,h=>by cases h
 |c::cs,i,p,h=>by
  unfold posOf at h;cases hb:Nat.beq c i
  ·rw[hb]at h
   simp only[cond_false,Option.map_eq_some_iff]at h;obtain⟨q,hq,rfl⟩:=h;simpa using uS cs i q hq
  ·rw[hb]at h
   simp only[cond_true,Option.some.injEq]at h;subst h;simpa using Gp.1 hb
theorem xw:∀(cs:List Nat) (i:Nat),i∈cs→∃p,posOf cs i=some p
 |[],_,h=>by cases h
 |c::cs,i,h=>by
  unfold posOf;cases hb:Nat.beq c i
  ·rcases List.mem_cons.1 h with e|h
   ·exact absurd (Gp.2 e.symm) (by rw[hb];simp)
   ·obtain⟨p,hp⟩:=xw cs i h
    exact⟨p+1,by simp[hp]⟩
  ·exact⟨0,rfl⟩
theorem CX{l:List Oper}:∀(cs:List Nat) (p c d:Nat) (o:Oper),chainB l cs=true→cs[p]? =some c→cs[p+1]? =some d→l[d]? =some o→(o5 l o).testBit c=true
 |[],_,_,_,_,_,h,_,_=>by simp at h
 |[_],_,_,_,_,_,_,h,_=>by simp at h
 |c'::d'::cs,0,c,d,o,hc,h1,h2,ho=>by
  simp only[List.getElem?_cons_zero,Option.some.injEq]at h1;simp only[List.getElem?_cons_succ,List.getElem?_cons_zero,Option.some.injEq]at h2;subst h1;subst h2;simp only[chainB,Bool.and_eq_true]at hc;have:=hc.1.2;rw[ho]at this;simpa using this
 |c'::d'::cs,p+1,c,d,o,hc,h1,h2,ho=>by
  simp only[chainB,Bool.and_eq_true]at hc;exact CX (d'::cs) p c d o hc.2 (by simpa using h1) (by simpa using h2) ho
theorem Iw{l:List Oper}:∀(cs:List Nat),chainB l cs=true→∀c∈cs,c<l.length
 |[],_,c,h=>by cases h
 |[d],hc,c,h=>by
  simp only[List.mem_singleton]at h;subst h;simpa[chainB]using hc
 |c'::d'::cs,hc,c,h=>by
  simp only[chainB,Bool.and_eq_true]at hc;rcases List.mem_cons.1 h with rfl|h
  ·simpa using hc.1.1
  ·exact Iw (d'::cs) hc.2 c h
section
variable {P:Program} {l:List Oper} {Q:Exit→Act→World→Prop} {R R':World→World→Prop} {S:Nat→(Nat→Value)→World→Prop} {loud:List Nat} {V:Nat→Value→World→Prop} {a0:Act} {w0:World}
theorem Iy{ls tl:List Oper}{tmps:Array Value}{j:Nat}(hj:j<ls.length):yielded (ls++tl).toArray tmps j=yielded ls.toArray tmps j:=by
 unfold yielded;simp[List.getElem?_append_left hj]
theorem Kw{ls tl:List Oper}{x:Oper}{tmps:Array Value}(hg:jY ls=true){i:Nat}(hx:ls[i]? =some x):Region.wanted x (yielded (ls++tl).toArray tmps)=Region.wanted x (yielded ls.toArray tmps):=by
 have:=(List.all_eq_true.1 hg) x (List.mem_of_getElem? hx);unfold Region.wanted;cases hgd:x.guard with
 |none=>rfl
 |some g=>
  obtain⟨j,want⟩:=g;rw[hgd]at this;simp only[decide_eq_true_eq]at this;simp only[Iy this]
def look:List (Nat×(Value→World→Prop))→Nat→Value→World→Prop
 |[],_,_,_=>True
 |(k,V)::r,j,x,w=>bif Nat.beq k j then V x w else look r j x w
def isDst:Option Nat→Nat→Bool
 |none,_=>false
 |some e,d=>Nat.beq e d
def eH:List Oper→Nat→(Nat→Value)→Array Value→Nat→Value
 |[],_,_,t,d=>t.getD d undef
 |o::os,i,u,t,d=>bif isDst o.dst d then u i else eH os (i+1) u t d
theorem QL(o:Option Nat)(d:Nat):isDst o d=(o==some d):=by
 cases o with
 |none=>rfl
 |some e=>
  by_cases h:e=d
  ·subst h;simp[isDst]
  ·have:(some e==some d)=false:=by simpa using h
   rw[this];show Nat.beq e d=false;cases hb:Nat.beq e d
   ·rfl
   ·exact absurd (Nat.eq_of_beq_eq_true hb) h
def wo(os:List Oper)(n:Nat):Bool:=os.all fun o=>match o.dst with|some d=>decide (d<n)|none=>true
theorem uH:∀(os:List Oper) (i:Nat) (u:Nat→Value) (a:Act) (d:Nat),(os.all fun p=>p.dst !=some d)=true→(ax os i u a).tmps.getD d undef=a.tmps.getD d undef
 |[],_,_,_,_,_=>rfl
 |o::os,i,u,a,d,h=>by
  simp only[List.all_cons,Bool.and_eq_true]at h;unfold ax;rw[uH os _ _ _ d h.2];cases ho:o.dst with
  |none=>rfl
  |some e=>
   have he:e≠d:=by have:=h.1;rw[ho]at this;simpa using this
   simp[Act.put,Array.getD_eq_getD_getElem?,Array.getElem?_setIfInBounds,he]
theorem qV:∀(os:List Oper) (i:Nat) (u:Nat→Value) (a:Act) (d:Nat),apartB os=true→wo os a.tmps.size=true→(ax os i u a).tmps.getD d undef=eH os i u a.tmps d
 |[],_,_,_,_,_,_=>rfl
 |o::os,i,u,a,d,hd,hr=>by
  simp only[apartB,Bool.and_eq_true]at hd;simp only[wo,List.all_cons,Bool.and_eq_true]at hr;have hr2:wo os (a.put o.dst (u i)).tmps.size=true:=by
   have:(a.put o.dst (u i)).tmps.size=a.tmps.size:=by cases o.dst<;>simp[Act.put]
   rw[this];exact hr.2
  unfold ax eH;rw[QL];cases ho:o.dst with
  |none=>
   rw[ho]at hr2;rw[qV os (i+1) u _ d hd.2 hr2];rfl
  |some e=>
   rw[ho]at hd hr hr2;by_cases he:e=d
   ·subst he
    rw[uH os _ _ _ e hd.1];have hlt:e<a.tmps.size:=by simpa using hr.1
    simp[Act.put,Array.getD_eq_getD_getElem?,Array.getElem?_setIfInBounds,hlt]
   ·rw[qV os (i+1) u _ d hd.2 hr2]
    have hb:(some e==some d)=false:=by simpa using he
    rw[hb,cond_false];have aux:∀(os:List Oper) (i:Nat) (t s:Array Value),t.getD d undef=s.getD d undef→eH os i u t d=eH os i u s d:=by
     intro os;induction os with
     |nil=>intro i t s h;exact h
     |cons o os ih=>intro i t s h;unfold eH;rw[ih _ _ _ h]
    refine aux _ _ _ _ ?_;simp[Act.put,Array.getD_eq_getD_getElem?,Array.getElem?_setIfInBounds,he]
def gV(o:Oper)(f:Nat→Value)(ops:List Oper)(b:Bool):Prop:=
 match o.guard with
 |none=>b=true
 |some (j,want)=>match (ops[j]?).bind (·.dst)with
  |some d=>(∃x,f d= .bool x∧b=(x==want))∨(f d=undef∧b=false)
  |none=>False
theorem ET{o:Oper}{a:Act}{f:Nat→Value}{b:Bool}{ops:List Oper}(hf:∀d,a.tmps.getD d undef=f d)(h:gV o f ops b):Region.wanted o (yielded ops.toArray a.tmps)=b:=by
 unfold gV at h;unfold Region.wanted;cases hg:o.guard with
 |none=>rw[hg]at h;simpa using h.symm
 |some g=>
  obtain⟨j,want⟩:=g;rw[hg]at h;simp only at h⊢;cases hd:(ops[j]?).bind (·.dst)with
  |none=>rw[hd]at h;exact h.elim
  |some d=>
   rw[hd]at h;rcases h with⟨x,hx,hb⟩|⟨hx,hb⟩
   rotate_left
   ·have h2:=hf d
    rw[hx]at h2;have hd':(ops.toArray[j]?).bind (·.dst)=some d:=by simpa using hd
    simp only[yielded,hd',Option.bind_some];rw[Array.getD_eq_getD_getElem?]at h2;rw[hb];cases h4:a.tmps[d]? with
    |none=>rfl
    |some y=>
     rw[h4]at h2;have:y=undef:=by simpa using h2
     subst this;rfl
   have h2:=hf d;rw[hx]at h2;have h3:a.tmps[d]? =some (.bool x):=by
    rw[Array.getD_eq_getD_getElem?]at h2;cases h4:a.tmps[d]? with
    |none=>rw[h4]at h2;simp[undef]at h2
    |some y=>rw[h4]at h2;simpa using h2
   have hd':(ops.toArray[j]?).bind (·.dst)=some d:=by simpa using hd
   simp only[yielded,hd',Option.bind_some,h3];rw[hb];cases x<;>cases want<;>rfl
def stepT(P:Program)(l:List Oper)(Q:Exit→Act→World→Prop)(R:World→World→Prop)(o:Oper)(V:Value→World→Prop)(f:Nat→Value)(w:World):Prop:=
 (gV o f l true∧∀a:Act,(∀d,a.tmps.getD d undef=f d)→∀K:Act→World→Prop,(∀x w',V x w'→R w w'→K (a.put o.dst x) w')→o.wp P a w K Q)∨(gV o f l false∧V undef w∧R w w)
theorem QN{f:Nat→Value}{o:Oper}{V:Value→World→Prop}{a:Act}{w:World}(ha:∀d,a.tmps.getD d undef=f d)(h:stepT P l Q R o V f w):Iu P l.toArray Q R o V a w:=by
 rcases h with⟨hg,h⟩|⟨hg,h⟩
 ·unfold Iu;rw[if_pos (ET ha hg)];exact h a ha
 ·unfold Iu;rw[if_neg (by rw[ET ha hg];simp)];exact h
def rP(R R':World→World→Prop)(loud:List Nat)(i:Nat):World→World→Prop:=match posOf loud i with
 |none=>R'
 |some _=>R
def Wh(l:List Oper)(loud:List Nat)(i:Nat):Nat:=loud.findIdx (fun c=>match l[c]? with|some o=>(o5 l o).testBit i|none=>false)
def CY(S:Nat→(Nat→Value)→World→Prop)(l:List Oper)(loud:List Nat)(i:Nat)(u:Nat→Value):World→Prop:=match posOf loud i with
 |none=>fun w=>∃k,k≤Wh l loud i∧S k u w
 |some p=>S p u
def rQ(S:Nat→(Nat→Value)→World→Prop)(loud:List Nat)(i:Nat)(V:Value→World→Prop)(u:Nat→Value):Value→World→Prop:=match posOf loud i with
 |none=>V
 |some p=>fun x w=>V x w∧S (p+1) (upd u i x) w
theorem upd_ne{u:Nat→Value}{i j:Nat}{y:Value}(h:j≠i):upd u i y j=u j:=if_neg h
theorem OD{tl:List Oper}(hap:apartB l=true)(hg:jY l=true)(abu:pM (l++tl)=true)(htl:yx (l++tl) l.length=true)(hch:chainB l loud=true)(hnd:loud.Nodup)
 (rr:∀w,R' w w)(rt:∀a b c,R a b→R b c→R a c)(hRR:∀a b,R' a b→R a b)(hS:∀k u a b,S k u a→R' a b→S k u b)(hSu:∀k u i y w,(∀p,p<k→loud[p]? ≠some i)→S k u w→S k (upd u i y) w)
 (hV:∀i x w w',V i x w→R' w w'→V i x w') (hV2:∀i o,l[i]? =some o→CW l loud i o=false→∀x w w',V i x w→R w w'→V i x w')
 (acW:∀i o,l[i]? =some o→∀u w,R w0 w→CY S l loud i u w→(∀j,(o5 l o).testBit j=true→V j (u j) w)→Iu P l.toArray Q (rP R R' loud i) o (rQ S loud i (V i) u) (ax l 0 u a0) w)
 (abn:∀u w,R w0 w→S loud.length u w→(∀j,j<l.length→V j (u j) w)→wpList P (l++tl).toArray Q tl (ax l 0 u a0) w):
 ∀(fuel:Nat) (listed:Array Bool) (u:Nat→Value) (w:World) (k:Nat),listed.size=(l++tl).length→Down (l++tl) listed→R w0 w→S k u w→(∀p c,loud[p]? =some c→(Listed listed c↔p<k))→k≤loud.length→(∀j,Listed listed j→j<l.length)→(∀j,Listed listed j→V j (u j) w)→listed.toList.countP (! ·)≤fuel→
  wpAny P .any (l++tl).toArray Q fuel listed (ax l 0 u a0) w:=by
 have dn:∀listed:Array Bool,Down (l++tl) listed→Down l listed:=fun listed hd i x hx hi=>hd i x (by rw[List.getElem?_append_left (List.getElem?_eq_some_iff.1 hx).1];exact hx) hi
 have full:∀listed:Array Bool,listed.size=(l++tl).length→(∀i,i<l.length→i∉Region.ready .any (l++tl).toArray listed)→∀i,i<l.length→Listed listed i:=by
  intro listed hs hr i;induction i using Nat.strongRecOn with
  |ind i ih=>
   intro hi;refine Classical.byContradiction fun hn=>hr i hi ?_
   have ES:(l++tl)[i]? =some l[i]:=by rw[List.getElem?_append_left hi];simp[hi]
   rw[mem_ready];refine⟨by simp at hs⊢;omega,?_,l[i],by simpa using ES,fun e he hb=>ih e.on (Gn abu ES e he hb) (by have:=Gn abu ES e he hb;omega)⟩;unfold Listed at hn;rw[Array.getElem?_eq_getElem (by simp at hs;omega)]at hn⊢;simpa using hn
 have done:∀(fuel:Nat) (listed:Array Bool) (u:Nat→Value) (w:World) (k:Nat),listed.size=(l++tl).length→Down (l++tl) listed→R w0 w→S k u w→(∀p c,loud[p]? =some c→(Listed listed c↔p<k))→k≤loud.length→(∀j,Listed listed j→j<l.length)→(∀j,Listed listed j→V j (u j) w)→(∀j,j<l.length→Listed listed j)→listed.toList.countP (! ·)≤fuel→wpAny P .any (l++tl).toArray Q fuel listed (ax l 0 u a0) w:=by
  intro fuel listed u w k hs hd hR Vq hk hkl hb hF aan hc;have hkm:k=loud.length:=by
   refine Nat.le_antisymm hkl (Nat.le_of_not_lt fun hlt=>?_);have h1:loud[k]? =some loud[k]:=by simp[hlt]
   have:=(hk k _ h1).1 (aan _ (Iw loud hch _ (List.getElem_mem _)));omega
  subst hkm;refine Nr abu htl tl l fuel listed _ w rfl (Nat.le_refl _) hs hd (fun j=>⟨hb j,aan j⟩) ?_ (abn u w hR Vq fun j hj=>hF j (aan j hj));have h1:listed.toList.countP (! ·)=tl.length:=by
   have h2:listed.toList=List.replicate l.length true++List.replicate tl.length false:=by
    apply List.ext_getElem?;intro i;rw[List.getElem?_append];simp only[List.length_replicate,List.getElem?_replicate];by_cases h:i<l.length
    ·have:=aan i h
     unfold Listed at this;rw[if_pos h,if_pos h];simpa using this
    ·rw[if_neg h]
     by_cases h3:i-l.length<tl.length
     ·rw[if_pos h3]
      have hlt:i<listed.size:=by rw[hs];simp;omega
      have:¬Listed listed i:=fun hh=>h (hb i hh)
      unfold Listed at this;rw[Array.getElem?_eq_getElem hlt]at this;simp only[Array.getElem?_toList,Array.getElem?_eq_getElem hlt];simpa using this
     ·rw[if_neg h3]
      simp only[Array.getElem?_toList];rw[Array.getElem?_eq_none];rw[hs];simp;omega
   rw[h2];simp[List.countP_append,List.countP_replicate]
  omega
 intro fuel;induction fuel with
 |zero=>
  intro listed u w k hs hd hR Vq hk hkl hb hF hc;refine done 0 listed u w k hs hd hR Vq hk hkl hb hF (full listed hs fun i hi hm=>?_) hc;rw[mem_ready]at hm;have:=count_set hm.2.1;omega
 |succ fuel ih=>
  intro listed u w k hs hd hR Vq hk hkl hb hF hc;by_cases aan:∀j,j<l.length→Listed listed j
  ·exact done _ listed u w k hs hd hR Vq hk hkl hb hF aan hc
  refine⟨fun hr=>absurd (full listed hs fun i hi hm=>(by rw[hr]at hm;cases hm)) aan,fun i hi=>?_⟩;rw[mem_ready]at hi;obtain⟨h1,h2,o,ho,h3⟩:=hi;have hoL:(l++tl)[i]? =some o:=by simpa using ho
  have hil:i<l.length:=by
   refine Nat.lt_of_not_le fun hge=>aan ?_
   intro j hj;exact Nq htl hoL hge hd h3 j (by omega)
  have ho':l[i]? =some o:=by rwa [List.getElem?_append_left hil]at hoL
  have hcs:=count_set h2;have hdn:=CV hd hoL h3;have hun:¬Listed listed i:=by unfold Listed;rw[h2];simp
  have afE:=uh (dn _ hd) h3;have aiB:∀p,posOf loud i=some p→k=p:=by
   intro p hp;have hc:=uS _ _ _ hp;have h4:¬p<k:=fun h=>hun ((hk p i hc).2 h)
   cases p with
   |zero=>omega
   |succ q=>
    have hq:q<loud.length:=by have:=(List.getElem?_eq_some_iff.1 hc).1;omega
    have hcq:loud[q]? =some loud[q]:=by simp[hq]
    have:=(hk q _ hcq).1 (afE _ (CX loud q _ i o hch hcq hc ho'));omega
  have acs:CY S l loud i u w:=by
   unfold CY;cases hp:posOf loud i with
   |none=>
    refine⟨k,Nat.le_of_not_lt fun hlt=>?_,Vq⟩;unfold Wh at hlt;have aah:loud.findIdx (fun c=>match l[c]? with|some o=>(o5 l o).testBit i|none=>false)<loud.length:=by omega
    have h5:=List.findIdx_getElem (w:=aah);have h6:loud[loud.findIdx (fun c=>match l[c]? with|some o=>(o5 l o).testBit i|none=>false)]? =some loud[loud.findIdx (fun c=>match l[c]? with|some o=>(o5 l o).testBit i|none=>false)]:=by simp[aah]
    have h7:=(hk _ _ h6).2 hlt;cases h8:l[loud[loud.findIdx (fun c=>match l[c]? with|some o=>(o5 l o).testBit i|none=>false)]]? with
    |none=>rw[h8]at h5;cases h5
    |some oc=>
     rw[h8]at h5;exact hun (uh (dn _ hd) ((dn _ hd) _ _ h8 h7) i h5)
   |some p=>have:=aiB p hp;subst this;exact Vq
  have next:∀x w',rQ S loud i (V i) u x w'→rP R R' loud i w w'→wpAny P .any (l++tl).toArray Q fuel (listed.setIfInBounds i true) ((ax l 0 u a0).put o.dst x) w':=by
   intro x w' hx hw;rw[yw l 0 i o u a0 x hap ho',Nat.zero_add];have hbs:∀j,Listed (listed.setIfInBounds i true) j→j<l.length:=by
    intro j hj;rcases fP.1 hj with h|h
    ·exact hb j h
    ·omega
   cases hp:posOf loud i with
   |none=>
    unfold rP at hw;rw[hp]at hw;unfold rQ at hx;rw[hp]at hx;have hnl:∀p,p<k→loud[p]? ≠some i:=fun p _ h=>by
     obtain⟨q,hq⟩:=xw loud i (List.mem_of_getElem? h);rw[hp]at hq;cases hq
    refine ih _ _ _ k (by simpa using hs) hdn (rt _ _ _ hR (hRR _ _ hw)) (hSu _ _ _ _ _ hnl (hS _ _ _ _ Vq hw)) (fun p c hc=>?_) hkl hbs (fun j hj=>?_) (by omega)
    ·rw[fP,hk p c hc]
     constructor
     ·rintro(h|⟨h,_⟩)
      ·exact h
      ·subst h
       obtain⟨q,hq⟩:=xw loud i (List.mem_of_getElem? hc);rw[hp]at hq;cases hq
     ·exact .inl
    ·by_cases hji:j=i
     ·subst hji
      simpa[upd]using hx
     ·rcases fP.1 hj with h|h
      ·simpa[upd,hji]using hV _ _ _ _ (hF j h) hw
      ·exact absurd h.1.symm hji
   |some p=>
    unfold rP at hw;rw[hp]at hw;unfold rQ at hx;rw[hp]at hx;obtain⟨hx,hxS⟩:=hx;have hc:=uS _ _ _ hp;have hkp:=aiB p hp;subst hkp;have hlt:=(List.getElem?_eq_some_iff.1 hc).1;refine ih _ _ _ (k+1) (by simpa using hs) hdn (rt _ _ _ hR hw) hxS (fun q c hq=>?_) hlt hbs (fun j hj=>?_) (by omega)
    ·rw[fP,hk q c hq]
     constructor
     ·rintro(h|⟨h,_⟩)
      ·omega
      ·subst h
       have:q=k:=by
        have h5:=(List.getElem?_eq_some_iff.1 hq).1;exact(List.getElem?_inj h5 hnd).1 (hq.trans hc.symm)
       omega
     ·intro h
      by_cases hqk:q<k
      ·exact .inl hqk
      ·have:q=k:=by omega
       subst this;rw[hc]at hq;exact .inr ⟨Option.some.inj hq,by rw[←Option.some.inj hq];exact(Array.getElem?_eq_some_iff.1 h2).1⟩
    ·by_cases hji:j=i
     ·subst hji
      simpa[upd]using hx
     ·rcases fP.1 hj with h|h
      ·have hjl:=hb j h
       have hoj:l[j]? =some l[j]:=by simp[hjl]
       have abo:CW l loud j l[j]=false:=by
        cases hh:CW l loud j l[j]
        ·rfl
        ·exfalso
         have h6:=(List.all_eq_true.1 hh) i (List.mem_of_getElem? hc);rw[Bool.or_eq_true]at h6;rcases h6 with h6|h6
         ·exact hji (Gp.1 h6).symm
         ·exact hun (uh (dn _ hd) ((dn _ hd) j _ hoj h) i h6)
       simpa[upd,hji]using hV2 j _ hoj abo _ _ _ (hF j h) hw
      ·exact absurd h.1.symm hji
  have rri:∀w',V i undef w'→True:=fun _ _=>trivial
  have st:=acW i o ho' u w hR acs (fun j hj=>hF j (afE j hj));unfold wpOp;rw[ho];simp only;unfold Iu at st;rw[Kw hg ho'];split
  ·rename_i hw
   rw[if_pos hw]at st;exact .inl (st _ (fun x w' hx hR'=>next x w' hx hR'))
  ·rename_i hw
   rw[if_neg hw]at st;exact next undef w st.1 st.2
def Lo(P:Program)(l:List Oper)(Q:Exit→Act→World→Prop)(E:Act→World→Prop)(R R':World→World→Prop)(S:Nat→(Nat→Value)→World→Prop)(loud:List Nat)(w0:World)(a0:Act):List Oper→Nat→List (Nat×(Value→World→Prop))→Prop
 |[],_,Vs=>∀u w,R w0 w→S loud.length u w→(∀j,look Vs j (u j) w)→E (ax l 0 u a0) w
 |o::os,i,Vs=>∃V:Value→World→Prop,(∀x w w',V x w→R' w w'→V x w')∧(CW l loud i o=false→∀x w w',V x w→R w w'→V x w')∧(∀u w,R w0 w→CY S l loud i u w→(∀j,(o5 l o).testBit j=true→look Vs j (u j) w)→stepT P l Q (rP R R' loud i) o (rQ S loud i V u) (eH l 0 u a0.tmps) w)∧Lo P l Q E R R' S loud w0 a0 os (i+1) ((i,V)::Vs)
theorem xx(k:Nat)(V:Value→World→Prop)(r:List (Nat×(Value→World→Prop)))(j:Nat):look ((k,V)::r) j=if k=j then V else look r j:=by
 funext x w
 unfold look;by_cases h:k=j
 ·subst h;simp
 ·have:Nat.beq k j=false:=by
   cases hb:Nat.beq k j
   ·rfl
   ·exact absurd (Nat.eq_of_beq_eq_true hb) h
  rw[this,if_neg h];rfl
theorem qW:∀(Vs:List (Nat×(Value→World→Prop))) (n j:Nat),(∀p∈Vs,p.1<n)→n≤j→look Vs j=fun _ _=>True
 |[],_,_,_,_=>rfl
 |(k,V)::r,n,j,h,hj=>by
  have hk:k<n:=h (k,V) (by simp);rw[xx,if_neg (by omega),qW r n j (fun p hp=>h p (by simp[hp])) hj]
variable {E:Act→World→Prop}
theorem CZ:∀(os:List Oper) (pre:List Oper) (Vs:List (Nat×(Value→World→Prop))),l=pre++os→(∀p∈Vs,p.1<pre.length)→Lo P l Q E R R' S loud w0 a0 os pre.length Vs→
 ∃Ws:List (Nat×(Value→World→Prop)),(∀j,j<pre.length→look Ws j=look Vs j)∧(∀j,pre.length≤j→∀x w w',look Ws j x w→R' w w'→look Ws j x w')∧(∀j o,pre.length≤j→l[j]? =some o→CW l loud j o=false→∀x w w',look Ws j x w→R w w'→look Ws j x w')∧
  (∀(i:Nat) (o:Oper),pre.length≤i→l[i]? =some o→∀u w,R w0 w→CY S l loud i u w→(∀j,(o5 l o).testBit j=true→look Ws j (u j) w)→stepT P l Q (rP R R' loud i) o (rQ S loud i (look Ws i) u) (eH l 0 u a0.tmps) w)∧
  (∀j,l.length≤j→look Ws j=fun _ _=>True)∧(∀u w,R w0 w→S loud.length u w→(∀j,look Ws j (u j) w)→E (ax l 0 u a0) w)
 |[],pre,Vs,hl,hk,h=>by
  refine⟨Vs,fun _ _=>rfl,fun j hj x w w' hx _=>?_,fun j o hj ho=>?_,fun i o hi ho=>?_,?_,h⟩
  ·rw[qW Vs _ j hk hj];trivial
  ·rw[hl,List.append_nil]at ho
   have:=(List.getElem?_eq_some_iff.1 ho).1;omega
  ·rw[hl,List.append_nil]at ho
   have:=(List.getElem?_eq_some_iff.1 ho).1;omega
  ·rw[hl,List.append_nil];exact fun j hj=>qW Vs _ j hk hj
 |o::os,pre,Vs,hl,hk,h=>by
  obtain⟨V,h1,h1',h2,h3⟩:=h;have aah:(pre++[o]).length=pre.length+1:=by simp
  obtain⟨Ws,g1,g2,g2',g3,g5,g4⟩:=CZ os (pre++[o]) ((pre.length,V)::Vs) (by rw[hl];simp) (by
   intro p hp;rw[aah];rcases List.mem_cons.1 hp with rfl|hp
   ·simp
   ·have:=hk p hp;omega) (by rw[aah];exact h3)
  rw[aah]at g1 g2 g2' g3;have e0:look Ws pre.length=V:=by rw[g1 _ (by omega),xx,if_pos rfl]
  have e1:∀j,j<pre.length→look Ws j=look Vs j:=fun j hj=>by rw[g1 _ (by omega),xx,if_neg (by omega)]
  have eo:∀p,l[pre.length]? =some p→p=o:=fun p hp=>by rw[hl]at hp;simpa using hp.symm
  refine⟨Ws,e1,fun j hj=>?_,fun j p hj hp=>?_,fun i p hi hp=>?_,g5,g4⟩
  ·rcases Nat.eq_or_lt_of_le hj with h|h
   ·subst h;rw[e0];exact h1
   ·exact g2 j (by omega)
  ·rcases Nat.eq_or_lt_of_le hj with h|h
   ·subst h;rw[e0,eo p hp];exact h1'
   ·exact g2' j p (by omega) hp
  ·rcases Nat.eq_or_lt_of_le hi with h|h
   ·subst h
    have:=eo p hp;subst this;rw[e0];intro u w hR hP hF;refine h2 u w hR hP fun j hj=>?_
    by_cases hjl:j<pre.length
    ·rw[←e1 j hjl];exact hF j hj
    ·rw[qW Vs _ j hk (by omega)];trivial
   ·exact g3 i p (by omega) hp
theorem jM{id:Nat}{L:List Oper}(n:Nat)(R R':World→World→Prop)(S:Nat→(Nat→Value)→World→Prop)(loud:List Nat)(hm:P.follows .mixedOrders=true)(hap:apartB (L.take n)=true)(hg:jY (L.take n)=true)(abu:pM L=true)(htl:yx L n=true)(hch:chainB (L.take n) loud=true)(hn:n≤L.length)(hnd:loud.Nodup)(hrm:wo (L.take n) a0.tmps.size=true)
 (rr:∀w,R' w w)(rt:∀a b c,R a b→R b c→R a c)(hRR:∀a b,R' a b→R a b)(hS:∀k u a b,S k u a→R' a b→S k u b)(hSu:∀k u i y w,(∀p,p<k→loud[p]? ≠some i)→S k u w→S k (upd u i y) w) (hS0:∀u,S 0 u w0.drew)
 (h:Lo P (L.take n) Q (fun a w=>wpList P L.toArray Q (L.drop n) a w) R R' S loud w0.drew a0 (L.take n) 0 []):(Code.region id L.toArray true).wp P Q a0 w0:=by
 obtain⟨l,hl⟩:∃l,l=L.take n:=⟨_,rfl⟩;obtain⟨tl,aiC⟩:∃tl,tl=L.drop n:=⟨_,rfl⟩;have hL:L=l++tl:=by rw[hl,aiC,List.take_append_drop]
 have hln:l.length=n:=by rw[hl];simp;omega
 rw[←hl,←aiC]at h;rw[←hl]at hap hg hrm hch;rw[←hln]at htl;clear hl aiC;subst hL;obtain⟨Ws, -,hs,hs',hst,hab,he⟩:=CZ (l:=l) l [] [] (by simp) (by simp) h;refine wp_region_any hm ?_;obtain⟨u,hu⟩:=vZ l 0 a0;have none_listed:∀i,¬Listed (Array.replicate (l++tl).length false) i:=by
  intro i hi;unfold Listed at hi;rw[Array.getElem?_replicate]at hi;split at hi<;>cases hi
 have aan:=OD (P:=P) (l:=l) (tl:=tl) (Q:=Q) (R:=R) (R':=R') (S:=S) (loud:=loud) (V:=look Ws) (a0:=a0) (w0:=w0.drew) hap hg abu htl hch hnd rr rt hRR hS hSu
  (fun i x w w' hx hR=>hs i (by simp) x w w' hx hR)
  (fun i o ho hl=>hs' i o (by simp) ho hl)
  (fun i o ho u w hR hP hF=>QN (fun d=>qV l 0 u a0 d hap hrm) (hst i o (by simp) ho u w hR hP hF))
  (fun u w hR Wi hF=>he u w hR Wi (fun j=>by
    by_cases hj:j<l.length
    ·exact hF j hj
    ·rw[hab j (by omega)];trivial))
  (l++tl).length (Array.replicate (l++tl).length false) u w0.drew 0 (by simp) (fun i x _ hi=>absurd hi (none_listed i)) (hRR _ _ (rr _)) (hS0 u) (fun p c _=>⟨fun h=>absurd h (none_listed c),fun h=>absurd h (Nat.not_lt_zero _)⟩) (Nat.zero_le _) (fun j hj=>absurd hj (none_listed j)) (fun j hj=>absurd hj (none_listed j)) (by
    have:=List.countP_le_length (p:=fun b=> !b) (l:=(Array.replicate (l++tl).length false).toList);simpa using this)
 rw[hu]at aan;simpa using aan
theorem bP{id:Nat}{L:List Oper}(n:Nat)(R R':World→World→Prop)(S:Nat→World→Prop)(loud:List Nat)(hm:P.follows .mixedOrders=true)(hap:apartB (L.take n)=true)(hg:jY (L.take n)=true)(abu:pM L=true)(htl:yx L n=true)(hch:chainB (L.take n) loud=true)(hn:n≤L.length)(hnd:loud.Nodup)(hrm:wo (L.take n) a0.tmps.size=true)
 (rr:∀w,R' w w)(rt:∀a b c,R a b→R b c→R a c)(hRR:∀a b,R' a b→R a b)(hS:∀k a b,S k a→R' a b→S k b)(hS0:S 0 w0.drew)
 (h:Lo P (L.take n) Q (fun a w=>wpList P L.toArray Q (L.drop n) a w) R R' (fun k _=>S k) loud w0.drew a0 (L.take n) 0 []):(Code.region id L.toArray true).wp P Q a0 w0:=
 jM n R R' (fun k _=>S k) loud hm hap hg abu htl hch hn hnd hrm rr rt hRR (fun k _=>hS k) (fun _ _ _ _ _ _ h=>h) (fun _=>hS0) h
theorem oM{id:Nat}{L:List Oper}(n:Nat)(R:World→World→Prop)(hm:P.follows .mixedOrders=true)(hap:apartB (L.take n)=true)(hg:jY (L.take n)=true)(abu:pM L=true)(htl:yx L n=true)(hn:n≤L.length)(hrm:wo (L.take n) a0.tmps.size=true)(rr:∀w,R w w)(rt:∀a b c,R a b→R b c→R a c)
 (h:Lo P (L.take n) Q (fun a w=>wpList P L.toArray Q (L.drop n) a w) R R (fun _ _ _=>True) [] w0.drew a0 (L.take n) 0 []):(Code.region id L.toArray true).wp P Q a0 w0:=
 jM n R R _ [] hm hap hg abu htl rfl hn List.nodup_nil hrm rr rt (fun _ _ h=>h) (fun _ _ _ _ _ _=>trivial) (fun _ _ _ _ _ _ _=>trivial) (fun _=>trivial) h
theorem rU{id:Nat}(R:World→World→Prop)(hm:P.follows .mixedOrders=true)(hap:apartB l=true)(abu:pM l=true)(hg:jY l=true)(hrm:wo l a0.tmps.size=true)(rr:∀w,R w w)(rt:∀a b c,R a b→R b c→R a c)
 (h:Lo P l Q (fun a w=>Q .normal a w) R R (fun _ _ _=>True) [] w0.drew a0 l 0 []):(Code.region id l.toArray true).wp P Q a0 w0:=by
 have e1:l.take l.length=l:=List.take_length;have e2:l.drop l.length=[]:=List.drop_length;refine oM l.length R hm (by rw[e1];exact hap) (by rw[e1];exact hg) abu ?_ (Nat.le_refl _) (by rw[e1];exact hrm) rr rt ?_
 ·unfold yx
  rw[List.all_eq_true];intro i hi;have:=List.mem_range.1 hi;simp[this]
 ·rw[e1,e2];exact h
def headB(P:Program)(L:List Oper)(n:Nat):Bool:=P.follows .mixedOrders&&(apartB (L.take n)&&(jY (L.take n)&&(pM L&&(yx L n&&Nat.ble n L.length))))
theorem gU{id:Nat}{L:List Oper}(n:Nat)(S:List Nat)(hB:headB P L n=true)(hrm:wo (L.take n) a0.tmps.size=true)
 (h:Lo P (L.take n) Q (fun a w=>wpList P L.toArray Q (L.drop n) a w) (Turn S) (Turn S) (fun _ _ _=>True) [] w0.drew a0 (L.take n) 0 []):(Code.region id L.toArray true).wp P Q a0 w0:=by
 unfold headB at hB;simp only[Bool.and_eq_true]at hB;exact oM n (Turn S) hB.1 hB.2.1 hB.2.2.1 hB.2.2.2.1 hB.2.2.2.2.1 (Nat.le_of_ble_eq_true hB.2.2.2.2.2) hrm (Turn.refl _) (fun _ _ _ h k=>h.same k) h
def Vr(P:Program)(l:List Oper):Bool:=P.follows .mixedOrders&&(apartB l&&(pM l&&jY l))
theorem jT{id:Nat}(S:List Nat)(hB:Vr P l=true)(hrm:wo l a0.tmps.size=true)
 (h:Lo P l Q (fun a w=>Q .normal a w) (Turn S) (Turn S) (fun _ _ _=>True) [] w0.drew a0 l 0 []):(Code.region id l.toArray true).wp P Q a0 w0:=by
 unfold Vr at hB;simp only[Bool.and_eq_true]at hB;exact rU (Turn S) hB.1 hB.2.1 hB.2.2.1 hB.2.2.2 hrm (Turn.refl _) (fun _ _ _ h k=>h.same k) h
theorem _root_.Go.Proofs.YtficbckncieabaaGreatDoor.Turn.dr{S:List Nat}{w w':World}(h:Turn S w.drew w'):Turn S w w':=((Turn.refl S w).drew).same h
def kX(Vs:List (Nat×(Value→World→Prop)))(u:Nat→Value)(w:World):List Nat→Prop
 |[]=>True
 |j::js=>look Vs j (u j) w∧kX Vs u w js
def zS(l:List Oper)(o:Oper)(js:List Nat):Bool:=let m:=o5 l o;js.all fun j=>m.testBit j
theorem jk{p:Nat→Bool}{Vs:List (Nat×(Value→World→Prop))}{u:Nat→Value}{w:World}(hf:∀j,p j=true→look Vs j (u j) w):∀js:List Nat,js.all p=true→kX Vs u w js
 |[],_=>trivial
 |j::js,h=>by
  simp only[List.all_cons,Bool.and_eq_true]at h;exact⟨hf j h.1,jk hf js h.2⟩
theorem Lo.run{o:Oper}{os:List Oper}{Vs:List (Nat×(Value→World→Prop))}{i:Nat}(n:Nat)(hn:i+1=n)(hq:posOf loud i=none)(js:List Nat)(V:Value→World→Prop)(hj:zS l o js=true)(hV:∀x w w',V x w→R w w'→V x w')(hRR:∀a b,R' a b→R a b)
 (h1:∀u w,R w0 w→kX Vs u w js→gV o (eH l 0 u a0.tmps) l true∧∀a:Act,(∀d,a.tmps.getD d undef=eH l 0 u a0.tmps d)→∀K:Act→World→Prop,(∀x w',V x w'→R' w w'→K (a.put o.dst x) w')→o.wp P a w K Q)
 (h2:Lo P l Q E R R' S loud w0 a0 os n ((i,V)::Vs)):Lo P l Q E R R' S loud w0 a0 (o::os) i Vs:=
 ⟨V,fun x w w' h k=>hV x w w' h (hRR _ _ k),fun _=>hV,fun u w hR _ hF=> .inl (by unfold rP rQ;rw[hq];exact h1 u w hR (jk hF js hj)),by rw[hn];exact h2⟩
theorem Lo.OE{o:Oper}{os:List Oper}{Vs:List (Nat×(Value→World→Prop))}{i:Nat}(n:Nat)(hn:i+1=n)(hq:posOf loud i=none)(q:Nat)(hhi:Nat.beq (Wh l loud i) q=true)(js:List Nat)(v:Value)(hj:zS l o js=true)
 (h1:∀u w,R w0 w→(∃k,k≤q∧S k u w)→kX Vs u w js→gV o (eH l 0 u a0.tmps) l true∧∀a:Act,(∀d,a.tmps.getD d undef=eH l 0 u a0.tmps d)→∀K:Act→World→Prop,(∀x,x=v→K (a.put o.dst x) w)→o.wp P a w K Q)
 (rr:∀w,R' w w)(h2:Lo P l Q E R R' S loud w0 a0 os n ((i,fun x _=>x=v)::Vs)):Lo P l Q E R R' S loud w0 a0 (o::os) i Vs:=
 ⟨_,fun _ _ _ h _=>h,fun _ _ _ _ h _=>h,fun u w hR hP hF=> .inl (by
   unfold rP rQ;rw[hq];unfold CY at hP;rw[hq,Nat.eq_of_beq_eq_true hhi]at hP;obtain⟨g1,g2⟩:=h1 u w hR hP (jk hF js hj);exact⟨g1,fun a ha K hK=>g2 a ha K (fun x hx=>hK _ _ hx (rr _))⟩),by rw[hn];exact h2⟩
theorem Lo.je{o:Oper}{os:List Oper}{Vs:List (Nat×(Value→World→Prop))}{i:Nat}(n:Nat)(hn:i+1=n)(p:Nat)(hq:posOf loud i=some p)(js:List Nat)(V:Value→World→Prop)(hj:zS l o js=true)(hV:∀x w w',V x w→R' w w'→V x w')(hV2:CW l loud i o=true∨∀x w w',V x w→R w w'→V x w')
 (h1:∀u w,R w0 w→S p u w→kX Vs u w js→gV o (eH l 0 u a0.tmps) l true∧∀a:Act,(∀d,a.tmps.getD d undef=eH l 0 u a0.tmps d)→∀K:Act→World→Prop,(∀x w',V x w'→R w w'→S (p+1) (upd u i x) w'→K (a.put o.dst x) w')→o.wp P a w K Q)
 (h2:Lo P l Q E R R' S loud w0 a0 os n ((i,V)::Vs)):Lo P l Q E R R' S loud w0 a0 (o::os) i Vs:=
 ⟨V,hV,fun hl=>hV2.elim (fun h=>by rw[h]at hl;cases hl) id,fun u w hR hP hF=> .inl (by
   unfold CY at hP;rw[hq]at hP;obtain⟨g1,g2⟩:=h1 u w hR hP (jk hF js hj);unfold rP rQ;rw[hq];exact⟨g1,fun a ha K hK=>g2 a ha K (fun x w' hx hR hS=>hK x w' ⟨hx,hS⟩ hR)⟩),by rw[hn];exact h2⟩
theorem Lo.df{o:Oper}{os:List Oper}{Vs:List (Nat×(Value→World→Prop))}{i:Nat}(n:Nat)(hn:i+1=n)(hq:posOf loud i=none)(js:List Nat)(v:Value)(hj:zS l o js=true)
 (h1:∀u w,R w0 w→kX Vs u w js→gV o (eH l 0 u a0.tmps) l true∧∀a:Act,(∀d,a.tmps.getD d undef=eH l 0 u a0.tmps d)→∀K:Act→World→Prop,(∀x,x=v→K (a.put o.dst x) w)→o.wp P a w K Q)
 (rr:∀w,R' w w)(h2:Lo P l Q E R R' S loud w0 a0 os n ((i,fun x _=>x=v)::Vs)):Lo P l Q E R R' S loud w0 a0 (o::os) i Vs:=
 ⟨_,fun _ _ _ h _=>h,fun _ _ _ _ h _=>h,fun u w hR _ hF=> .inl (by
   unfold rP rQ;rw[hq];obtain⟨g1,g2⟩:=h1 u w hR (jk hF js hj);exact⟨g1,fun a ha K hK=>g2 a ha K (fun x hx=>hK _ _ hx (rr _))⟩),by rw[hn];exact h2⟩
theorem Lo.lu{o:Oper}{os:List Oper}{Vs:List (Nat×(Value→World→Prop))}{i:Nat}(n:Nat)(hn:i+1=n)(hq:posOf loud i=none)(js:List Nat)(hj:zS l o js=true)(rr:∀w,R' w w)
 (h:∃v:Value,(∀u w,R w0 w→kX Vs u w js→gV o (eH l 0 u a0.tmps) l true∧∀a:Act,(∀d,a.tmps.getD d undef=eH l 0 u a0.tmps d)→∀K:Act→World→Prop,(∀x,x=v→K (a.put o.dst x) w)→o.wp P a w K Q)∧
   Lo P l Q E R R' S loud w0 a0 os n ((i,fun x _=>x=v)::Vs)):Lo P l Q E R R' S loud w0 a0 (o::os) i Vs:=by
 obtain⟨v,h1,h2⟩:=h;exact Lo.df n hn hq js v hj h1 rr h2
theorem Lo.pass{o:Oper}{os:List Oper}{Vs:List (Nat×(Value→World→Prop))}{i:Nat}(n:Nat)(hn:i+1=n)(hq:posOf loud i=none)(js:List Nat)(hj:zS l o js=true)(rr:∀w,R' w w)
 (h1:∀u w,R w0 w→kX Vs u w js→gV o (eH l 0 u a0.tmps) l false)(h2:Lo P l Q E R R' S loud w0 a0 os n ((i,fun x _=>x=undef)::Vs)):Lo P l Q E R R' S loud w0 a0 (o::os) i Vs:=
 ⟨fun x _=>x=undef,fun _ _ _ h _=>h,fun _ _ _ _ h _=>h,fun u w hR _ hF=> .inr ⟨h1 u w hR (jk hF js hj),by unfold rQ;rw[hq],by unfold rP;rw[hq];exact rr _⟩,by rw[hn];exact h2⟩
def C9(l:List Oper)(loud:List Nat)(i:Nat)(o:Oper)(js:List Nat):Bool:=(posOf loud i).isNone&&(o.guard.isNone&&zS l o js)
theorem quiet_of{l:List Oper}{loud:List Nat}{i:Nat}{o:Oper}{js:List Nat}(h:C9 l loud i o js=true):posOf loud i=none∧o.guard=none∧zS l o js=true:=by
 unfold C9 at h;rw[Bool.and_eq_true,Bool.and_eq_true,Option.isNone_iff_eq_none,Option.isNone_iff_eq_none]at h;exact h
theorem Lo.r0{S':List Nat}{o:Oper}{os:List Oper}{Vs:List (Nat×(Value→World→Prop))}{i:Nat}(n:Nat)(hn:i+1=n)(d:Nat){X v:Value}(hX:∀u,eH l 0 u a0.tmps d=X)(hq:C9 l loud i o []=true)
 (h1:∀(a:Act) w,R w0 w→a.tmps.getD d undef=X→∀K:Act→World→Prop,(∀x,x=v→K (a.put o.dst x) w)→o.wp P a w K Q)
 (h2:Lo P l Q E R (Turn S') S loud w0 a0 os n ((i,fun x _=>x=v)::Vs)):Lo P l Q E R (Turn S') S loud w0 a0 (o::os) i Vs:=by
 obtain⟨q1,q2,q3⟩:=quiet_of hq;refine Lo.df n hn q1 [] v q3 (fun u w hR hF=>⟨?_,fun a ha K hK=>h1 a w hR ((ha d).trans (hX u)) K hK⟩) (Turn.refl _) h2;unfold gV;rw[q2]
theorem Lo.r1{S':List Nat}{o:Oper}{os:List Oper}{Vs:List (Nat×(Value→World→Prop))}{i:Nat}(n:Nat)(hn:i+1=n)(d j:Nat){X v:Value}(hX:∀u,eH l 0 u a0.tmps d=u j)(hV:look Vs j=fun x _=>x=X)(hq:C9 l loud i o [j]=true)
 (h1:∀(a:Act) w,R w0 w→a.tmps.getD d undef=X→∀K:Act→World→Prop,(∀x,x=v→K (a.put o.dst x) w)→o.wp P a w K Q)
 (h2:Lo P l Q E R (Turn S') S loud w0 a0 os n ((i,fun x _=>x=v)::Vs)):Lo P l Q E R (Turn S') S loud w0 a0 (o::os) i Vs:=by
 obtain⟨q1,q2,q3⟩:=quiet_of hq;refine Lo.df n hn q1 [j] v q3 (fun u w hR hF=>⟨?_,fun a ha K hK=>h1 a w hR ?_ K hK⟩) (Turn.refl _) h2
 ·unfold gV;rw[q2]
 ·have h:=hF.1
  rw[hV]at h;exact(ha d).trans ((hX u).trans h)
theorem Lo.r2{S':List Nat}{o:Oper}{os:List Oper}{Vs:List (Nat×(Value→World→Prop))}{i:Nat}(n:Nat)(hn:i+1=n)(d j e k:Nat){X Y v:Value}(hX:∀u,eH l 0 u a0.tmps d=u j)(hY:∀u,eH l 0 u a0.tmps e=u k)(hV:look Vs j=fun x _=>x=X)(hU:look Vs k=fun x _=>x=Y)(hq:C9 l loud i o [j,k]=true)
 (h1:∀(a:Act) w,R w0 w→a.tmps.getD d undef=X→a.tmps.getD e undef=Y→∀K:Act→World→Prop,(∀x,x=v→K (a.put o.dst x) w)→o.wp P a w K Q)
 (h2:Lo P l Q E R (Turn S') S loud w0 a0 os n ((i,fun x _=>x=v)::Vs)):Lo P l Q E R (Turn S') S loud w0 a0 (o::os) i Vs:=by
 obtain⟨q1,q2,q3⟩:=quiet_of hq;refine Lo.df n hn q1 [j,k] v q3 (fun u w hR hF=>⟨?_,fun a ha K hK=>h1 a w hR ?_ ?_ K hK⟩) (Turn.refl _) h2
 ·unfold gV;rw[q2]
 ·have h:=hF.1
  rw[hV]at h;exact(ha d).trans ((hX u).trans h)
 ·have h:=hF.2.1
  rw[hU]at h;exact(ha e).trans ((hY u).trans h)
theorem guard_of{o:Oper}{Vs:List (Nat×(Value→World→Prop))}{u:Nat→Value}{w:World}{g dg:Nat}{b:Bool}(hg:o.guard=some (g,b))(hd:(l[g]?).bind (·.dst)=some dg) (hG:∀u,eH l 0 u a0.tmps dg=u g) (hW:look Vs g=fun x _=>x= .bool b) (h:look Vs g (u g) w):gV o (eH l 0 u a0.tmps) l true:=by
 unfold gV;rw[hg];simp only;rw[hd];rw[hW]at h;exact .inl ⟨b,(hG u).trans h,by simp⟩
theorem Lo.q0{S':List Nat}{o:Oper}{os:List Oper}{Vs:List (Nat×(Value→World→Prop))}{i dg:Nat}{b:Bool}(n:Nat)(hn:i+1=n)(g d:Nat)(hg:o.guard=some (g,b))(hd:(l[g]?).bind (·.dst)=some dg) (hG:∀u,eH l 0 u a0.tmps dg=u g) (hW:look Vs g=fun x _=>x= .bool b) {X v:Value} (hX:∀u,eH l 0 u a0.tmps d=X) (hq:posOf loud i=none) (hj:zS l o [g]=true)
 (h1:∀(a:Act) w,R w0 w→a.tmps.getD d undef=X→∀K:Act→World→Prop,(∀x,x=v→K (a.put o.dst x) w)→o.wp P a w K Q)
 (h2:Lo P l Q E R (Turn S') S loud w0 a0 os n ((i,fun x _=>x=v)::Vs)):Lo P l Q E R (Turn S') S loud w0 a0 (o::os) i Vs:=
 Lo.df n hn hq [g] v hj (fun u w hR hF=>⟨guard_of hg hd hG hW hF.1,fun a ha K hK=>h1 a w hR ((ha d).trans (hX u)) K hK⟩) (Turn.refl _) h2
theorem Lo.q1{S':List Nat}{o:Oper}{os:List Oper}{Vs:List (Nat×(Value→World→Prop))}{i dg:Nat}{b:Bool}(n:Nat)(hn:i+1=n)(g d j:Nat)(hg:o.guard=some (g,b))(hd:(l[g]?).bind (·.dst)=some dg) (hG:∀u,eH l 0 u a0.tmps dg=u g) (hW:look Vs g=fun x _=>x= .bool b) {X v:Value} (hX:∀u,eH l 0 u a0.tmps d=u j) (hV:look Vs j=fun x _=>x=X) (hq:posOf loud i=none) (hj:zS l o [g,j]=true)
 (h1:∀(a:Act) w,R w0 w→a.tmps.getD d undef=X→∀K:Act→World→Prop,(∀x,x=v→K (a.put o.dst x) w)→o.wp P a w K Q)
 (h2:Lo P l Q E R (Turn S') S loud w0 a0 os n ((i,fun x _=>x=v)::Vs)):Lo P l Q E R (Turn S') S loud w0 a0 (o::os) i Vs:=
 Lo.df n hn hq [g,j] v hj (fun u w hR hF=>⟨guard_of hg hd hG hW hF.1,fun a ha K hK=>h1 a w hR ((ha d).trans ((hX u).trans (by have h:=hF.2.1;rw[hV]at h;exact h))) K hK⟩) (Turn.refl _) h2
theorem Lo.q2{S':List Nat}{o:Oper}{os:List Oper}{Vs:List (Nat×(Value→World→Prop))}{i dg:Nat}{b:Bool}(n:Nat)(hn:i+1=n)(g d j e k:Nat)(hg:o.guard=some (g,b))(hd:(l[g]?).bind (·.dst)=some dg) (hG:∀u,eH l 0 u a0.tmps dg=u g) (hW:look Vs g=fun x _=>x= .bool b) {X Y v:Value} (hX:∀u,eH l 0 u a0.tmps d=u j) (hY:∀u,eH l 0 u a0.tmps e=u k) (hV:look Vs j=fun x _=>x=X) (hU:look Vs k=fun x _=>x=Y) (hq:posOf loud i=none) (hj:zS l o [g,j,k]=true)
 (h1:∀(a:Act) w,R w0 w→a.tmps.getD d undef=X→a.tmps.getD e undef=Y→∀K:Act→World→Prop,(∀x,x=v→K (a.put o.dst x) w)→o.wp P a w K Q)
 (h2:Lo P l Q E R (Turn S') S loud w0 a0 os n ((i,fun x _=>x=v)::Vs)):Lo P l Q E R (Turn S') S loud w0 a0 (o::os) i Vs:=
 Lo.df n hn hq [g,j,k] v hj (fun u w hR hF=>⟨guard_of hg hd hG hW hF.1,fun a ha K hK=>h1 a w hR ((ha d).trans ((hX u).trans (by have h:=hF.2.1;rw[hV]at h;exact h))) ((ha e).trans ((hY u).trans (by have h:=hF.2.2.1;rw[hU]at h;exact h))) K hK⟩) (Turn.refl _) h2
theorem Lo.done{Vs:List (Nat×(Value→World→Prop))}{i:Nat}(js:List Nat)(h:∀u w,R w0 w→S loud.length u w→kX Vs u w js→E (ax l 0 u a0) w):Lo P l Q E R R' S loud w0 a0 [] i Vs:=
 fun u w hR Wi hF=>h u w hR Wi (jk (p:=fun _=>true) (fun j _=>hF j) js (by simp))
end
end
section
open Go.RowKit Go.Maps
set_option maxRecDepth 100000
theorem BytesAt.kept'{w w':World}{v:Value}{bs:List UInt8}{S:List Nat}(h:BytesAt w v bs)(ht:Turn S w w')(hn:bs≠[]→∀k∈v.ownBlock,k∉S):BytesAt w' v bs:=by
 by_cases h0:bs=[]
 ·subst h0
  obtain⟨a,c,e,h1,h2,h3,h4⟩:=h;exact⟨a,c,e,h1,h2,h3,fun j hj=>absurd hj (Nat.not_lt_zero _)⟩
 ·exact h.kept ht (fun k hk _=>hn h0 k hk)
theorem BytesAt.lt{w:World}{v:Value}{bs:List UInt8}(h:BytesAt w v bs)(h0:bs≠[]):∀k∈v.ownBlock,k<w.heap.size:=by
 obtain⟨a,c,rfl,h1,h2,h3,h4⟩:=h;obtain⟨p,rfl,hc⟩:=h4 0 (List.length_pos_iff.2 h0);intro k hk;simp[Value.ownBlock]at hk;subst hk;have:=World.block_lt_of_cell? w _ hc;rwa [add_block]at this
theorem EU(w:World):BytesAt w (.slice none 0 0) []:=⟨none,0,rfl,Nat.le_refl _,Nat.zero_le _,fun _=>rfl,fun j hj=>absurd hj (Nat.not_lt_zero _)⟩
theorem Dc{a:Option Addr}{n c l l' c':Nat}:∀k∈(Value.slice (nV a n c) l c').ownBlock,k∈(Value.slice a l' c).ownBlock:=by
 intro k hk;unfold nV at hk;split at hk
 ·cases a with
  |none=>simp[Value.ownBlock]at hk
  |some p=>simpa[Value.ownBlock]using hk
 ·cases a with
  |none=>simp[Value.ownBlock]at hk
  |some p=>simp[Value.ownBlock,add_block]at hk⊢;exact hk
def gJ(w:World)(rb B:Nat)(l:List UInt8):Prop:=
 ∃sv,w.heap[rb]? =some (.cells #[sv] 216 (0,0))∧BytesAt w sv l∧(l≠[]→∀k∈sv.ownBlock,k<B)
theorem gJ.kept{w w':World}{rb B:Nat}{l:List UInt8}{S:List Nat}(h:gJ w rb B l)(ht:Turn S w w')(hr:rb∉S)(hB:∀x∈S,B≤x):gJ w' rb B l:=by
 obtain⟨sv,h1,h2,h3⟩:=h;exact⟨sv,ht.heap h1 hr,h2.kept' ht (fun h0 k hk hm=>by have:=h3 h0 k hk;have:=hB k hm;omega),h3⟩
theorem gJ.still{w w':World}{rb B:Nat}{l:List UInt8}(h:gJ w rb B l)(ht:Turn [] w w'):gJ w' rb B l:=h.kept ht (by simp) (by simp)
theorem gJ.set{w:World}{rb B:Nat}{l':List UInt8}{sv sv':Value}(h:w.heap[rb]? =some (.cells #[sv] 216 (0,0))) (hB:B≤rb) (hb:BytesAt w sv' l') (hn:l'≠[]→∀k∈sv'.ownBlock,k<B):gJ (w.setCell ⟨rb,0,none⟩ sv') rb B l'∧Turn [rb] w (w.setCell ⟨rb,0,none⟩ sv'):=by
 have ht:Turn [rb] w (w.setCell ⟨rb,0,none⟩ sv'):=(Turn.refl _ _).setCell (.inl (by simp)) _;exact⟨⟨sv',by simpa using heap_set h 0 sv',hb.kept' ht (fun h0 k hk=>by have:=hn h0 k hk;simp;omega),hn⟩,ht⟩
theorem jO(w:World)(rb B:Nat)(l:List UInt8)(h:gJ w rb B l)(hB:B≤rb)(hl:l.length≤1000000):
 Calls Tryz.prog 188 #[.pointer (some ⟨rb,0,none⟩)] w fun e w'=>e= .returned (.int .i64 (Bt.num l).1)∧gJ w' rb B (Bt.num l).2∧Turn [rb] w w':=by
 obtain⟨sv,h1,h2,h3⟩:=h;have H1:=hide h1;have H2:=hide h2;have H3:=hide h3;obtain⟨a,c,hsv,hlc,hcm,hc⟩:=h2.form;subst hsv;have c0:w.cell? ⟨rb,0,none⟩=some (.slice a l.length c):=by simpa using cell_of h1 0
 have f0:w.frozen? ⟨rb,0,none⟩=false:=au h1 0;have hgs:=Nu.CP (b:=l);clear h1 h2 h3 hc;by_cases h0:(Nu.get l).2=0
 ·have hn:Bt.num l=(0,[]):=by unfold Bt.num;rw[if_pos h0]
  rw[hn];clear hn;obtain⟨n,s,hns⟩:∃n s,Nu.get l=(n,s):=⟨_,_,rfl⟩;rw[hns]at h0 hgs;simp only at h0 hgs;subst h0;have HNS:=hide hns;clear hns;go_enter Tryz.func188,Tryz.ntmps188
  go_wp2_with fail
  refine(get_any _ _ l H2.out (by omega)).mono ?_;rintro e w' ⟨rfl,rfl⟩;rw[HNS.out];go_wp2
  go_ret
  exact⟨rfl,gJ.set H1.out hB (EU _) (by simp)⟩
 ·have hn:Bt.num l=((Nu.get l).1,l.drop (Nu.get l).2):=by unfold Bt.num;rw[if_neg h0]
  rw[hn];clear hn;obtain⟨n,s,hns⟩:∃n s,Nu.get l=(n,s):=⟨_,_,rfl⟩;rw[hns]at h0 hgs⊢;simp only at h0 hgs⊢;have HNS:=hide hns;clear hns;have hsl:=fun w=> @rZ a l.length c s (by omega) w
  go_enter Tryz.func188,Tryz.ntmps188
  go_wp2_with fail
  refine(get_any _ _ l H2.out (by omega)).mono ?_;rintro e w' ⟨rfl,rfl⟩;rw[HNS.out];go_wp2
  go_ret
  exact⟨rfl,gJ.set H1.out hB (by simpa using H2.out.drop (n:=s) (by omega)) (fun h0 k hk=>H3.out (fun e=>h0 (by rw[e];simp)) k (Dc (l':=l.length) k hk))⟩
theorem gz(l:List UInt8):(Bt.num l).2.length≤l.length∧(Bt.num l).1≤1099511627776:=by
 unfold Bt.num;have:=Nu.CP (b:=l);split
 ·simp
 ·simp;omega
theorem sG(l:List UInt8):(Bt.text l).2.length≤l.length∧(Bt.text l).1.length≤l.length:=by
 unfold Bt.text;have:=gz l;split
 ·simp
 ·simp;omega
theorem ui(w:World)(rb B:Nat)(l:List UInt8)(h:gJ w rb B l)(hB:B≤rb)(hl:l.length≤1000000):
 Calls Tryz.prog 204 #[.pointer (some ⟨rb,0,none⟩)] w fun e w'=>e= .returned (eU (Bt.text l).1)∧gJ w' rb B (Bt.text l).2∧Turn [rb] w w':=by
 have hnl:=gz l;have HN:=hide (jO w rb B l h hB hl);have HT:Hid (Bt.text l=if (Bt.num l).2.length<(Bt.num l).1 then([],[])else((Bt.num l).2.take (Bt.num l).1,(Bt.num l).2.drop (Bt.num l).1)):=rfl;clear h;obtain⟨n,r,hns⟩:∃n r,Bt.num l=(n,r):=⟨_,_,rfl⟩;rw[hns]at HN HT hnl;simp only at HN HT hnl;clear hns;by_cases adL:r.length<n
 ·have ht:Bt.text l=([],[]):=by rw[HT.out,if_pos adL]
  rw[ht];clear ht;go_enter Tryz.func204,Tryz.ntmps204
  go_wp2_with fail
  refine HN.out.mono ?_;rintro e w1 ⟨rfl,⟨sv,h1,h2,h3⟩,ht1⟩;have H1:=hide h1;have HT1:=hide ht1;obtain⟨a,c,hsv,hlc,hcm,hc⟩:=h2.form;subst hsv;have c0:w1.cell? ⟨rb,0,none⟩=some (.slice a r.length c):=by simpa using cell_of h1 0
  have f0:w1.frozen? ⟨rb,0,none⟩=false:=au h1 0;clear h1 h2 h3 ht1 hc;go_wp2
  go_ret
  have hs:=gJ.set (l':=[]) (sv':= .slice none 0 0) H1.out hB (EU _) (by simp);exact⟨rfl,hs.1,HT1.out.same hs.2⟩
 ·have ht:Bt.text l=(r.take n,r.drop n):=by rw[HT.out,if_neg adL]
  rw[ht];clear ht;go_enter Tryz.func204,Tryz.ntmps204
  go_wp2_with fail
  refine HN.out.mono ?_;rintro e w1 ⟨rfl,⟨sv,h1,h2,h3⟩,ht1⟩;have H1:=hide h1;have H2:=hide h2;have H3:=hide h3;have HT1:=hide ht1;obtain⟨a,c,hsv,hlc,hcm,hc⟩:=h2.form;subst hsv;have c0:w1.cell? ⟨rb,0,none⟩=some (.slice a r.length c):=by simpa using cell_of h1 0
  have f0:w1.frozen? ⟨rb,0,none⟩=false:=au h1 0;have hst:=fun w=> @Gi a r.length c n (by omega) w
  have hsf:=fun w=> @rZ a r.length c n (by omega) w
  have hcv:=(H2.out.take (n:=n) (by omega)).conv;clear h1 h2 h3 ht1 hc;go_wp2
  go_ret
  have hs:=gJ.set (l':=r.drop n) (sv':= .slice (nV a n c) (r.length-n) (c-n)) H1.out hB (H2.out.drop (n:=n) (by omega)) (fun h0 k hk=>H3.out (fun e=>h0 (by rw[e];simp)) k (Dc (l':=r.length) k hk));exact⟨rfl,hs.1,HT1.out.same hs.2⟩
def dE:Array Value:= #[.int .i64 0, .int .i64 0, .bool false, .string ⟨#[]⟩, .bool false, .string ⟨#[]⟩]
structure St(w0 w:World)(rb B X Y:Nat)(cs:Array Value)(l:List UInt8):Prop where
 x:w.heap[X]? =some (.cells cs 52 (0,0))
 y:w.heap[Y]? =some (.cells dE 52 (0,0))
 rd:gJ w rb B l
 turn:Turn [rb,X,Y] w0 w
theorem St.num{w0 w w':World}{rb B X Y:Nat}{cs:Array Value}{l l':List UInt8}(h:St w0 w rb B X Y cs l)(ht:Turn [rb] w w')(hrd:gJ w' rb B l')(hx:X≠rb)(hy:Y≠rb):St w0 w' rb B X Y cs l':=
 ⟨ht.heap h.x (by simpa using hx),ht.heap h.y (by simpa using hy),hrd,h.turn.trans ht (fun k hk=> .inl (by simp at hk⊢;exact .inl hk))⟩
theorem St.set{w0 w:World}{rb B X Y:Nat}{cs:Array Value}{l:List UInt8}(h:St w0 w rb B X Y cs l)(i:Nat)(v:Value)(hx:X≠rb)(hxy:X≠Y)(hB:B≤X):St w0 (w.setCell ⟨X,i,none⟩ v) rb B X Y (cs.setIfInBounds i v) l:=by
 have ht:Turn [X] w (w.setCell ⟨X,i,none⟩ v):=(Turn.refl _ _).setCell (.inl (by simp)) _;exact⟨heap_set h.x i v,ht.heap h.y (by simpa using fun e=>hxy e.symm),h.rd.kept ht (by simpa using fun e=>hx e.symm) (by simpa using hB),h.turn.trans ht (fun k hk=> .inl (by simp at hk⊢;exact .inr (.inl hk)))⟩
theorem St.cells{w0 w:World}{rb B X Y:Nat}{c0 c1 c2 c3 c4 c5:Value}{l:List UInt8}(h:St w0 w rb B X Y #[c0,c1,c2,c3,c4,c5] l):
 (w.cell? ⟨X,0,none⟩=some c0∧w.cell? ⟨X,1,none⟩=some c1∧w.cell? ⟨X,2,none⟩=some c2∧w.cell? ⟨X,3,none⟩=some c3∧w.cell? ⟨X,4,none⟩=some c4∧w.cell? ⟨X,5,none⟩=some c5)∧
 (w.frozen? ⟨X,0,none⟩=false∧w.frozen? ⟨X,1,none⟩=false∧w.frozen? ⟨X,2,none⟩=false∧w.frozen? ⟨X,3,none⟩=false∧w.frozen? ⟨X,4,none⟩=false∧w.frozen? ⟨X,5,none⟩=false):=
 ⟨⟨by simpa using cell_of h.x 0,by simpa using cell_of h.x 1,by simpa using cell_of h.x 2,by simpa using cell_of h.x 3,by simpa using cell_of h.x 4,by simpa using cell_of h.x 5⟩,
  au h.x 0,au h.x 1,au h.x 2,au h.x 3,au h.x 4,au h.x 5⟩
theorem St.Gq{w0 w:World}{rb B X Y:Nat}{cs:Array Value}{l:List UInt8}(h:St w0 w rb B X Y cs l):
 (w.cell? ⟨Y,0,none⟩=some (.int .i64 0)∧w.cell? ⟨Y,1,none⟩=some (.int .i64 0)∧w.cell? ⟨Y,2,none⟩=some (.bool false)∧w.cell? ⟨Y,3,none⟩=some (.string ⟨#[]⟩)∧w.cell? ⟨Y,4,none⟩=some (.bool false)∧w.cell? ⟨Y,5,none⟩=some (.string ⟨#[]⟩))∧
 (w.frozen? ⟨Y,0,none⟩=false∧w.frozen? ⟨Y,1,none⟩=false∧w.frozen? ⟨Y,2,none⟩=false∧w.frozen? ⟨Y,3,none⟩=false∧w.frozen? ⟨Y,4,none⟩=false∧w.frozen? ⟨Y,5,none⟩=false):=
 ⟨⟨by simpa[dE]using cell_of h.y 0,by simpa[dE]using cell_of h.y 1,by simpa[dE]using cell_of h.y 2,by simpa[dE]using cell_of h.y 3,by simpa[dE]using cell_of h.y 4,by simpa[dE]using cell_of h.y 5⟩,
  au h.y 0,au h.y 1,au h.y 2,au h.y 3,au h.y 4,au h.y 5⟩
theorem Ky(n:Nat)(h:n≤1099511627776):(bits .and .i64 (n:Int) 1 !=0)=decide (n%2=1):=by
 have e:bits .and .i64 (n:Int) 1=((n%2:Nat):Int):=by
  show IntKind.i64.wrap ((BitVec.ofInt 64 (n:Int)&&& BitVec.ofInt 64 ((1:Nat):Int)).toNat:Int)=_;rw[BitVec.toNat_and,ofInt_u64 n (by omega),ofInt_u64 1 (by omega),Nat.and_one_is_mod,IntWalk.i64_left,IntWalk.wrap64_in _ (by omega)]
 rw[e];by_cases q:n%2=1
 ·simp[q]
 ·have:n%2=0:=by omega
  simp[this]
theorem Iz(n:Nat):n&&& 2=n/2%2*2:=by
 apply Nat.eq_of_testBit_eq;intro i;rw[Nat.testBit_and,show(2:Nat)=2^1 from rfl,Nat.testBit_two_pow,Nat.testBit_mul_two_pow];by_cases h1:i=1
 ·subst h1
  simp[Nat.testBit_eq_decide_div_mod_eq]
 ·have:¬1=i:=fun e=>h1 e.symm
  simp only[this,decide_false,Bool.and_false];rcases Nat.eq_zero_or_pos i with rfl|hi
  ·simp
  ·have h2:(n/2^1%2^1).testBit (i-1)=false:=Nat.testBit_lt_two_pow (Nat.lt_of_lt_of_le (Nat.mod_lt _ (by omega)) (Nat.pow_le_pow_right (by omega) (by omega)))
   simp[h2]
theorem Kz(n:Nat)(h:n≤1099511627776):(bits .and .i64 (n:Int) 2 !=0)=decide (n/2%2=1):=by
 have e:bits .and .i64 (n:Int) 2=((n/2%2*2:Nat):Int):=by
  show IntKind.i64.wrap ((BitVec.ofInt 64 (n:Int)&&& BitVec.ofInt 64 ((2:Nat):Int)).toNat:Int)=_;rw[BitVec.toNat_and,ofInt_u64 n (by omega),ofInt_u64 2 (by omega),Iz,IntWalk.i64_left,IntWalk.wrap64_in _ (by omega)]
 rw[e];by_cases q:n/2%2=1
 ·simp[q]
 ·have:n/2%2=0:=by omega
  simp[this]
theorem St.fin{w0 w:World}{rb B X Y:Nat}{cs:Array Value}{l:List UInt8}(h:St w0 w rb B X Y cs l)(hy:Y≠rb)(hB:B≤Y)(v0 v1 v2 v3 v4 v5:Value):
 gJ ((((((w.setCell ⟨Y,0,none⟩ v0).setCell ⟨Y,1,none⟩ v1).setCell ⟨Y,2,none⟩ v2).setCell ⟨Y,3,none⟩ v3).setCell ⟨Y,4,none⟩ v4).setCell ⟨Y,5,none⟩ v5) rb B l∧
 Turn [rb,X,Y] w0 ((((((w.setCell ⟨Y,0,none⟩ v0).setCell ⟨Y,1,none⟩ v1).setCell ⟨Y,2,none⟩ v2).setCell ⟨Y,3,none⟩ v3).setCell ⟨Y,4,none⟩ v4).setCell ⟨Y,5,none⟩ v5):=by
 have ht:Turn [Y] w ((((((w.setCell ⟨Y,0,none⟩ v0).setCell ⟨Y,1,none⟩ v1).setCell ⟨Y,2,none⟩ v2).setCell ⟨Y,3,none⟩ v3).setCell ⟨Y,4,none⟩ v4).setCell ⟨Y,5,none⟩ v5):=
  ((((((Turn.refl _ _).setCell (.inl (by simp)) _).setCell (.inl (by simp)) _).setCell (.inl (by simp)) _).setCell (.inl (by simp)) _).setCell (.inl (by simp)) _).setCell (.inl (by simp)) _
 exact⟨h.rd.kept ht (by simpa using fun e=>hy e.symm) (by simpa using hB),h.turn.trans ht (fun k hk=> .inl (by simp at hk⊢;exact .inr (.inr hk)))⟩
theorem QO{w:World}{Y:Nat}{r:Bt.Rec}(h:w.heap[Y]? =some (.cells (recC r).toArray 52 (0,0))):(loadVar 52 ⟨Y,0,none⟩).run Tryz.prog w= .ok (pK r) w:=by
 refine Io fun i u hu=>?_
 rw[addr_add,cell_of h];simpa using hu
theorem St.load{w0 w:World}{rb B X Y:Nat}{cs:Array Value}{l:List UInt8}(h:St w0 w rb B X Y cs l)(r:Bt.Rec):
 (loadVar 52 ⟨Y,0,none⟩).run Tryz.prog ((((((w.setCell ⟨Y,0,none⟩ (.int .i64 r.off)).setCell ⟨Y,1,none⟩ (.int .i64 r.time)).setCell ⟨Y,2,none⟩ (.bool r.keyed)).setCell ⟨Y,3,none⟩ (eU r.key)).setCell ⟨Y,4,none⟩ (.bool r.gone)).setCell ⟨Y,5,none⟩ (eU r.value))
   = .ok (pK r) ((((((w.setCell ⟨Y,0,none⟩ (.int .i64 r.off)).setCell ⟨Y,1,none⟩ (.int .i64 r.time)).setCell ⟨Y,2,none⟩ (.bool r.keyed)).setCell ⟨Y,3,none⟩ (eU r.key)).setCell ⟨Y,4,none⟩ (.bool r.gone)).setCell ⟨Y,5,none⟩ (eU r.value)):=by
 refine QO ?_;have:=heap_set (heap_set (heap_set (heap_set (heap_set (heap_set h.y 0 (.int .i64 r.off)) 1 (.int .i64 r.time)) 2 (.bool r.keyed)) 3 (eU r.key)) 4 (.bool r.gone)) 5 (eU r.value);simpa[dE,recC]using this
theorem KA(w:World)(rb B:Nat)(l:List UInt8)(h:gJ w rb B l)(hB:B≤rb)(hl:l.length≤1000000)(base:Int)(hb0:0≤base)(hb1:base≤1099511627776):
 Calls Tryz.prog 189 #[.pointer (some ⟨rb,0,none⟩), .int .i64 base] w fun e w'=>e= .returned (pK (Bt.qR base l).1)∧gJ w' rb B (Bt.qR base l).2∧Turn [rb] w w':=by
 have hrb:rb<w.heap.size:=by obtain⟨sv,h1, -⟩:=h;exact lt_of_heap h1
 have h1:St ((w.alloc (.cells dE 52)).alloc (.cells dE 52)) ((w.alloc (.cells dE 52)).alloc (.cells dE 52)) rb B (w.heap.size+1) w.heap.size dE l:=by
  refine⟨by simpa using ai (w.alloc (.cells dE 52)) _,?_,h.still (((Turn.refl [] w).alloc _).alloc _),Turn.refl _ _⟩;exact((Turn.refl [] (w.alloc (.cells dE 52))).alloc _).heap (ai w _) (by simp)
 obtain⟨n0,r0,e0⟩:∃n r,Bt.num l=(n,r):=⟨_,_,rfl⟩;obtain⟨n1,r1,e1⟩:∃n r,Bt.num r0=(n,r):=⟨_,_,rfl⟩;obtain⟨n2,r2,e2⟩:∃n r,Bt.num r1=(n,r):=⟨_,_,rfl⟩;have g0:=gz l;have g1:=gz r0;have g2:=gz r1;rw[e0]at g0;rw[e1]at g1;rw[e2]at g2;simp only at g0 g1 g2;have E0:=hide e0;have E1:=hide e1;have E2:=hide e2;obtain⟨W0,hW0⟩:∃W0,W0=(w.alloc (.cells dE 52)).alloc (.cells dE 52):=⟨_,rfl⟩;rw[←hW0]at h1;have htw:Turn [] w W0:=by rw[hW0];exact((Turn.refl [] w).alloc _).alloc _
 have HW0:=hide hW0;have dO:=hide htw;have H1:=hide h1;have hx1:w.heap.size+1≠rb:=by omega
 have hy1:w.heap.size≠rb:=by omega
 have hxy:w.heap.size+1≠w.heap.size:=by omega
 have Ns:B≤w.heap.size+1:=by omega
 have hk1:(bits .and .i64 (n2:Int) 1 !=0)=decide (n2%2=1):=Ky n2 g2.2;have hk2:(bits .and .i64 (n2:Int) 2 !=0)=decide (n2/2%2=1):=Kz n2 g2.2;obtain⟨kd,hkd⟩:∃kd,decide (n2%2=1)=kd:=⟨_,rfl⟩;obtain⟨gd,hgd⟩:∃gd,decide (n2/2%2=1)=gd:=⟨_,rfl⟩;rw[hkd]at hk1;rw[hgd]at hk2;have HE:Hid (Bt.qR base l=(⟨base+n0,n1,kd,(if kd then(Bt.text r2).1 else []),gd,(if gd then []else(Bt.text (if kd then(Bt.text r2).2 else r2)).1)⟩,if gd then(if kd then(Bt.text r2).2 else r2)else(Bt.text (if kd then(Bt.text r2).2 else r2)).2)):=by
  show _=_;unfold Bt.qR;simp only[e0,e1,e2,hkd,hgd];subst hkd;subst hgd;by_cases q1:n2%2=1<;>by_cases q2:n2/2%2=1<;>simp[q1,q2]
 clear h h1 e0 e1 e2 hkd hgd hW0 htw;go_enter Tryz.func189,Tryz.ntmps189
 go_wp2_with fail
 rw[show(w.alloc (.cells #[.int .i64 0, .int .i64 0, .bool false, .string ⟨#[]⟩, .bool false, .string ⟨#[]⟩] 52)).alloc (.cells #[.int .i64 0, .int .i64 0, .bool false, .string ⟨#[]⟩, .bool false, .string ⟨#[]⟩] 52)=W0 from HW0.out.symm];refine(jO _ rb B l H1.out.rd hB hl).mono ?_;rintro e w1 ⟨rfl,hr1,ht1⟩;rw[E0.out]at hr1⊢;have H2:=hide (H1.out.num ht1 hr1 hx1 hy1);clear hr1 ht1;obtain⟨⟨c0,c1,c2,c3,c4,c5⟩,⟨f0,f1,f2,f3,f4,f5⟩⟩:=H2.out.cells;go_wp2_with fail
 have H3:Hid (St W0 (w1.setCell ⟨w.heap.size+1,0,none⟩ (.int .i64 (base+n0))) rb B (w.heap.size+1) w.heap.size #[.int .i64 (base+n0), .int .i64 0, .bool false, .string ⟨#[]⟩, .bool false, .string ⟨#[]⟩] r0):=hide (by simpa[dE]using H2.out.set 0 (.int .i64 (base+n0)) hx1 hxy Ns);refine(jO _ rb B r0 H3.out.rd hB (by omega)).mono ?_;rintro e w2 ⟨rfl,hr2,ht2⟩;rw[E1.out]at hr2⊢;have H4:=hide (H3.out.num ht2 hr2 hx1 hy1);clear hr2 ht2 c0 c1 c2 c3 c4 c5 f0 f1 f2 f3 f4 f5;obtain⟨⟨c0,c1,c2,c3,c4,c5⟩,⟨f0,f1,f2,f3,f4,f5⟩⟩:=H4.out.cells;go_wp2_with fail
 have H5:Hid (St W0 (w2.setCell ⟨w.heap.size+1,1,none⟩ (.int .i64 n1)) rb B (w.heap.size+1) w.heap.size #[.int .i64 (base+n0), .int .i64 n1, .bool false, .string ⟨#[]⟩, .bool false, .string ⟨#[]⟩] r1):=hide (by simpa[dE]using H4.out.set 1 (.int .i64 n1) hx1 hxy Ns);refine(jO _ rb B r1 H5.out.rd hB (by omega)).mono ?_;rintro e w3 ⟨rfl,hr3,ht3⟩;rw[E2.out]at hr3⊢;have H6:=hide (H5.out.num ht3 hr3 hx1 hy1);clear hr3 ht3 c0 c1 c2 c3 c4 c5 f0 f1 f2 f3 f4 f5;obtain⟨⟨c0,c1,c2,c3,c4,c5⟩,⟨f0,f1,f2,f3,f4,f5⟩⟩:=H6.out.cells;have hcl:=sG r2;cases kd<;>cases gd
 ·have H7:Hid (St W0 ((w3.setCell ⟨w.heap.size+1,2,none⟩ (.bool false)).setCell ⟨w.heap.size+1,4,none⟩ (.bool false)) rb B (w.heap.size+1) w.heap.size #[.int .i64 (base+n0), .int .i64 n1, .bool false, .string ⟨#[]⟩, .bool false, .string ⟨#[]⟩] r2):=hide (by simpa[dE]using(H6.out.set 2 (.bool false) hx1 hxy Ns).set 4 (.bool false) hx1 hxy Ns)
  go_wp2_with fail
  refine(ui _ rb B (r2) H7.out.rd hB (by omega)).mono ?_;rintro e w4 ⟨rfl,hr,ht⟩;have H8:=hide (H7.out.num ht hr hx1 hy1);clear hr ht c0 c1 c2 c3 c4 c5 f0 f1 f2 f3 f4 f5;obtain⟨⟨c0,c1,c2,c3,c4,c5⟩,⟨f0,f1,f2,f3,f4,f5⟩⟩:=H8.out.cells;unfold eU;have H9:Hid (St W0 (w4.setCell ⟨w.heap.size+1,5,none⟩ (.string ⟨(Bt.text (r2)).1.toArray⟩)) rb B (w.heap.size+1) w.heap.size #[.int .i64 (base+n0), .int .i64 n1, .bool false, .string ⟨#[]⟩, .bool false, .string ⟨(Bt.text (r2)).1.toArray⟩] (Bt.text (r2)).2):=hide (by simpa[dE]using H8.out.set 5 (.string ⟨(Bt.text (r2)).1.toArray⟩) hx1 hxy Ns);obtain⟨⟨d0,d1,d2,d3,d4,d5⟩,⟨y0,y1,y2,y3,y4,y5⟩⟩:=H8.out.Gq;go_wp2
  have hld:=H9.out.load ⟨base+n0,n1,false,[],false,(Bt.text r2).1⟩;simp only[eU]at hld;refine bodyPost_ret (v:=pK ⟨base+n0,n1,false,[],false,(Bt.text r2).1⟩) (by simp[results,Tryz.results189,asAddr,hld,Result.andThen,pK,eU]) rfl ?_;have hf:=H9.out.fin hy1 (by omega) (.int .i64 (base+n0)) (.int .i64 n1) (.bool false) (eU []) (.bool false) (eU (Bt.text r2).1);rw[HE.out];exact⟨rfl,hf.1,(dO.out.mono (by simp)).trans hf.2 (fun k hk=>by simp at hk⊢;omega)⟩
 ·have H7:Hid (St W0 ((w3.setCell ⟨w.heap.size+1,2,none⟩ (.bool false)).setCell ⟨w.heap.size+1,4,none⟩ (.bool true)) rb B (w.heap.size+1) w.heap.size #[.int .i64 (base+n0), .int .i64 n1, .bool false, .string ⟨#[]⟩, .bool true, .string ⟨#[]⟩] r2):=hide (by simpa[dE]using(H6.out.set 2 (.bool false) hx1 hxy Ns).set 4 (.bool true) hx1 hxy Ns)
  obtain⟨⟨d0,d1,d2,d3,d4,d5⟩,⟨y0,y1,y2,y3,y4,y5⟩⟩:=H6.out.Gq;go_wp2
  have hld:=H7.out.load ⟨base+n0,n1,false,[],true,[]⟩;simp only[eU]at hld;refine bodyPost_ret (v:=pK ⟨base+n0,n1,false,[],true,[]⟩) (by simp[results,Tryz.results189,asAddr,hld,Result.andThen,pK,eU]) rfl ?_;have hf:=H7.out.fin hy1 (by omega) (.int .i64 (base+n0)) (.int .i64 n1) (.bool false) (eU []) (.bool true) (eU []);rw[HE.out];exact⟨rfl,hf.1,(dO.out.mono (by simp)).trans hf.2 (fun k hk=>by simp at hk⊢;omega)⟩
 ·have H7:Hid (St W0 ((w3.setCell ⟨w.heap.size+1,2,none⟩ (.bool true)).setCell ⟨w.heap.size+1,4,none⟩ (.bool false)) rb B (w.heap.size+1) w.heap.size #[.int .i64 (base+n0), .int .i64 n1, .bool true, .string ⟨#[]⟩, .bool false, .string ⟨#[]⟩] r2):=hide (by simpa[dE]using(H6.out.set 2 (.bool true) hx1 hxy Ns).set 4 (.bool false) hx1 hxy Ns)
  go_wp2_with fail
  refine(ui _ rb B (r2) H7.out.rd hB (by omega)).mono ?_;rintro e w4 ⟨rfl,hr,ht⟩;have H8:=hide (H7.out.num ht hr hx1 hy1);clear hr ht c0 c1 c2 c3 c4 c5 f0 f1 f2 f3 f4 f5;obtain⟨⟨c0,c1,c2,c3,c4,c5⟩,⟨f0,f1,f2,f3,f4,f5⟩⟩:=H8.out.cells;unfold eU;have H9:Hid (St W0 (w4.setCell ⟨w.heap.size+1,3,none⟩ (.string ⟨(Bt.text (r2)).1.toArray⟩)) rb B (w.heap.size+1) w.heap.size #[.int .i64 (base+n0), .int .i64 n1, .bool true, .string ⟨(Bt.text (r2)).1.toArray⟩, .bool false, .string ⟨#[]⟩] (Bt.text (r2)).2):=hide (by simpa[dE]using H8.out.set 3 (.string ⟨(Bt.text (r2)).1.toArray⟩) hx1 hxy Ns);go_wp2_with fail
  refine(ui _ rb B ((Bt.text (r2)).2) H9.out.rd hB (by omega)).mono ?_;rintro e w5 ⟨rfl,hr,ht⟩;have H10:=hide (H9.out.num ht hr hx1 hy1);clear hr ht c0 c1 c2 c3 c4 c5 f0 f1 f2 f3 f4 f5;obtain⟨⟨c0,c1,c2,c3,c4,c5⟩,⟨f0,f1,f2,f3,f4,f5⟩⟩:=H10.out.cells;unfold eU;have H11:Hid (St W0 (w5.setCell ⟨w.heap.size+1,5,none⟩ (.string ⟨(Bt.text ((Bt.text (r2)).2)).1.toArray⟩)) rb B (w.heap.size+1) w.heap.size #[.int .i64 (base+n0), .int .i64 n1, .bool true, .string ⟨(Bt.text (r2)).1.toArray⟩, .bool false, .string ⟨(Bt.text ((Bt.text (r2)).2)).1.toArray⟩] (Bt.text ((Bt.text (r2)).2)).2):=hide (by simpa[dE]using H10.out.set 5 (.string ⟨(Bt.text ((Bt.text (r2)).2)).1.toArray⟩) hx1 hxy Ns);obtain⟨⟨d0,d1,d2,d3,d4,d5⟩,⟨y0,y1,y2,y3,y4,y5⟩⟩:=H10.out.Gq;go_wp2
  have hld:=H11.out.load ⟨base+n0,n1,true,(Bt.text r2).1,false,(Bt.text (Bt.text r2).2).1⟩;simp only[eU]at hld;refine bodyPost_ret (v:=pK ⟨base+n0,n1,true,(Bt.text r2).1,false,(Bt.text (Bt.text r2).2).1⟩) (by simp[results,Tryz.results189,asAddr,hld,Result.andThen,pK,eU]) rfl ?_;have hf:=H11.out.fin hy1 (by omega) (.int .i64 (base+n0)) (.int .i64 n1) (.bool true) (eU (Bt.text r2).1) (.bool false) (eU (Bt.text (Bt.text r2).2).1);rw[HE.out];exact⟨rfl,hf.1,(dO.out.mono (by simp)).trans hf.2 (fun k hk=>by simp at hk⊢;omega)⟩
 ·have H7:Hid (St W0 ((w3.setCell ⟨w.heap.size+1,2,none⟩ (.bool true)).setCell ⟨w.heap.size+1,4,none⟩ (.bool true)) rb B (w.heap.size+1) w.heap.size #[.int .i64 (base+n0), .int .i64 n1, .bool true, .string ⟨#[]⟩, .bool true, .string ⟨#[]⟩] r2):=hide (by simpa[dE]using(H6.out.set 2 (.bool true) hx1 hxy Ns).set 4 (.bool true) hx1 hxy Ns)
  go_wp2_with fail
  refine(ui _ rb B (r2) H7.out.rd hB (by omega)).mono ?_;rintro e w4 ⟨rfl,hr,ht⟩;have H8:=hide (H7.out.num ht hr hx1 hy1);clear hr ht c0 c1 c2 c3 c4 c5 f0 f1 f2 f3 f4 f5;obtain⟨⟨c0,c1,c2,c3,c4,c5⟩,⟨f0,f1,f2,f3,f4,f5⟩⟩:=H8.out.cells;unfold eU;have H9:Hid (St W0 (w4.setCell ⟨w.heap.size+1,3,none⟩ (.string ⟨(Bt.text (r2)).1.toArray⟩)) rb B (w.heap.size+1) w.heap.size #[.int .i64 (base+n0), .int .i64 n1, .bool true, .string ⟨(Bt.text (r2)).1.toArray⟩, .bool true, .string ⟨#[]⟩] (Bt.text (r2)).2):=hide (by simpa[dE]using H8.out.set 3 (.string ⟨(Bt.text (r2)).1.toArray⟩) hx1 hxy Ns);obtain⟨⟨d0,d1,d2,d3,d4,d5⟩,⟨y0,y1,y2,y3,y4,y5⟩⟩:=H8.out.Gq;go_wp2
  have hld:=H9.out.load ⟨base+n0,n1,true,(Bt.text r2).1,true,[]⟩;simp only[eU]at hld;refine bodyPost_ret (v:=pK ⟨base+n0,n1,true,(Bt.text r2).1,true,[]⟩) (by simp[results,Tryz.results189,asAddr,hld,Result.andThen,pK,eU]) rfl ?_;have hf:=H9.out.fin hy1 (by omega) (.int .i64 (base+n0)) (.int .i64 n1) (.bool true) (eU (Bt.text r2).1) (.bool true) (eU []);rw[HE.out];exact⟨rfl,hf.1,(dO.out.mono (by simp)).trans hf.2 (fun k hk=>by simp at hk⊢;omega)⟩
theorem Tryz.Nv:(Tryz.prog.info? 5).map (fun i=>(i.zero,i.size,i.bytes))=some (some (.int .u8 0),1,1):=by kernel_rfl
theorem yA:∃i,Tryz.prog.info? 5=some i∧i.zero=some (.int .u8 0)∧i.size=1∧i.bytes=1:=by
 have h:=Tryz.Nv;cases hi:Tryz.prog.info? 5 with
 |none=>rw[hi]at h;cases h
 |some i=>
  rw[hi]at h;simp only[Option.map_some,Option.some.injEq,Prod.mk.injEq]at h;exact⟨i,rfl,h.1,h.2.1,h.2.2⟩
theorem EW(w:World)(bs:List UInt8)(b:Nat)(cs:Array Value)(hb:w.heap[b]? =some (.cells cs 5 (0,0))) (hc:cs=(bs.map ah).toArray) (c:Nat):SliceAt w (.slice (some ⟨b,0,none⟩) bs.length c) (bs.map ah):=by
 refine .inr ⟨⟨b,0,none⟩,c,by simp,fun j u hu=>?_⟩;rw[addr_add,cell_of hb,hc];simpa using hu
theorem QP(m:Nat):bits .or .u8 ((m:Int)%256) 128=((UInt8.ofNat (m%128+128)).toNat:Int):=by
 have h:=u8_or_nat (m%256) 128 (by omega) (by omega);have e:((m%256:Nat):Int)=(m:Int)%256:=by omega
 rw[e]at h;have h':bits .or .u8 ((m:Int)%256) 128=((m%256|||128:Nat):Int):=h;rw[h'];have:∀i:Fin 256,i.val|||128=i.val%128+128:=by decide
 have:=this ⟨m%256,by omega⟩;simp only at this;rw[this];simp;omega
theorem put_any(w:World)(base:Nat)(v:Value)(bs:List UInt8)(Pe:bZ w 5 base v bs)(aas:base≤w.heap.size)(n:Nat)(hn:n≤1099511627776)(hl:bs.length≤549755813888):
 Calls Tryz.prog 121 #[v, .int .i64 n] w fun e w'=>∃v',e= .returned v'∧bZ w' 5 base v' (bs++Nu.put n)∧Turn v.ownBlock.toList w w'∧(∀k∈v'.ownBlock,k∈v.ownBlock∨w.heap.size≤k):=by
 obtain⟨i0,hi,hz,hz1,hz2⟩:=yA;have HR:Hid (bZ w 5 base v bs):=Pe;clear Pe;go_enter Tryz.func121,Tryz.ntmps121
 go_wp2
 go_loopw [0,5] (fun s u wr=>∃(m:Nat) (pre:List UInt8),m≤n∧u= .int .u64 m∧pre++Nu.put m=Nu.put n∧bZ wr 5 base s (bs++pre)∧Turn v.ownBlock.toList w wr∧(∀k∈s.ownBlock,k∈v.ownBlock∨w.heap.size≤k)) (fun _ u _=>(intOf u).toNat)
 case atStart=>exact⟨n,[],Nat.le_refl _,rfl,rfl,by simpa using HR.out,Turn.refl _ _,fun k hk=> .inl hk⟩
 case round=>
  obtain⟨m,pre,hm,rfl,acs,Pe,ht,aau⟩:=hrel;have HP:Hid (pre++Nu.put m=Nu.put n):=acs;have HR2:Hid (bZ wr 5 base _ (bs++pre)):=Pe;have HO:Hid (∀k∈_,k∈v.ownBlock∨w.heap.size≤k):=aau;clear acs Pe aau;have hpl:pre.length≤6:=by
   have h1:=Nu.fE hn;rw[←HP.out]at h1;simp at h1;omega
  have aah:(bs++pre).length≤1099511627775:=by simp;omega
  by_cases adL:128≤m
  ·have ahW:=QP m
   have HB:Hid (bits .or .u8 ((m:Int)%256) 128=((UInt8.ofNat (m%128+128)).toNat:Int)):=ahW;clear ahW;go_wp2_with (at_builtin;go_must (refine jc _ rfl _ _ 39 rfl 5 base i0 Tryz.underlying39 hi hz hz1 hz2 _ (.slice (some ⟨wr.heap.size,0,none⟩) 1 1) (bs++pre) [UInt8.ofNat (m%128+128)] rfl rfl (HR2.out.kept ((Turn.refl [] wr).alloc _) (by simp)) (EW _ [UInt8.ofNat (m%128+128)] wr.heap.size _ (ai wr _) (by rw[HB.out];rfl) 1) (by simp at aah⊢;omega) (by have:=ht.size;simp;omega) ?_;intro v3 w3 aaE ht3 hown3;have HR3:Hid (bZ w3 5 base v3 (bs++pre++[UInt8.ofNat (m%128+128)])):=aaE;clear aaE))
   refine⟨⟨m/128,pre++[UInt8.ofNat (m%128+128)],by omega,by go_num,?_,by have:=HR3.out;rwa [List.append_assoc]at this,?_,?_⟩,?_⟩
   ·rw[←HP.out,Nu.oZ adL];simp
   ·exact(ht.trans (T:=[]) ((Turn.refl [] _).alloc _) (by simp)).trans ht3 (fun k hk=>by
     rcases HO.out k (by simp only[Option.mem_toList]at hk;exact hk)with h1|h1
     ·exact .inl (by simpa using h1)
     ·exact .inr h1)
   ·intro k hk
    rcases hown3 k hk with h1|h1
    ·exact HO.out k h1
    ·have:=ht.size;simp at h1;exact .inr (by omega)
   ·simp only[intOf];omega
  ·have HB:Hid (((m:Nat):Int)=((UInt8.ofNat m).toNat:Int)):=by show _=_;simp;omega
   go_wp2_with (at_builtin;go_must (refine jc _ rfl _ _ 39 rfl 5 base i0 Tryz.underlying39 hi hz hz1 hz2 _ (.slice (some ⟨wr.heap.size,0,none⟩) 1 1) (bs++pre) [UInt8.ofNat m] rfl rfl (HR2.out.kept ((Turn.refl [] wr).alloc _) (by simp)) (EW _ [UInt8.ofNat m] wr.heap.size _ (ai wr _) (by rw[HB.out];rfl) 1) (by simp at aah⊢;omega) (by have:=ht.size;simp;omega) ?_;intro v3 w3 aaE ht3 hown3;have HR3:Hid (bZ w3 5 base v3 (bs++pre++[UInt8.ofNat m])):=aaE;clear aaE))
   go_ret
   refine⟨v3,rfl,?_,?_,?_⟩
   ·have:=HR3.out
    rw[←HP.out,Nu.jR (by omega)];rwa [List.append_assoc]at this
   ·exact(ht.trans (T:=[]) ((Turn.refl [] _).alloc _) (by simp)).trans ht3 (fun k hk=>by
     rcases HO.out k (by simp only[Option.mem_toList]at hk;exact hk)with h1|h1
     ·exact .inl (by simpa using h1)
     ·exact .inr h1)
   ·intro k hk
    rcases hown3 k hk with h1|h1
    ·exact HO.out k h1
    ·have:=ht.size;simp at h1;exact .inr (by omega)
def IA(w0 w:World)(v:Value)(bs:List UInt8):Prop:=
 Turn [] w0 w∧((∃p,v= .slice (some p) bs.length bs.length∧SliceAt w v (bs.map ah))∨bZ w 5 w0.heap.size v bs)
theorem IA.bytes{w0 w:World}{v:Value}{bs:List UInt8}(h:IA w0 w v bs):SliceAt w v (bs.map ah):=by
 rcases h.2 with⟨p,_,h⟩|h
 ·exact h
 ·exact h.cells
theorem yB{P:Program}{o:Oper}{a:Act}{K:Act→World→Prop}{Q:Exit→Act→World→Prop}{w w':World}{s x:Operand}{t tx:TypeId}{v xv v':Value}
 (ho:o.op= .call {callee:= .builtin .append,args:= #[s,x],argTypes:= #[t,tx]})(hs:a.eval s=v)(hx:a.eval x=xv)(hr:(Builtin.append_ #[t,tx] o.type #[v,xv]).run P w= .ok v' w')(h:K (a.put o.dst v') w'):o.wp P a w K Q:=by
 unfold Oper.wp execOp;simp only[ho,resolve,invoke,builtin,Sem.run_bind,Sem.run_pure,Result.andThen_ok,List.map_toArray,List.map_cons,List.map_nil,hs,hx,hr];exact h
theorem bU{P:Program}{ops:Array Oper}{rest:List Oper}{o:Oper}{a:Act}{Q:Exit→Act→World→Prop}{w w':World}(hgd:o.guard=none){s x:Operand}{t tx:TypeId}{v xv v':Value}
 (ho:o.op= .call {callee:= .builtin .append,args:= #[s,x],argTypes:= #[t,tx]})(hs:a.eval s=v)(hx:a.eval x=xv)(hr:(Builtin.append_ #[t,tx] o.type #[v,xv]).run P w= .ok v' w')(h:wpList P ops Q rest (a.put o.dst v') w'):wpList P ops Q (o::rest) a w:=
 wpList_plain hgd fun _ hK=>yB ho hs hx hr (hK _ _ h)
theorem IA.alloc{w0 w:World}{v:Value}{bs:List UInt8}(h:IA w0 w v bs)(o:Obj):IA w0 (w.alloc o) v bs:=by
 have ht:Turn [] w (w.alloc o):=(Turn.refl _ _).alloc _;refine⟨h.1.same ht,?_⟩;rcases h.2 with⟨p,e,h⟩|h
 ·exact .inl ⟨p,e,h.kept ht (by simp)⟩
 ·exact .inr (h.kept ht (by simp))
def eX(w:World)(base:Nat)(sv:Value)(rs:List Bt.Rec):Prop:=
 (sv= .slice none 0 0∧rs=[])∨
 ∃g cap cur,sv= .slice (some ⟨g,0,none⟩) rs.length cap∧base≤g∧w.heap[g]? =some (.cells cur 52 (0,0))∧rs.length≤cap∧cap*6≤cur.size∧cap≤maxLen∧cur.toList.take (rs.length*6)=rs.flatMap recC
theorem bH(r:Bt.Rec):(recC r).length=6:=rfl
theorem dw:∀(rs:List Bt.Rec),(rs.flatMap recC).length=rs.length*6
 |[]=>rfl
 |r::rs=>by rw[List.flatMap_cons,List.length_append,dw rs,bH,List.length_cons];omega
theorem eX.kept{w w':World}{base:Nat}{sv:Value}{rs:List Bt.Rec}{S:List Nat}(h:eX w base sv rs)(ht:Turn S w w')(hn:∀k∈sv.ownBlock,k∉S):eX w' base sv rs:=by
 rcases h with h|⟨g,cap,cur,rfl,hb,hg,r⟩
 ·exact .inl h
 ·exact .inr ⟨g,cap,cur,rfl,hb,ht.heap hg (hn g (by simp[Value.ownBlock])),r⟩
theorem eX.lt{w:World}{base:Nat}{sv:Value}{rs:List Bt.Rec}(h:eX w base sv rs):∀k∈sv.ownBlock,base≤k∧k<w.heap.size:=by
 intro k hk;rcases h with⟨rfl,_⟩|⟨g,cap,cur,rfl,hb,hg,r⟩
 ·simp[Value.ownBlock]at hk
 ·simp[Value.ownBlock]at hk;subst hk;exact⟨hb,lt_of_heap hg⟩
theorem eX.qX{w:World}{base:Nat}{sv:Value}{rs:List Bt.Rec}(h:eX w base sv rs):∃a n c,sv= .slice a n c:=by
 rcases h with⟨rfl,_⟩|⟨g,cap,cur,rfl,r⟩
 ·exact⟨_,_,_,rfl⟩
 ·exact⟨_,_,_,rfl⟩
theorem Nw:∀(rs:List Bt.Rec) (j i:Nat) (h:j<rs.length) (u:Value),(recC rs[j])[i]? =some u→(rs.flatMap recC)[j*6+i]? =some u
 |[],_,_,h,_,_=>by simp at h
 |r::rs,0,i,h,u,hu=>by
  have hi:i<6:=by have:=(List.getElem?_eq_some_iff.1 hu).1;simpa[recC]using this
  rw[List.flatMap_cons,Nat.zero_mul,Nat.zero_add,List.getElem?_append_left (by rw[bH];exact hi)];simpa using hu
 |r::rs,j+1,i,h,u,hu=>by
  rw[List.flatMap_cons,List.getElem?_append_right (by rw[bH];omega),bH,show(j+1)*6+i-6=j*6+i by omega];exact Nw rs j i (by simpa using h) u (by simpa using hu)
theorem eX.recs{w:World}{base:Nat}{sv:Value}{rs:List Bt.Rec}(h:eX w base sv rs)(ok:∀r∈rs,iQ r):bF w sv rs:=by
 rcases h with⟨rfl,rfl⟩|⟨g,cap,cur,rfl,hb,hg,h1,h2,h3,h4⟩
 ·exact⟨none,0,rfl,Nat.le_refl _,Nat.zero_le _,fun _=>rfl,fun j hj=>absurd hj (Nat.not_lt_zero _)⟩
 ·refine⟨_,cap,rfl,h1,h3,by simp,fun j hj=>⟨ok _ (List.getElem_mem _),_,rfl,fun i u hu=>?_⟩⟩
  have hi:i<6:=by have:=(List.getElem?_eq_some_iff.1 hu).1;simpa[recC]using this
  rw[add_add,addr_add,cell_of hg];have h5:=Nw rs j i hj u hu;rw[←h4,List.getElem?_take_of_lt (by omega)]at h5;simpa using h5
theorem Tryz.YA:(Tryz.prog.info? 52).map (fun i=>(i.zero.map (fun z=>z.cells.size),i.size,i.bytes))=some (some 6,6,64):=by kernel_rfl
theorem sH:∃i z,Tryz.prog.info? 52=some i∧i.zero=some z∧z.cells.size=6∧i.size=6∧i.bytes=64:=by
 have h:=Tryz.YA;cases hi:Tryz.prog.info? 52 with
 |none=>rw[hi]at h;cases h
 |some i=>
  rw[hi]at h;simp only[Option.map_some,Option.some.injEq,Prod.mk.injEq,Option.map_eq_some_iff]at h;obtain⟨⟨z,hz,hz2⟩,h2,h3⟩:=h;exact⟨i,z,rfl,hz,hz2,h2,h3⟩
theorem sJ(w:World)(base:Nat)(v:Value)(rs:List Bt.Rec)(r:Bt.Rec)(k:Nat)(Pe:eX w base v rs)(hk:w.heap[k]? =some (.cells (recC r).toArray 52 (0,0))) (aah:rs.length≤1000000) (aas:base≤w.heap.size):
 ∃v' w',(Builtin.append_ #[34,34] 34 #[v, .slice (some ⟨k,0,none⟩) 1 1]).run Tryz.prog w= .ok v' w'∧eX w' base v' (rs++[r])∧Turn v.ownBlock.toList w w'∧(∀j∈v'.ownBlock,j∈v.ownBlock∨w.heap.size≤j):=by
 obtain⟨i,z,hi,hz,hzs,aay,hby⟩:=sH;have abD:maxLen=9223372036854775807:=by simp[maxLen]
 have hl:(recC r).length=1*i.size:=by rw[aay];rfl
 have aa0:∀j u,(recC r)[j]? =some u→w.cell? ((⟨k,0,none⟩:Addr).add j)=some u:=fun j u hu=>by
  rw[addr_add,cell_of hk];simpa using hu
 have adK:∀u∈recC r,u.oneCell'=true:=by
  intro u hu;simp only[recC,eU,List.mem_cons,List.not_mem_nil,or_false]at hu;rcases hu with rfl|rfl|rfl|rfl|rfl|rfl<;>rfl
 rcases Pe with⟨rfl,rfl⟩|⟨g,cap,cur,rfl,hb,hg,h1,h2,h3,h4⟩
 ·have hr:=run_append_nil (P:=Tryz.prog) w 34 34 52 i z Tryz.underlying34 hi hz ⟨k,0,none⟩ 1 1 (recC r) hl aa0 (by omega) (by omega) (by rw[hby];omega)
  have hge:=grownCap_ge w 1 0 52;have hcm:=grownCap_le_maxLen w 1 0 52 (by rw[abD];omega);refine⟨_,_,hr, .inr ⟨w.heap.size,_,_,by simp,aas,ai w.drew _,by simpa using hge,?_,hcm,?_⟩,((Turn.refl _ _).drew).alloc _,by simp[Value.ownBlock]⟩
  ·simp only[Array.size_append,List.size_toArray,size_zeroCells,hzs,bH]
   omega
  ·simp[recC]
 ·have hfl:(rs.flatMap recC++recC r).length=(rs.length+1)*6:=by rw[List.length_append,dw,bH];omega
  by_cases aaz:rs.length+1≤cap
  ·have hr:=run_append_room (P:=Tryz.prog) w 34 34 52 i Tryz.underlying34 hi g rs.length cap cur hg ⟨k,0,none⟩ 1 1 (recC r) hl aa0 adK aaz (by rw[aay,bH];omega)
   rw[aay]at hr;refine⟨_,_,hr, .inr ⟨g,cap,_,by simp,hb,setRow_heap w g cur _ 52 _ hg,by simpa using aaz,?_,h3,?_⟩,⟨rfl,rfl,rfl,by simp,fun k _ hk=>setRow_other w g k _ (fun e=>hk (by simp[Value.ownBlock,e]))⟩,by simp[Value.ownBlock]⟩
   ·simp[bH];omega
   ·simp only[h4,List.append_assoc]
    rw[←List.append_assoc,List.take_append_of_le_length (by rw[hfl];simp),List.take_of_length_le (by rw[hfl];simp)];simp
  ·have acd:∀j u,(rs.flatMap recC)[j]? =some u→w.cell? ((⟨g,0,none⟩:Addr).add j)=some u:=by
    intro j u hu;rw[addr_add,cell_of hg];have hj:j<rs.length*6:=by have:=(List.getElem?_eq_some_iff.1 hu).1;rwa [dw]at this
    rw[←h4,List.getElem?_take_of_lt hj]at hu;simpa using hu
   have hr:=run_append_grow (P:=Tryz.prog) w 34 34 52 i z Tryz.underlying34 hi hz ⟨g,0,none⟩ rs.length cap (rs.flatMap recC) (by rw[dw,aay]) acd ⟨k,0,none⟩ 1 1 (recC r) hl aa0 (by omega) (by omega) (growslice_fits (by omega) (by rw[hby];omega));have hge:=grownCap_ge w (rs.length+1) cap 52;have hcm:=grownCap_le_maxLen w (rs.length+1) cap 52 (by rw[abD];omega);refine⟨_,_,hr, .inr ⟨w.heap.size,_,_,by simp,aas,ai w.drew _,by simpa using hge,?_,hcm,?_⟩,((Turn.refl _ _).drew).alloc _,by simp[Value.ownBlock]⟩
   ·simp only[Array.size_append,List.size_toArray,size_zeroCells,hzs,bH,dw]
    omega
   ·simp only[Array.toList_append]
    rw[List.take_append_of_le_length (by show(rs++[r]).length*6≤(rs.flatMap recC++recC r).length;rw[hfl];simp),List.take_of_length_le (by show(rs.flatMap recC++recC r).length≤(rs++[r]).length*6;rw[hfl];simp)];simp
theorem IB(base:Int)(l:List UInt8):(Bt.qR base l).2.length≤l.length∧(l≠[]→(Bt.qR base l).2.length<l.length):=by
 have a0:=gz l;have a1:=gz (Bt.num l).2;have a2:=gz (Bt.num (Bt.num l).2).2;have a3:=sG (Bt.num (Bt.num (Bt.num l).2).2).2;have a4:=sG (Bt.text (Bt.num (Bt.num (Bt.num l).2).2).2).2;have hlt:l≠[]→(Bt.num l).2.length<l.length:=by
  intro h;have hp:=List.length_pos_iff.2 h;unfold Bt.num;have:=Nu.CP (b:=l);split
  ·simpa using hp
  ·simp;omega
 have hm:(Bt.qR base l).2.length≤(Bt.num (Bt.num (Bt.num l).2).2).2.length:=by
  unfold Bt.qR;simp only;split<;>split<;>(try dsimp only)<;>omega
 exact⟨by omega,fun h=>by have:=hlt h;omega⟩
theorem Uo(base:Int)(l:List UInt8)(h0:0≤base)(h1:base≤1099511627776)(hl:l.length≤1000000):iQ (Bt.qR base l).1:=by
 have a0:=gz l;have a1:=gz (Bt.num l).2;have a2:=gz (Bt.num (Bt.num l).2).2;have a3:=sG (Bt.num (Bt.num (Bt.num l).2).2).2;have a4:=sG (Bt.text (Bt.num (Bt.num (Bt.num l).2).2).2).2;unfold Bt.qR;simp only;refine⟨by simp only;omega,by simp only;omega,by simp only;omega,by simp only;omega,?_,?_⟩
 ·simp only
  split
  ·omega
  ·simp
 ·simp only
  split
  ·simp
  ·split<;>(try dsimp only)<;>omega
theorem IC(base:Int)(h0:0≤base)(h1:base≤1099511627776):∀(n:Nat) (l:List UInt8),l.length≤1000000→∀r∈Bt.lq base n l,iQ r
 |0,_,_,r,hr=>by simp[Bt.lq]at hr
 |n+1,l,hl,r,hr=>by
  unfold Bt.lq at hr;split at hr
  ·simp at hr
  ·rcases List.mem_cons.1 hr with rfl|hr
   ·exact Uo base l h0 h1 hl
   ·exact IC base h0 h1 n _ (by have:=IB base l;omega) r hr
structure EX(w0 w:World)(rb B X:Nat)(b f:Int)(sv:Value)(rs:List Bt.Rec)(l:List UInt8):Prop where
 hx:w0.heap.size<X
 x:w.heap[X]? =some (.cells #[.int .i64 b, .int .i64 f,sv] 71 (0,0))
 y:w.heap[w0.heap.size]? =some (.cells #[.int .i64 0, .int .i64 0, .slice none 0 0] 71 (0,0))
 row:eX w (X+1) sv rs
 rd:gJ w rb B l
 turn:Turn [rb] w0 w
theorem EX.sz{w0 w:World}{rb B X:Nat}{b f:Int}{sv:Value}{rs:List Bt.Rec}{l:List UInt8}(h:EX w0 w rb B X b f sv rs l):w0.heap.size<w.heap.size∧X<w.heap.size:=⟨Nat.lt_trans h.hx (lt_of_heap h.x),lt_of_heap h.x⟩
theorem EX.num{w0 w w':World}{rb B X:Nat}{b f:Int}{sv:Value}{rs:List Bt.Rec}{l l':List UInt8}(h:EX w0 w rb B X b f sv rs l)(ht:Turn [rb] w w')(hrd:gJ w' rb B l')(hrb:rb<w0.heap.size):EX w0 w' rb B X b f sv rs l':=
 ⟨h.hx,ht.heap h.x (by have:=h.hx;simp;omega),ht.heap h.y (by simp;omega),h.row.kept ht (fun k hk=>by have:=(h.row.lt k hk).1;have:=h.hx;simp;omega),hrd,h.turn.same ht⟩
theorem EX.still{w0 w w':World}{rb B X:Nat}{b f:Int}{sv:Value}{rs:List Bt.Rec}{l:List UInt8}(h:EX w0 w rb B X b f sv rs l)(ht:Turn [] w w'):EX w0 w' rb B X b f sv rs l:=
 ⟨h.hx,ht.heap h.x (by simp),ht.heap h.y (by simp),h.row.kept ht (by simp),h.rd.still ht,h.turn.trans ht (by simp)⟩
theorem EX.cells{w0 w:World}{rb B X:Nat}{b f:Int}{sv:Value}{rs:List Bt.Rec}{l:List UInt8}(h:EX w0 w rb B X b f sv rs l):
 (w.cell? ⟨X,0,none⟩=some (.int .i64 b)∧w.cell? ⟨X,1,none⟩=some (.int .i64 f)∧w.cell? ⟨X,2,none⟩=some sv)∧
 (w.frozen? ⟨X,0,none⟩=false∧w.frozen? ⟨X,1,none⟩=false∧w.frozen? ⟨X,2,none⟩=false)∧
 (w.cell? ⟨w0.heap.size,0,none⟩=some (.int .i64 0)∧w.cell? ⟨w0.heap.size,1,none⟩=some (.int .i64 0)∧w.cell? ⟨w0.heap.size,2,none⟩=some (.slice none 0 0))∧
 (w.frozen? ⟨w0.heap.size,0,none⟩=false∧w.frozen? ⟨w0.heap.size,1,none⟩=false∧w.frozen? ⟨w0.heap.size,2,none⟩=false):=
 ⟨⟨by simpa using cell_of h.x 0,by simpa using cell_of h.x 1,by simpa using cell_of h.x 2⟩,⟨au h.x 0,au h.x 1,au h.x 2⟩,
  ⟨by simpa using cell_of h.y 0,by simpa using cell_of h.y 1,by simpa using cell_of h.y 2⟩,au h.y 0,au h.y 1,au h.y 2⟩
theorem EX.fO{w0 w:World}{rb B X:Nat}{b f:Int}{sv:Value}{rs:List Bt.Rec}{l:List UInt8}(h:EX w0 w rb B X b f sv rs l)(f':Int)(hrb:rb<w0.heap.size)(hB:B≤rb):EX w0 (w.setCell ⟨X,1,none⟩ (.int .i64 f')) rb B X b f' sv rs l:=by
 have ht:Turn [X] w (w.setCell ⟨X,1,none⟩ (.int .i64 f')):=(Turn.refl _ _).setCell (.inl (by simp)) _;have hx:=h.hx;exact⟨hx,by simpa using heap_set h.x 1 (.int .i64 f'),ht.heap h.y (by simp;omega),h.row.kept ht (fun k hk=>by have:=(h.row.lt k hk).1;simp;omega),h.rd.kept ht (by simp;omega) (by simp;omega),h.turn.trans ht (fun k hk=> .inr (by simp at hk;omega))⟩
theorem EX.YB{w0 w w2:World}{rb B X:Nat}{b f:Int}{sv s2:Value}{rs r2:List Bt.Rec}{l:List UInt8}(h:EX w0 w rb B X b f sv rs l)(hrb:rb<w0.heap.size)(hB:B≤rb)(h1:eX w2 (X+1) s2 r2)(h2:Turn sv.ownBlock.toList w w2):EX w0 (w2.setCell ⟨X,2,none⟩ s2) rb B X b f s2 r2 l:=by
 have hx:=h.hx;have ht:Turn [X] w2 (w2.setCell ⟨X,2,none⟩ s2):=(Turn.refl _ _).setCell (.inl (by simp)) _;have own:∀k∈sv.ownBlock.toList,X+1≤k:=fun k hk=>(h.row.lt k (by simpa using hk)).1
 have hx2:w2.heap[X]? =some (.cells #[.int .i64 b, .int .i64 f,sv] 71 (0,0)):=h2.heap h.x (fun hm=>by have:=own X hm;omega)
 have hy2:=h2.heap h.y (fun hm=>by have:=own _ hm;omega);refine⟨hx,by simpa using heap_set hx2 2 s2,ht.heap hy2 (by simp;omega),h1.kept ht (fun k hk=>by have:=(h1.lt k hk).1;simp;omega),(h.rd.kept h2 (fun hm=>by have:=own _ hm;omega) (fun k hk=>by have:=own k hk;omega)).kept ht (by simp;omega) (by simp;omega),?_⟩;exact(h.turn.trans h2 (fun k hk=> .inr (by have:=own k hk;omega))).trans ht (fun k hk=> .inr (by simp at hk;omega))
theorem Wj(w:World):(sizeOf 71).run Tryz.prog w= .ok 3 w:=by kernel_rfl
theorem YC(w:World):(isAgg 71).run Tryz.prog w= .ok true w:=by kernel_rfl
theorem jl{w:World}{Y:Nat}{a b c:Value}(h:w.heap[Y]? =some (.cells #[a,b,c] 71 (0,0))):(loadVar 71 ⟨Y,0,none⟩).run Tryz.prog w= .ok (.agg #[a,b,c]) w:=by
 have c0:w.cell? ⟨Y,0,none⟩=some a:=by simpa using cell_of h 0
 have c1:w.cell? ⟨Y,1,none⟩=some b:=by simpa using cell_of h 1
 have c2:w.cell? ⟨Y,2,none⟩=some c:=by simpa using cell_of h 2
 simp[loadVar,YC,Wj,Result.andThen,loadCells,loadCellsFrom,addr_add,c0,c1,c2]
theorem EX.fin{w0 w:World}{rb B X:Nat}{b f:Int}{sv:Value}{rs:List Bt.Rec}{l:List UInt8}(h:EX w0 w rb B X b f sv rs l)(hrb:rb<w0.heap.size):
 (loadVar 71 ⟨w0.heap.size,0,none⟩).run Tryz.prog (((w.setCell ⟨w0.heap.size,0,none⟩ (.int .i64 b)).setCell ⟨w0.heap.size,1,none⟩ (.int .i64 f)).setCell ⟨w0.heap.size,2,none⟩ sv)= .ok (.agg #[.int .i64 b, .int .i64 f,sv]) (((w.setCell ⟨w0.heap.size,0,none⟩ (.int .i64 b)).setCell ⟨w0.heap.size,1,none⟩ (.int .i64 f)).setCell ⟨w0.heap.size,2,none⟩ sv)∧
 eX (((w.setCell ⟨w0.heap.size,0,none⟩ (.int .i64 b)).setCell ⟨w0.heap.size,1,none⟩ (.int .i64 f)).setCell ⟨w0.heap.size,2,none⟩ sv) (w0.heap.size+1) sv rs∧Turn [rb] w0 (((w.setCell ⟨w0.heap.size,0,none⟩ (.int .i64 b)).setCell ⟨w0.heap.size,1,none⟩ (.int .i64 f)).setCell ⟨w0.heap.size,2,none⟩ sv):=by
 have hx:=h.hx;have hy:=heap_set (heap_set (heap_set h.y 0 (.int .i64 b)) 1 (.int .i64 f)) 2 sv;have ht:Turn [w0.heap.size] w (((w.setCell ⟨w0.heap.size,0,none⟩ (.int .i64 b)).setCell ⟨w0.heap.size,1,none⟩ (.int .i64 f)).setCell ⟨w0.heap.size,2,none⟩ sv):=
  (((Turn.refl _ _).setCell (.inl (by simp)) _).setCell (.inl (by simp)) _).setCell (.inl (by simp)) _
 refine⟨jl (by simpa using hy),?_,h.turn.trans ht (fun k hk=> .inr (by simp at hk;omega))⟩;rcases h.row.kept ht (fun k hk=>by have:=(h.row.lt k hk).1;simp;omega)with h|⟨g,cap,cur,e,hb,r⟩
 ·exact .inl h
 ·exact .inr ⟨g,cap,cur,e,by omega,r⟩
theorem OG(w:World)(rb B:Nat)(l:List UInt8)(h:gJ w rb B l)(hB:B≤rb)(hl:l.length≤1000000):
 Calls Tryz.prog 161 #[.pointer (some ⟨rb,0,none⟩)] w fun e w'=>∃sv,e= .returned (.agg #[.int .i64 (Bt.qU l).base, .int .i64 (Bt.qU l).fin,sv])∧eX w' (w.heap.size+1) sv (Bt.qU l).recs∧Turn [rb] w w':=by
 have hrb:rb<w.heap.size:=by obtain⟨sv,h1, -⟩:=h;exact lt_of_heap h1
 obtain⟨n0,r0,e0⟩:∃n r,Bt.num l=(n,r):=⟨_,_,rfl⟩;obtain⟨n1,r1,e1⟩:∃n r,Bt.num r0=(n,r):=⟨_,_,rfl⟩;obtain⟨n2,r2,e2⟩:∃n r,Bt.num r1=(n,r):=⟨_,_,rfl⟩;have g0:=gz l;have g1:=gz r0;have g2:=gz r1;rw[e0]at g0;rw[e1]at g1;rw[e2]at g2;simp only at g0 g1 g2;have hb:Bt.qU l=⟨n0,(n0:Int)+n1,Bt.lq n0 n2 r2⟩:=by
  unfold Bt.qU;simp only[e0,e1,e2]
 rw[hb];have E0:=hide e0;have E1:=hide e1;have E2:=hide e2;have H:=hide h;clear h hb e0 e1 e2;go_enter Tryz.func161,Tryz.ntmps161
 go_wp2_with fail
 refine(jO _ rb B l (H.out.still ((Turn.refl [] w).alloc _)) hB hl).mono ?_;rintro e w1 ⟨rfl,hr1,ht1⟩;rw[E0.out]at hr1⊢;have agn:w.heap.size<w1.heap.size:=by have:=ht1.size;simp at this;omega
 have hb1:EX w (w1.alloc (.cells #[.int .i64 (n0:Int), .int .i64 0, .slice none 0 0] 71)) rb B w1.heap.size (n0:Int) 0 (.slice none 0 0) [] r0:=by
  refine⟨agn,ai w1 _,?_, .inl ⟨rfl,rfl⟩,hr1.still ((Turn.refl [] w1).alloc _),?_⟩
  ·exact((Turn.refl [] w1).alloc _).heap (ht1.heap (ai w _) (by simp;omega)) (by simp)
  ·exact(((Turn.refl [] w).alloc _).mono (by simp) |>.trans ht1 (fun k hk=> .inl hk)).trans (T:=[]) ((Turn.refl [] w1).alloc _) (by simp)
 obtain⟨X,hX⟩:∃X,X=w1.heap.size:=⟨_,rfl⟩;have hX1:X<(w1.alloc (.cells #[.int .i64 (n0:Int), .int .i64 0, .slice none 0 0] 71)).heap.size:=by simp;omega
 rw[←hX]at hb1 agn;have HX:=hide hX;have HB1:=hide hb1;clear hb1 ht1 hr1 hX;go_wp2
 rw[←HX.out];refine bP 5 (Turn [rb]) (Turn []) (fun k w=>match k with|0=>(fun w=>gJ w rb B r0) w|_=>(fun w=>gJ w rb B r1) w) [3] (by kernel_rfl) (by kernel_rfl) (by kernel_rfl) (by kernel_rfl) (by kernel_rfl) (by kernel_rfl) (Nat.le_of_ble_eq_true rfl) (by decide) rfl (Turn.refl _) (fun _ _ _ h k=>h.same k) (fun _ _ h=>h.mono (by simp)) ?_ ?_ ?_
 ·intro k a b hk hR
  match k,hk with
  |0,hk=>
   have hk:=(show(fun w=>gJ w rb B r0) a from hk);dsimp only at hk;show(fun w=>gJ w rb B r0) b;dsimp only;exact hk.still hR
  |_+1,hk=>
   have hk:=(show(fun w=>gJ w rb B r1) a from hk);dsimp only at hk;show(fun w=>gJ w rb B r1) b;dsimp only;exact hk.still hR
 ·show(fun w=>gJ w rb B r0) _
  dsimp only;exact HB1.out.rd.still ((Turn.refl [] _).drew)
 apply Lo.r0 1 rfl 3 (by intro u;conv=>lhs;whnf) rfl
 ·intro a w1 hR e3 K hK
  go_simp
  exact hK _ rfl
 apply Lo.r1 2 rfl 8 0 (fun _=>rfl) rfl (by kernel_rfl)
 ·intro a w1 hR e8 K hK
  have hbw:=((HB1.out.still ((Turn.refl [] _).drew)).x);have c0:=cell_of (hR.heap hbw (by simp;omega)) 0;simp at c0;go_simp
  exact hK _ rfl
 apply Lo.r0 3 rfl 0 (by intro u;conv=>lhs;whnf) rfl
 ·intro a w1 hR e0 K hK
  go_simp
  exact hK _ rfl
 refine Lo.je 4 rfl 0 rfl [2] (fun x w'=>x= .int .i64 n1) (by kernel_rfl) (fun x w w' h hR=>?_) (.inr (fun x w w' h hR=>by exact h)) (fun u w1 hR hS hF=>?_) ?_
 ·exact h
 ·obtain⟨h2, -⟩:=hF
  have hS:=(show(fun w=>gJ w rb B r0) w1 from hS);dsimp only at hS;refine⟨rfl,fun a ha K hK=>?_⟩;have e10:=(ha 10).trans h2;clear ha h2;go_simp
  refine(jO _ rb B r0 hS hB (by omega)).mono ?_;rintro e w2 ⟨rfl,hr2,ht2⟩;rw[E1.out]at hr2⊢;exact hK _ _ rfl ht2 hr2
 refine Lo.df 5 rfl rfl [1,3] (.int .i64 ((n0:Int)+n1)) (by kernel_rfl) (fun u w1 hR hF=>?_) (Turn.refl _) ?_
 ·obtain⟨h1,h3, -⟩:=hF
  refine⟨rfl,fun a ha K hK=>?_⟩;have e9:=(ha 9).trans h1;have e11:a.tmps.getD 11 undef=u 3:=ha 11;have h3:=(show(fun x w'=>x= .int .i64 n1) (u 3) w1 from h3);dsimp only at h3;clear ha h1;go_simp
  refine hK _ ?_;rw[IntWalk.i64_left,IntWalk.wrap64_in _ (by omega)]
 refine Lo.done [4] (fun u w1 bI hSd hF=>?_);have hSd:=(show(fun w=>gJ w rb B r1) w1 from hSd);dsimp only at hSd;obtain⟨f4, -⟩:=hF;have d4:u 4=_:=f4;clear f4;simp only[List.take_succ_cons,List.take_zero,List.drop_succ_cons,List.drop_zero,ax,Act.put,List.setIfInBounds_toArray,List.set_cons_succ,List.set_cons_zero,Nat.zero_add,Nat.reduceAdd,d4];have HB2:=hide ((HB1.out.still (Turn.refl [] _).drew).num bI hSd hrb);clear bI hSd d4;obtain⟨⟨c0,c1,c2⟩,⟨f0,f1,f2⟩, -, -⟩:=HB2.out.cells;go_wp2_with fail
 have HB3:=hide (HB2.out.fO ((n0:Int)+n1) hrb hB);refine(jO _ rb B r1 HB3.out.rd hB (by omega)).mono ?_;rintro e w2 ⟨rfl,hr2,ht2⟩;rw[E2.out]at hr2⊢;have HB4:=hide (HB3.out.num ht2 hr2 hrb);clear hr2 ht2 c0 c1 c2 f0 f1 f2;go_wp2
 go_loopw [4] (fun n wr=>∃(c:Nat) (sv:Value) (rs:List Bt.Rec) (l':List UInt8),n= .int .i64 c∧c≤1099511627776∧EX w wr rb B X n0 ((n0:Int)+n1) sv rs l'∧Bt.lq n0 n2 r2=rs++Bt.lq n0 c l'∧rs.length+l'.length≤l.length) (fun n _=>(intOf n).toNat)
 case atStart=>exact⟨n2,_,[],r2,rfl,g2.2,HB4.out,rfl,by simp;omega⟩
 case round=>
  obtain⟨c,sv,rs,l',rfl,atv,hbs,Vt,aah⟩:=hrel;have Ko:=hide hbs;have HRC:=hide Vt;obtain⟨rv,hrh,YE, -⟩:=hbs.rd;obtain⟨ra,rc,TZ,hlc, -, -⟩:=YE.form;subst TZ;have cr:wr.cell? ⟨rb,0,none⟩=some (.slice ra l'.length rc):=by simpa using cell_of hrh 0
  obtain⟨z1,z2⟩:=hbs.sz;obtain⟨⟨c0,c1,c2⟩,⟨f0,f1,f2⟩,⟨y0,y1,y2⟩,⟨q0,q1,q2⟩⟩:=hbs.cells;clear hbs Vt hrh YE;by_cases hc0:c=0
  ·subst hc0
   have Df:Hid (Bt.lq n0 n2 r2=rs):=by show _=_;rw[HRC.out];simp[Bt.lq]
   obtain⟨sa,sn,sc,hsv⟩:=Ko.out.row.qX;subst hsv;go_wp2
   have aar:=Ko.out.fin hrb;have hld:=aar.1;refine bodyPost_ret (v:= .agg #[.int .i64 n0, .int .i64 ((n0:Int)+n1), .slice sa sn sc]) (by simp[results,Tryz.results161,asAddr,hld,Result.andThen]) rfl ?_;refine⟨_,rfl,?_,aar.2.2⟩;rw[Df.out];exact aar.2.1
  by_cases hl0:l'=[]
  ·subst hl0
   have Df:Hid (Bt.lq n0 n2 r2=rs):=by
    show _=_;rw[HRC.out];cases c<;>simp[Bt.lq]
   obtain⟨sa,sn,sc,hsv⟩:=Ko.out.row.qX;subst hsv;go_wp2
   have aar:=Ko.out.fin hrb;have hld:=aar.1;refine bodyPost_ret (v:= .agg #[.int .i64 n0, .int .i64 ((n0:Int)+n1), .slice sa sn sc]) (by simp[results,Tryz.results161,asAddr,hld,Result.andThen]) rfl ?_;refine⟨_,rfl,?_,aar.2.2⟩;rw[Df.out];exact aar.2.1
  ·obtain⟨c',rfl⟩:∃c',c=c'+1:=⟨c-1,by omega⟩
   have hlp:0<l'.length:=List.length_pos_iff.2 hl0;have YF:=IB n0 l';have HR1:Hid (Bt.lq n0 n2 r2=(rs++[(Bt.qR n0 l').1])++Bt.lq n0 c' (Bt.qR n0 l').2):=by
    show _=_;rw[HRC.out,Bt.lq,if_neg hl0];simp
   have anT:=YF.2 hl0;clear hl0 YF;obtain⟨r,hr⟩:∃r,r=(Bt.qR n0 l').1:=⟨_,rfl⟩;obtain⟨l2,hl2⟩:∃l2,l2=(Bt.qR n0 l').2:=⟨_,rfl⟩;rw[←hr,←hl2]at HR1;rw[←hl2]at anT;have YG:Hid (Bt.qR n0 l'=(r,l2)):=by show _=_;rw[hr,hl2]
   clear hr hl2;go_wp2
   refine bP 7 (Turn [rb]) (Turn []) (fun k w=>match k with|0=>(fun w=>gJ w rb B l') w|_=>(fun w=>gJ w rb B l2) w) [5] (by kernel_rfl) (by kernel_rfl) (by kernel_rfl) (by kernel_rfl) (by kernel_rfl) (by kernel_rfl) (Nat.le_of_ble_eq_true rfl) (by decide) rfl (Turn.refl _) (fun _ _ _ h k=>h.same k) (fun _ _ h=>h.mono (by simp)) ?_ ?_ ?_
   ·intro k a b hk hR
    match k,hk with
    |0,hk=>
     have hk:=(show(fun w=>gJ w rb B l') a from hk);dsimp only at hk;show(fun w=>gJ w rb B l') b;dsimp only;exact hk.still hR
    |_+1,hk=>
     have hk:=(show(fun w=>gJ w rb B l2) a from hk);dsimp only at hk;show(fun w=>gJ w rb B l2) b;dsimp only;exact hk.still hR
   ·show(fun w=>gJ w rb B l') _
    dsimp only;exact Ko.out.rd.still ((Turn.refl [] _).drew)
   apply Lo.r0 1 rfl 3 (by intro u;conv=>lhs;whnf) rfl
   ·intro a w1 hR e3 K hK
    go_simp
    exact hK _ rfl
   apply Lo.r1 2 rfl 28 0 (fun _=>rfl) rfl (by kernel_rfl)
   ·intro a w1 hR e28 K hK
    have c2:=cell_of (hR.heap (Ko.out.still (Turn.refl [] _).drew).x (by simp;omega)) 2;simp at c2;go_simp
    exact hK _ rfl
   apply Lo.r0 3 rfl 0 (by intro u;conv=>lhs;whnf) rfl
   ·intro a w1 hR e0 K hK
    go_simp
    exact hK _ rfl
   apply Lo.r0 4 rfl 3 (by intro u;conv=>lhs;whnf) rfl
   ·intro a w1 hR e3 K hK
    go_simp
    exact hK _ rfl
   apply Lo.r1 5 rfl 31 3 (fun _=>rfl) rfl (by kernel_rfl)
   ·intro a w1 hR e31 K hK
    have c0:=cell_of (hR.heap (Ko.out.still (Turn.refl [] _).drew).x (by simp;omega)) 0;simp at c0;go_simp
    exact hK _ rfl
   refine Lo.je 6 rfl 0 rfl [2,4] (fun x w'=>x=pK r) (by kernel_rfl) (fun x w w' h hR=>?_) (.inr (fun x w w' h hR=>by exact h)) (fun u w1 hR hS hF=>?_) ?_
   ·exact h
   ·obtain⟨h2,h4, -⟩:=hF
    have hS:=(show(fun w=>gJ w rb B l') w1 from hS);dsimp only at hS;refine⟨rfl,fun a ha K hK=>?_⟩;have e30:=(ha 30).trans h2;have e32:=(ha 32).trans h4;clear ha h2 h4;go_simp
    refine(KA _ rb B l' hS hB (by omega) n0 (by omega) (by omega)).mono ?_;rintro e w2 ⟨rfl,hr2,ht2⟩;rw[YG.out]at hr2⊢;exact hK _ _ rfl ht2 hr2
   refine Lo.run 7 rfl rfl [5] (fun x w'=>∃k,x= .slice (some ⟨k,0,none⟩) 1 1∧w'.heap[k]? =some (.cells (recC r).toArray 52 (0,0))∧wr.heap.size≤k) (by kernel_rfl) (fun x w w' h hR=>?_) (fun _ _ h=>h.mono (by simp)) (fun u w1 hR hF=>?_) ?_
   ·obtain⟨k,h1,h2,h3⟩:=h;exact⟨k,h1,hR.heap h2 (by simp;omega),h3⟩
   ·obtain⟨h5, -⟩:=hF
    refine⟨rfl,fun a ha K hK=>?_⟩;have e33:a.tmps.getD 33 undef=u 5:=ha 33;have h5:=(show(fun x w'=>x=pK r) (u 5) w1 from h5);dsimp only at h5;clear ha;have e33':a.tmps[33]?.getD undef= .agg #[.int .i64 r.off, .int .i64 r.time, .bool r.keyed,eU r.key, .bool r.gone,eU r.value]:=by rw[←Array.getD_eq_getD_getElem?,e33];exact h5
    go_simp
    have hs6:=((Turn.refl [] wr).drew.mono (T:=[rb]) (by simp)).same hR |>.size;exact hK _ _ ⟨w1.heap.size,rfl,ai w1 _,hs6⟩ ((Turn.refl [] _).alloc _)
   refine Lo.done [1,6] (fun u w1 bI hSd hF=>?_);have hSd:=(show(fun w=>gJ w rb B l2) w1 from hSd);dsimp only at hSd;obtain⟨f1,f6, -⟩:=hF;have d1:u 1=_:=f1;have d6:=(show(fun x w'=>∃k,x= .slice (some ⟨k,0,none⟩) 1 1∧w'.heap[k]? =some (.cells (recC r).toArray 52 (0,0))∧wr.heap.size≤k) (u 6) w1 from f6)
   dsimp only at d6;clear f1 f6;simp only[List.take_succ_cons,List.take_zero,List.drop_succ_cons,List.drop_zero,ax,Act.put,List.setIfInBounds_toArray,List.set_cons_succ,List.set_cons_zero,Nat.zero_add,Nat.reduceAdd,d1];have hb5:=(Ko.out.still (Turn.refl [] _).drew).num bI hSd hrb;have HB5:=hide hb5;obtain⟨k,hk1,hk2,hk3⟩:=d6;rw[hk1];obtain⟨v7,w7,hr7,aai,ht7,aaq⟩:=sJ w1 (X+1) sv rs r k hb5.row hk2 (by omega) (by have:=hb5.sz;omega);obtain⟨a7,n7,p7,hv7⟩:=aai.qX;subst hv7;have hx7:=ht7.heap hb5.x (fun hm=>by have:=(hb5.row.lt X (by simpa using hm)).1;omega);have c7:w7.cell? ⟨X,2,none⟩=some sv:=by simpa using cell_of hx7 2
   have f7:w7.frozen? ⟨X,2,none⟩=false:=au hx7 2;have lF:=hide aai;have HT7:=hide ht7;have HR7:=hide hr7;clear hb5 hk1 hk2 hk3 d1 bI hSd hr7 aai ht7 aaq hx7 c0 c1 c2 f0 f1 f2 y0 y1 y2 q0 q1 q2 cr;go_wp2_with (at_builtin;go_must (refine bU rfl rfl rfl rfl HR7.out ?_))
   refine⟨⟨c',_,rs++[r],l2,by go_num,by omega,HB5.out.YB hrb hB lF.out HT7.out,HR1.out,by simp;omega⟩,?_⟩;simp only[intOf];omega
theorem KC(a b k:Nat)(hb:b<2^k)(ha:a%2^k=0)(h:a+b<9223372036854775808):bits .or .i64 (a:Int) (b:Int)=((a+b:Nat):Int):=by
 have hj:a|||b=a+b:=nat_join k a b ha hb
 rw[CQ _ _ (by omega) (by omega) (by rw[hj];exact h),hj]
theorem BytesAt.four{w:World}{v:Value}{bs:List UInt8}(h:BytesAt w v bs)(h4:4≤bs.length):∃p c,v= .slice (some p) bs.length c∧bs.length≤c∧c≤maxLen∧
 w.cell? p=some (.int .u8 (bs.getD 0 0).toNat)∧w.cell? ⟨p.block,p.off+1,none⟩=some (.int .u8 (bs.getD 1 0).toNat)∧w.cell? ⟨p.block,p.off+2,none⟩=some (.int .u8 (bs.getD 2 0).toNat)∧w.cell? ⟨p.block,p.off+3,none⟩=some (.int .u8 (bs.getD 3 0).toNat):=by
 obtain⟨a,c,rfl,h1,h2, -,hc⟩:=h;obtain⟨p,rfl,g0⟩:=hc 0 (by omega);refine⟨p,c,rfl,h1,h2,?_,?_,?_,?_⟩
 ·rw[add_zero]at g0;simpa[ah,List.getD,show 0<bs.length by omega]using g0
 ·obtain⟨q,hq,g⟩:=hc 1 (by omega);cases hq
  rw[show(⟨p.block,p.off+1,none⟩:Addr)=p.add 1 from rfl,g];simp[ah,List.getD,show 1<bs.length by omega]
 ·obtain⟨q,hq,g⟩:=hc 2 (by omega);cases hq
  rw[show(⟨p.block,p.off+2,none⟩:Addr)=p.add 2 from rfl,g];simp[ah,List.getD,show 2<bs.length by omega]
 ·obtain⟨q,hq,g⟩:=hc 3 (by omega);cases hq
  rw[show(⟨p.block,p.off+3,none⟩:Addr)=p.add 3 from rfl,g];simp[ah,List.getD,show 3<bs.length by omega]
theorem wu(w:World)(v:Value)(bs:List UInt8)(hx:BytesAt w v bs)(h4:4≤bs.length):
 Calls Tryz.prog 160 #[v] w fun e w'=>e= .returned (.int .i64 (Bt.fM bs:Nat))∧w'=w.drew:=by
 obtain⟨p,c,rfl,hlc,hcm,c0,c1,c2,c3⟩:=hx.four h4;obtain⟨b0,e0⟩:∃b:Nat,(bs.getD 0 0).toNat=b:=⟨_,rfl⟩;obtain⟨b1,e1⟩:∃b:Nat,(bs.getD 1 0).toNat=b:=⟨_,rfl⟩;obtain⟨b2,e2⟩:∃b:Nat,(bs.getD 2 0).toNat=b:=⟨_,rfl⟩;obtain⟨b3,e3⟩:∃b:Nat,(bs.getD 3 0).toNat=b:=⟨_,rfl⟩;have l0:b0<256:=by rw[←e0];exact UInt8.toNat_lt _
 have l1:b1<256:=by rw[←e1];exact UInt8.toNat_lt _
 have l2:b2<256:=by rw[←e2];exact UInt8.toNat_lt _
 have l3:b3<256:=by rw[←e3];exact UInt8.toNat_lt _
 have hv:Bt.fM bs=b0*16777216+b1*65536+b2*256+b3:=by unfold Bt.fM;rw[e0,e1,e2,e3]
 rw[e0]at c0;rw[e1]at c1;rw[e2]at c2;rw[e3]at c3;rw[hv];have i0:0<bs.length:=by omega
 have i1:(1:Int)<(bs.length:Int):=by omega
 have i2:(2:Int)<(bs.length:Int):=by omega
 have i3:(3:Int)<(bs.length:Int):=by omega
 clear hx hv e0 e1 e2 e3;go_enter Tryz.func160,Tryz.ntmps160
 go_wp2
 refine rU (fun a b=>a=b) (by kernel_rfl) (by kernel_rfl) (by kernel_rfl) (by kernel_rfl) rfl (fun _=>rfl) (fun _ _ _ h k=>h.trans k) ?_;apply Lo.lu 1 rfl rfl [] (by kernel_rfl) (fun _=>rfl);apply Exists.intro;apply And.intro
 ·intro u w1 hR hF
  clear hF;subst hR;refine⟨rfl,fun a ha K hK=>?_⟩;have e0:=ha 0;conv at e0=>rhs;whnf
  clear ha;go_simp
  exact hK _ rfl
 apply Lo.lu 2 rfl rfl [0] (by kernel_rfl) (fun _=>rfl);apply Exists.intro;apply And.intro
 ·intro u w1 hR hF
  obtain⟨h0, -⟩:=hF;subst hR;refine⟨rfl,fun a ha K hK=>?_⟩;have e3:=(ha 3).trans h0;clear ha h0;go_simp
  exact hK _ rfl
 apply Lo.lu 3 rfl rfl [1] (by kernel_rfl) (fun _=>rfl);apply Exists.intro;apply And.intro
 ·intro u w1 hR hF
  obtain⟨h1, -⟩:=hF;subst hR;refine⟨rfl,fun a ha K hK=>?_⟩;have e4:=(ha 4).trans h1;clear ha h1;go_simp
  exact hK _ rfl
 apply Lo.lu 4 rfl rfl [2] (by kernel_rfl) (fun _=>rfl);apply Exists.intro;apply And.intro
 ·intro u w1 hR hF
  obtain⟨h2, -⟩:=hF;subst hR;refine⟨rfl,fun a ha K hK=>?_⟩;have e5:=(ha 5).trans h2;clear ha h2;go_simp
  exact hK _ rfl
 refine Lo.df 5 rfl rfl [3] (.int .i64 ((b0*16777216:Nat):Int)) (by kernel_rfl) (fun u w1 hR hF=>?_) (fun _=>rfl) ?_
 ·obtain⟨h3, -⟩:=hF
  subst hR;refine⟨rfl,fun a ha K hK=>?_⟩;have e6:=(ha 6).trans h3;clear ha h3;go_simp
  refine hK _ ?_;rw[IntWalk.i64_left,IntWalk.i64_left,IntWalk.wrap64_in (b0:Int) (by omega),IntWalk.wrap64_in _ (by omega)];simp
 apply Lo.lu 6 rfl rfl [] (by kernel_rfl) (fun _=>rfl);apply Exists.intro;apply And.intro
 ·intro u w1 hR hF
  clear hF;subst hR;refine⟨rfl,fun a ha K hK=>?_⟩;have e0:=ha 0;conv at e0=>rhs;whnf
  clear ha;go_simp
  exact hK _ rfl
 apply Lo.lu 7 rfl rfl [5] (by kernel_rfl) (fun _=>rfl);apply Exists.intro;apply And.intro
 ·intro u w1 hR hF
  obtain⟨h5, -⟩:=hF;subst hR;refine⟨rfl,fun a ha K hK=>?_⟩;have e8:=(ha 8).trans h5;clear ha h5;go_simp
  exact hK _ rfl
 apply Lo.lu 8 rfl rfl [6] (by kernel_rfl) (fun _=>rfl);apply Exists.intro;apply And.intro
 ·intro u w1 hR hF
  obtain⟨h6, -⟩:=hF;subst hR;refine⟨rfl,fun a ha K hK=>?_⟩;have e9:=(ha 9).trans h6;clear ha h6;go_simp
  exact hK _ rfl
 apply Lo.lu 9 rfl rfl [7] (by kernel_rfl) (fun _=>rfl);apply Exists.intro;apply And.intro
 ·intro u w1 hR hF
  obtain⟨h7, -⟩:=hF;subst hR;refine⟨rfl,fun a ha K hK=>?_⟩;have e10:=(ha 10).trans h7;clear ha h7;go_simp
  exact hK _ rfl
 refine Lo.df 10 rfl rfl [8] (.int .i64 ((b1*65536:Nat):Int)) (by kernel_rfl) (fun u w1 hR hF=>?_) (fun _=>rfl) ?_
 ·obtain⟨h8, -⟩:=hF
  subst hR;refine⟨rfl,fun a ha K hK=>?_⟩;have e11:=(ha 11).trans h8;clear ha h8;go_simp
  refine hK _ ?_;rw[IntWalk.i64_left,IntWalk.i64_left,IntWalk.wrap64_in (b1:Int) (by omega),IntWalk.wrap64_in _ (by omega)];simp
 refine Lo.df 11 rfl rfl [4,9] (.int .i64 ((b0*16777216+b1*65536:Nat):Int)) (by kernel_rfl) (fun u w1 hR hF=>?_) (fun _=>rfl) ?_
 ·obtain⟨h4,h9, -⟩:=hF
  subst hR;refine⟨rfl,fun a ha K hK=>?_⟩;have e7:=(ha 7).trans h4;have e12:=(ha 12).trans h9;clear ha h4 h9;go_simp
  refine hK _ ?_;have hor:=KC (b0*16777216) (b1*65536) 24 (by omega) (by omega) (by omega);try rw[IntWalk.i64_left (n:=(b3:Int)),IntWalk.wrap64_in (b3:Int) (by omega)]
  simpa using hor
 apply Lo.lu 12 rfl rfl [] (by kernel_rfl) (fun _=>rfl);apply Exists.intro;apply And.intro
 ·intro u w1 hR hF
  clear hF;subst hR;refine⟨rfl,fun a ha K hK=>?_⟩;have e0:=ha 0;conv at e0=>rhs;whnf
  clear ha;go_simp
  exact hK _ rfl
 apply Lo.lu 13 rfl rfl [11] (by kernel_rfl) (fun _=>rfl);apply Exists.intro;apply And.intro
 ·intro u w1 hR hF
  obtain⟨h11, -⟩:=hF;subst hR;refine⟨rfl,fun a ha K hK=>?_⟩;have e14:=(ha 14).trans h11;clear ha h11;go_simp
  exact hK _ rfl
 apply Lo.lu 14 rfl rfl [12] (by kernel_rfl) (fun _=>rfl);apply Exists.intro;apply And.intro
 ·intro u w1 hR hF
  obtain⟨h12, -⟩:=hF;subst hR;refine⟨rfl,fun a ha K hK=>?_⟩;have e15:=(ha 15).trans h12;clear ha h12;go_simp
  exact hK _ rfl
 apply Lo.lu 15 rfl rfl [13] (by kernel_rfl) (fun _=>rfl);apply Exists.intro;apply And.intro
 ·intro u w1 hR hF
  obtain⟨h13, -⟩:=hF;subst hR;refine⟨rfl,fun a ha K hK=>?_⟩;have e16:=(ha 16).trans h13;clear ha h13;go_simp
  exact hK _ rfl
 refine Lo.df 16 rfl rfl [14] (.int .i64 ((b2*256:Nat):Int)) (by kernel_rfl) (fun u w1 hR hF=>?_) (fun _=>rfl) ?_
 ·obtain⟨h14, -⟩:=hF
  subst hR;refine⟨rfl,fun a ha K hK=>?_⟩;have e17:=(ha 17).trans h14;clear ha h14;go_simp
  refine hK _ ?_;rw[IntWalk.i64_left,IntWalk.i64_left,IntWalk.wrap64_in (b2:Int) (by omega),IntWalk.wrap64_in _ (by omega)];simp
 refine Lo.df 17 rfl rfl [10,15] (.int .i64 ((b0*16777216+b1*65536+b2*256:Nat):Int)) (by kernel_rfl) (fun u w1 hR hF=>?_) (fun _=>rfl) ?_
 ·obtain⟨h10,h15, -⟩:=hF
  subst hR;refine⟨rfl,fun a ha K hK=>?_⟩;have e13:=(ha 13).trans h10;have e18:=(ha 18).trans h15;clear ha h10 h15;go_simp
  refine hK _ ?_;have hor:=KC (b0*16777216+b1*65536) (b2*256) 16 (by omega) (by omega) (by omega);try rw[IntWalk.i64_left (n:=(b3:Int)),IntWalk.wrap64_in (b3:Int) (by omega)]
  simpa using hor
 apply Lo.lu 18 rfl rfl [] (by kernel_rfl) (fun _=>rfl);apply Exists.intro;apply And.intro
 ·intro u w1 hR hF
  clear hF;subst hR;refine⟨rfl,fun a ha K hK=>?_⟩;have e0:=ha 0;conv at e0=>rhs;whnf
  clear ha;go_simp
  exact hK _ rfl
 apply Lo.lu 19 rfl rfl [17] (by kernel_rfl) (fun _=>rfl);apply Exists.intro;apply And.intro
 ·intro u w1 hR hF
  obtain⟨h17, -⟩:=hF;subst hR;refine⟨rfl,fun a ha K hK=>?_⟩;have e20:=(ha 20).trans h17;clear ha h17;go_simp
  exact hK _ rfl
 apply Lo.lu 20 rfl rfl [18] (by kernel_rfl) (fun _=>rfl);apply Exists.intro;apply And.intro
 ·intro u w1 hR hF
  obtain⟨h18, -⟩:=hF;subst hR;refine⟨rfl,fun a ha K hK=>?_⟩;have e21:=(ha 21).trans h18;clear ha h18;go_simp
  exact hK _ rfl
 apply Lo.lu 21 rfl rfl [19] (by kernel_rfl) (fun _=>rfl);apply Exists.intro;apply And.intro
 ·intro u w1 hR hF
  obtain⟨h19, -⟩:=hF;subst hR;refine⟨rfl,fun a ha K hK=>?_⟩;have e22:=(ha 22).trans h19;clear ha h19;go_simp
  exact hK _ rfl
 refine Lo.df 22 rfl rfl [16,20] (.int .i64 ((b0*16777216+b1*65536+b2*256+b3:Nat):Int)) (by kernel_rfl) (fun u w1 hR hF=>?_) (fun _=>rfl) ?_
 ·obtain⟨h16,h20, -⟩:=hF
  subst hR;refine⟨rfl,fun a ha K hK=>?_⟩;have e19:=(ha 19).trans h16;have e23:=(ha 23).trans h20;clear ha h16 h20;go_simp
  refine hK _ ?_;have hor:=KC (b0*16777216+b1*65536+b2*256) b3 8 (by omega) (by omega) (by omega);try rw[IntWalk.i64_left (n:=(b3:Int)),IntWalk.wrap64_in (b3:Int) (by omega)]
  simpa using hor
 apply Lo.lu 23 rfl rfl [21] (by kernel_rfl) (fun _=>rfl);apply Exists.intro;apply And.intro
 ·intro u w1 hR hF
  obtain⟨h21, -⟩:=hF;subst hR;refine⟨rfl,fun a ha K hK=>?_⟩;have e24:=(ha 24).trans h21;clear ha h21;go_simp
  exact hK _ rfl
 refine Lo.done [22] (fun u w1 bI hSd hF=>?_);clear hSd;obtain⟨f22, -⟩:=hF;subst bI;have d22:u 22=_:=f22;clear f22;simp only[ax,Act.put,List.setIfInBounds_toArray,List.set_cons_succ,List.set_cons_zero,Nat.zero_add,Nat.reduceAdd,d22];clear d22;go_wp2
 go_ret
 exact⟨rfl,rfl⟩
end
end Go.Proofs.YtficbckncieabaaGreatDoor
