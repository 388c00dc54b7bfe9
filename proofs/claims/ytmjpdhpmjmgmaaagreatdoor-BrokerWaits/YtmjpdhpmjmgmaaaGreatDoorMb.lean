/- Lemmas of the claim, part b of 14. -/
import Derived.Test.YtmjpdhpmjmgmaaaGreatDoorMa
import Derived.Maps.OwnIn
import Derived.Maps.AppendAt
import Derived.Test.YtmjpdhpmjmgmaaaGreatDoorProg
import Derived.WalkKit
import Derived.WalkLawsBesides
import Derived.ProofKit
import Derived.Deep.Slices
import Derived.DataReads
import Derived.Laws.BitsAllLaws
namespace Go.Proofs.YtmjpdhpmjmgmaaaGreatDoor
section
open Go.RowKit Go.Maps Go.Shelf Go.Sort
set_option maxRecDepth 100000
set_option linter.unusedSimpArgs false
set_option linter.unusedVariables false
attribute [local go_sem] Oper.semAt_some
namespace Dk
def Bi(Bs:Nat)(W:World):Option Nat:=match W.heap[Bs]? with
 |some (.cells cs _ _)=>(cs[0]?).bind Value.ownBlock
 |_=>none
theorem qK{Bs:Nat}{W:World}{v:Value}{t:TypeId}{fr:Nat×Nat}(h:W.heap[Bs]? =some (.cells #[v] t fr)):Bi Bs W=v.ownBlock:=by simp[Bi,h]
structure Tf(Bs:Nat)(W W':World):Prop where
 size:W.heap.size≤W'.heap.size
 cells:∀k cs t fr,W.heap[k]? =some (.cells cs t fr)→k≠Bs→Bi Bs W≠some k→W'.heap[k]? =some (.cells cs t fr)
 own:Bi Bs W'=Bi Bs W∨∃b,Bi Bs W'=some b∧W.heap.size≤b
theorem Tf.refl(Bs:Nat)(W:World):Tf Bs W W:=⟨Nat.le_refl _,fun _ _ _ _ h _ _=>h, .inl rfl⟩
theorem U0{Bs:Nat}{A B C:World}(h:Tf Bs A B)(k:Tf Bs B C):Tf Bs A C:=by
 refine⟨Nat.le_trans h.size k.size,fun i cs t fr hi hn ho=>?_,?_⟩
 ·refine k.cells i cs t fr (h.cells i cs t fr hi hn ho) hn (fun e=>?_)
  rcases h.own with h1|⟨b,h1,h2⟩
  ·exact ho (h1▸e)
  ·rw[h1]at e;cases e
   have:=lt_of_heap hi;omega
 ·rcases k.own with h1|⟨b,h1,h2⟩
  ·rw[h1];exact h.own
  ·exact .inr ⟨b,h1,Nat.le_trans h.size h2⟩
theorem XR{Bs:Nat}{w:World}(hB:Bs<w.heap.size)(W:World)(l:Nat)(o o':Obj)(hl:w.heap.size≤l)(h:W.heap[l]? =some o) (ho:o.isCells=false) (_:o.isWalk=false):Tf Bs W (W.putObj l o'):=by
 refine⟨by simp,fun k cs t fr hk _ _=>?_, .inl ?_⟩
 ·have hne:k≠l:=by
   intro e;subst e;rw[h]at hk;cases hk;cases ho
  rw[World.putObj_heap_other hne];exact hk
 ·unfold Bi;rw[World.putObj_heap_other (show Bs≠l by omega)]
theorem rU{W W':World}{row:Option Nat}{base:Nat}{e:TypeId}{size:Nat}{v:Value}{k:Nat}{xs:List Value}(h:W.ownsRow base e size v k xs)(hg:W.grownBy W' row)
 (hrow:∀r,row=some r→∃o:Obj,W.heap[r]? =some o∧o.isCells=false):W'.ownsRow base e size v k xs:=by
 refine h.kept hg ?_;rcases h.2 with⟨rfl,_⟩|⟨g,cap,cur,rfl,_,hgb,_⟩
 ·exact .inl rfl
 ·refine .inr fun e'=>?_
  obtain⟨o,ho,hw⟩:=hrow g (by simpa[Value.ownBlock]using e'.symm);rw[hgb]at ho;cases ho;cases hw
theorem wQ{W:World}{base:Nat}{e:TypeId}{size:Nat}{v:Value}{k:Nat}{xs:List Value}(h:W.ownsRow base e size v k xs){j:Nat}{cs:Array Value}{t:TypeId}(hj:W.heap[j]? =some (.cells cs t (0,0))) (hno:t≠e):
 v.ownBlock≠some j:=by
 rcases h.2 with⟨rfl,_⟩|⟨g,cap,cur,rfl,_,hgb,_⟩
 ·simp[Value.ownBlock]
 ·intro e'
  have:g=j:=by simpa[Value.ownBlock]using e'
  subst this;rw[hgb]at hj;cases hj;exact hno rfl
theorem Dw{W:World}{base:Nat}{e:TypeId}{v:Value}{k:Nat}{xs:List Value}(h:W.ownsRow base e 1 v k xs):∃a n c,v= .slice a n c:=by
 rcases h.2 with⟨rfl,_⟩|⟨g,cap,cur,rfl,_⟩
 ·exact⟨_,_,_,rfl⟩
 ·exact⟨_,_,_,rfl⟩
theorem rV{W:World}{base:Nat}{e:TypeId}{size:Nat}{v:Value}{k:Nat}{xs:List Value}(h:W.ownsRow base e size v k xs){g:Nat}(hg:v.ownBlock=some g):base≤g∧∃cur,W.heap[g]? =some (.cells cur e (0,0)):=by
 rcases h.2 with⟨rfl,_⟩|⟨g',cap,cur,rfl,hb,hgb,_⟩
 ·simp[Value.ownBlock]at hg
 ·have:g'=g:=by simpa[Value.ownBlock]using hg
  subst this;exact⟨hb,cur,hgb⟩
theorem JB{W w3:World}{b:Nat}{v:Value}{t:TypeId}{o:Obj}(h:W.heap[b]? =some (.cells #[v] t (0,0))) (hs:v.ownBlock≠some b) (hg:(W.alloc o).grownBy w3 v.ownBlock):w3.heap[b]? =some (.cells #[v] t (0,0)):=by
 have t1:Turn v.ownBlock.toList (W.alloc o) w3:=(Turn.refl _ _).grown hg (by intro k hk;exact .inl (by simp[hk]));refine t1.heap (((Turn.refl [] W).alloc o).heap h (by simp)) ?_;intro e;exact hs (by simpa using e)
theorem Tryz.XU:(Tryz.prog.info? 9).map (fun i=>(i.zero,i.size,i.bytes))=some (some (.string ⟨#[]⟩),1,16):=by kernel_rfl
section
variable {w w':World} {base d:Nat} {F:List Nat} {A A':DA} {ah:Option Nat} {ms:List au}
def U1(w:World)(A:DA)(pre:List (pX A))(W:World):Prop:=
 ∃v,W.heap[w.heap.size]? =some (.cells #[v] 138 (0,0))∧W.ownsRow w.heap.size 9 1 v pre.length (pre.map (fun x=>encStr x.1))∧Turn [] w W
set_option maxHeartbeats 2000000 in
theorem Dx(h:Parts w base d F A ah ms)(s:ByteArray)(hs:s.size≤maxLen)(B1 B2:Nat)(hB1:w.heap[B1]? =some (.cells #[.pointer (some ⟨d,0,none⟩)] 67 (0,0))) (hB2:w.heap[B2]? =some (.cells #[.string s] 9 (0,0))):
 Calls Tryz.prog 120 #[.slice none 0 0, .func (.func 121) #[] #[.pointer (some ⟨B1,0,none⟩), .pointer (some ⟨B2,0,none⟩)]] w fun e w'=>
  ∃v,e= .returned v∧w'.ownsRow w.heap.size 9 1 v (dH A s.data.toList).length ((dH A s.data.toList).map (fun x=>encStr x.1))∧Turn [] w w':=by
 refine(callsIn_wide (n:=7)).1 ?_;have H:Hid (Parts w base d F A ah ms):=h;have hcount:=h.good.count;clear h;refine callsIn_of_wp_marks Tryz.func120 rfl trivial ?_ rfl;simp only[Tryz.ntmps120,List.size_toArray,List.length_cons,List.length_nil,Nat.reduceAdd,Nat.reduceSub,Array.replicate_succ,Array.replicate_zero,List.push_toArray,List.append_toArray,List.nil_append,List.cons_append];gi_wp2
 obtain⟨W1,hW1⟩:∃W1,w.alloc (.cells #[.slice none 0 0] 138)=W1:=⟨_,rfl⟩;rw[hW1];have hs1:W1.heap.size=w.heap.size+1:=by rw[←hW1];simp
 have t1:Turn [] w W1:=by rw[←hW1];exact(Turn.refl _ _).alloc _
 have hbox:W1.heap[w.heap.size]? =some (.cells #[.slice none 0 0] 138 (0,0)):=by rw[←hW1];exact ae w _
 have hb1:W1.heap[B1]? =_:=t1.heap hB1 (by simp)
 have hb2:W1.heap[B2]? =_:=t1.heap hB2 (by simp)
 have hP1:=H.out.kept t1 (by simp);have hB2l:B2<w.heap.size:=lt_of_heap hB2;have hseq:=GK hP1 s hs B1 B2 hb1 hb2 (Tf w.heap.size) (Tf.refl _) U0 (fun W0 W W' k cs t fr hb0 hb hk hkp hc=>by
  have e1:W.heap[w.heap.size]? =some (.cells #[.slice none 0 0] 138 (0,0)):=by
   have h0:=hb0.block w.heap.size (by omega);have h1:=hb.block w.heap.size (by have:=hb0.size;omega);rw[h1,h0];exact hbox
  refine hkp.cells k cs t fr hc ?_ ?_
  ·have:=hb0.size
   rcases hk with rfl|hk<;>omega
  ·rw[qK e1];simp[Value.ownBlock])
 have ZZ:Hid (SeqStopsK Fence.wide 6 Tryz.prog 121 #[.pointer (some ⟨B1,0,none⟩), .pointer (some ⟨B2,0,none⟩)] (fun x:pX A=> #[encStr x.1]) (Tf w.heap.size)
  (fun xs=>xs=dH A s.data.toList) (fun pre=>pre<+:dH A s.data.toList) (dH A s.data.toList).length W1):=hseq
 have HI:Hid (U1 w A [] W1):=⟨_,hbox,World.ownsRow_nil _ _ _ _,t1⟩;have hnl:(dH A s.data.toList).length≤200:=by
  have h2:(dH A s.data.toList).length≤(aK A).attach.length:=List.length_filter_le _ _;rw[List.length_attach,pY]at h2;omega
 clear hseq hbox hb1 hb2 hP1 hW1 t1;refine wpIn_rangeFunc_ownG rfl (by omega) (gf:=121) (lb:= #[.pointer (some ⟨B1,0,none⟩), .pointer (some ⟨B2,0,none⟩)]) rfl trivial (enters_of Tryz.func121 (by kernel_rfl) rfl)
  ZZ.out (fun h k=>U0 h k) (fun W l o o' h1 h2 h3 h4=>XR (w:=W1) (by omega) W l o o' h1 h2 h3 h4) (Below.refl _ _) (fun _=>rfl)
  (U1 w A) (fun _ _ _=>False) ?own (fun _ _ _ _ _ hs _ _=>hs) HI.out
  (fun x=>{tmps:= #[.slice none 0 0, .func (.func 121) #[] #[.pointer (some ⟨B1,0,none⟩), .pointer (some ⟨B2,0,none⟩)], .pointer (some ⟨w.heap.size,0,none⟩),undef, .slice none 0 0,encStr x.1, .func (.func 121) #[] #[.pointer (some ⟨B1,0,none⟩), .pointer (some ⟨B2,0,none⟩)],encStr x.1,undef,undef,undef,undef,undef],defers:=[]}) ?assign ?body ?done ?stop
 case own=>
  rintro pre X Y row ⟨v,hv,hr,ht⟩ hg hrow;have t:Turn row.toList X Y:=(Turn.refl _ _).grown hg (by intro k hk;exact .inl (by simp[hk]));refine⟨v,t.heap hv (fun e=>?_),rU hr hg (fun r e=>(hrow r e).2),ht.trans t (fun k hk=> .inr ?_)⟩
  ·obtain⟨o,ho,hw⟩:=(hrow _ (by simpa using e)).2
   rw[hv]at ho;cases ho;cases hw
  ·have:=(hrow k (by simpa using hk)).1
   omega
 case assign=>
  intro l x W K hK;gi_wp2
  exact hK
 case body=>
  rintro l pre x W ⟨v,hv,hr,ht⟩ hlen;obtain⟨i0,hi,hz0,hz1,hz2⟩:=info_parts Tryz.XU;have cb:W.cell? ⟨w.heap.size,0,none⟩=some v:=by rw[cell_of hv];rfl
  have hle:=ht.size;have hvl:=lt_of_heap hv;have HV:Hid (W.heap[w.heap.size]? =some (.cells #[v] 138 (0,0))):=hv
  have HT:Hid (Turn [] w W):=ht;have hsep:=wQ hr hv (by decide);have HS:Hid (v.ownBlock≠some w.heap.size):=hsep;clear hv ht hsep;gi_wp2_with (first
   |(gi_at_builtin;refine wpListIn_append_own_at _ rfl _ _ 138 rfl w.heap.size 9 i0 (.string ⟨#[]⟩) 1 16 Tryz.underlying138 hi hz0 hz1 hz2 rfl (by decide) _ _ _ rfl (hr.alloc _) ⟨W.heap.size,0,none⟩ 1 1 [encStr x.1] rfl rfl (cell_one_new _ _ _) (by simp[Value.oneCell',encStr]) (by simp only[maxLen];omega) (by omega) (by simp;omega) ?_;intro v' w3 hown' hg3 hnil3 hob3;obtain⟨a3,n3,c3,rfl⟩:=Dw hown')
   |gi_in)
  all_goals
   have HB3:Hid (w3.heap[w.heap.size]? =some (.cells #[v] 138 (0,0))):=JB HV.out HS.out hg3
   have cb3:w3.cell? ⟨w.heap.size,0,none⟩=some v:=by rw[cell_of HB3.out];rfl
   have ff3:w3.frozen? ⟨w.heap.size,0,none⟩=false:=af HB3.out 0;have HR:Hid (W.ownsRow w.heap.size 9 1 v pre.length (pre.map (fun x=>encStr x.1))):=hr;have HG3:Hid ((W.alloc (.cells #[encStr x.1] 9)).grownBy w3 v.ownBlock):=hg3;have HO:Hid (w3.ownsRow w.heap.size 9 1 (.slice a3 n3 c3) (pre.length+1) (pre.map (fun x=>encStr x.1)++[encStr x.1])):=hown';have HOB:Hid ((Value.slice a3 n3 c3).ownBlock=v.ownBlock∨(Value.slice a3 n3 c3).ownBlock=some (W.alloc (.cells #[encStr x.1] 9)).heap.size):=hob3;clear hr hown' hg3 hnil3 hob3;first
    |(exfalso;have e:w3.frozen? ⟨w.heap.size,0,none⟩=true:=(by assumption);rw[ff3]at e;cases e;done)
    |(exfalso;have e:w3.cell? ⟨w.heap.size,0,none⟩=none:=(by assumption);rw[cb3]at e;cases e;done)
    |skip
  have t3:Turn v.ownBlock.toList W w3:=((Turn.refl _ W).alloc _).grown HG3.out (by intro k hk;exact .inl (by simp[hk]));have t4:Turn (w.heap.size::v.ownBlock.toList) W (w3.setCell ⟨w.heap.size,0,none⟩ (.slice a3 n3 c3)):=(t3.mono (by intro k hk;exact .inl (by simp only[List.mem_cons];exact .inr hk))).setCell (by simp) _;have hbox4:(w3.setCell ⟨w.heap.size,0,none⟩ (.slice a3 n3 c3)).heap[w.heap.size]? =some (.cells #[.slice a3 n3 c3] 138 (0,0)):=by rw[heap_set HB3.out];simp
  refine⟨⟨t4.size,fun k o hB hk ho=>t4.heap hk (fun e=>?_)⟩,⟨t4.size,fun k cs t fr hk hn ho=>t4.heap hk (fun e=>?_),?_⟩, .slice a3 n3 c3,hbox4,?_,HT.out.trans t4 (fun k hk=>?_)⟩
  ·simp only[List.mem_cons,Option.mem_toList]at e
   rcases e with rfl|e
   ·omega
   ·obtain⟨_,cur,hc⟩:=rV HR.out e
    rw[hk]at hc;cases hc;cases ho
  ·simp only[List.mem_cons,Option.mem_toList]at e
   rcases e with rfl|e
   ·exact hn rfl
   ·rw[qK HV.out]at ho
    exact ho e
  ·rw[qK hbox4,qK HV.out]
   rcases HOB.out with h1|h1
   ·exact .inl h1
   ·exact .inr ⟨_,h1,by simp⟩
  ·have hq:=HO.out.kept (((Turn.refl [w.heap.size] w3).setCell (p:=⟨w.heap.size,0,none⟩) (by simp) (.slice a3 n3 c3)).grownBy (k:=w.heap.size) (by simp)) (.inr (wQ HO.out HB3.out (by decide)))
   simpa using hq
  ·simp only[List.mem_cons,Option.mem_toList]at hk
   rcases hk with rfl|hk
   ·exact .inr (Nat.le_refl _)
   ·exact .inr (rV HR.out hk).1
 case done=>
  rintro D xs W hD rfl ⟨v,hv,hr,ht⟩ hK;have cb:W.cell? ⟨w.heap.size,0,none⟩=some v:=by rw[cell_of hv];rfl
  gi_wp2
  refine⟨by simp, .inl ⟨_,_,rfl,run_takeDeferred hK,?_⟩⟩;have tD:Turn [D] W (W.putObj D (.deferred none)):=⟨rfl,rfl,rfl,by simp,fun k _ hn=>World.putObj_heap_other (by simpa using hn)⟩;refine⟨v,?_,v,rfl,rU hr (tD.grownBy (k:=D) (by simp)) (fun r e=>by cases e;exact⟨_,hK,rfl⟩),ht.trans tD (fun k hk=>?_)⟩
  ·simp[results,Tryz.f120,go_sem]
  ·simp only[List.mem_singleton]at hk
   exact .inr (by omega)
 case stop=>
  rintro D c pre W hD _ h _;exact h.elim
theorem GM(h:Parts w base d F A ah ms)(s:ByteArray)(hs:s.size≤maxLen)(B1 B2:Nat)(hB1:w.heap[B1]? =some (.cells #[.pointer (some ⟨d,0,none⟩)] 67 (0,0))) (hB2:w.heap[B2]? =some (.cells #[.string s] 9 (0,0))):
 Calls Tryz.prog 82 #[.func (.func 121) #[] #[.pointer (some ⟨B1,0,none⟩), .pointer (some ⟨B2,0,none⟩)]] w fun e w'=>
  ∃v,e= .returned v∧w'.ownsRow w.heap.size 9 1 v (dH A s.data.toList).length ((dH A s.data.toList).map (fun x=>encStr x.1))∧Turn [] w w':=by
 have HC:Hid (Calls Tryz.prog 120 #[.slice none 0 0, .func (.func 121) #[] #[.pointer (some ⟨B1,0,none⟩), .pointer (some ⟨B2,0,none⟩)]] w fun e w'=>
  ∃v,e= .returned v∧w'.ownsRow w.heap.size 9 1 v (dH A s.data.toList).length ((dH A s.data.toList).map (fun x=>encStr x.1))∧Turn [] w w'):=Dx h s hs B1 B2 hB1 hB2
 clear h hB1 hB2;go_enter Tryz.func82,Tryz.ntmps82
 go_wp2_with fail
 refine HC.out.mono ?_;rintro e w' ⟨v,rfl,hr,ht⟩;go_wp2
 go_ret
 exact⟨v,rfl,hr,ht⟩
theorem GN(h:Parts w base d F A ah ms)(s:ByteArray)(hs:s.size≤maxLen):
 Calls Tryz.prog 52 #[.pointer (some ⟨d,0,none⟩), .string s] w fun e w'=>
  ∃v,e= .returned v∧w'.ownsRow w.heap.size 9 1 v (gu A s.data.toList).length ((gu A s.data.toList).map encStr)∧Turn [] w w':=by
 have H:Hid (Parts w base d F A ah ms):=h;clear h;go_enter Tryz.func52,Tryz.ntmps52
 go_wp2_with fail
 refine(callsIn_wide.1 (names_in d s w)).mono ?_;rintro e w' ⟨rfl,rfl⟩;go_wp2_with fail
 have t2:Turn [] w ((w.alloc (.cells #[.pointer (some ⟨d,0,none⟩)] 67)).alloc (.cells #[.string s] 9)):=((Turn.refl [] w).alloc _).alloc _;have e1:((w.alloc (.cells #[.pointer (some ⟨d,0,none⟩)] 67)).alloc (.cells #[.string s] 9)).heap[w.heap.size]? =some (.cells #[.pointer (some ⟨d,0,none⟩)] 67 (0,0)):=by
  rw[Below.heap_alloc _ _ _ (by simp)];exact ae w _
 have e2:((w.alloc (.cells #[.pointer (some ⟨d,0,none⟩)] 67)).alloc (.cells #[.string s] 9)).heap[w.heap.size+1]? =some (.cells #[.string s] 9 (0,0)):=by
  have:=ae (w.alloc (.cells #[.pointer (some ⟨d,0,none⟩)] 67)) (.cells #[.string s] 9);rwa [World.size_alloc]at this
 refine(GM (H.out.kept t2 (by simp)) s hs w.heap.size (w.heap.size+1) e1 e2).mono ?_;rintro e w' ⟨v,rfl,hr,ht⟩;go_wp2
 go_ret
 refine⟨v,rfl,?_,t2.trans ht (by simp)⟩;rw[←GH,List.map_map,List.length_map];exact⟨hr.1,hr.2.imp id (fun⟨g,cap,cur,h1,h2,h3⟩=>⟨g,cap,cur,h1,by simp at h2;omega,h3⟩)⟩
end
end Dk
end
section
open Go.RowKit Go.Maps
set_option linter.unusedSimpArgs false
namespace Dk
section
variable {w w':World} {base d:Nat} {F:List Nat} {A A':DA} {ah:Option Nat} {ms:List au}
set_option maxRecDepth 100000 in
set_option maxHeartbeats 1000000 in
theorem clone_any(w:World)(v:Value)(bs:List UInt8)(hx:SliceAt w v (bs.map aj))(hbs:bs.length≤1099511627776):
 Calls Tryz.prog 51 #[v] w fun e w'=>∃v',e= .returned v'∧bC w' 5 w.heap.size v' bs∧Turn [] w w':=by
 obtain⟨i0,hi,hz,hz1,hz2⟩:=info_parts Tryz.LD;have hq:∀(w:World) (a:Option Addr) (n c:Nat),(binOp .eql 97 (.slice a n c) (.slice none 0 0)).run Tryz.prog w= .ok (.bool a.isNone) w:=fun w a n c=>Go.Lib.run_eql_slice_nil w _ _ a n c 0 0 Tryz.underlying97
 rcases hx with⟨rfl,hb⟩|⟨a,c,rfl,hc⟩
 ·have hb':bs=[]:=by simpa using hb
  subst hb';go_enter Tryz.func51,Tryz.ntmps51
  go_wp2
  go_ret
  exact⟨_,rfl, .inl ⟨rfl,rfl⟩,Turn.refl _ _⟩
 ·simp only[List.length_map]
  have HX:Hid (SliceAt w (.slice (some a) bs.length c) (bs.map aj)):= .inr ⟨a,c,by simp,hc⟩;clear hc;go_enter Tryz.func51,Tryz.ntmps51
  go_wp2_with (at_builtin;go_must (refine iq _ rfl _ _ 97 rfl 5 w.heap.size i0 Tryz.underlying97 hi hz hz1 hz2 (.slice (some ⟨w.heap.size,0,none⟩) 0 0) (.slice (some a) bs.length c) [] bs rfl rfl (.inr ⟨w.heap.size,0, #[],rfl,Nat.le_refl _,ae w _,by simp,by simp,by simp,by simp⟩) (HX.out.kept ((Turn.refl [] w).alloc _) (by simp)) (by simp;omega) (by simp) ?_;intro v3 w3 hrow3 ht4 hown3;rw[List.nil_append]at hrow3))
  go_ret
  exact⟨_,rfl,hrow3,((Turn.refl [] w).alloc (.cells #[] 5)).trans ht4 (by simp[Value.ownBlock])⟩
def uf(bs:List UInt8)(off most:Int):List UInt8:=if off<0∨(bs.length:Int)≤off∨most≤0 then []else(bs.drop off.toNat).take most.toNat
def DA.bytesOf(A:DA)(nm:List UInt8):List UInt8:=match A.files.find? (fun f=>f.name==nm)with
 |some f=>f.bytes
 |none=>[]
theorem bC.zero{w:World}{e base:Nat}:bC w e base (.slice none 0 0) []:= .inl ⟨rfl,rfl⟩
set_option maxRecDepth 100000 in
set_option maxHeartbeats 1000000 in
theorem NH(h:Parts w base d F A ah ms)(s:ByteArray)(hs:s.size≤maxLen)(off most:Int)(hn:bM ms s.data.toList=none):
 Calls Tryz.prog 28 #[.pointer (some ⟨d,0,none⟩), .string s, .int .i64 off, .int .i64 most] w fun e w'=>e= .returned (.slice none 0 0)∧w=w':=by
 have c1:=h.c1;have hlook:=h.map.look hs;rw[hn]at hlook;simp only[rP]at hlook;clear hn h;go_enter Tryz.func28,Tryz.ntmps28
 go_wp2
 go_ret
 exact⟨rfl,rfl⟩
set_option maxRecDepth 100000 in
set_option maxHeartbeats 1000000 in
theorem NI(h:Parts w base d F A ah ms)(s:ByteArray)(hs:s.size≤maxLen)(off most:Int)(m:au)(hn:bM ms s.data.toList=some m)(hm: -9223372036854775808≤most∧most≤9223372036854775807):
 Calls Tryz.prog 28 #[.pointer (some ⟨d,0,none⟩), .string s, .int .i64 off, .int .i64 most] w fun e w'=>∃v,e= .returned v∧bC w' 5 w.heap.size v (uf m.abs.bytes off most)∧Turn [] w w':=by
 have c1:=h.c1;have hlook:=h.map.look hs;rw[hn]at hlook;simp only[rP]at hlook;have hfa:=h.each m (qG hn).1;obtain⟨sa,sc,hsl,hsl1,hsl2⟩:=hfa.2.form;have cf:w.cell? ⟨m.blk,0,none⟩=some (.slice sa m.abs.bytes.length sc):=by rw[cell_of hfa.1,hsl];rfl
 have hlen:m.abs.bytes.length≤1048576:=by
  have h1:=h.good.used;have h2:=h.good.room;rw[h.files]at h1;obtain⟨pre,post,e,_⟩:=tX hn;rw[e,List.map_append,List.map_cons,jB]at h1;omega
 by_cases hz:off<0∨(m.abs.bytes.length:Int)≤off∨most≤0
 ·have HE:Hid (uf m.abs.bytes off most=[]):=by show _=_;simp[uf,hz]
  have HF:Hid (off<0∨(m.abs.bytes.length:Int)≤off∨most≤0):=hz;clear hn h hfa hsl hz;by_cases h1:off<0
  ·go_enter Tryz.func28,Tryz.ntmps28
   go_wp2
   go_ret
   exact⟨_,rfl,by rw[HE.out];exact bC.zero,Turn.refl _ _⟩
  ·by_cases h2:(m.abs.bytes.length:Int)≤off
   ·go_enter Tryz.func28,Tryz.ntmps28
    go_wp2
    go_ret
    exact⟨_,rfl,by rw[HE.out];exact bC.zero,Turn.refl _ _⟩
   ·have h3:most≤0:=by have:=HF.out;omega
    go_enter Tryz.func28,Tryz.ntmps28
    go_wp2
    go_ret
    exact⟨_,rfl,by rw[HE.out];exact bC.zero,Turn.refl _ _⟩
 ·have HE:Hid (uf m.abs.bytes off most=(m.abs.bytes.drop off.toNat).take most.toNat):=by show _=_;simp only[uf,hz,if_false]
  have h1:¬off<0:=by omega
  have h2:¬(m.abs.bytes.length:Int)≤off:=by omega
  have h3:¬most≤0:=by omega
  obtain⟨n,rfl⟩:=Int.eq_ofNat_of_zero_le (show 0≤off by omega);obtain⟨k,rfl⟩:=Int.eq_ofNat_of_zero_le (show 0≤most by omega);have hR:=hfa.2;rcases hR with⟨_,hb0⟩|⟨g,cap,cur,hsl',hbg,hg,hc1,hc2,hc3,htk⟩
  ·rw[hb0]at h2;simp at h2
  clear cf hsl1 hsl2;have cf:w.cell? ⟨m.blk,0,none⟩=some (.slice (some ⟨g,0,none⟩) m.abs.bytes.length cap):=by rw[cell_of hfa.1,hsl'];rfl
  have hn1:n<m.abs.bytes.length:=by omega
  have hk1:0<k:=by omega
  have hs1:∀w,(Instr.slice 97 (.slice (some ⟨g,0,none⟩) m.abs.bytes.length cap) (some (.int .i64 (n:Int))) none none).run Tryz.prog w= .ok (.slice (some ⟨g,n,none⟩) (m.abs.bytes.length-n) (cap-n)) w:=by
   intro w;have hsz:(sizeOf 5).run Tryz.prog w= .ok 1 w:=by kernel_rfl
   have hne:¬cap=n:=by omega
   simp[Instr.slice,run_underlying Tryz.underlying97,Instr.sliceBounds,run_sliceBound,hsz,Result.andThen,(by omega:n≤m.abs.bytes.length),hne,addr_add]
  have hs2:∀(j:Nat) w,j≤cap-n→(Instr.slice 97 (.slice (some ⟨g,n,none⟩) (m.abs.bytes.length-n) (cap-n)) none (some (.int .i64 (j:Int))) none).run Tryz.prog w= .ok (.slice (some ⟨g,n,none⟩) j (cap-n)) w:=by
   intro j w hj;have hsz:(sizeOf 5).run Tryz.prog w= .ok 1 w:=by kernel_rfl
   simp[Instr.slice,run_underlying Tryz.underlying97,Instr.sliceBounds,run_sliceBound,hsz,Result.andThen,hj,Addr.add]
  have HE2:Hid (∀j:Nat,j≤m.abs.bytes.length-n→SliceAt w (.slice (some ⟨g,n,none⟩) j (cap-n)) (((m.abs.bytes.drop n).take j).map aj)):=by
   intro j hj;refine .inr ⟨⟨g,n,none⟩,cap-n,by simp;omega,fun i u hu=>?_⟩;have ha:(⟨g,n,none⟩:Addr).add i=⟨g,n+i,none⟩:=by unfold Addr.add;split<;>simp_all
   rw[ha,cell_of hg];have hi:i<j:=by
    have:=(List.getElem?_eq_some_iff.1 hu).1;simp at this;omega
   have hq:(m.abs.bytes.map aj)[n+i]? =some u:=by
    rw[List.map_take,List.map_drop,List.getElem?_take_of_lt hi,List.getElem?_drop]at hu;exact hu
   rw[←htk,List.getElem?_take_of_lt (by omega)]at hq;simpa using hq
  clear hn h hfa hsl hz hsl' hg htk h1 h3;have hwr:IntKind.i64.wrap ((m.abs.bytes.length:Int)-(n:Int))=(m.abs.bytes.length:Int)-(n:Int):=by
   rw[IntWalk.i64_left,IntWalk.wrap64_in _ (by omega)]
  by_cases hkk:(k:Int)≤m.abs.bytes.length-n
  ·have hj:=fun w=>hs2 k w (by omega)
   have hmin:∀ts t w,(Builtin.min_ ts t #[.int .i64 (k:Int), .int .i64 ((m.abs.bytes.length:Int)-(n:Int))]).run Tryz.prog w= .ok (.int .i64 (k:Int)) w:=by
    intro ts t w;have:¬((m.abs.bytes.length:Int)-(n:Int)<(k:Int)):=by omega
    simp[Builtin.min_,Builtin.min2,this]
   have hcl:=fun W (hW:Turn [] w W)=>clone_any W (.slice (some ⟨g,n,none⟩) k (cap-n)) ((m.abs.bytes.drop n).take k) ((HE2.out k (by omega)).kept hW (by simp)) (by simp;omega)
   have HC:Hid (∀W,Turn [] w W→Calls Tryz.prog 51 #[.slice (some ⟨g,n,none⟩) k (cap-n)] W fun e w'=>∃v',e= .returned v'∧bC w' 5 W.heap.size v' ((m.abs.bytes.drop n).take k)∧Turn [] W w'):=hcl;clear hs2 hcl;go_enter Tryz.func28,Tryz.ntmps28
   go_wp2
   go_region_with (go_at_call 51;refine(HC.out _ (by repeat (first|exact Turn.refl _ _|refine Turn.drew ?_))).mono ?_;rintro e w2 ⟨v,rfl,hrow,ht2⟩)
   all_goals
    go_wp2
    go_ret
    exact⟨v,rfl,by rw[HE.out];simpa using hrow,((Turn.refl [] w).drew).same ht2⟩
  ·have hj:=fun w=>hs2 (m.abs.bytes.length-n) w (by omega)
   rw[show((m.abs.bytes.length-n:Nat):Int)=(m.abs.bytes.length:Int)-(n:Int)by omega]at hj;have hmin:∀ts t w,(Builtin.min_ ts t #[.int .i64 (k:Int), .int .i64 ((m.abs.bytes.length:Int)-(n:Int))]).run Tryz.prog w= .ok (.int .i64 ((m.abs.bytes.length:Int)-(n:Int))) w:=by
    intro ts t w;have:((m.abs.bytes.length:Int)-(n:Int)<(k:Int)):=by omega
    simp[Builtin.min_,Builtin.min2,this]
   have hcl:=fun W (hW:Turn [] w W)=>clone_any W (.slice (some ⟨g,n,none⟩) (m.abs.bytes.length-n) (cap-n)) ((m.abs.bytes.drop n).take (m.abs.bytes.length-n)) ((HE2.out (m.abs.bytes.length-n) (by omega)).kept hW (by simp)) (by simp;omega)
   have HC:Hid (∀W,Turn [] w W→Calls Tryz.prog 51 #[.slice (some ⟨g,n,none⟩) (m.abs.bytes.length-n) (cap-n)] W fun e w'=>∃v',e= .returned v'∧bC w' 5 W.heap.size v' ((m.abs.bytes.drop n).take (m.abs.bytes.length-n))∧Turn [] W w'):=hcl;have HT:Hid ((m.abs.bytes.drop n).take k=(m.abs.bytes.drop n).take (m.abs.bytes.length-n)):=by
    show _=_;rw[List.take_of_length_le (by simp;omega),List.take_of_length_le (by simp)]
   clear hs2 hcl;go_enter Tryz.func28,Tryz.ntmps28
   go_wp2
   go_region_with (go_at_call 51;refine(HC.out _ (by repeat (first|exact Turn.refl _ _|refine Turn.drew ?_))).mono ?_;rintro e w2 ⟨v,rfl,hrow,ht2⟩)
   all_goals
    go_wp2
    go_ret
    refine⟨v,rfl,?_,((Turn.refl [] w).drew).same ht2⟩;rw[HE.out];simp only[Int.toNat_natCast];rw[HT.out];exact hrow
end
end Dk
end
section
open Go.RowKit Go.Maps Go.Shelf
set_option maxRecDepth 100000
set_option linter.unusedSimpArgs false
set_option linter.unusedVariables false
attribute [local go_sem] Oper.semAt_some
open Dk
namespace Tp
theorem JC(F:Fence)(n:Nat)(hf:F.fn 73)(hro:F.round=none)(Bn:Nat)(w:World)(hB:w.cell? ⟨Bn,0,none⟩=some (.string ⟨#[]⟩))(hBl:Bn<w.heap.size)(Kp:World→World→Prop):
 SeqStopsK F n Tryz.prog 73 #[.pointer (some ⟨Bn,0,none⟩)] (fun x:Empty=> #[]) Kp (fun xs=>xs=[]) (fun _=>False) 0 w:=by
 intro l J Jx W hW hJ hJx hY h0;have hc:W.cell? ⟨Bn,0,none⟩=some (.string ⟨#[]⟩):=(hW.cell (p:=⟨Bn,0,none⟩) hBl).trans hB;have HJ:Hid (J [] W):=h0;clear hY hJ hJx h0 hW hB;refine callsIn_of_wp Tryz.func73 rfl hf ?_ hro;simp only[Tryz.ntmps73,List.size_toArray,List.length_cons,List.length_nil,Nat.reduceAdd,Nat.reduceSub,Array.replicate_succ,Array.replicate_zero,List.push_toArray,List.append_toArray,List.nil_append,List.cons_append];gi_wp2
 gi_loopw [3,4] (fun p q wr=>J [] wr∧wr.cell? ⟨Bn,0,none⟩=some (.string ⟨#[]⟩)) (fun p q wr=>0)
 case atStart=>exact⟨HJ.out,hc⟩
 case round=>
  obtain⟨hj,hc⟩:=hrel;gi_wp2
  go_end0
  exact⟨⟨_,rfl⟩, .inl ⟨[],rfl,hj⟩⟩
theorem lines_any(w:World):Calls Tryz.prog 45 #[.string ⟨#[]⟩] w fun e w'=>e= .returned (.func (.func 73) #[] #[.pointer (some ⟨w.heap.size,0,none⟩)])∧w'=w.alloc (.cells #[.string ⟨#[]⟩] 9):=by
 go_enter Tryz.func45,Tryz.ntmps45
 go_wp2
 go_ret
 exact⟨rfl,rfl⟩
def RdI(w:World)(W:World):Prop:=
 W.heap[w.heap.size]? =some (.cells #[.slice none 0 0] 94 (0,0))∧W.heap[w.heap.size+1]? =some (.cells #[.nilIface] 25 (0,0))∧W.heap[w.heap.size+2]? =some (.cells #[.slice none 0 0] 94 (0,0))∧Turn [] w W
set_option maxHeartbeats 4000000 in
theorem Ph(w:World):
 Calls Tryz.prog 27 #[.string ⟨#[]⟩] w fun e w'=>e= .returned (.tuple #[.slice none 0 0, .nilIface])∧Turn [] w w':=by
 refine(callsIn_wide (n:=7)).1 ?_;refine callsIn_of_wp_marks Tryz.func27 rfl trivial ?_ rfl;simp only[Tryz.ntmps27,List.size_toArray,List.length_cons,List.length_nil,Nat.reduceAdd,Nat.reduceSub,Array.replicate_succ,Array.replicate_zero,List.push_toArray,List.append_toArray,List.nil_append,List.cons_append];gi_wp2_with (refine⟨trivial,?_⟩;gi_at_call 45;refine(callsIn_wide.2 (lines_any _)).mono ?_;rintro e w' ⟨rfl,rfl⟩)
 obtain⟨W3,hW3⟩:∃W3,(((w.alloc (.cells #[.slice none 0 0] 94)).alloc (.cells #[.nilIface] 25)).alloc (.cells #[.slice none 0 0] 94))=W3:=⟨_,rfl⟩;have hs3:W3.heap.size=w.heap.size+1+1+1:=by rw[←hW3];simp
 have hI:RdI w (W3.alloc (.cells #[.string ⟨#[]⟩] 9)):=by
  refine⟨?_,?_,?_,?_⟩
  ·rw[←hW3];exact((((Turn.refl [] _).alloc _).alloc _).alloc _).heap (ae w _) (by simp)
  ·rw[←hW3]
   have:=ae (w.alloc (.cells #[.slice none 0 0] 94)) (.cells #[.nilIface] 25);rw[World.size_alloc]at this;exact(((Turn.refl [] _).alloc _).alloc _).heap this (by simp)
  ·rw[←hW3]
   have:=ae ((w.alloc (.cells #[.slice none 0 0] 94)).alloc (.cells #[.nilIface] 25)) (.cells #[.slice none 0 0] 94);rw[World.size_alloc,World.size_alloc]at this;exact((Turn.refl [] _).alloc _).heap this (by simp)
  ·rw[←hW3];exact((((Turn.refl [] w).alloc _).alloc _).alloc _).alloc _
 have hseq:=JC Fence.wide 6 trivial rfl W3.heap.size (W3.alloc (.cells #[.string ⟨#[]⟩] 9)) (by rw[cell_of (ae W3 _)];rfl) (by simp) (Below w.heap.size);rw[hs3]at hseq;rw[hW3];have hb:∀(W:World) (l:Nat) (o o':Obj),(W3.alloc (.cells #[.string ⟨#[]⟩] 9)).heap.size≤l→W.heap[l]? =some o→o.isCells=false→o.isWalk=false→Below w.heap.size W (W.putObj l o'):=belowK_b (by rw[World.size_alloc];omega)
 refine wpIn_rangeFunc_ownG (α:=Empty) (n:=7) rfl (by omega) (gf:=73) (lb:= #[.pointer (some ⟨w.heap.size+1+1+1,0,none⟩)]) rfl trivial (enters_of Tryz.func73 (by kernel_rfl) rfl)
  hseq belowK_t hb (Below.refl _ _) (fun x=>nomatch x)
  (fun _=>RdI w) (fun _ _ _=>False) ?own (fun _ _ _ _ _ hs _ _=>hs) hI (fun x=>nomatch x) ?assign ?body ?done ?stop
 case assign=>exact fun _ x=>nomatch x
 case body=>exact fun _ _ x=>nomatch x
 case own=>
  rintro pre X Y row ⟨h1,h2,h3,ht⟩ hg hrow;have t:Turn row.toList X Y:=(Turn.refl _ _).grown hg (by intro k hk;exact .inl (by simp[hk]));have hn:∀k∈row.toList,w.heap.size+4≤k:=fun k hk=>by
   have:=(hrow k (by simpa using hk)).1;simp at this;omega
  refine⟨t.heap h1 (fun e=>?_),t.heap h2 (fun e=>?_),t.heap h3 (fun e=>?_),ht.trans t (fun k hk=> .inr ?_)⟩
  ·have:=hn _ e;omega
  ·have:=hn _ e;omega
  ·have:=hn _ e;omega
  ·have:=hn _ hk;omega
 case done=>
  rintro D xs W hD-⟨h1,h2,h3,ht⟩ hK;simp at hD;have c1:W.cell? ⟨w.heap.size,0,none⟩=some (.slice none 0 0):=by rw[cell_of h1];rfl
  have c2:W.cell? ⟨w.heap.size+1,0,none⟩=some .nilIface:=by rw[cell_of h2];rfl
  have c3:W.cell? ⟨w.heap.size+2,0,none⟩=some (.slice none 0 0):=by rw[cell_of h3];rfl
  have f1:W.frozen? ⟨w.heap.size,0,none⟩=false:=af h1 0;have f2:W.frozen? ⟨w.heap.size+1,0,none⟩=false:=af h2 0;have tW:Turn [w.heap.size,w.heap.size+1] W ((W.setCell ⟨w.heap.size,0,none⟩ (.slice none 0 0)).setCell ⟨w.heap.size+1,0,none⟩ .nilIface):=((Turn.refl _ _).setCell (.inl (by simp)) _).setCell (.inl (by simp)) _;have hK2:=tW.heap hK (by simp;omega);have e1:((W.setCell ⟨w.heap.size,0,none⟩ (.slice none 0 0)).setCell ⟨w.heap.size+1,0,none⟩ .nilIface).heap[w.heap.size]? =some (.cells #[.slice none 0 0] 94 (0,0)):=by
   have:=heap_set h1 0 (.slice none 0 0);exact((Turn.refl [w.heap.size+1] _).setCell (.inl (by simp)) _).heap this (by simp)
  have e2:((W.setCell ⟨w.heap.size,0,none⟩ (.slice none 0 0)).setCell ⟨w.heap.size+1,0,none⟩ .nilIface).heap[w.heap.size+1]? =some (.cells #[.nilIface] 25 (0,0)):=by
   have:=((Turn.refl [w.heap.size] W).setCell (p:=⟨w.heap.size,0,none⟩) (.inl (by simp)) (.slice none 0 0)).heap h2 (by simp);exact heap_set this 0 .nilIface
  gi_wp2
  refine⟨by simp, .inl ⟨_,_,rfl,run_takeDeferred hK2,?_⟩⟩;have tD:Turn [D] ((W.setCell ⟨w.heap.size,0,none⟩ (.slice none 0 0)).setCell ⟨w.heap.size+1,0,none⟩ .nilIface) (((W.setCell ⟨w.heap.size,0,none⟩ (.slice none 0 0)).setCell ⟨w.heap.size+1,0,none⟩ .nilIface).putObj D (.deferred none)):=⟨rfl,rfl,rfl,by simp,fun k _ hn=>World.putObj_heap_other (by simpa using hn)⟩;have d1:(((W.setCell ⟨w.heap.size,0,none⟩ (.slice none 0 0)).setCell ⟨w.heap.size+1,0,none⟩ .nilIface).putObj D (.deferred none)).cell? ⟨w.heap.size,0,none⟩=some (.slice none 0 0):=by
   rw[cell_of (tD.heap e1 (by simp;omega))];rfl
  have d2:(((W.setCell ⟨w.heap.size,0,none⟩ (.slice none 0 0)).setCell ⟨w.heap.size+1,0,none⟩ .nilIface).putObj D (.deferred none)).cell? ⟨w.heap.size+1,0,none⟩=some .nilIface:=by
   rw[cell_of (tD.heap e2 (by simp;omega))];rfl
  refine⟨.tuple #[.slice none 0 0, .nilIface],?_,rfl,(ht.trans tW (fun k hk=> .inr ?_)).trans tD (fun k hk=> .inr ?_)⟩
  ·simp[results,Tryz.f27,go_sem,d1,d2]
  ·simp only[List.mem_cons,List.not_mem_nil,or_false]at hk
   omega
  ·simp only[List.mem_cons,List.not_mem_nil,or_false]at hk
   omega
 case stop=>
  rintro D c pre W hD _ h _;exact h.elim
section
variable {w w':World} {base d:Nat} {F:List Nat} {A A':DA} {ah:Option Nat} {ms:List au}
set_option maxHeartbeats 4000000 in
theorem JD(h:Parts w base d F A ah ms)(hn:gu A []=[]):
 Calls Tryz.prog 30 #[.pointer (some ⟨d,0,none⟩), .slice none 0 0] w fun e w'=>e= .returned .nilIface∧Turn [] w w':=by
 have HL:=GN h ⟨#[]⟩ (by simp[maxLen,ByteArray.size]);rw[show(⟨#[]⟩:ByteArray).data.toList=[]from rfl,hn]at HL;clear h hn;go_enter Tryz.func30,Tryz.ntmps30
 go_wp2_with fail
 refine HL.mono ?_;rintro e w1 ⟨v,rfl,hr,ht⟩;obtain⟨a,c,rfl⟩:∃a c,v= .slice a 0 c:=by
  rcases hr.2 with⟨rfl,_⟩|⟨g,cap,cur,rfl,_⟩
  ·exact⟨_,_,rfl⟩
  ·exact⟨_,_,rfl⟩
 have HT:Hid (Turn [] w w1):=ht;clear ht hr HL;go_wp2
 go_loopw [12] (fun kv wr=>kv= .int .i64 0∧wr=w1) (fun _ _=>0)
 case atStart=>exact⟨rfl,rfl⟩
 case round=>
  obtain⟨rfl,rfl⟩:=hrel;go_wp2
  go_ret
  exact⟨rfl,HT.out⟩
def iH(d:Nat)(qg eU bytes:Int)(ev:Value)(down:Bool):Array Value:= #[.pointer (some ⟨d,0,none⟩), .int .i64 qg, .int .i64 eU, .int .i64 bytes,ev, .bool down]
def jI:ByteArray:=⟨#[116,111,112,105,99,115]⟩
set_option maxHeartbeats 4000000 in
theorem DT(h:Parts w base d F A ah ms)(hn:gu A []=[])(hf:A.file jI.data.toList=none)(qg eU bytes:Int)(hs:100≤qg∧qg≤1048576):
 Calls Tryz.prog 14 #[.pointer (some ⟨d,0,none⟩), .agg #[.int .i64 qg, .int .i64 eU, .int .i64 bytes]] w fun e w'=>∃b,e= .returned (.tuple #[.pointer (some ⟨b,0,none⟩), .nilIface])∧w.heap.size≤b∧w'.heap[b]? =some (.cells (iH d qg eU bytes (.slice none 0 0) false) 103 (0,0))∧Turn [] w w':=by
 have Gp:=qH h jI.data.toList;rw[hf]at Gp;have hfm:bM ms jI.data.toList=none:=by
  cases hc:bM ms jI.data.toList with
  |none=>rfl
  |some m=>rw[hc]at Gp;simp at Gp
 have Z4:=fun Z (hZ:Turn [] w Z)=>size_any (h.kept hZ (by simp)) jI (by decide)
 have LJ:=fun Z (hZ:Turn [] w Z)=>NH (h.kept hZ (by simp)) jI (by decide) 0 (-1) hfm
 have OW:=fun Z (hZ:Turn [] w Z)=>JD (h.kept hZ (by simp)) hn
 rw[show A.sizeOf jI.data.toList= -1 by unfold DA.sizeOf;rw[hf]]at Z4;unfold jI at Z4 LJ;have hcv:=fun(Z:World)=>run_convert_bytes_nil (P:=Tryz.prog) Z 97 5 Tryz.underlying97 Tryz.underlying5 0 0 9 Tryz.underlying9
 have HS:Hid (100≤qg∧qg≤1048576):=hs;have hs1:¬qg<100:=by omega
 have hs2:¬1048576<qg:=by omega
 clear hs;clear h hn Gp hfm hf;go_enter Tryz.func14,Tryz.ntmps14
 go_wp2_with fail
 refine(Z4 _ ((Turn.refl [] w).alloc _)).mono ?_;rintro e w1 ⟨rfl,rfl⟩;go_wp2_with fail
 refine(LJ _ ((Turn.refl [] w).alloc _)).mono ?_;rintro e w1 ⟨rfl,rfl⟩;go_wp2_with fail
 refine(Ph _).mono ?_;rintro e w1 ⟨rfl,ht1⟩;have HT1:Hid (Turn [] w w1):=((Turn.refl [] w).alloc _).same ht1;have hb1:=ht1.heap (ae w _) (by simp);have c0:=cell_of hb1 0;have c1:=cell_of hb1 1;have c2:=cell_of hb1 2;simp at c0 c1 c2;clear ht1;go_wp2_with fail
 refine(OW _ HT1.out).mono ?_;rintro e w2 ⟨rfl,ht2⟩;have HT2:Hid (Turn [] w w2):=HT1.out.same ht2;have hb2:=ht2.heap hb1 (by simp);have c0:=cell_of hb2 0;have c1:=cell_of hb2 1;have c2:=cell_of hb2 2;simp at c0 c1 c2;clear ht2;go_wp2_with fail
 go_loopw [47] (fun kv wr=>kv= .int .i64 0∧wr=w2.alloc (.cells (iH d qg eU bytes (.slice none 0 0) false) 103)) (fun _ _=>0)
 case atStart=>exact⟨rfl,rfl⟩
 case round=>
  obtain⟨rfl,rfl⟩:=hrel;go_wp2
  refine bodyPost_ret (results_tmp2 rfl _ _ _) rfl ?_;exact⟨_,rfl,HT2.out.size,ae w2 _,HT2.out.alloc _⟩
end
end Tp
end
section
open Go.RowKit
set_option linter.unusedSimpArgs false
set_option linter.unusedVariables false
section
variable {α:Type} {T:TypeId} {n:Nat} {enc:α→List Value}
def aH(T:TypeId)(n:Nat)(enc:α→List Value)(w:World)(base:Nat)(sv:Value)(xs:List α):Prop:=
 (sv= .slice none 0 0∧xs=[])∨
 ∃g cap cur,sv= .slice (some ⟨g,0,none⟩) xs.length cap∧base≤g∧w.heap[g]? =some (.cells cur T (0,0))∧xs.length≤cap∧cap*n≤cur.size∧cap≤maxLen∧cur.toList.take (xs.length*n)=xs.flatMap enc
theorem aH.kept{w w':World}{base:Nat}{sv:Value}{xs:List α}{S:List Nat}(h:aH T n enc w base sv xs)(ht:Turn S w w')(hn:∀k∈sv.ownBlock,k∉S):aH T n enc w' base sv xs:=by
 rcases h with h|⟨g,cap,cur,rfl,hb,hg,r⟩
 ·exact .inl h
 ·exact .inr ⟨g,cap,cur,rfl,hb,ht.heap hg (hn g (by simp[Value.ownBlock])),r⟩
theorem aH.still{w w':World}{base:Nat}{sv:Value}{xs:List α}(h:aH T n enc w base sv xs)(ht:Turn [] w w'):aH T n enc w' base sv xs:=h.kept ht (by simp)
theorem aH.lt{w:World}{base:Nat}{sv:Value}{xs:List α}(h:aH T n enc w base sv xs):∀k∈sv.ownBlock,base≤k∧k<w.heap.size:=by
 intro k hk;rcases h with⟨rfl,_⟩|⟨g,cap,cur,rfl,hb,hg,r⟩
 ·simp[Value.ownBlock]at hk
 ·simp[Value.ownBlock]at hk;subst hk;exact⟨hb,lt_of_heap hg⟩
theorem aH.form{w:World}{base:Nat}{sv:Value}{xs:List α}(h:aH T n enc w base sv xs):∃a c,sv= .slice a xs.length c∧xs.length≤c∧c≤maxLen:=by
 rcases h with⟨rfl,rfl⟩|⟨g,cap,cur,rfl,hb,hg,h1,h2,h3,h4⟩
 ·exact⟨_,_,rfl,Nat.le_refl _,Nat.zero_le _⟩
 ·exact⟨_,_,rfl,h1,h3⟩
theorem aH.aZ{w:World}{base base':Nat}{sv:Value}{xs:List α}(h:aH T n enc w base sv xs)(hb:base'≤base):aH T n enc w base' sv xs:=by
 rcases h with h|⟨g,cap,cur,rfl,h1,r⟩
 ·exact .inl h
 ·exact .inr ⟨g,cap,cur,rfl,by omega,r⟩
theorem bV(hn:∀x,(enc x).length=n):∀xs:List α,(xs.flatMap enc).length=xs.length*n
 |[]=>by simp
 |x::xs=>by rw[List.flatMap_cons,List.length_append,bV hn xs,hn,List.length_cons,Nat.add_mul];omega
theorem Bj(hn:∀x,(enc x).length=n):∀(xs:List α) (j i:Nat) (h:j<xs.length),i<n→(xs.flatMap enc)[j*n+i]? =(enc xs[j])[i]?
 |[],_,_,h,_=>by simp at h
 |x::xs,0,i,h,hi=>by
  rw[List.flatMap_cons,Nat.zero_mul,Nat.zero_add,List.getElem?_append_left (by rw[hn];exact hi)];rfl
 |x::xs,j+1,i,h,hi=>by
  rw[List.flatMap_cons,List.getElem?_append_right (by rw[hn,Nat.add_mul];omega),hn,show(j+1)*n+i-n=j*n+i by rw[Nat.add_mul];omega];exact Bj hn xs j i (by simpa using h) hi
theorem qL(hn:∀x,(enc x).length=n):∀(xs:List α) (j i:Nat) (h:j<xs.length) (u:Value) (x':α),i<n→enc x'=(enc xs[j]).set i u→(xs.flatMap enc).set (j*n+i) u=(xs.set j x').flatMap enc
 |[],_,_,h,_,_,_,_=>by simp at h
 |x::xs,0,i,h,u,x',hi,he=>by
  rw[List.flatMap_cons,Nat.zero_mul,Nat.zero_add,List.set_append_left _ _ (by rw[hn];exact hi)];simp only[List.getElem_cons_zero]at he;simp[he]
 |x::xs,j+1,i,h,u,x',hi,he=>by
  rw[List.flatMap_cons,List.set_append_right _ _ (by rw[hn,Nat.add_mul];omega),hn,show(j+1)*n+i-n=j*n+i by rw[Nat.add_mul];omega,qL hn xs j i (by simpa using h) u x' hi (by simpa using he)];simp
theorem aH.at{w:World}{base:Nat}{sv:Value}{xs:List α}(hn:∀x,(enc x).length=n)(h:aH T n enc w base sv xs){j:Nat}(hj:j<xs.length):
 ∃g cap,sv= .slice (some ⟨g,0,none⟩) xs.length cap∧(∀i,i<n→w.cell? ⟨g,j*n+i,none⟩=(enc xs[j])[i]?)∧∀i,w.frozen? ⟨g,i,none⟩=false:=by
 rcases h with⟨rfl,rfl⟩|⟨g,cap,cur,rfl,hb,hg,h1,h2,h3,h4⟩
 ·simp at hj
 ·refine⟨g,cap,rfl,fun i hi=>?_,fun i=>af hg i⟩
  rw[cell_of hg,←Bj hn xs j i hj hi,←h4,List.getElem?_take_of_lt]
  ·simp
  ·have:(j+1)*n≤xs.length*n:=Nat.mul_le_mul_right _ hj
   rw[Nat.add_mul]at this;omega
theorem aH.set{w:World}{base:Nat}{g c:Nat}{l:Nat}{xs:List α}(hn:∀x,(enc x).length=n)(h:aH T n enc w base (.slice (some ⟨g,0,none⟩) l c) xs){j i:Nat}(hj:j<xs.length)(hi:i<n){u:Value}{x':α}(he:enc x'=(enc xs[j]).set i u):
 aH T n enc (w.setCell ⟨g,j*n+i,none⟩ u) base (.slice (some ⟨g,0,none⟩) l c) (xs.set j x'):=by
 rcases h with⟨h, -⟩|⟨g',cap,cur,h,hb,hg,h1,h2,h3,h4⟩
 ·simp at h
 ·simp only[Value.slice.injEq,Option.some.injEq,Addr.mk.injEq]at h
  obtain⟨⟨rfl, -, -⟩,rfl,rfl⟩:=h;refine .inr ⟨g,c,_,by rw[List.length_set],hb,heap_set hg _ u,by rw[List.length_set];exact h1,by rw[Array.size_setIfInBounds];exact h2,h3,?_⟩;rw[List.length_set,Array.toList_setIfInBounds,List.take_set,h4];exact qL hn xs j i hj u x' hi he
theorem dS{P:Program}(t ty:TypeId)(ht:P.underlying t=some (.slice T))(i:TypeInfo)(z:Value)(hi:P.info? T=some i)(hz:i.zero=some z)(hzs:z.cells.size=n)(hsize:i.size=n)(hby:i.bytes≤1000)(hn:∀x,(enc x).length=n)(hone:∀x,∀u∈enc x,u.oneCell'=true)
 (w:World)(base:Nat)(v:Value)(xs:List α)(x:α)(k:Nat)(hrow:aH T n enc w base v xs)(hk:w.heap[k]? =some (.cells (enc x).toArray T (0,0))) (hlen:xs.length≤1000000) (hbase:base≤w.heap.size):
 ∃v' w',(Builtin.append_ #[t,t] ty #[v, .slice (some ⟨k,0,none⟩) 1 1]).run P w= .ok v' w'∧aH T n enc w' base v' (xs++[x])∧Turn v.ownBlock.toList w w'∧(∀j∈v'.ownBlock,j∈v.ownBlock∨w.heap.size≤j):=by
 have hmax:maxLen=9223372036854775807:=by simp[maxLen]
 have hl:(enc x).length=1*i.size:=by rw[hsize,hn];omega
 have hnews:∀j u,(enc x)[j]? =some u→w.cell? ((⟨k,0,none⟩:Addr).add j)=some u:=fun j u hu=>by
  rw[addr_add,cell_of hk];simpa using hu
 rcases hrow with⟨rfl,rfl⟩|⟨g,cap,cur,rfl,hb,hg,h1,h2,h3,h4⟩
 ·have hr:=run_append_nil (P:=P) w t ty T i z ht hi hz ⟨k,0,none⟩ 1 1 (enc x) hl hnews (by omega) (by omega) (by omega)
  have hge:=grownCap_ge w 1 0 T;have hcm:=grownCap_le_maxLen w 1 0 T (by rw[hmax];omega);refine⟨_,_,hr, .inr ⟨w.heap.size,_,_,by simp,hbase,ae w.drew _,by simpa using hge,?_,hcm,?_⟩,((Turn.refl _ _).drew).alloc _,by simp[Value.ownBlock]⟩
  ·simp only[Array.size_append,List.size_toArray,size_zeroCells,hzs,hn]
   have:grownCap w 1 0 T*n=1*n+(grownCap w 1 0 T-1)*n:=by rw[←Nat.add_mul];congr 1;omega
   omega
  ·simp only[Array.toList_append,List.nil_append,List.length_singleton]
   rw[List.take_append_of_le_length (by simp[hn]),List.take_of_length_le (by simp[hn])];simp
 ·have hfl:(xs.flatMap enc++enc x).length=(xs.length+1)*n:=by rw[List.length_append,bV hn,hn,Nat.add_mul];omega
  by_cases hroom:xs.length+1≤cap
  ·have hfit:(xs.length+1)*n≤cur.size:=Nat.le_trans (Nat.mul_le_mul_right _ hroom) h2
   have hr:=run_append_room (P:=P) w t ty T i ht hi g xs.length cap cur hg ⟨k,0,none⟩ 1 1 (enc x) hl hnews (hone x) hroom (by rw[hsize,hn];rw[Nat.add_mul]at hfit;omega);rw[hsize]at hr;refine⟨_,_,hr, .inr ⟨g,cap,_,by simp,hb,setRow_heap w g cur _ T _ hg,by simpa using hroom,?_,h3,?_⟩,⟨rfl,rfl,rfl,by simp,fun k _ hk=>setRow_other w g k _ (fun e=>hk (by simp[Value.ownBlock,e]))⟩,by simp[Value.ownBlock]⟩
   ·simp[hn]
    rw[Nat.add_mul]at hfit;have hcs:xs.length*n≤cur.size:=by omega
    rw[Nat.min_eq_left hcs];omega
   ·simp only[h4,List.append_assoc]
    rw[←List.append_assoc,List.take_append_of_le_length (by rw[hfl];simp),List.take_of_length_le (by rw[hfl];simp)];simp
  ·have holds:∀j u,(xs.flatMap enc)[j]? =some u→w.cell? ((⟨g,0,none⟩:Addr).add j)=some u:=by
    intro j u hu;rw[addr_add,cell_of hg];have hj:j<xs.length*n:=by have:=(List.getElem?_eq_some_iff.1 hu).1;rwa [bV hn]at this
    rw[←h4,List.getElem?_take_of_lt hj]at hu;simpa using hu
   have hr:=run_append_grow (P:=P) w t ty T i z ht hi hz ⟨g,0,none⟩ xs.length cap (xs.flatMap enc) (by rw[bV hn,hsize]) holds ⟨k,0,none⟩ 1 1 (enc x) hl hnews (by omega) (by omega) (growslice_fits (by omega) (by have:(xs.length+1)*i.bytes≤1000001*1000:=Nat.mul_le_mul (by omega) hby;omega));have hge:=grownCap_ge w (xs.length+1) cap T;have hcm:=grownCap_le_maxLen w (xs.length+1) cap T (by rw[hmax];omega);refine⟨_,_,hr, .inr ⟨w.heap.size,_,_,by simp,hbase,ae w.drew _,by simpa using hge,?_,hcm,?_⟩,((Turn.refl _ _).drew).alloc _,by simp[Value.ownBlock]⟩
   ·simp only[Array.size_append,List.size_toArray,size_zeroCells,hzs,hn,bV hn]
    have:grownCap w (xs.length+1) cap T*n=(xs.length+1)*n+(grownCap w (xs.length+1) cap T-(xs.length+1))*n:=by rw[←Nat.add_mul];congr 1;omega
    rw[Nat.add_mul]at this;omega
   ·simp only[Array.toList_append]
    rw[List.take_append_of_le_length (by show(xs++[x]).length*n≤(xs.flatMap enc++enc x).length;rw[hfl];simp),List.take_of_length_le (by show(xs.flatMap enc++enc x).length≤(xs++[x]).length*n;rw[hfl];simp)];simp
end
def Pj:Value→Value
 | .slice a n c=> .slice a (n+1) c
 |v=>v
def Bl:Value→Bool
 | .slice _ n c=>decide (n<c)
 |_=>false
theorem GR{v:Value}{k:Nat}(h:k∈(Pj v).ownBlock):k∈v.ownBlock:=by
 unfold Pj at h;split at h
 ·rename_i a n c
  cases a<;>exact h
 ·exact h
section
variable {α:Type} {T:TypeId} {n:Nat} {enc:α→List Value}
def VF(T:TypeId)(n:Nat)(enc:α→List Value)(base L:Nat)(v:Value)(ys:List α)(x:Value)(w:World):Prop:=
 (Bl v=true∧x=Pj v)∨(Bl v=false∧aH T n enc w base x ys∧∀j∈x.ownBlock,L≤j)
def XV(T:TypeId)(n:Nat)(enc:α→List Value)(base:Nat)(v:Value)(ys:List α)(w:World):Prop:=Bl v=true→aH T n enc w base (Pj v) ys
theorem VF.kept{S:List Nat}{w w':World}{base L:Nat}{v x:Value}{ys:List α}(h:VF T n enc base L v ys x w)(ht:Turn S w w')(hS:∀k∈S,k<L):VF T n enc base L v ys x w':=by
 rcases h with h|⟨h0,h1,h2⟩
 ·exact .inl h
 ·exact .inr ⟨h0,h1.kept ht (fun k hk hm=>by have:=h2 k hk;have:=hS k hm;omega),h2⟩
theorem XV.kept{S:List Nat}{w w':World}{base:Nat}{v:Value}{ys:List α}(h:XV T n enc base v ys w)(ht:Turn S w w')(hS:∀k∈v.ownBlock,k∉S):XV T n enc base v ys w':=
 fun hs=>(h hs).kept ht (fun k hk=>hS k (GR hk))
theorem VF.row{w:World}{base L:Nat}{v x:Value}{ys:List α}(h:VF T n enc base L v ys x w)(hr:XV T n enc base v ys w):aH T n enc w base x ys∧∀j∈x.ownBlock,j∈v.ownBlock∨L≤j:=by
 rcases h with⟨h0,rfl⟩|⟨h0,h1,h2⟩
 ·exact⟨hr h0,fun j hj=> .inl (GR hj)⟩
 ·exact⟨h1,fun j hj=> .inr (h2 j hj)⟩
theorem VF.mk{w:World}{base L:Nat}{v x:Value}{ys:List α}(h:aH T n enc w base x ys){k:Nat}(hk:L≤k)(h2:(Bl v=true∧x=Pj v)∨(Bl v=false∧∀j∈x.ownBlock,k≤j)):VF T n enc base L v ys x w∧XV T n enc base v ys w:=by
 rcases h2 with⟨h0,rfl⟩|⟨h0,h2⟩
 ·exact⟨.inl ⟨h0,rfl⟩,fun _=>h⟩
 ·exact⟨.inr ⟨h0,h,fun j hj=>Nat.le_trans hk (h2 j hj)⟩,fun hs=>by rw[h0]at hs;cases hs⟩
theorem aH.apart{β:Type}{T':TypeId}{m:Nat}{enc':β→List Value}{w:World}{base base':Nat}{v v':Value}{xs:List α}{ys:List β}(h:aH T n enc w base v xs)(h':aH T' m enc' w base' v' ys)(hne:T≠T'):∀k∈v.ownBlock,k∉v'.ownBlock:=by
 rcases h with⟨rfl, -⟩|⟨g,cap,cur,rfl, -,hg, -⟩
 ·simp[Value.ownBlock]
 ·rcases h' with⟨rfl, -⟩|⟨g',cap',cur',rfl, -,hg', -⟩
  ·simp[Value.ownBlock]
  ·intro k hk hk'
   simp[Value.ownBlock]at hk hk';subst hk;subst hk';rw[hg]at hg';simp at hg';exact hne hg'.2
end
section
variable {α:Type} {T:TypeId} {n:Nat} {enc:α→List Value}
def Ti(enc:α→List Value)(w:World)(sx:Value)(ys:List α):Prop:=
 (sx= .slice none 0 0∧ys=[])∨∃a c,sx= .slice (some a) ys.length c∧∀j u,(ys.flatMap enc)[j]? =some u→w.cell? (a.add j)=some u
theorem aH.src(hn:∀x,(enc x).length=n){w:World}{base:Nat}{v:Value}{xs:List α}(h:aH T n enc w base v xs):Ti enc w v xs:=by
 rcases h with h|⟨g,cap,cur,rfl, -,hg,h1,h2,h3,h4⟩
 ·exact .inl h
 ·refine .inr ⟨_,_,rfl,fun j u hu=>?_⟩
  rw[addr_add,cell_of hg];have hj:j<xs.length*n:=by have:=(List.getElem?_eq_some_iff.1 hu).1;rwa [bV hn]at this
  rw[←h4,List.getElem?_take_of_lt hj]at hu;simpa using hu
theorem ng{P:Program}(t ty:TypeId)(ht:P.underlying t=some (.slice T))(i:TypeInfo)(z:Value)(hi:P.info? T=some i)(hz:i.zero=some z)(hzs:z.cells.size=n)(hsize:i.size=n)(hby:i.bytes≤1000)(hn:∀x,(enc x).length=n)(hone:∀x,∀u∈enc x,u.oneCell'=true)
 (w:World)(base:Nat)(v sx:Value)(xs ys:List α)(hrow:aH T n enc w base v xs)(hx:Ti enc w sx ys)(hlen:xs.length+ys.length≤1000000)(hbase:base≤w.heap.size):
 ∃v' w',(Builtin.append_ #[t,t] ty #[v,sx]).run P w= .ok v' w'∧aH T n enc w' base v' (xs++ys)∧Turn v.ownBlock.toList w w'∧(∀j∈v'.ownBlock,j∈v.ownBlock∨w.heap.size≤j):=by
 have hmax:maxLen=9223372036854775807:=by simp[maxLen]
 have XW:∀u∈ys.flatMap enc,u.oneCell'=true:=fun u hu=>by
  obtain⟨x, -,hx⟩:=List.mem_flatMap.1 hu;exact hone x u hx
 have new:∀old:Nat,old<xs.length+ys.length→aH T n enc (w.drew.alloc (.cells ((xs.flatMap enc).toArray++(ys.flatMap enc).toArray++Builtin.zeroCells z.cells (grownCap w (xs.length+ys.length) old T-(xs.length+ys.length))) T)) base
  (.slice (some ⟨w.heap.size,0,none⟩) (xs.length+ys.length) (grownCap w (xs.length+ys.length) old T)) (xs++ys)∧
  Turn v.ownBlock.toList w (w.drew.alloc (.cells ((xs.flatMap enc).toArray++(ys.flatMap enc).toArray++Builtin.zeroCells z.cells (grownCap w (xs.length+ys.length) old T-(xs.length+ys.length))) T)):=by
  intro old ho;have hge:=grownCap_ge w (xs.length+ys.length) old T;have hcm:=grownCap_le_maxLen w (xs.length+ys.length) old T (by rw[hmax];omega);have hfl:(xs.flatMap enc++ys.flatMap enc).length=(xs++ys).length*n:=by rw[List.length_append,bV hn,bV hn,List.length_append,Nat.add_mul]
  refine⟨.inr ⟨w.heap.size,_,_,by simp,hbase,ae w.drew _,by simpa using hge,?_,hcm,?_⟩,((Turn.refl _ _).drew).alloc _⟩
  ·simp only[Array.size_append,List.size_toArray,size_zeroCells,hzs,bV hn]
   have:grownCap w (xs.length+ys.length) old T*n=(xs.length+ys.length)*n+(grownCap w (xs.length+ys.length) old T-(xs.length+ys.length))*n:=by rw[←Nat.add_mul];congr 1;omega
   rw[Nat.add_mul]at this;omega
  ·simp only[Array.toList_append]
   rw[List.take_append_of_le_length (by show(xs++ys).length*n≤(xs.flatMap enc++ys.flatMap enc).length;rw[hfl];exact Nat.le_refl _),List.take_of_length_le (by show(xs.flatMap enc++ys.flatMap enc).length≤(xs++ys).length*n;rw[hfl];exact Nat.le_refl _)];simp
 rcases hx with⟨rfl,rfl⟩|⟨a,c,rfl,hnews⟩
 ·rcases hrow with⟨rfl,rfl⟩|⟨g,cap,cur,rfl,hb,hg,h1,h2,h3,h4⟩
  ·exact⟨.slice none 0 0,w,by simp[Builtin.append_,run_underlying ht,sizeOf,typeInfo,hi,Builtin.lenOf,Builtin.firstCells], .inl ⟨rfl,rfl⟩,Turn.refl _ _,by simp[Value.ownBlock]⟩
  ·refine⟨.slice (some ⟨g,0,none⟩) xs.length cap,w,?_,by rw[List.append_nil];exact .inr ⟨g,cap,cur,rfl,hb,hg,h1,h2,h3,h4⟩,Turn.refl _ _,by simp[Value.ownBlock]⟩
   simp[Builtin.append_,run_underlying ht,sizeOf,typeInfo,hi,Builtin.lenOf,Builtin.firstCells,h1,storeCells]
 ·have hl:(ys.flatMap enc).length=ys.length*i.size:=by rw[bV hn,hsize]
  rcases hrow with⟨rfl,rfl⟩|⟨g,cap,cur,rfl,hb,hg,h1,h2,h3,h4⟩
  ·by_cases h0:ys.length=0
   ·have:ys=[]:=List.eq_nil_of_length_eq_zero h0
    subst this;exact⟨.slice none 0 0,w,by simp[Builtin.append_,run_underlying ht,sizeOf,typeInfo,hi,Builtin.lenOf,Builtin.firstCells,loadCells,loadCellsFrom], .inl ⟨rfl,rfl⟩,Turn.refl _ _,by simp[Value.ownBlock]⟩
   ·have hr:=run_append_nil (P:=P) w t ty T i z ht hi hz a ys.length c (ys.flatMap enc) hl hnews (by omega) (by simp at hlen;omega) (by have:ys.length*i.bytes≤1000000*1000:=Nat.mul_le_mul (by simp at hlen;omega) hby;omega)
    have hn':=new 0 (by simp;omega);simp only[List.length_nil,Nat.zero_add,List.flatMap_nil,List.nil_append]at hn';refine⟨_,_,hr,?_,?_,by simp[Value.ownBlock]⟩
    ·simpa using hn'.1
    ·simpa using hn'.2
  ·by_cases hroom:xs.length+ys.length≤cap
   ·have hfit:(xs.length+ys.length)*n≤cur.size:=Nat.le_trans (Nat.mul_le_mul_right _ hroom) h2
    have hr:=run_append_room (P:=P) w t ty T i ht hi g xs.length cap cur hg a ys.length c (ys.flatMap enc) hl hnews XW hroom (by rw[hsize,bV hn];rw[Nat.add_mul]at hfit;omega);rw[hsize]at hr;have hfl:(xs.flatMap enc++ys.flatMap enc).length=(xs++ys).length*n:=by rw[List.length_append,bV hn,bV hn,List.length_append,Nat.add_mul]
    refine⟨_,_,hr, .inr ⟨g,cap,_,by simp,hb,setRow_heap w g cur _ T _ hg,by simpa using hroom,?_,h3,?_⟩,⟨rfl,rfl,rfl,by simp,fun k _ hk=>setRow_other w g k _ (fun e=>hk (by simp[Value.ownBlock,e]))⟩,by simp[Value.ownBlock]⟩
    ·simp[bV hn]
     rw[Nat.add_mul]at hfit;have hcs:xs.length*n≤cur.size:=by omega
     rw[Nat.min_eq_left hcs];omega
    ·simp only[h4,List.append_assoc]
     rw[←List.append_assoc,List.take_append_of_le_length (by rw[hfl];exact Nat.le_refl _),List.take_of_length_le (by rw[hfl];exact Nat.le_refl _)];simp
   ·have holds:∀j u,(xs.flatMap enc)[j]? =some u→w.cell? ((⟨g,0,none⟩:Addr).add j)=some u:=by
     intro j u hu;rw[addr_add,cell_of hg];have hj:j<xs.length*n:=by have:=(List.getElem?_eq_some_iff.1 hu).1;rwa [bV hn]at this
     rw[←h4,List.getElem?_take_of_lt hj]at hu;simpa using hu
    have hr:=run_append_grow (P:=P) w t ty T i z ht hi hz ⟨g,0,none⟩ xs.length cap (xs.flatMap enc) (by rw[bV hn,hsize]) holds a ys.length c (ys.flatMap enc) hl hnews (by omega) (by omega) (growslice_fits (by omega) (by have:(xs.length+ys.length)*i.bytes≤1000000*1000:=Nat.mul_le_mul hlen hby;omega));have hn':=new cap (by omega);exact⟨_,_,hr,hn'.1,hn'.2,by simp[Value.ownBlock]⟩
end
end
section
open Go.RowKit Go.Maps
set_option linter.unusedSimpArgs false
set_option linter.unusedVariables false
theorem hide{p:Prop}(h:p):Hid p:=h
theorem take_snoc(bs:List UInt8)(k:Nat)(h:k<bs.length):bs.take (k+1)=bs.take k++[bs[k]]:=List.take_succ_eq_append_getElem h
theorem SliceAt.form{w:World}{v:Value}{xs:List Value}(h:SliceAt w v xs):∃a c,v= .slice a xs.length c∧∀j u,xs[j]? =some u→∃p,a=some p∧w.cell? (p.add j)=some u:=by
 rcases h with⟨rfl,rfl⟩|⟨a,c,rfl,hc⟩
 ·exact⟨none,0,rfl,by simp⟩
 ·exact⟨some a,c,rfl,fun j u hu=>⟨a,rfl,hc j u hu⟩⟩
theorem VG(bs:List UInt8)(k:Nat)(h:k<bs.length):(bs.map aj)[k]? =some (.int .u8 bs[k].toNat):=by
 simp[List.getElem?_eq_getElem h,aj]
theorem XX{w:World}{a:Option Addr}{c:Nat}{bs:List UInt8}(h:SliceAt w (.slice a bs.length c) (bs.map aj)):
 (convert 97 9 (.slice a bs.length c)).run Tryz.prog w= .ok (.string ⟨bs.toArray⟩) w:=by
 rcases h with⟨h1,h2⟩|⟨x,c',h1,h2⟩
 ·have h3:bs=[]:=by simpa using h2
  simp only[Value.slice.injEq]at h1;obtain⟨rfl,_,rfl⟩:=h1;rw[h3];exact run_convert_bytes_nil w 97 5 Tryz.underlying97 Tryz.underlying5 0 0 9 Tryz.underlying9
 ·simp only[Value.slice.injEq]at h1
  obtain⟨rfl,_,rfl⟩:=h1;exact run_convert_bytes_back w 97 9 5 x c bs Tryz.underlying97 Tryz.underlying5 Tryz.underlying9 (fun j hj=>h2 j _ (by rw[List.getElem?_map,List.getElem?_eq_getElem hj];rfl))
def BytesAt(w:World)(v:Value)(bs:List UInt8):Prop:=
 ∃a c,v= .slice a bs.length c∧bs.length≤c∧c≤maxLen∧(a=none→c=0)∧∀j (h:j<bs.length),∃p,a=some p∧w.cell? (p.add j)=some (aj bs[j])
theorem add_block(a:Addr)(j:Nat):(a.add j).block=a.block:=by unfold Addr.add;split<;>rfl
theorem add_add(a:Addr)(i j:Nat):(a.add i).add j=a.add (i+j):=by
 unfold Addr.add;repeat' split
 all_goals simp_all
 all_goals omega
theorem add_zero(a:Addr):a.add 0=a:=by unfold Addr.add;rw[if_pos rfl]
theorem BytesAt.slice{w:World}{v:Value}{bs:List UInt8}(h:BytesAt w v bs):SliceAt w v (bs.map aj):=by
 obtain⟨a,c,rfl,h1,h2,h3,h4⟩:=h;cases a with
 |none=>
  have hc:=h3 rfl;have hb:bs=[]:=List.eq_nil_of_length_eq_zero (by omega);subst hb;subst hc;exact .inl ⟨rfl,rfl⟩
 |some p=>
  refine .inr ⟨p,c,by simp,fun j u hu=>?_⟩;have hj:j<bs.length:=by have:=(List.getElem?_eq_some_iff.1 hu).1;simpa using this
  obtain⟨q,hq,hc⟩:=h4 j hj;cases hq
  rw[hc];simpa[List.getElem?_eq_getElem hj]using hu
theorem BytesAt.kept{w w':World}{v:Value}{bs:List UInt8}{S:List Nat}(h:BytesAt w v bs)(ht:Turn S w w')(hn:∀k∈v.ownBlock,k<w.heap.size→k∉S):BytesAt w' v bs:=by
 obtain⟨a,c,rfl,h1,h2,h3,h4⟩:=h;refine⟨a,c,rfl,h1,h2,h3,fun j hj=>?_⟩;obtain⟨p,rfl,hc⟩:=h4 j hj;have hlt:=World.block_lt_of_cell? w _ hc;refine⟨p,rfl,?_⟩;rw[World.cell?_of_block (w:=w) (ht.block _ hlt (by rw[add_block]at hlt⊢;exact hn _ (by simp[Value.ownBlock]) hlt)),hc]
theorem BytesAt.still{w w':World}{v:Value}{bs:List UInt8}(h:BytesAt w v bs)(ht:Turn [] w w'):BytesAt w' v bs:=h.kept ht (by simp)
theorem bC.bytes{w:World}{e base:Nat}{v:Value}{bs:List UInt8}(h:bC w e base v bs):BytesAt w v bs:=by
 rcases h with⟨rfl,rfl⟩|⟨g,cap,cur,rfl,hb,hg,h1,h2,h3,h4⟩
 ·exact⟨none,0,rfl,by simp,by simp[maxLen],by simp,by simp⟩
 ·refine⟨some ⟨g,0,none⟩,cap,rfl,h1,h3,by simp,fun j hj=>⟨_,rfl,?_⟩⟩
  rw[addr_add,cell_of hg];have:(cur.toList.take bs.length)[j]? =some (aj bs[j]):=by rw[h4,List.getElem?_map,List.getElem?_eq_getElem hj];rfl
  rw[List.getElem?_take_of_lt hj]at this;simpa using this
theorem BytesAt.form{w:World}{v:Value}{bs:List UInt8}(h:BytesAt w v bs):∃a c,v= .slice a bs.length c∧bs.length≤c∧c≤maxLen∧∀j (h:j<bs.length),∃p,a=some p∧w.cell? (p.add j)=some (.int .u8 bs[j].toNat):=by
 obtain⟨a,c,rfl,h1,h2,h3,h4⟩:=h;exact⟨a,c,rfl,h1,h2,h4⟩
def oH(a:Option Addr)(n c:Nat):Option Addr:=if c=n then a else a.map (·.add n)
theorem BytesAt.drop{w:World}{a:Option Addr}{c n:Nat}{bs:List UInt8}(h:BytesAt w (.slice a bs.length c) bs)(hn:n≤bs.length):BytesAt w (.slice (oH a n c) (bs.length-n) (c-n)) (bs.drop n):=by
 obtain⟨a',c',e,h1,h2,h3,h4⟩:=h;simp only[Value.slice.injEq]at e;obtain⟨rfl, -,rfl⟩:=e;refine⟨oH a n c,c-n,by simp,by simp;omega,by omega,?_,fun j hj=>?_⟩
 ·intro e
  unfold oH at e;split at e
  ·omega
  ·cases a with
   |none=>have:=h3 rfl;omega
   |some p=>simp at e
 ·simp at hj
  obtain⟨p,rfl,hc⟩:=h4 (n+j) (by omega);refine⟨p.add n,by simp only[oH,if_neg (by omega:¬c=n),Option.map_some],?_⟩;rw[add_add,hc];simp
theorem BytesAt.take{w:World}{a:Option Addr}{c n:Nat}{bs:List UInt8}(h:BytesAt w (.slice a bs.length c) bs)(hn:n≤bs.length):BytesAt w (.slice a n c) (bs.take n):=by
 obtain⟨a',c',e,h1,h2,h3,h4⟩:=h;simp only[Value.slice.injEq]at e;obtain⟨rfl, -,rfl⟩:=e;refine⟨a,c,by simp;omega,by simp;omega,h2,h3,fun j hj=>?_⟩;simp at hj;obtain⟨p,rfl,hc⟩:=h4 j (by omega);exact⟨p,rfl,by rw[hc];simp⟩
theorem Pm(w:World):(sizeOf 5).run Tryz.prog w= .ok 1 w:=by kernel_rfl
theorem ug(a:Option Addr)(l c n:Nat)(hn:n≤l)(w:World):(Instr.slice 97 (.slice a l c) (some (.int .i64 (n:Int))) none none).run Tryz.prog w= .ok (.slice (oH a n c) (l-n) (c-n)) w:=by
 have h:=Pm w;simp[Instr.slice,run_underlying Tryz.underlying97,Instr.sliceBounds,run_sliceBound,h,Result.andThen,hn,oH]
theorem JE(a:Option Addr)(l c n:Nat)(hn:n≤c)(w:World):(Instr.slice 97 (.slice a l c) none (some (.int .i64 (n:Int))) none).run Tryz.prog w= .ok (.slice a n c) w:=by
 have h:=Pm w;cases a<;>simp[Instr.slice,run_underlying Tryz.underlying97,Instr.sliceBounds,run_sliceBound,h,Result.andThen,hn,add_zero]
theorem GU(a:Option Addr)(l c n m:Nat)(hn:n≤m)(hm:m≤c)(w:World):(Instr.slice 97 (.slice a l c) (some (.int .i64 (n:Int))) (some (.int .i64 (m:Int))) none).run Tryz.prog w= .ok (.slice (oH a n c) (m-n) (c-n)) w:=by
 have h:=Pm w;simp[Instr.slice,run_underlying Tryz.underlying97,Instr.sliceBounds,run_sliceBound,h,Result.andThen,hn,hm,oH]
theorem BytesAt.conv{w:World}{v:Value}{bs:List UInt8}(h:BytesAt w v bs):(convert 97 9 v).run Tryz.prog w= .ok (.string ⟨bs.toArray⟩) w:=by
 obtain⟨a,c,rfl, -⟩:=h.form;exact XX h.slice
end
namespace Nu
def GV:Nat→Nat→List UInt8
 |0,_=>[]
 |f+1,n=>if n<128 then [UInt8.ofNat n]else UInt8.ofNat (n%128+128)::GV f (n/128)
def put(n:Nat):List UInt8:=GV (n+1) n
theorem wR:∀f n,n<f→∀g,n<g→GV f n=GV g n
 |0,_,h,_,_=>by omega
 |_+1,_,_,0,h=>by omega
 |f+1,n,h,g+1,k=>by
  unfold GV;split
  ·rfl
  ·rw[wR f (n/128) (by omega) g (by omega)]
theorem jC{n:Nat}(h:n<128):put n=[UInt8.ofNat n]:=by simp[put,GV,h]
theorem oI{n:Nat}(h:128≤n):put n=UInt8.ofNat (n%128+128)::put (n/128):=by
 show GV (n+1) n=_;unfold GV;rw[if_neg (by omega)];congr 1
 exact wR _ _ (by omega) _ (by omega)
theorem put_pos(n:Nat):0<(put n).length:=by
 by_cases h:n<128
 ·simp[jC h]
 ·simp[oI (by omega:128≤n)]
theorem LK:∀(k n:Nat),n<128^(k+1)→(put n).length≤k+1
 |0,n,h=>by simp[jC (show n<128 by simpa using h)]
 |k+1,n,h=>by
  by_cases h1:n<128
  ·simp[jC h1]
  ·rw[oI (by omega)]
   have:=LK k (n/128) (by rw[Nat.div_lt_iff_lt_mul (by omega)];rw[Nat.pow_succ]at h;exact h);simp;omega
theorem eu{n:Nat}(h:n≤1099511627776):(put n).length≤6:=LK 5 n (by omega)
def val:List UInt8→Nat
 |[]=>0
 |c::r=>c.toNat%128+128*val r
theorem Bo:∀(l:List UInt8) (c:UInt8),val (l++[c])=val l+c.toNat%128*128^l.length
 |[],c=>by simp[val]
 |d::l,c=>by
  simp only[List.cons_append,val,Bo l c,List.length_cons,Nat.pow_succ];rw[Nat.mul_add,Nat.add_assoc,Nat.mul_comm (128^l.length) 128,←Nat.mul_assoc (c.toNat%128),Nat.mul_comm (c.toNat%128) 128,Nat.mul_assoc]
theorem Pn:∀(l:List UInt8),val l<128^l.length
 |[]=>by simp[val]
 |c::l=>by
  have:=Pn l;simp only[val,List.length_cons,Nat.pow_succ];omega
theorem Po(l r:List UInt8):val l≤val (l++r):=by
 induction l with
 |nil=>simp[val]
 |cons c l ih=>simp only[List.cons_append,val];omega
theorem LM:∀(f n:Nat),n<f→val (put n)=n
 |0,_,h=>by omega
 |f+1,n,h=>by
  by_cases h1:n<128
  ·rw[jC h1];simp[val,Nat.mod_eq_of_lt (show n<256 by omega),Nat.mod_eq_of_lt h1]
  ·rw[oI (by omega)]
   simp only[val,LM f (n/128) (by omega)];rw[show(UInt8.ofNat (n%128+128)).toNat=n%128+128 by simp;omega];omega
theorem Bq(n:Nat):val (put n)=n:=LM (n+1) n (by omega)
def more(l:List UInt8):Bool:=l.all (fun c=>decide (128≤c.toNat))
theorem NJ(l:List UInt8)(c:UInt8):more (l++[c])=(more l&&decide (128≤c.toNat)):=by simp[more]
theorem LP:∀(l:List UInt8) (c:UInt8),more l=true→c.toNat<128→(l=[]∨c.toNat≠0)→put (val (l++[c]))=l++[c]
 |[],c,_,h,_=>by
  simp only[List.nil_append,val];rw[jC (by omega)];congr 1
  apply UInt8.toNat.inj;simp;omega
 |d::l,c,hm,h,h0=>by
  simp only[more,List.all_cons,Bool.and_eq_true,decide_eq_true_eq]at hm;have h0:c.toNat≠0:=by simpa using h0
  have hd:=d.toNat_lt;have hv:0<val (l++[c]):=by
   rw[Bo,Nat.mod_eq_of_lt h];have:0<c.toNat*128^l.length:=Nat.mul_pos (by omega) (Nat.pow_pos (by omega))
   omega
  simp only[List.cons_append,val];rw[oI (by omega),show(d.toNat%128+128*val (l++[c]))/128=val (l++[c])by omega,LP l c hm.2 h (.inr h0)];congr 1
  apply UInt8.toNat.inj;simp;omega
theorem GX:∀(f n:Nat),n<f→∃l c,put n=l++[c]∧more l=true∧c.toNat<128∧(l=[]∨c.toNat≠0)
 |0,_,h=>by omega
 |f+1,n,h=>by
  by_cases h1:n<128
  ·exact⟨[],UInt8.ofNat n,by rw[jC h1];rfl,rfl,by simp;omega, .inl rfl⟩
  ·obtain⟨l,c,e,hm,hc,h0⟩:=GX f (n/128) (by omega)
   refine⟨UInt8.ofNat (n%128+128)::l,c,by rw[oI (by omega),e];rfl,?_,hc, .inr ?_⟩
   ·simp only[more,List.all_cons,Bool.and_eq_true,decide_eq_true_eq]
    exact⟨by simp;omega,hm⟩
   ·rcases h0 with rfl|h0
    ·have:=Bq (n/128)
     rw[e]at this;simp only[List.nil_append,val]at this;omega
    ·exact h0
def nM:Nat→List UInt8→List UInt8→Nat×Nat
 |0,_,_=>(0,0)
 |_,_,[]=>(0,0)
 |f+1,l,c::r=>if 128≤c.toNat then nM f (l++[c]) r
  else if 1099511627776<val (l++[c])∨(l≠[]∧c.toNat=0)then(0,0)else(val (l++[c]),l.length+1)
def get(b:List UInt8):Nat×Nat:=nM 6 [] b
theorem Bv:∀(f:Nat) (l r:List UInt8),1099511627776<val l→nM f l r=(0,0)
 |0,_,_,_=>rfl
 |_+1,_,[],_=>rfl
 |f+1,l,c::r,h=>by
  have:=Po l [c];unfold nM;split
  ·exact Bv f _ r (by omega)
  ·rw[if_pos (.inl (by omega))]
theorem NK(f:Nat)(l:List UInt8):nM f l []=(0,0):=by cases f<;>rfl
theorem qM{f:Nat}{l r:List UInt8}{c:UInt8}(h:128≤c.toNat):nM (f+1) l (c::r)=nM f (l++[c]) r:=by
 rw[nM,if_pos h]
theorem qN{f:Nat}{l r:List UInt8}{c:UInt8}(h:c.toNat<128):nM (f+1) l (c::r)=if 1099511627776<val (l++[c])∨(l≠[]∧c.toNat=0)then(0,0)else(val (l++[c]),l.length+1):=by
 rw[nM,if_neg (by omega)]
theorem GY:∀(f:Nat) (p l:List UInt8) (c:UInt8) (r:List UInt8),more l=true→c.toNat<128→l.length<f→
 nM f p (l++c::r)=if 1099511627776<val (p++l++[c])∨(p++l≠[]∧c.toNat=0)then(0,0)else(val (p++l++[c]),p.length+l.length+1)
 |0,_,_,_,_,_,_,h=>by omega
 |f+1,p,[],c,r,_,hc,_=>by rw[List.nil_append,qN hc];simp
 |f+1,p,d::l,c,r,hm,hc,hl=>by
  simp only[more,List.all_cons,Bool.and_eq_true,decide_eq_true_eq]at hm;rw[List.cons_append,qM hm.1,GY f _ l c r hm.2 hc (by simp at hl;omega)];have e:p++[d]++l=p++(d::l):=by simp
  have e2:(p++[d]).length+l.length+1=p.length+(d::l).length+1:=by simp;omega
  rw[e,e2]
theorem get_put{n:Nat}(h:n≤1099511627776)(r:List UInt8):get (put n++r)=(n,(put n).length):=by
 obtain⟨l,c,e,hm,hc,h0⟩:=GX (n+1) n (by omega);have hl:=eu h;have hv:=Bq n;rw[e]at hv hl;rw[e,List.append_assoc,List.singleton_append];unfold get;rw[GY 6 [] l c r hm hc (by simp at hl;omega),if_neg]
 ·simp only[List.nil_append,hv];simp
 ·simp only[List.nil_append,hv]
  rintro(h1|⟨h1,h2⟩)
  ·omega
  ·rcases h0 with h0|h0
   ·exact h1 h0
   ·exact h0 h2
theorem DU:∀(f:Nat) (p b:List UInt8) (n s:Nat),more p=true→nM f p b=(n,s)→s≠0→
 n≤1099511627776∧p.length≤s∧s≤p.length+b.length∧put n=p++b.take (s-p.length)
 |0,_,_,_,_,_,h,hs=>by simp[nM]at h;omega
 |_+1,_,[],_,_,_,h,hs=>by simp[nM]at h;omega
 |f+1,p,c::b,n,s,hm,h,hs=>by
  by_cases hc:128≤c.toNat
  ·rw[qM hc]at h
   obtain⟨h1,h2,h3,h4⟩:=DU f _ b n s (by rw[NJ,hm];simpa using hc) h hs;simp only[List.length_append,List.length_cons,List.length_nil]at h2 h3 h4;refine⟨h1,by omega,by simp;omega,?_⟩;rw[h4,List.append_assoc,show s-p.length=(s-(p.length+(0+1)))+1 by omega,List.take_succ_cons];rfl
  ·have hc':c.toNat<128:=by omega
   rw[qN hc']at h;split at h
   ·simp at h;omega
   ·rename_i hn
    simp only[Prod.mk.injEq]at h;obtain⟨rfl,rfl⟩:=h;refine⟨by omega,by omega,by simp,?_⟩;rw[LP p c hm hc' (by by_cases e:p=[];exact .inl e;exact .inr (fun e2=>hn (.inr ⟨e,e2⟩)))];rw[show p.length+1-p.length=1 by omega];rfl
theorem get_some{b:List UInt8}{n s:Nat}(h:get b=(n,s))(hs:s≠0):n≤1099511627776∧s≤b.length∧put n=b.take s:=by
 obtain⟨h1,_,h3,h4⟩:=DU 6 [] b n s rfl h hs;exact⟨h1,by simpa using h3,by simpa using h4⟩
theorem Bz{b:List UInt8}:(get b).2≤b.length∧(get b).1≤1099511627776∧((get b).2=0→(get b).1=0):=by
 have aux:∀(f:Nat) (p b:List UInt8),(nM f p b).2=0→(nM f p b).1=0:=by
  intro f;induction f with
  |zero=>intro p b _;rfl
  |succ f ih=>
   intro p b h;cases b with
   |nil=>rfl
   |cons c b=>
    by_cases hc:128≤c.toNat
    ·rw[qM hc]at h⊢;exact ih _ _ h
    ·rw[qN (by omega)]at h⊢
     split
     ·rfl
     ·rename_i hn;rw[if_neg hn]at h;simp at h
 by_cases hs:(get b).2=0
 ·have:=aux 6 [] b hs
  exact⟨by omega,by show(get b).1≤_;unfold get;omega,fun _=>this⟩
 ·obtain⟨h1,h2,_⟩:=get_some (b:=b) (n:=(get b).1) (s:=(get b).2) rfl hs
  exact⟨h2,h1,fun e=>absurd e hs⟩
end Nu
namespace Cr
def step(s:Nat):Nat:=s/2^^^3988292384*(s%2)
def steps:Nat→Nat→Nat
 |0,s=>s
 |n+1,s=>step (steps n s)
def byte(s:Nat)(c:UInt8):Nat:=steps 8 (s^^^c.toNat)
def crc(bs:List UInt8):Nat:=bs.foldl byte 4294967295
def sum(bs:List UInt8):Nat:=4294967295-crc bs
theorem Tj{s:Nat}(h:s<4294967296):step s<4294967296:=by
 unfold step;refine Nat.xor_lt_two_pow (n:=32) (by omega) ?_;have:s%2=0∨s%2=1:=by omega
 rcases this with e|e<;>rw[e]<;>decide
theorem nN{s:Nat}(h:s<4294967296):∀n,steps n s<4294967296
 |0=>h
 |n+1=>Tj (nN h n)
theorem ES{s:Nat}(h:s<4294967296)(c:UInt8):s^^^c.toNat<4294967296:=
 Nat.xor_lt_two_pow (n:=32) (by omega) (by have:=c.toNat_lt;omega)
theorem uh{s:Nat}(h:s<4294967296)(c:UInt8):byte s c<4294967296:=nN (ES h c) 8
theorem LQ(bs:List UInt8):∀s,s<4294967296→bs.foldl byte s<4294967296:=by
 induction bs with
 |nil=>intro s h;exact h
 |cons c bs ih=>intro s h;exact ih _ (uh h c)
theorem uZ(bs:List UInt8):crc bs<4294967296:=LQ bs _ (by omega)
theorem Pq(bs:List UInt8)(c:UInt8):crc (bs++[c])=byte (crc bs) c:=by simp[crc]
def up(v:Nat)(i:Bool):Nat:=(if i !=v.testBit 31 then 79764919 else 0)^^^(v*2%4294967296)
def ups(c:Nat):Nat→Nat→Nat
 |0,v=>v
 |n+1,v=>up (ups c n v) (c.testBit n)
def XY(v:Nat)(c:UInt8):Nat:=ups c.toNat 8 v
def rcrc(bs:List UInt8):Nat:=bs.foldl XY 4294967295
def Rev(v s:Nat):Prop:=∀i,i<32→v.testBit i=s.testBit (31-i)
theorem Tn{s:Nat}(h:s<4294967296){i:Nat}(hi:32≤i):s.testBit i=false:=
 Nat.testBit_lt_two_pow (Nat.lt_of_lt_of_le h (by have:2^32≤2^i:=Nat.pow_le_pow_right (by omega) hi;simpa using this))
def part(n k:Nat):Nat:=n/2^(32-k)*2^(32-k)
end Cr
section
open Go.Proofs.YtmjpdhpmjmgmaaaGreatDoor
set_option linter.unusedSimpArgs false
set_option linter.unusedVariables false
namespace Bt
structure Rec where
 off:Int
 time:Int
 keyed:Bool
 key:List UInt8
 gone:Bool
 value:List UInt8
structure aX where
 base:Int
 fin:Int
 recs:List Rec
def dW(r:Rec)(lo hi:Int):Int:=
 if r.off<lo∨hi≤r.off∨(r.keyed=false∧r.key≠[])∨(r.gone=true∧r.value≠[])then 1
 else if 60<r.key.length∨500<r.value.length then 4
 else if r.time<0∨1099511627776<r.time then 2 else 0
def bK:List Rec→Int→Int→Int
 |[],_,_=>0
 |r::rs,lo,hi=>if dW r lo hi=0 then bK rs (r.off+1) hi else dW r lo hi
def chk(x:aX):Int:=
 if x.base<0∨1099511627776<x.fin then 2 else if x.fin≤x.base then 1 else if 50<x.recs.length∨50<x.fin-x.base then 4 else bK x.recs x.base x.fin
def mark(r:Rec):Nat:=(if r.keyed then 1 else 0)+(if r.gone then 2 else 0)
def mO(s:List UInt8):List UInt8:=Nu.put s.length++s
def ni(base:Int)(r:Rec):List UInt8:=
 Nu.put (r.off-base).toNat++Nu.put r.time.toNat++Nu.put (mark r)++(if r.keyed then mO r.key else [])++(if r.gone then []else mO r.value)
def iw(base:Int)(rs:List Rec):List UInt8:=rs.flatMap (ni base)
def body(x:aX):List UInt8:=
 Nu.put x.base.toNat++Nu.put (x.fin-x.base).toNat++Nu.put x.recs.length++iw x.base x.recs
def four(n:Nat):List UInt8:=[UInt8.ofNat (n/16777216%256),UInt8.ofNat (n/65536%256),UInt8.ofNat (n/256%256),UInt8.ofNat (n%256)]
def aj(x:aX):List UInt8:=four ((body x).length+8)++four (Cr.sum (body x))++body x
def aO(x:aX):Int:=if chk x=0 then(if 6000<(body x).length+8 then 4 else 0)else chk x
theorem jV{r:Rec}{lo hi:Int}(h:dW r lo hi=0):lo≤r.off∧r.off<hi∧(r.keyed=false→r.key=[])∧(r.gone=true→r.value=[])∧r.key.length≤60∧r.value.length≤500∧0≤r.time∧r.time≤1099511627776:=by
 unfold dW at h;split at h
 ·omega
 ·rename_i h1
  split at h
  ·omega
  ·split at h
   ·omega
   ·rename_i h2 h3
    refine⟨by omega,by omega,fun e=>?_,fun e=>?_,by omega,by omega,by omega,by omega⟩
    ·refine Classical.byContradiction fun hn=>h1 (.inr (.inr (.inl ⟨e,hn⟩)))
    ·refine Classical.byContradiction fun hn=>h1 (.inr (.inr (.inr ⟨e,hn⟩)))
def num(l:List UInt8):Nat×List UInt8:=if (Nu.get l).2=0 then(0,[])else((Nu.get l).1,l.drop (Nu.get l).2)
def text(l:List UInt8):List UInt8×List UInt8:=if (num l).2.length<(num l).1 then([],[])else((num l).2.take (num l).1,(num l).2.drop (num l).1)
theorem jY{n:Nat}(h:n≤1099511627776)(r:List UInt8):num (Nu.put n++r)=(n,r):=by
 unfold num;rw[Nu.get_put h];have:=Nu.put_pos n;rw[if_neg (show ¬(Nu.put n).length=0 by omega)];simp
theorem ui{s:List UInt8}(h:s.length≤1099511627776)(r:List UInt8):text (mO s++r)=(s,r):=by
 unfold text mO;rw[List.append_assoc,jY h];simp;omega
def oJ(base:Int)(l:List UInt8):Rec×List UInt8:=
 let a:=num l;let b:=num a.2;let c:=num b.2;let keyed:=c.1%2=1;let gone:=c.1/2%2=1;let k:=if keyed then text c.2 else([],c.2)
 let v:=if gone then([],k.2)else text k.2
 ({off:=base+a.1,time:=b.1,keyed:=keyed,key:=k.1,gone:=gone,value:=v.1},v.2)
def kD(base:Int):Nat→List UInt8→List Rec
 |0,_=>[]
 |n+1,l=>if l=[]then []else(oJ base l).1::kD base n (oJ base l).2
def oK(l:List UInt8):aX:=
 let a:=num l;let b:=num a.2;let c:=num b.2;{base:=a.1,fin:=(a.1:Int)+b.1,recs:=kD a.1 c.1 c.2}
theorem Pv(base:Int)(r:Rec):0<(ni base r).length:=by
 unfold ni;have:=Nu.put_pos (r.off-base).toNat;simp;omega
theorem VH{base:Int}{r:Rec}{lo hi:Int}(h:dW r lo hi=0)(hb:base≤lo)(hB:0≤base)(hT:hi≤(1099511627776:Int))(l:List UInt8):oJ base (ni base r++l)=(r,l):=by
 obtain⟨h1,h2,h3,h4,h5,h6,h7,h8⟩:=jV h;obtain⟨off,time,keyed,key,gone,value⟩:=r;simp only at h1 h2 h3 h4 h5 h6 h7 h8;have e1:(off-base).toNat≤1099511627776:=by omega
 have e2:time.toNat≤1099511627776:=by omega
 have e3:base+((off-base).toNat:Int)=off:=by omega
 have e4:(time.toNat:Int)=time:=by omega
 unfold oJ ni;simp only[List.append_assoc,jY e1,jY e2];cases keyed<;>cases gone
 ·simp only[mark,jY (show 0+0≤1099511627776 by omega),Bool.false_eq_true,if_false,List.nil_append]
  have:=h3 rfl;subst this;simp[ui (show value.length≤1099511627776 by omega),e3,e4, -Int.ofNat_toNat]
 ·have:=h3 rfl
  have h':=h4 rfl;subst this;subst h';simp only[mark,jY (show 0+2≤1099511627776 by omega),Bool.false_eq_true,if_false,if_true,List.nil_append];simp[e3,e4, -Int.ofNat_toNat]
 ·simp only[mark,jY (show 1+0≤1099511627776 by omega),Bool.false_eq_true,if_false,if_true,List.append_assoc]
  simp[ui (show value.length≤1099511627776 by omega),ui (show key.length≤1099511627776 by omega),e3,e4, -Int.ofNat_toNat]
 ·have h':=h4 rfl
  subst h';simp only[mark,jY (show 1+2≤1099511627776 by omega),Bool.false_eq_true,if_false,if_true,List.append_assoc,List.nil_append];simp[ui (show key.length≤1099511627776 by omega),e3,e4, -Int.ofNat_toNat]
theorem LU{base:Int}(hB:0≤base){hi:Int}(hT:hi≤1099511627776):∀(rs:List Rec) (lo:Int),base≤lo→bK rs lo hi=0→kD base rs.length (iw base rs)=rs
 |[],_,_,_=>rfl
 |r::rs,lo,hb,h=>by
  have h1:dW r lo hi=0:=by
   unfold bK at h;split at h
   ·assumption
   ·exact h
  have h2:bK rs (r.off+1) hi=0:=by
   unfold bK at h;rwa [if_pos h1]at h
  have hk:=jV h1;have e:iw base (r::rs)=ni base r++iw base rs:=by simp[iw]
  have hne:iw base (r::rs)≠[]:=by
   rw[e];intro h;have:=Pv base r;have h':=congrArg List.length h;simp at h';simp[h'.1]at this
  rw[List.length_cons,kD,if_neg hne,e,VH h1 hb hB hT,LU hB hT rs (r.off+1) (by omega) h2]
theorem l7{x:aX}(h:chk x=0):0≤x.base∧x.fin≤1099511627776∧x.base<x.fin∧x.recs.length≤50∧x.fin-x.base≤50∧bK x.recs x.base x.fin=0:=by
 unfold chk at h;split at h
 ·omega
 ·split at h
  ·omega
  ·split at h
   ·omega
   ·exact⟨by omega,by omega,by omega,by omega,by omega,h⟩
theorem DV{x:aX}(h:chk x=0):oK (body x)=x:=by
 obtain⟨h1,h2,h3,h4,h5,h6⟩:=l7 h;obtain⟨base,fin,recs⟩:=x;simp only at h1 h2 h3 h4 h5 h6;unfold oK body;simp only[List.append_assoc,jY (show base.toNat≤1099511627776 by omega),jY (show(fin-base).toNat≤1099511627776 by omega),jY (show recs.length≤1099511627776 by omega)];have e1:(base.toNat:Int)=base:=by omega
 have e2:base+((fin-base).toNat:Int)=fin:=by omega
 rw[e1,e2,LU h1 h2 recs base (Int.le_refl _) h6]
def ET(t:List UInt8×Bool):Nat×(List UInt8×Bool):=((Nu.get t.1).1,(t.1.drop (Nu.get t.1).2,t.2||(Nu.get t.1).2==0))
def LW(most:Nat)(t:List UInt8×Bool):List UInt8×(List UInt8×Bool):=
 let a:=ET t;if a.2.2=true∨most<a.1∨a.2.1.length<a.1 then([],(a.2.1,true))else(a.2.1.take a.1,(a.2.1.drop a.1,a.2.2))
theorem iY{n:Nat}(h:n≤1099511627776)(r:List UInt8)(b:Bool):ET (Nu.put n++r,b)=(n,(r,b)):=by
 unfold ET;simp only[Nu.get_put h];have:=Nu.put_pos n;have h0:((Nu.put n).length==0)=false:=by simp;intro h';rw[h']at this;simp at this
 rw[h0];simp
theorem qO{most:Nat}{s:List UInt8}(h:s.length≤1099511627776)(hm:s.length≤most)(r:List UInt8):LW most (mO s++r,false)=(s,(r,false)):=by
 unfold LW mO;simp only[List.append_assoc,iY h];rw[if_neg (by simp;omega)];simp
def Px(base:Int)(t:List UInt8×Bool):Rec×(List UInt8×Bool):=
 let a:=ET t;let b:=ET a.2;let c:=ET b.2;let keyed:=c.1%2=1;let gone:=c.1/2=1;let t3:=(c.2.1,c.2.2||decide (3<c.1));let k:=if keyed then LW 10000 t3 else([],t3)
 let v:=if gone then([],k.2)else LW 10000 k.2
 ({off:=base+a.1,time:=b.1,keyed:=keyed,key:=k.1,gone:=gone,value:=v.1},v.2)
def DW(base:Int):Nat→List UInt8×Bool→List Rec×Bool
 |0,t=>([],t.2)
 |n+1,t=>if t.2 then([],true)else((Px base t).1::(DW base n (Px base t).2).1,(DW base n (Px base t).2).2)
def Tq(l:List UInt8):aX×Bool:=
 let a:=ET (l,false);let b:=ET a.2;let c:=ET b.2;({base:=a.1,fin:=(a.1:Int)+b.1,recs:=(DW a.1 c.1 c.2).1},(DW a.1 c.1 c.2).2)
theorem VI{base:Int}{r:Rec}{lo hi:Int}(h:dW r lo hi=0)(hb:base≤lo)(hB:0≤base)(hT:hi≤(1099511627776:Int))(l:List UInt8):Px base (ni base r++l,false)=(r,(l,false)):=by
 obtain⟨h1,h2,h3,h4,h5,h6,h7,h8⟩:=jV h;obtain⟨off,time,keyed,key,gone,value⟩:=r;simp only at h1 h2 h3 h4 h5 h6 h7 h8;have e1:(off-base).toNat≤1099511627776:=by omega
 have e2:time.toNat≤1099511627776:=by omega
 have e3:base+((off-base).toNat:Int)=off:=by omega
 have e4:(time.toNat:Int)=time:=by omega
 unfold Px ni;simp only[List.append_assoc,iY e1,iY e2];cases keyed<;>cases gone
 ·simp only[mark,iY (show 0+0≤1099511627776 by omega),Bool.false_eq_true,if_false,List.nil_append]
  have:=h3 rfl;subst this;simp[qO (show value.length≤1099511627776 by omega) (show value.length≤10000 by omega),e3,e4, -Int.ofNat_toNat]
 ·have:=h3 rfl
  have h':=h4 rfl;subst this;subst h';simp only[mark,iY (show 0+2≤1099511627776 by omega),Bool.false_eq_true,if_false,if_true,List.nil_append];simp[e3,e4, -Int.ofNat_toNat]
 ·simp only[mark,iY (show 1+0≤1099511627776 by omega),Bool.false_eq_true,if_false,if_true,List.append_assoc]
  simp[qO (show value.length≤1099511627776 by omega) (show value.length≤10000 by omega),qO (show key.length≤1099511627776 by omega) (show key.length≤10000 by omega),e3,e4, -Int.ofNat_toNat]
 ·have h':=h4 rfl
  subst h';simp only[mark,iY (show 1+2≤1099511627776 by omega),Bool.false_eq_true,if_false,if_true,List.append_assoc,List.nil_append];simp[qO (show key.length≤1099511627776 by omega) (show key.length≤10000 by omega),e3,e4, -Int.ofNat_toNat]
theorem LX{base:Int}(hB:0≤base){hi:Int}(hT:hi≤1099511627776):∀(rs:List Rec) (lo:Int),base≤lo→bK rs lo hi=0→DW base rs.length (iw base rs,false)=(rs,false)
 |[],_,_,_=>rfl
 |r::rs,lo,hb,h=>by
  have h1:dW r lo hi=0:=by
   unfold bK at h;split at h
   ·assumption
   ·exact h
  have h2:bK rs (r.off+1) hi=0:=by
   unfold bK at h;rwa [if_pos h1]at h
  have hk:=jV h1;have e:iw base (r::rs)=ni base r++iw base rs:=by simp[iw]
  rw[List.length_cons,DW,if_neg (by simp),e,VI h1 hb hB hT,LX hB hT rs (r.off+1) (by omega) h2]
theorem NL{x:aX}(h:chk x=0):Tq (body x)=(x,false):=by
 obtain⟨h1,h2,h3,h4,h5,h6⟩:=l7 h;obtain⟨base,fin,recs⟩:=x;simp only at h1 h2 h3 h4 h5 h6;unfold Tq body;simp only[List.append_assoc,iY (show base.toNat≤1099511627776 by omega),iY (show(fin-base).toNat≤1099511627776 by omega),iY (show recs.length≤1099511627776 by omega)];have e1:(base.toNat:Int)=base:=by omega
 have e2:base+((fin-base).toNat:Int)=fin:=by omega
 rw[e1,e2,LX h1 h2 recs base (Int.le_refl _) h6]
def eX(b:List UInt8):Nat:=(b.getD 0 0).toNat*16777216+(b.getD 1 0).toNat*65536+(b.getD 2 0).toNat*256+(b.getD 3 0).toNat
theorem uj(n:Nat):(four n).length=4:=rfl
theorem sN{n:Nat}(h:n<4294967296)(r:List UInt8):eX (four n++r)=n:=by
 simp[eX,four];omega
theorem gK(x:aX):(aj x).length=(body x).length+8:=by simp[aj,uj];omega
theorem qP(x:aX):(aj x).drop 8=body x:=by
 unfold aj;rw[List.drop_append_of_le_length (by simp[uj])];simp[uj,four]
def VJ(b:List UInt8)(x:aX):Prop:=chk x=0∧aj x=b.take (eX b)
theorem DX{b:List UInt8}{x:aX}(h:VJ b x):body x=(b.take (eX b)).drop 8:=by rw[←h.2,qP]
theorem both(b:List UInt8):VJ b (oK ((b.take (eX b)).drop 8))↔((Tq ((b.take (eX b)).drop 8)).2=false∧VJ b (Tq ((b.take (eX b)).drop 8)).1):=by
 constructor
 ·intro h
  have h1:=DX h;have h2:=NL h.1;rw[h1]at h2;rw[h2];exact⟨rfl,h⟩
 ·rintro⟨h0,h⟩
  have h1:=DX h;have h2:=DV h.1;rw[h1]at h2;rw[h2];exact h
end Bt
end
section
open Go.RowKit Go.Maps
set_option linter.unusedSimpArgs false
set_option linter.unusedVariables false
set_option maxRecDepth 100000
def gQ(s:List UInt8):Value:= .string ⟨s.toArray⟩
def recC(r:Bt.Rec):List Value:=[.int .i64 r.off, .int .i64 r.time, .bool r.keyed,gQ r.key, .bool r.gone,gQ r.value]
abbrev ny(r:Bt.Rec):Value:= .agg #[.int .i64 r.off, .int .i64 r.time, .bool r.keyed,gQ r.key, .bool r.gone,gQ r.value]
structure jD(r:Bt.Rec):Prop where
 off1: -9223372036854775808≤r.off
 off2:r.off≤9223372036854775807
 time1: -9223372036854775808≤r.time
 time2:r.time≤9223372036854775807
 key:r.key.length≤9223372036854775807
 value:r.value.length≤9223372036854775807
def bn(w:World)(v:Value)(rs:List Bt.Rec):Prop:=
 ∃a c,v= .slice a rs.length c∧rs.length≤c∧c≤maxLen∧(a=none→c=0)∧(∀j (h:j<rs.length),jD rs[j]∧∃p,a=some p∧∀i u,(recC rs[j])[i]? =some u→w.cell? ((p.add (j*6)).add i)=some u)
theorem bn.kept{w w':World}{v:Value}{rs:List Bt.Rec}{S:List Nat}(h:bn w v rs)(ht:Turn S w w')(hn:∀k∈v.ownBlock,k<w.heap.size→k∉S):bn w' v rs:=by
 obtain⟨a,c,rfl,h1,h2,h3,h4⟩:=h;refine⟨a,c,rfl,h1,h2,h3,fun j hj=>?_⟩;obtain⟨h5,p,rfl,hc⟩:=h4 j hj;refine⟨h5,p,rfl,fun i u hu=>?_⟩;have hlt:=World.block_lt_of_cell? w _ (hc i u hu);rw[World.cell?_of_block (w:=w) (ht.block _ hlt (by rw[add_block,add_block]at hlt⊢;exact hn _ (by simp[Value.ownBlock]) hlt)),hc i u hu]
theorem bn.kept'{w w':World}{v:Value}{rs:List Bt.Rec}{S:List Nat}(h:bn w v rs)(ht:Turn S w w')(hn:rs≠[]→∀k∈v.ownBlock,k∉S):bn w' v rs:=by
 by_cases h0:rs=[]
 ·subst h0
  obtain⟨a,c,e,h1,h2,h3,h4⟩:=h;exact⟨a,c,e,h1,h2,h3,fun j hj=>absurd hj (Nat.not_lt_zero _)⟩
 ·exact h.kept ht (fun k hk _=>hn h0 k hk)
theorem bn.lt{w:World}{v:Value}{rs:List Bt.Rec}(h:bn w v rs)(h0:rs≠[]):∀k∈v.ownBlock,k<w.heap.size:=by
 obtain⟨a,c,rfl,h1,h2,h3,h4⟩:=h;have hl:0<rs.length:=List.length_pos_iff.2 h0;obtain⟨-,p,rfl,hc⟩:=h4 0 hl;intro k hk;simp[Value.ownBlock]at hk;subst hk;have:=World.block_lt_of_cell? w _ (hc 0 _ rfl);rwa [add_block,add_block]at this
theorem bn.still{w w':World}{v:Value}{rs:List Bt.Rec}(h:bn w v rs)(ht:Turn [] w w'):bn w' v rs:=h.kept ht (by simp)
theorem bn.form{w:World}{v:Value}{rs:List Bt.Rec}(h:bn w v rs):∃a c,v= .slice a rs.length c∧rs.length≤c∧c≤maxLen∧(a=none→c=0)∧∀j (hj:j<rs.length),∃p,a=some p:=by
 obtain⟨a,c,rfl,h1,h2,h3,h4⟩:=h;exact⟨a,c,rfl,h1,h2,h3,fun j hj=>⟨_,(h4 j hj).2.choose_spec.1⟩⟩
theorem bn.ok{w:World}{v:Value}{rs:List Bt.Rec}(h:bn w v rs){j:Nat}(hj:j<rs.length):jD rs[j]:=by
 obtain⟨a,c,rfl,h1,h2,h3,h4⟩:=h;exact(h4 j hj).1
theorem VK(w:World):(sizeOf 47).run Tryz.prog w= .ok 6 w:=by kernel_rfl
theorem XZ(w:World):(isAgg 47).run Tryz.prog w= .ok true w:=by kernel_rfl
theorem GZ{w:World}{a:Addr}{r:Bt.Rec}(h:∀i u,(recC r)[i]? =some u→w.cell? (a.add i)=some u):(loadVar 47 a).run Tryz.prog w= .ok (ny r) w:=by
 have c0:=h 0 _ rfl;have c1:=h 1 _ rfl;have c2:=h 2 _ rfl;have c3:=h 3 _ rfl;have c4:=h 4 _ rfl;have c5:=h 5 _ rfl;simp[loadVar,XZ,VK,Result.andThen,loadCells,loadCellsFrom,c0,c1,c2,c3,c4,c5]
theorem bn.load{w:World}{p:Addr}{c:Nat}{rs:List Bt.Rec}(h:bn w (.slice (some p) rs.length c) rs){j:Nat}(hj:j<rs.length):(loadVar 47 (p.add (j*6))).run Tryz.prog w= .ok (ny rs[j]) w:=by
 obtain⟨a,c',e,h1,h2,h3,h4⟩:=h;simp only[Value.slice.injEq]at e;obtain⟨rfl, -,rfl⟩:=e;obtain⟨-,q,hq,hc⟩:=h4 j hj;cases hq
 exact GZ hc
theorem bn.six{w:World}{p:Addr}{c:Nat}{rs:List Bt.Rec}(h:bn w (.slice (some p) rs.length c) rs){j:Nat}(hj:j<rs.length):
 w.cell? (p.add (j*6))=some (.int .i64 rs[j].off)∧w.cell? ⟨(p.add (j*6)).block,(p.add (j*6)).off+1,none⟩=some (.int .i64 rs[j].time)∧w.cell? ⟨(p.add (j*6)).block,(p.add (j*6)).off+2,none⟩=some (.bool rs[j].keyed)∧
 w.cell? ⟨(p.add (j*6)).block,(p.add (j*6)).off+3,none⟩=some (.string ⟨rs[j].key.toArray⟩)∧w.cell? ⟨(p.add (j*6)).block,(p.add (j*6)).off+4,none⟩=some (.bool rs[j].gone)∧w.cell? ⟨(p.add (j*6)).block,(p.add (j*6)).off+5,none⟩=some (.string ⟨rs[j].value.toArray⟩):=by
 obtain⟨a,c',e,h1,h2,h3,h4⟩:=h;simp only[Value.slice.injEq]at e;obtain⟨rfl, -,rfl⟩:=e;obtain⟨-,q,hq,hc⟩:=h4 j hj;cases hq
 refine⟨?_,hc 1 _ rfl,hc 2 _ rfl,hc 3 _ rfl,hc 4 _ rfl,hc 5 _ rfl⟩;have:=hc 0 _ rfl;rwa [add_zero]at this
def wS(w:World)(v:Value)(x:Bt.aX):Prop:=
 ∃sv,v= .agg #[.int .i64 x.base, .int .i64 x.fin,sv]∧bn w sv x.recs∧ -9223372036854775808≤x.base∧x.base≤9223372036854775807∧ -9223372036854775808≤x.fin∧x.fin≤9223372036854775807
theorem wf_i64{n:Int}(h:(Lit.int .i64 n).wf=true): -9223372036854775808≤n∧n≤9223372036854775807:=by
 simp only[Lit.wf,IntKind.min,IntKind.max,IntKind.signed,IntKind.bits,Bool.and_eq_true,decide_eq_true_eq]at h;have h1:=h.1;have h2:=h.2;simp at h1 h2;exact⟨h1,by omega⟩
variable {H:Type} {enc:TypeId×Value→H} {base:Nat} {spare:Nat→Bool} {held:Bool}
theorem Py{fs:Array Field}{l:List (Nat×Nat×Nat)}(h:(fs.toList.map fun f=>(f.type,f.offset,Tryz.prog.cellsOf f.type))=l){i t o k:Nat}(hi:l[i]? =some (t,o,k)):∃f:Field,fs[i]? =some f∧f.type=t∧f.offset=o∧Tryz.prog.cellsOf f.type=k:=by
 rw[←h,List.getElem?_map]at hi;cases hf:fs.toList[i]? with
 |none=>rw[hf]at hi;cases hi
 |some f=>
  rw[hf]at hi;simp only[Option.map_some,Option.some.injEq,Prod.mk.injEq]at hi;exact⟨f,by simpa using hf,hi.1,hi.2.1,hi.2.2⟩
end
section
open Go.RowKit Go.Maps
set_option maxRecDepth 100000
set_option linter.unusedSimpArgs false
set_option linter.unusedVariables false
theorem uk{a b c d:Int}(h:a=b)(k:c=d):Ending.returned (.tuple #[.int .i64 a, .int .i64 c])= .returned (.tuple #[.int .i64 b, .int .i64 d]):=by rw[h,k]
theorem BA(a b:Nat)(ha:a<9223372036854775808)(hb:b<9223372036854775808)(hab:a|||b<9223372036854775808):bits .or .i64 (a:Int) (b:Int)=((a|||b:Nat):Int):=by
 show IntKind.i64.wrap ((BitVec.ofInt 64 (a:Int)|||BitVec.ofInt 64 (b:Int)).toNat:Int)=_;rw[BitVec.toNat_or,ofInt_u64 a (by omega),ofInt_u64 b (by omega),IntWalk.i64_left,IntWalk.wrap64_in _ (by omega)]
theorem Pz(k:Nat):(2:Nat)^(7*k)=128^k:=by rw[Nat.pow_mul]
theorem or_val(bs:List UInt8)(k:Nat)(hk:k<bs.length)(h6:k<6):
 bits .or .i64 (Nu.val (bs.take k):Int) (wrap64 (wrap64 (bits .and .u8 (bs[k].toNat:Int) 127)*2^(7*k)))=((Nu.val (bs.take (k+1)):Nat):Int):=by
 have hb:=bs[k].toNat_lt;have h1:=u8_and_nat bs[k].toNat 127 (by omega) (by omega);rw[nat_mask7]at h1;have h1':bits .and .u8 (bs[k].toNat:Int) 127=((bs[k].toNat%128:Nat):Int):=h1;rw[h1',take_snoc bs k hk,Nu.Bo];have hl:(bs.take k).length=k:=by simp;omega
 have hv:=Nu.Pn (bs.take k);rw[hl]at hv⊢;have hp:128^k≤128^5:=Nat.pow_le_pow_right (by omega) (by omega);have hp':128^k≤34359738368:=hp;generalize hq:bs[k].toNat%128=q at*
 have hq1:q<128:=by omega
 have hm:q*128^k≤127*34359738368:=Nat.mul_le_mul (by omega) hp';rw[show((2:Int)^(7*k))=((128^k:Nat):Int)by rw[←Pz];simp];generalize Nu.val (bs.take k)=x at*
 rw[IntWalk.wrap64_in (q:Int) (by omega),show((q:Int)*((128^k:Nat):Int))=((q*128^k:Nat):Int)by simp];have hj:q*128^k|||x=q*128^k+x:=nat_join (7*k) _ _ (by rw[Pz];exact Nat.mul_mod_left _ _) (by rw[Pz];exact hv)
 generalize 128^k=r at*
 generalize q*r=y at*
 rw[IntWalk.wrap64_in _ (by omega),BA _ _ (by omega) (by omega) (by rw[Nat.or_comm,hj];omega),Nat.or_comm,hj];omega
theorem drop_cons(bs:List UInt8)(k:Nat)(h:k<bs.length):bs.drop k=bs[k]::bs.drop (k+1):=List.drop_eq_getElem_cons h
set_option maxHeartbeats 1000000 in
theorem get_any(w:World)(v:Value)(bs:List UInt8)(hx:BytesAt w v bs)(hl:bs.length≤9223372036854775807):
 Calls Tryz.prog 291 #[v] w fun e w'=>e= .returned (.tuple #[.int .i64 (Nu.get bs).1, .int .i64 (Nu.get bs).2])∧w=w':=by
 obtain⟨a,c,rfl,hlc,hcm,hc⟩:=hx.form;clear hx;obtain⟨m,hm⟩:∃m,m=min bs.length 6:=⟨_,rfl⟩;have hmin:∀ts t w,(Builtin.min_ ts t #[.int .i64 (bs.length:Int), .int .i64 6]).run Tryz.prog w= .ok (.int .i64 (m:Int)) w:=by
  intro ts t w;by_cases h6:6<bs.length
  ·have:(6:Int)<(bs.length:Int):=by omega
   simp[Builtin.min_,Builtin.min2,this];omega
  ·have:¬(6:Int)<(bs.length:Int):=by omega
   simp[Builtin.min_,Builtin.min2,this];omega
 have hsl:=fun w=> @JE a bs.length c m (by omega) w
 have hm6:m≤6:=by omega
 have hml:m≤bs.length:=by omega
 have HM:Hid (m=6∨m=bs.length):=by show _∨_;omega
 clear hm;go_enter Tryz.func291,Tryz.ntmps291
 go_wp2
 go_loop [2,12] (fun n i=>∃k:Nat,k≤m∧i= .int .i64 k∧n= .int .i64 (Nu.val (bs.take k))∧Nu.val (bs.take k)≤1099511627776∧Nu.get bs=Nu.nM (6-k) (bs.take k) (bs.drop k)) (fun _ i=>m-(intOf i).toNat)
 case atStart=>exact⟨0,Nat.zero_le _,rfl,rfl,by simp[Nu.val],rfl⟩
 case round=>
  obtain⟨k,hk,rfl,rfl,hv,hg⟩:=hrel;have HG:Hid (Nu.get bs=Nu.nM (6-k) (bs.take k) (bs.drop k)):=hg;clear hg;by_cases hlt:k<m
  ·obtain⟨p,rfl,hcell⟩:=hc k (by omega)
   have hb8:=bs[k].toNat_lt;clear hc;have hor:=or_val bs k (by omega) (by omega);have HS:Hid (Nu.get bs=Nu.nM (5-k+1) (bs.take k) (bs[k]::bs.drop (k+1))):=by
    show _=_;rw[HG.out,drop_cons bs k (by omega),show 6-k=5-k+1 by omega]
   have HT:Hid (bs.take k++[bs[k]]=bs.take (k+1)):=(take_snoc bs k (by omega)).symm;have HL:Hid ((bs.take k).length=k):=by show _=_;simp;omega
   have HN:Hid (bs.take k≠[]↔0<k):=by
    show _↔_;have:=HL.out;rw[List.ne_nil_iff_length_pos,this]
   by_cases hc8:128≤bs[k].toNat
   ·have HM2:Hid (Nu.get bs=Nu.nM (6-(k+1)) (bs.take (k+1)) (bs.drop (k+1))):=by
     show _=_;rw[HS.out,Nu.qM hc8,HT.out,show 5-k=6-(k+1)by omega]
    go_wp2
    ·go_ret2
     rename_i hbig _
     have hz:=Nu.Bv (6-(k+1)) (bs.take (k+1)) (bs.drop (k+1)) (by omega);exact⟨uk (by rw[HM2.out,hz];rfl) (by rw[HM2.out,hz];rfl),rfl⟩
    ·refine⟨⟨k+1,by omega,by go_num,rfl,by omega,HM2.out⟩,?_⟩
     simp only[intOf];omega
   ·have HM2:Hid (Nu.get bs=if 1099511627776<Nu.val (bs.take (k+1))∨(bs.take k≠[]∧bs[k].toNat=0)then(0,0)else(Nu.val (bs.take (k+1)),k+1)):=by
     show _=_;rw[HS.out,Nu.qN (by omega),HT.out,HL.out]
    go_wp2
    all_goals
     go_ret2
     first
      |(have hz:Nu.get bs=(0,0):=by rw[HM2.out,if_pos (.inl (by omega))]
        exact⟨uk (by rw[hz]<;>rfl) (by rw[hz]<;>rfl),rfl⟩)
      |(have hz:Nu.get bs=(0,0):=by rw[HM2.out,if_pos (.inr ⟨HN.out.2 (by omega),by omega⟩)]
        exact⟨uk (by rw[hz]<;>rfl) (by rw[hz]<;>rfl),rfl⟩)
      |(have hz:Nu.get bs=(Nu.val (bs.take (k+1)),k+1):=by
         rw[HM2.out,if_neg];rintro(h1|⟨h1,h2⟩)
         ·omega
         ·have:=HN.out.1 h1;omega
        exact⟨uk (by rw[hz]<;>rfl) (by rw[hz]<;>rfl),rfl⟩)
  ·go_wp2
   go_ret2
   have hz:Nu.get bs=(0,0):=by
    rw[HG.out];rcases HM.out with h|h
    ·rw[show 6-k=0 by omega];rfl
    ·rw[List.drop_of_length_le (by omega)];exact Nu.NK _ _
   exact⟨uk (by rw[hz]<;>rfl) (by rw[hz]<;>rfl),rfl⟩
end
end Go.Proofs.YtmjpdhpmjmgmaaaGreatDoor
