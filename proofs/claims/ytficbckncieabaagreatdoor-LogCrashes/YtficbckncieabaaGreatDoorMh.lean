/- Lemmas of the claim, part h of 14. -/
import Derived.Test.YtficbckncieabaaGreatDoorMg
import Derived.Test.YtficbckncieabaaGreatDoorMf
set_option maxHeartbeats 16000000
namespace Go.Proofs.YtficbckncieabaaGreatDoor
open Go.RowKit Go.Maps
set_option linter.unusedSimpArgs false
set_option linter.unusedVariables false
section
set_option maxRecDepth 100000
attribute [local go_sem] Oper.semAt_some
namespace Lg
theorem pR(g:Nat):∀(vs:List Value) (o:Nat) (w:World),Turn [g] w (w.setCells g o vs)
 |[],_,w=>Turn.refl _ w
 |v::r,o,w=>((Turn.refl [g] w).setCell (p:=⟨g,o,none⟩) (.inl (by simp)) v).same (pR g r (o+1) _)
theorem UT{α:Type}{T:TypeId}{n:Nat}{enc:α→List Value}{w:World}{base g l c:Nat}{xs:List α}(h:aO T n enc w base (.slice (some ⟨g,0,none⟩) l c) xs){o:Nat}(ho:xs.length*n≤o)(u:Value):aO T n enc (w.setCell ⟨g,o,none⟩ u) base (.slice (some ⟨g,0,none⟩) l c) xs:=by
 rcases h with⟨e, -⟩|⟨g',cap,cur,e,hb,hg,h1,h2,h3,h4⟩
 ·simp at e
 ·simp only[Value.slice.injEq,Option.some.injEq,Addr.mk.injEq]at e
  obtain⟨⟨rfl, -, -⟩,rfl,rfl⟩:=e;refine .inr ⟨g,c,_,rfl,hb,heap_set hg _ u,h1,by rw[Array.size_setIfInBounds];exact h2,h3,?_⟩;rw[Array.toList_setIfInBounds,List.take_set_of_le ho,h4]
theorem NR{α:Type}{T:TypeId}{n:Nat}{enc:α→List Value}{base g l c:Nat}{xs:List α}:∀(vs:List Value) (o:Nat) (w:World),aO T n enc w base (.slice (some ⟨g,0,none⟩) l c) xs→xs.length*n≤o→aO T n enc (w.setCells g o vs) base (.slice (some ⟨g,0,none⟩) l c) xs
 |[],_,_,h,_=>h
 |v::r,o,w,h,ho=>NR r (o+1) _ (UT h ho v) (by omega)
theorem SI{w:World}{base g l c:Nat}{rs:List Bt.Rec}(h:aO 52 6 recC w base (.slice (some ⟨g,0,none⟩) l c) rs){i:Nat}(hi:i<rs.length)(r:Bt.Rec):aO 52 6 recC (w.setCells g (i*6) (recC r)) base (.slice (some ⟨g,0,none⟩) l c) (rs.set i r):=by
 have h0:=h.set bH (j:=i) (i:=0) hi (by omega) (u:= .int .i64 r.off) (x':={rs[i]with off:=r.off}) rfl;have h1:=h0.set bH (j:=i) (i:=1) (by simpa using hi) (by omega) (u:= .int .i64 r.time) (x':={rs[i]with off:=r.off,time:=r.time}) (by simp[recC]);have h2:=h1.set bH (j:=i) (i:=2) (by simpa using hi) (by omega) (u:= .bool r.keyed) (x':={rs[i]with off:=r.off,time:=r.time,keyed:=r.keyed}) (by simp[recC]);have h3:=h2.set bH (j:=i) (i:=3) (by simpa using hi) (by omega) (u:=eU r.key) (x':={rs[i]with off:=r.off,time:=r.time,keyed:=r.keyed,key:=r.key}) (by simp[recC]);have h4:=h3.set bH (j:=i) (i:=4) (by simpa using hi) (by omega) (u:= .bool r.gone) (x':={rs[i]with off:=r.off,time:=r.time,keyed:=r.keyed,key:=r.key,gone:=r.gone}) (by simp[recC]);have h5:=h4.set bH (j:=i) (i:=5) (by simpa using hi) (by omega) (u:=eU r.value) (x':=r) (by simp[recC]);simp only[List.set_set]at h5;exact h5
def VD(B0 B1 B2:Nat):Value:= .func (.func 76) #[] #[.pointer (some ⟨B0,0,none⟩), .pointer (some ⟨B1,0,none⟩), .pointer (some ⟨B2,0,none⟩)]
theorem Ph(w:World)(B0 B1 B2 mb n:Nat)(f:List UInt8→Int)(now ak:Int)(hb:mV w B0 B1 B2 mb n f now ak)(base:Nat)(a:Option Addr)(c:Nat)(rs:List Bt.Rec)(h:aO 52 6 recC w base (.slice a rs.length c) rs)(ok:∀r∈rs,iQ r)(hl:rs.length≤1000000):
 Calls Tryz.prog 153 #[.slice a rs.length c,VD B0 B1 B2] w fun e w'=>((e= .returned (.int .i64 (-1))∧∀j (h:j<rs.length),jf f now ak rs[j]=false)∨∃k:Nat,e= .returned (.int .i64 k)∧∃h:k<rs.length,jf f now ak rs[k]=true∧∀j (h:j<rs.length),j<k→jf f now ak rs[j]=false)∧Turn [] w w':=by
 have HB:=hide hb;have H:=hide h;have xq:=hide ok;clear hb h ok;unfold VD;go_enter Tryz.func153,Tryz.ntmps153
 go_wp2
 go_loopw [8] (fun kv wr=>∃k:Nat,k≤rs.length∧kv= .int .i64 k∧(∀j (h:j<rs.length),j<k→jf f now ak rs[j]=false)∧Turn [] w wr) (fun kv _=>rs.length-(intOf kv).toNat)
 case atStart=>exact⟨0,Nat.zero_le _,rfl,fun j _ h=>absurd h (by omega),Turn.refl _ _⟩
 case round=>
  obtain⟨k,hk,rfl,aan,htw⟩:=hrel;have nX:=hide aan;have dO:=hide htw;clear aan htw;by_cases hlt:k<rs.length
  ·have Pe:=H.out.still dO.out
   obtain⟨g,cap,e,hc, -⟩:=Pe.at bH hlt;simp only[Value.slice.injEq,true_and]at e;obtain⟨rfl,rfl⟩:=e;obtain⟨r,hr⟩:∃r,r=rs[k]:=⟨_,rfl⟩;rw[←hr]at hc;have q0:wr.cell? ⟨g,k*6,none⟩=some (.int .i64 r.off):=hc 0 (by omega);have q1:wr.cell? ⟨g,k*6+1,none⟩=some (.int .i64 r.time):=hc 1 (by omega);have q2:wr.cell? ⟨g,k*6+2,none⟩=some (.bool r.keyed):=hc 2 (by omega);have q3:wr.cell? ⟨g,k*6+3,none⟩=some (eU r.key):=hc 3 (by omega);have q4:wr.cell? ⟨g,k*6+4,none⟩=some (.bool r.gone):=hc 4 (by omega);have q5:wr.cell? ⟨g,k*6+5,none⟩=some (eU r.value):=hc 5 (by omega);unfold eU at q3 q5;have hgo:=FC wr B0 B1 B2 mb n f now ak (HB.out.still dO.out) r (xq.out r (by rw[hr];exact List.getElem_mem _));have NT:=hide hgo;have HR:=hide hr;clear Pe hr hgo hc;have hki:(k:Int)<rs.length:=by omega
   go_wp2_with fail
   refine NT.out.mono ?_;rintro e w2 ⟨rfl,ht2⟩;have HT2:=hide (dO.out.same ht2);clear ht2 NT q0 q1 q2 q3 q4 q5;cases hg:jf f now ak r
   ·have HG:=hide hg
    clear hg;go_wp2
    all_goals refine⟨⟨k+1,by omega,by go_num,fun j hj hjk=>?_,HT2.out⟩,?_⟩
    ·by_cases e:j<k
     ·exact nX.out j hj e
     ·obtain rfl:j=k:=by omega
      rw[←HR.out];exact HG.out
    ·simp only[intOf];omega
   ·have HG:=hide hg
    clear hg;go_wp2
    go_ret
    exact⟨.inr ⟨k,rfl,hlt,by rw[←HR.out];exact HG.out,nX.out⟩,HT2.out⟩
  ·obtain rfl:k=rs.length:=by omega
   go_wp2
   go_ret
   exact⟨.inl ⟨rfl,fun j hj=>nX.out j hj hj⟩,dO.out⟩
theorem mV.Zi{w w':World}{B0 B1 B2 mb n g:Nat}{f:List UInt8→Int}{now ak:Int}(h:mV w B0 B1 B2 mb n f now ak)(ht:Turn [g] w w'){cs:Array Value}{fr:Nat×Nat}(e:w.heap[g]? =some (.cells cs 52 fr)):mV w' B0 B1 B2 mb n f now ak:=by
 have hne:∀{k:Nat} {c2:Array Value} {T:TypeId} {f2:Nat×Nat},w.heap[k]? =some (.cells c2 T f2)→T≠52→k∉[g]:=fun {k c2 T f2} e2 hT hm=>by
  obtain rfl:=List.mem_singleton.1 hm;rw[e]at e2;simp at e2;exact hT e2.2.1.symm
 refine⟨ht.heap h.b0 (hne h.b0 (by decide)),ht.heap h.b1 (hne h.b1 (by decide)),ht.heap h.b2 (hne h.b2 (by decide)),h.map.kept ht (fun hm=>?_)⟩;obtain rfl:=List.mem_singleton.1 hm;obtain⟨D,⟨es,clock,hb, -⟩, -⟩:=h.map;rw[hb]at e;simp at e
theorem Zj(w:World):(zeroValue 52).run Tryz.prog w= .ok (.agg #[.int .i64 0, .int .i64 0, .bool false, .string ⟨#[]⟩, .bool false, .string ⟨#[]⟩]) w:=by kernel_rfl
def Ue:Value:= .agg #[.int .i64 0, .int .i64 0, .bool false, .string ⟨#[]⟩, .bool false, .string ⟨#[]⟩]
theorem Pj(w:World)(g o n c:Nat)(ty:TypeId)(hn:0<n)(hc:∀j,j<n*6→(w.cell? ⟨g,o+j,none⟩).isSome=true)(hf:∀j,j<n*6→w.frozen? ⟨g,o+j,none⟩=false):
 (Builtin.clear_ #[34] ty #[.slice (some ⟨g,o,none⟩) n c]).run Tryz.prog w= .ok (.tuple #[]) (w.setCells g o (Builtin.zeroCells Ue.cells n).toList):=by
 have hsz:Ue.cells.size=6:=by rfl
 have adK:∀v∈Ue.cells.toList,v.oneCell'=true:=by decide
 have hl:(Builtin.zeroCells Ue.cells n).toList.length=n*6:=by
  rw[Array.length_toList,size_zeroCells,hsz]
 have hst:=run_storeCells_cells (P:=Tryz.prog) g o (Builtin.zeroCells Ue.cells n).toList 0 w (by rw[hl];simpa using hc) (by rw[hl];simpa using hf) (by
  intro v hv;unfold Builtin.zeroCells at hv;rw[Array.toList_map,List.mem_map]at hv;obtain⟨i, -,rfl⟩:=hv;have hi:i%Ue.cells.size<Ue.cells.size:=Nat.mod_lt _ (by rw[hsz];omega);rw[getElem!_pos Ue.cells _ hi];exact adK _ (by simp))
 simp only[Nat.add_zero]at hst;obtain⟨m,rfl⟩:∃m,n=m+1:=⟨n-1,by omega⟩;have hz:=fun w=>Zj w
 rw[show(Value.agg #[.int .i64 0, .int .i64 0, .bool false, .string ⟨#[]⟩, .bool false, .string ⟨#[]⟩])=Ue from rfl]at hz;simp[Builtin.clear_,run_underlying Tryz.underlying34,hz,hst]
def aU(f:List UInt8→Int)(now ak:Int)(rs:List Bt.Rec):List Bt.Rec:=rs.filter (fun r=> !jf f now ak r)
theorem DX(f:List UInt8→Int)(now ak:Int)(rs:List Bt.Rec){j:Nat}(h:j<rs.length):aU f now ak (rs.take (j+1))=if jf f now ak rs[j]then aU f now ak (rs.take j)else aU f now ak (rs.take j)++[rs[j]]:=by
 unfold aU;rw[List.take_succ_eq_append_getElem h,List.filter_append];cases hg:jf f now ak rs[j]<;>simp[hg]
theorem FD(f:List UInt8→Int)(now ak:Int)(rs:List Bt.Rec)(k:Nat)(h:∀j (h:j<rs.length),j<k→jf f now ak rs[j]=false):aU f now ak (rs.take k)=rs.take k:=by
 unfold aU;rw[List.filter_eq_self];intro r hr;obtain⟨j,hj,e⟩:=List.mem_iff_getElem.1 hr;rw[List.length_take]at hj;rw[List.getElem_take]at e;rw[←e,h j (by omega) (by omega)];rfl
theorem Ls(w:World)(B0 B1 B2 mb n:Nat)(f:List UInt8→Int)(now ak:Int)(hb:mV w B0 B1 B2 mb n f now ak)(base:Nat)(a:Option Addr)(c:Nat)(rs:List Bt.Rec)(h:aO 52 6 recC w base (.slice a rs.length c) rs)(ok:∀r∈rs,iQ r)(hl:rs.length≤1000000):
 Calls Tryz.prog 112 #[.slice a rs.length c,VD B0 B1 B2] w fun e w'=>e= .returned (.slice a (aU f now ak rs).length c)∧aO 52 6 recC w' base (.slice a (aU f now ak rs).length c) (aU f now ak rs)∧Turn (Value.slice a rs.length c).ownBlock.toList w w':=by
 have hix:=Ph w B0 B1 B2 mb n f now ak hb base a c rs h ok hl;obtain⟨a',c',e',hlc,hcm⟩:=h.form;simp only[Value.slice.injEq,true_and]at e';obtain⟨rfl,rfl⟩:=e';have hmx:maxLen=9223372036854775807:=by simp[maxLen]
 rw[hmx]at hcm;have HB:=hide hb;have H:=hide h;have xq:=hide ok;have HIX:=hide hix;clear hb h ok hix;unfold VD at*;go_enter Tryz.func112,Tryz.ntmps112
 go_wp2_with fail
 refine HIX.out.mono ?_;rintro e w1 ⟨⟨rfl,aan⟩|⟨k,rfl,hk,hgk,aan⟩,ht1⟩
 ·have hst:aU f now ak rs=rs:=by
   have:=FD f now ak rs rs.length (fun j hj _=>aan j hj);rwa [List.take_length]at this
  have HT1:=hide ht1;clear HIX aan ht1;go_wp2
  go_ret
  rw[hst];exact⟨rfl,H.out.still HT1.out,HT1.out.mono (by simp)⟩
 ·obtain⟨g,cap,e, -, -⟩:=H.out.at bH hk
  simp only[Value.slice.injEq,true_and]at e;obtain⟨rfl,rfl⟩:=e;have hs1:=DX f now ak rs hk;rw[hgk,if_pos rfl,FD f now ak rs k aan]at hs1;have HS1:=hide hs1;have HT1:=hide ht1;have hkn:¬((k:Int)= -1):=by omega
  clear HIX aan ht1 hs1;go_wp2
  have hgw:=H.out.still HT1.out;obtain⟨cur,SK⟩:∃cur,w1.heap[g]? =some (.cells cur 52 (0,0)):=by
   rcases hgw with⟨e, -⟩|⟨g',cap',cur,e, -,hg, -⟩
   ·simp at e
   ·simp only[Value.slice.injEq,Option.some.injEq,Addr.mk.injEq,true_and]at e
    obtain⟨⟨rfl, -⟩, -⟩:=e;exact⟨cur,hg⟩
  have HGW:=hide hgw;have aoR:=hide SK;have HBW:=hide (HB.out.still HT1.out);clear hgw SK;go_loopw [5,6] (fun iv jv wr=>∃(j:Nat) (mid:List Bt.Rec),k+1≤j∧j≤rs.length∧jv= .int .i64 j∧iv= .int .i64 ((aU f now ak (rs.take j)).length:Nat)∧aO 52 6 recC wr base (.slice (some ⟨g,0,none⟩) rs.length c) (aU f now ak (rs.take j)++mid++rs.drop j)∧(aU f now ak (rs.take j)).length+mid.length=j∧0<mid.length∧Turn [g] w1 wr) (fun _ jv _=>rs.length-(intOf jv).toNat)
  case atStart=>
   refine⟨k+1,[rs[k]],Nat.le_refl _,hk,by go_num,?_,?_,?_,by simp,Turn.refl _ _⟩
   ·rw[HS1.out,List.length_take,Nat.min_eq_left (by omega)]
   ·rw[HS1.out,List.append_assoc,List.singleton_append,←List.drop_eq_getElem_cons hk,List.take_append_drop]
    exact HGW.out
   ·rw[HS1.out,List.length_take,Nat.min_eq_left (by omega)]
    rfl
  case round=>
   obtain⟨j,mid,hkj,hj,rfl,rfl,Pe,aah,ahD,htw⟩:=hrel;have hLl:(aU f now ak (rs.take j)++mid++rs.drop j).length=rs.length:=by simp;omega
   obtain⟨S,hS⟩:∃S,S=aU f now ak (rs.take j):=⟨_,rfl⟩;rw[←hS]at Pe aah hLl⊢;have HS:=hide hS;have dI:=hide Pe;have dO:=hide htw;have acO:=hide aah;clear hS htw aah;by_cases hlt:j<rs.length
   ·have hjL:j<(S++mid++rs.drop j).length:=by rw[hLl];exact hlt
    obtain⟨g',cap',e,hc, -⟩:=Pe.at bH hjL;simp only[Value.slice.injEq,Option.some.injEq,Addr.mk.injEq,and_true]at e;obtain⟨rfl, -,rfl⟩:=e;obtain⟨r,hr⟩:∃r,r=rs[j]:=⟨_,rfl⟩;have hLj:(S++mid++rs.drop j)[j]'hjL=r:=by
     rw[List.getElem_append_right (by rw[List.length_append,acO.out];exact Nat.le_refl _)];simp[acO.out,hr]
    rw[hLj]at hc;have q0:wr.cell? ⟨g,j*6,none⟩=some (.int .i64 r.off):=hc 0 (by omega);have q1:wr.cell? ⟨g,j*6+1,none⟩=some (.int .i64 r.time):=hc 1 (by omega);have q2:wr.cell? ⟨g,j*6+2,none⟩=some (.bool r.keyed):=hc 2 (by omega);have q3:wr.cell? ⟨g,j*6+3,none⟩=some (eU r.key):=hc 3 (by omega);have q4:wr.cell? ⟨g,j*6+4,none⟩=some (.bool r.gone):=hc 4 (by omega);have q5:wr.cell? ⟨g,j*6+5,none⟩=some (eU r.value):=hc 5 (by omega);unfold eU at q3 q5;have zg:=(Pe.lt g (by simp[Value.ownBlock])).2;have hta:Turn [] wr (wr.alloc (.cells (recC r).toArray 52)):=(Turn.refl _ _).alloc _;have hgo:=FC _ B0 B1 B2 mb n f now ak ((HBW.out.Zi dO.out aoR.out).still hta) r (xq.out r (by rw[hr];exact List.getElem_mem _));have hsn:=DX f now ak rs hlt;rw[←hr,←HS.out]at hsn;unfold recC eU at hgo;have NT:=hide hgo;have xJ:=hide hsn;have HR:=hide hr;clear Pe hc hLj hjL hgo hr hsn hta hLl;go_wp2_with fail
    refine NT.out.mono ?_;rintro e w2 ⟨rfl,ht2⟩;have HT2:=hide (((Turn.refl [] wr).alloc (.cells #[.int .i64 r.off, .int .i64 r.time, .bool r.keyed, .string ⟨r.key.toArray⟩, .bool r.gone, .string ⟨r.value.toArray⟩] 52)).same ht2);have hbx:=ht2.heap (ai wr (.cells #[.int .i64 r.off, .int .i64 r.time, .bool r.keyed, .string ⟨r.key.toArray⟩, .bool r.gone, .string ⟨r.value.toArray⟩] 52)) (by simp);clear ht2 NT q0 q1 q2 q3 q4 q5;cases hg:jf f now ak r
    ·have HG:=hide hg
     clear hg;have p0:w2.cell? ⟨wr.heap.size,0,none⟩=some (.int .i64 r.off):=by simpa using cell_of hbx 0
     have p1:w2.cell? ⟨wr.heap.size,1,none⟩=some (.int .i64 r.time):=by simpa using cell_of hbx 1
     have p2:w2.cell? ⟨wr.heap.size,2,none⟩=some (.bool r.keyed):=by simpa using cell_of hbx 2
     have p3:w2.cell? ⟨wr.heap.size,3,none⟩=some (.string ⟨r.key.toArray⟩):=by simpa using cell_of hbx 3
     have p4:w2.cell? ⟨wr.heap.size,4,none⟩=some (.bool r.gone):=by simpa using cell_of hbx 4
     have p5:w2.cell? ⟨wr.heap.size,5,none⟩=some (.string ⟨r.value.toArray⟩):=by simpa using cell_of hbx 5
     have hil:((S.length:Nat):Int)<rs.length:=by have:=acO.out;omega
     obtain⟨m0,mt,hmd⟩:∃m0 mt,mid=m0::mt:=by
      cases mid with
      |nil=>exact absurd ahD (by simp)
      |cons m0 mt=>exact⟨m0,mt,rfl⟩
     subst hmd;have aaC:=dI.out.still HT2.out;have Xk:S.length<(S++(m0::mt)++rs.drop j).length:=by rw[List.length_append,List.length_append,List.length_cons];omega
     obtain⟨g',cap',e,hc,hfz⟩:=aaC.at bH Xk;simp only[Value.slice.injEq,Option.some.injEq,Addr.mk.injEq,and_true]at e;obtain⟨rfl, -,rfl⟩:=e;have hLS:(S++(m0::mt)++rs.drop j)[S.length]'Xk=m0:=by
      rw[List.getElem_append_left (by simp),List.getElem_append_right (Nat.le_refl _)];simp
     rw[hLS]at hc;have t0:w2.cell? ⟨g,S.length*6,none⟩=some (.int .i64 m0.off):=hc 0 (by omega);have t1:w2.cell? ⟨g,S.length*6+1,none⟩=some (.int .i64 m0.time):=hc 1 (by omega);have t2:w2.cell? ⟨g,S.length*6+2,none⟩=some (.bool m0.keyed):=hc 2 (by omega);have t3:w2.cell? ⟨g,S.length*6+3,none⟩=some (eU m0.key):=hc 3 (by omega);have t4:w2.cell? ⟨g,S.length*6+4,none⟩=some (.bool m0.gone):=hc 4 (by omega);have t5:w2.cell? ⟨g,S.length*6+5,none⟩=some (eU m0.value):=hc 5 (by omega);have f0:=hfz (S.length*6);have f1:=hfz (S.length*6+1);have f2:=hfz (S.length*6+2);have f3:=hfz (S.length*6+3);have f4:=hfz (S.length*6+4);have f5:=hfz (S.length*6+5);have zg2:=(aaC.lt g (by simp[Value.ownBlock])).2;have aa4:=SI aaC Xk r;have hst:aU f now ak (rs.take (j+1))=S++[r]:=by rw[xJ.out,HG.out];rfl
     have heq:(S++(m0::mt)++rs.drop j).set S.length r=(S++[r])++(mt++[r])++rs.drop (j+1):=by
      rw[List.append_assoc,List.set_append_right _ _ (Nat.le_refl _),Nat.sub_self,List.cons_append,List.set_cons_zero,List.drop_eq_getElem_cons hlt,←HR.out];simp
     rw[heq]at aa4;have xN:=hide aa4;have HST:=hide hst;have HT3:=hide (dO.out.same ((HT2.out.mono (T:=[g]) (by simp)).same (pR g (recC r) (S.length*6) w2)));clear aaC Xk hc hfz hLS aa4 hst heq;go_wp2
     go_roundw
     case rel=>
      have hln:(S++[r]).length+(mt++[r]).length=j+1:=by
       have:=acO.out;rw[List.length_cons]at this;simp only[List.length_append,List.length_singleton];omega
      repeat apply Exists.intro
      exact⟨⟨j+1,mt++[r],by omega,by omega,by go_num,by rw[HST.out,List.length_append,List.length_singleton];go_num,by rw[HST.out];exact xN.out,by rw[HST.out];exact hln,by simp,HT3.out⟩,rfl⟩
     case measure=>simp[intOf];omega
    ·have hst:aU f now ak (rs.take (j+1))=S:=by rw[xJ.out,hg];rfl
     have aaC:=dI.out.still HT2.out;have heq:S++mid++rs.drop j=S++(mid++[r])++rs.drop (j+1):=by
      rw[List.drop_eq_getElem_cons hlt,←HR.out];simp
     rw[heq]at aaC;have IW:=hide aaC;have HST:=hide hst;clear hg hst aaC heq;go_wp2
     go_roundw
     case rel=>
      have hln:S.length+(mid++[r]).length=j+1:=by
       have:=acO.out;rw[List.length_append,List.length_singleton];omega
      repeat apply Exists.intro
      exact⟨⟨j+1,mid++[r],by omega,by omega,by go_num,by rw[HST.out],by rw[HST.out];exact IW.out,by rw[HST.out];exact hln,by simp,dO.out.same (HT2.out.mono (by simp))⟩,rfl⟩
     case measure=>simp[intOf];omega
   ·obtain rfl:j=rs.length:=by omega
    have hS':=HS.out;rw[List.take_length]at hS';rw[List.drop_length,List.append_nil]at dI;have hSn:S.length<rs.length:=by have:=acO.out;omega
    obtain⟨zs,hzs⟩:∃zs,zs=(Builtin.zeroCells Ue.cells (rs.length-S.length)).toList:=⟨_,rfl⟩;have hcl:∀ty,(Builtin.clear_ #[34] ty #[.slice (some ⟨g,S.length*6,none⟩) (rs.length-S.length) (c-S.length)]).run Tryz.prog wr= .ok (.tuple #[]) (wr.setCells g (S.length*6) zs):=by
     rw[hzs];intro ty;have hin:∀o,o<rs.length*6→(wr.cell? ⟨g,o,none⟩).isSome=true∧wr.frozen? ⟨g,o,none⟩=false:=by
      intro o ho;rcases dI.out with⟨e, -⟩|⟨g',cap',cur,e,hb,hg,h1,h2,h3,h4⟩
      ·simp at e
      ·simp only[Value.slice.injEq,Option.some.injEq,Addr.mk.injEq,true_and]at e
       obtain⟨⟨rfl, -⟩,e2,rfl⟩:=e;refine⟨?_,au hg _⟩;rw[cell_of hg,Array.getElem?_eq_getElem (by omega)];rfl
     exact Pj wr g (S.length*6) (rs.length-S.length) _ ty (by omega) (fun j hj=>(hin _ (by omega)).1) (fun j hj=>(hin _ (by omega)).2)
    have hcn:¬c=S.length:=by omega
    have hsl:((S.length:Nat):Int)≤(rs.length:Int):=by omega
    have aoE:((S.length:Nat):Int)≤(c:Int):=by omega
    have VE:aO 52 6 recC wr base (.slice (some ⟨g,0,none⟩) S.length c) S:=by
     rcases dI.out with⟨e, -⟩|⟨g',cap',cur,e,hb,hg,h1,h2,h3,h4⟩
     ·simp at e
     ·simp only[Value.slice.injEq,Option.some.injEq,Addr.mk.injEq,true_and]at e
      obtain⟨⟨rfl, -⟩,e2,rfl⟩:=e;refine .inr ⟨g,c,cur,rfl,hb,hg,by omega,h2,h3,?_⟩;have e1:((S++mid).flatMap recC).take (S.length*6)=S.flatMap recC:=by
       rw[List.flatMap_append,List.take_append_of_le_length (by rw[bM bH];exact Nat.le_refl _),List.take_of_length_le (by rw[bM bH];exact Nat.le_refl _)]
      rw[←e1,←h4,List.take_take,Nat.min_eq_left (by rw[List.length_append];omega)]
    have aar:=NR zs (S.length*6) wr VE (Nat.le_refl _);have jK:=hide aar;have Ud:=hide ((HT1.out.mono (T:=[g]) (by simp)).same (dO.out.same (pR g zs (S.length*6) wr)));have HSE:=hide hS';clear Pe hLl VE aar hS' dI hzs;go_wp2
    go_ret
    rw[←HSE.out];exact⟨rfl,jK.out,Ud.out.mono (by simp[Value.ownBlock])⟩
end Lg
end
section
set_option maxRecDepth 100000
attribute [local go_sem] Oper.semAt_some
open Dk (DA aj Parts dA aC bQ)
open Sg (aS aA dV Both Came ae flat Chain iG BV dK oH empty_any)
namespace Lg
theorem Pm(w:World)(base d:Nat)(F:List Nat)(A:DA)(sb:Nat)(sv:Value)(file:ByteArray)(b0:Int)(ps:List Sg.Pl)(h:Both w base d F A sb sv file b0 ps)(hfs:file.size≤maxLen)(c:Int):
 Calls Tryz.prog 156 #[.pointer (some ⟨sb,0,none⟩),aC c] w fun e w'=>
  e= .returned (aC (if (A.remove file.data.toList).1≠0 then(A.remove file.data.toList).1 else c))∧dA w w' base d F (A.remove file.data.toList).2:=by
 have hrm:=Sg.kN w base d F A sb sv file b0 ps h hfs;have Yi:=hide hrm;clear hrm h;obtain⟨er,her⟩:∃er,aC c=er:=⟨_,rfl⟩;rw[her];have QX:=hide her;clear her;obtain⟨q,hq⟩:∃q,q=(A.remove file.data.toList).1:=⟨_,rfl⟩;rw[←hq]at Yi⊢;go_enter Tryz.func156,Tryz.ntmps156
 go_wp2_with fail
 refine Yi.out.mono ?_;rintro e w1 ⟨rfl,hd⟩;have HD:=hide hd;clear hd Yi hq;by_cases h0:q=0
 ·have hr:aC q= .nilIface:=by rw[h0];rfl
  rw[hr];have H0:=hide h0;clear hr h0;go_wp2
  go_ret
  all_goals first|exact absurd H0.out ‹_› |(rw[QX.out];exact⟨rfl,HD.out⟩)
 ·have hr:aC q= .iface 45 (.int .i64 q):=by unfold aC;rw[if_neg h0];rfl
  rw[hr];have HR:=hide hr;have H0:=hide h0;clear hr h0;go_wp2
  go_ret
  all_goals first|(rw[HR.out];exact⟨rfl,HD.out⟩)|exact absurd ‹_› H0.out
def dC(nm:List UInt8)(b0:Int):DA→List Bt.aB→List Bt.aB→Int×DA×List Bt.aB
 |A,dn,[]=>(0,A,dn)
 |A,dn,x::r=>if Bt.aQ x≠0 then(Bt.aQ x,A,dn)else if x.base<ae b0 dn then(10,A,dn)else
   if (A.add nm (Bt.ah x)).1≠0 then((A.add nm (Bt.ah x)).1,(A.add nm (Bt.ah x)).2,dn)else dC nm b0 (A.add nm (Bt.ah x)).2 (dn++[x]) r
def replaceS(A:DA)(nm:List UInt8)(tn:ByteArray)(b0:Int)(xs:List Bt.aB):Int×DA×List Bt.aB:=
 if (dC nm b0 A [] xs).1≠0 then dC nm b0 A [] xs else
 if ((dC nm b0 A [] xs).2.1.sync nm).1≠0 then(((dC nm b0 A [] xs).2.1.sync nm).1,((dC nm b0 A [] xs).2.1.sync nm).2,(dC nm b0 A [] xs).2.2)else
 ((((dC nm b0 A [] xs).2.1.sync nm).2.rename nm tn).1,(((dC nm b0 A [] xs).2.1.sync nm).2.rename nm tn).2,(dC nm b0 A [] xs).2.2)
def Qu(w w':World)(base d:Nat)(F:List Nat)(A':DA)(sb:Nat)(sv:Value)(file:ByteArray)(b0:Int)(xs:List Bt.aB):Prop:=
 ∃F' sv',Both w' base d F' A' sb sv' file b0 (dV 0 (-1) xs)∧Turn (F++aA sb sv) w w'∧(∀k∈F',k∈F∨w.heap.size≤k)∧∀k∈aA sb sv',k∈aA sb sv∨w.heap.size≤k
theorem Qu.Cc{w w1 w2:World}{base d sb:Nat}{F:List Nat}{A':DA}{sv:Value}{file:ByteArray}{b0:Int}{xs:List Bt.aB}(h:Qu w w1 base d F A' sb sv file b0 xs)(ht:Turn [] w1 w2):Qu w w2 base d F A' sb sv file b0 xs:=by
 obtain⟨F',sv',hb,ht1,hf,hs⟩:=h;exact⟨F',sv',hb.still ht,ht1.same (ht.mono (by simp)),hf,hs⟩
theorem Qu.uq{w w1 w2:World}{base d sb:Nat}{F F1:List Nat}{A1:DA}{sv sv1:Value}{file:ByteArray}{b0:Int}{xs1:List Bt.aB}(ht:Turn (F++aA sb sv) w w1)(hf:∀k∈F1,k∈F∨w.heap.size≤k)(hs:∀k∈aA sb sv1,k∈aA sb sv∨w.heap.size≤k)
 (h:Came w1 w2 base d F1 A1 sb sv1 file b0 (dV 0 (-1) xs1)):Qu w w2 base d F A1 sb sv file b0 xs1:=by
 obtain⟨F',sv',hb,ht1,hf1,hs1⟩:=h;refine⟨F',sv',hb,ht.trans ht1 (fun k hk=>?_),fun k hk=>(hf1 k hk).elim (hf k) (fun h=> .inr (Nat.le_trans ht.size h)),fun k hk=>(hs1 k hk).elim (hs k) (fun h=> .inr (Nat.le_trans ht.size h))⟩;rcases List.mem_append.1 hk with hk|hk
 ·exact(hf k hk).imp_left (List.mem_append_left _)
 ·exact(hs k hk).imp_left (List.mem_append_right _)
theorem Pn{w wr wa w3:World}{base d sb:Nat}{F Fk:List Nat}{A Ak:DA}{sv Uf:Value}{file:ByteArray}{b0:Int}{xs dn r:List Bt.aB}{x:Bt.aB}{e:Ending}
 (hB:Both wr base d Fk Ak sb Uf file b0 (dV 0 (-1) dn))(ht:Turn (F++aA sb sv) w wr)(hf:∀k∈Fk,k∈F∨w.heap.size≤k)(hs:∀k∈aA sb Uf,k∈aA sb sv∨w.heap.size≤k)
 (h0:dC file.data.toList b0 A [] xs=dC file.data.toList b0 Ak dn (x::r))(hal:Turn [] wr wa)
 (ho:(Bt.aQ x≠0∧e= .returned (aC (Bt.aQ x))∧Turn [] wa w3)∨(Bt.aQ x=0∧x.base<Sg.o7 b0 (dV 0 (-1) dn)∧e= .returned (aC 10)∧Turn [] wa w3)∨
   (Bt.aQ x=0∧Sg.o7 b0 (dV 0 (-1) dn)≤x.base∧e= .returned (aC (Ak.add file.data.toList (Bt.ah x)).1)∧Came wa w3 base d Fk (Ak.add file.data.toList (Bt.ah x)).2 sb Uf file b0 (Sg.OW (Ak.add file.data.toList (Bt.ah x)).1 (dV 0 (-1) dn) (Sg.Ru (dV 0 (-1) dn) x)))):
 (∃q Aq,q≠0∧e= .returned (aC q)∧Qu w w3 base d F Aq sb sv file b0 dn∧dC file.data.toList b0 A [] xs=(q,Aq,dn))∨
 (e= .returned .nilIface∧∃A' F' sv',Both w3 base d F' A' sb sv' file b0 (dV 0 (-1) (dn++[x]))∧Turn (F++aA sb sv) w w3∧(∀k∈F',k∈F∨w.heap.size≤k)∧(∀k∈aA sb sv',k∈aA sb sv∨w.heap.size≤k)∧dC file.data.toList b0 A [] xs=dC file.data.toList b0 A' (dn++[x]) r):=by
 have hta:Turn (F++aA sb sv) w wa:=ht.same (hal.mono (by simp));have hst:Qu w wr base d F Ak sb sv file b0 dn:=⟨Fk,Uf,hB,ht,hf,hs⟩;generalize dC file.data.toList b0 A [] xs=L at h0⊢
 unfold dC at h0;rw[Sg.qy]at ho;rcases ho with⟨h1,rfl,h3⟩|⟨h1,h2,rfl,h3⟩|⟨h1,h2,rfl,h3⟩
 ·rw[if_pos h1]at h0
  exact .inl ⟨_,_,h1,rfl,hst.Cc (hal.same h3),h0⟩
 ·rw[if_neg (by rw[h1];simp),if_pos h2]at h0
  exact .inl ⟨_,_,by decide,rfl,hst.Cc (hal.same h3),h0⟩
 ·rw[if_neg (by rw[h1];simp),if_neg (by omega)]at h0
  by_cases hc:(Ak.add file.data.toList (Bt.ah x)).1=0
  ·rw[if_neg (by rw[hc];simp)]at h0
   rw[hc]at h3⊢;unfold Sg.OW at h3;rw[if_pos rfl,Sg.Dx]at h3;obtain⟨F',sv',hb,ht1,hf1,hs1⟩:=Qu.uq hta hf hs h3;exact .inr ⟨rfl,_,F',sv',hb,ht1,hf1,hs1,h0⟩
  ·rw[if_pos hc]at h0
   unfold Sg.OW at h3;rw[if_neg hc]at h3;exact .inl ⟨_,_,hc,rfl,Qu.uq hta hf hs h3,h0⟩
theorem Jq(w:World)(base d:Nat)(F:List Nat)(A:DA)(sb:Nat)(sv:Value)(file:ByteArray)(b0:Int)(h:Both w base d F A sb sv file b0 [])(hfs:file.size≤maxLen)
 (ob:Nat)(rW:ByteArray)(ob0:Int)(ov:Value)(hob:w.heap[ob]? =some (.cells #[.pointer (some ⟨d,0,none⟩), .string rW, .int .i64 ob0,ov] 87 (0,0))) (aoV:ob∉F++aA sb sv) (aoW:rW.size≤maxLen)
 (rb:Nat) (lv:Value) (ys:List BV) (hb:iG w rb lv ys) (hyl:ys.length≤900000) (hfl:(flat (ys.map (·.x))).length≤1048576)
 (hbd:∀y∈ys, -9223372036854775808≤y.x.base∧y.x.base≤9223372036854775807∧ -9223372036854775808≤y.x.fin∧y.x.fin≤9223372036854775807)
 (abV:∀k,(k∈lv.ownBlock∨∃y∈ys,k∈y.sl.ownBlock)→k∉F++aA sb sv):
 Calls Tryz.prog 155 #[.pointer (some ⟨sb,0,none⟩), .pointer (some ⟨ob,0,none⟩),lv] w fun e w'=>
  e= .returned (aC (replaceS A file.data.toList rW b0 (ys.map (·.x))).1)∧Qu w w' base d F (replaceS A file.data.toList rW b0 (ys.map (·.x))).2.1 sb sv file b0 (replaceS A file.data.toList rW b0 (ys.map (·.x))).2.2:=by
 obtain⟨la,lc,hlv,KX,KY⟩:=hb.row.form;subst hlv;have hmx:maxLen=9223372036854775807:=by simp[maxLen]
 rw[hmx]at KY;have hsb:=lt_of_heap h.jh.box;have auu:=lt_of_heap hob;obtain⟨xs,hxs⟩:∃xs,xs=ys.map (fun y:BV=>y.x):=⟨_,rfl⟩;have hxl:xs.length=ys.length:=by rw[hxs,List.length_map]
 rw[←hxs]at hfl⊢;obtain⟨N,hN⟩:∃N,N=ys.length:=⟨_,rfl⟩;rw[←hN]at KX hyl hxl⊢;have HN:=hide hN;have KJ:=hide hxs;have HB:=hide hb;have H:=hide h;have HOB:=hide hob;have Jr:=hide abV;have HBD:=hide hbd;clear hN hxs hb h hob abV hbd;go_enter Tryz.func155,Tryz.ntmps155
 go_wp2
 go_loopw [13] (fun kv wr=>∃(k:Nat) (Ak:DA) (Fk:List Nat) (Uf:Value),k≤N∧kv= .int .i64 k∧Both wr base d Fk Ak sb Uf file b0 (dV 0 (-1) (xs.take k))∧Turn (F++aA sb sv) w wr∧(∀j∈Fk,j∈F∨w.heap.size≤j)∧(∀j∈aA sb Uf,j∈aA sb sv∨w.heap.size≤j)∧dC file.data.toList b0 A [] xs=dC file.data.toList b0 Ak (xs.take k) (xs.drop k)) (fun kv _=>N-(intOf kv).toNat)
 case atStart=>exact⟨0,A,F,sv,Nat.zero_le _,rfl,H.out,Turn.refl _ _,fun j hj=> .inl hj,fun j hj=> .inl hj,rfl⟩
 case round=>
  obtain⟨k,Ak,Fk,Uf,hk,rfl,hbk,htk,hfk,hsk,hak⟩:=hrel;have Ug:=hide hbk;have QV:=hide htk;have HFK:=hide hfk;have VA:=hide hsk;have Yj:=hide hak;clear hbk htk hfk hsk hak;by_cases hlt:k<N
  ·have hky:k<ys.length:=by rw[←HN.out];exact hlt
   have hkx:k<xs.length:=by rw[hxl];exact hlt
   obtain⟨y,hy⟩:∃y,y=ys[k]:=⟨_,rfl⟩;have hym:y∈ys:=by rw[hy];exact List.getElem_mem _
   have VF:=HB.out.row.kept QV.out (fun j hj=>Jr.out j (.inl hj));obtain⟨g,cap,e,hc, -⟩:=VF.at Sg.jm (j:=k) hky;rw[←HN.out]at e;simp only[Value.slice.injEq,true_and]at e;obtain⟨rfl,rfl⟩:=e;rw[←hy]at hc;have c0:wr.cell? ⟨g,k*3,none⟩=some (.int .i64 y.x.base):=hc 0 (by omega);have c1:wr.cell? ⟨g,k*3+1,none⟩=some (.int .i64 y.x.fin):=hc 1 (by omega);have c2:wr.cell? ⟨g,k*3+2,none⟩=some (.slice y.a y.n y.c):=hc 2 (by omega);have hxk:xs.drop k=y.x::xs.drop (k+1):=by
    rw[List.drop_eq_getElem_cons hkx];congr 1
    have e1:xs[k]? =some y.x:=by rw[KJ.out,List.getElem?_map,List.getElem?_eq_getElem hky,←hy];rfl
    rw[List.getElem?_eq_getElem hkx]at e1;exact Option.some.inj e1
   have aeW:xs.take (k+1)=xs.take k++[y.x]:=by
    rw[List.take_succ_eq_append_getElem hkx];rw[List.drop_eq_getElem_cons hkx]at hxk;rw[(List.cons.inj hxk).1]
   have hgr:=(HB.out.recs y hym).kept QV.out (fun j hj=>Jr.out j (.inr ⟨y,hym,hj⟩));have adu:=HB.out.recs y hym;have hal:Turn [] wr (wr.alloc (.cells #[.int .i64 y.x.base, .int .i64 y.x.fin, .slice y.a y.n y.c] 71)):=(Turn.refl [] wr).alloc _;have hpl:(dV 0 (-1) (xs.take k)).length≤999999:=by rw[Sg.gW,List.length_take];omega
   have hsz:Sg.nR (dV 0 (-1) (xs.take k))≤1099511627776:=by
    rw[Sg.dP];have h5:=congrArg List.length (Sg.qw xs k);rw[List.length_take]at h5;omega
   have abr:=Sg.add_any _ base d Fk Ak sb Uf file b0 _ (Ug.out.still hal) hfs hpl hsz (.slice y.a y.n y.c) y.x ⟨_,rfl,(eX.recs hgr (HB.out.ok y hym)).still hal,HBD.out y hym⟩ (fun j hj _=>⟨fun hm=>(HFK.out j hm).elim (fun h'=>Jr.out j (.inr ⟨y,hym,hj⟩) (List.mem_append_left _ h')) (fun h'=>by have:=(adu.lt j hj).2;omega),fun hm=>(VA.out j hm).elim (fun h'=>Jr.out j (.inr ⟨y,hym,hj⟩) (List.mem_append_right _ h')) (fun h'=>by have:=(adu.lt j hj).2;omega)⟩);have hst:=fun(e:Ending) (w3:World) ho=>Pn (xs:=xs) (A:=A) (e:=e) (w3:=w3) Ug.out QV.out HFK.out VA.out (Yj.out.trans (congrArg _ hxk)) hal ho
   rw[←aeW]at hst;have G7:=hide abr;have HST:=hide hst;clear hky hkx hy hym VF hc hxk aeW hgr adu hal hpl hsz abr hst;go_wp2_with fail
   refine G7.out.mono ?_;intro e w3 ho;obtain⟨q,Aq,hq,rfl,hr,ha⟩|⟨rfl,A',F',sv',hb',ht',hf',hs',ha'⟩:=HST.out e w3 ho
   ·have hr':aC q= .iface 45 (.int .i64 q):=by unfold aC;rw[if_neg hq];rfl
    rw[hr'];have HR':=hide hr';have HQ:=hide hq;have Xl:=hide hr;have HA:=hide ha;clear hr' hq hr ha ho G7 HST;go_wp2
    go_ret
    have e0:replaceS A file.data.toList rW b0 xs=(q,Aq,xs.take k):=by
     unfold replaceS;rw[HA.out];simp only;rw[if_pos HQ.out]
    rw[e0];refine⟨?_,Xl.out⟩;rw[HR'.out];rfl
   ·have HB':=hide hb'
    have HT':=hide ht';have HF':=hide hf';have HS':=hide hs';have HA':=hide ha';clear hb' ht' hf' hs' ha' ho G7 HST;go_wp2
    all_goals refine⟨⟨k+1,A',F',sv',by omega,by go_num,HB'.out,HT'.out,HF'.out,HS'.out,HA'.out⟩,?_⟩
    all_goals (simp only[intOf];omega)
  ·obtain rfl:k=N:=by omega
   have htl:xs.take xs.length=xs:=List.take_length;rw[←hxl]at Ug Yj;rw[htl]at Ug Yj;rw[List.drop_length]at Yj;have HA0:Hid (dC file.data.toList b0 A [] xs=(0,Ak,xs)):=hide (Yj.out.trans (by unfold dC;rfl));have hsy:=Sg.ku wr base d Fk Ak sb Uf file b0 _ Ug.out hfs;obtain⟨c,hc⟩:∃c,c=(Ak.sync file.data.toList).1:=⟨_,rfl⟩;rw[←hc]at hsy;have VG:=hide hsy;have HC:=hide hc;clear htl hsy hc Yj;go_wp2_with fail
   refine VG.out.mono ?_;rintro e wb ⟨rfl,hd⟩;obtain⟨F2,sv2,hb2,ht2,hf2,hs2⟩:=Qu.uq QV.out HFK.out VA.out (Ug.out.did hd);have Zk:=hide (ht2.heap HOB.out aoV);have HB2:=hide hb2;have HT2:=hide ht2;have HF2:=hide hf2;have HS2:=hide hs2;have hzs:=lt_of_heap hb2.jh.box;have hzo:=lt_of_heap Zk.out;clear hd hb2 ht2 hf2 hs2 VG Ug QV HFK VA;by_cases h0:c=0
   ·have hr:aC c= .nilIface:=by rw[h0];rfl
    rw[hr];have H0:=hide h0;clear hr h0;go_wp2
    refine gU 12 [] (by kernel_rfl) rfl ?_;apply Lo.r0 1 rfl 0 (by intro u;conv=>lhs;whnf) rfl
    ·intro a w1 hR e0 K hK
     go_simp
     exact hK _ rfl
    apply Lo.r1 2 rfl 29 0 (fun _=>rfl) rfl (by kernel_rfl)
    ·intro a w1 hR e29 K hK
     go_simp
     exact hK _ rfl
    apply Lo.r1 3 rfl 30 1 (fun _=>rfl) rfl (by kernel_rfl)
    ·intro a w1 hR e30 K hK
     go_simp
     exact hK _ rfl
    apply Lo.r1 4 rfl 31 2 (fun _=>rfl) rfl (by kernel_rfl)
    ·intro a w1 hR e31 K hK
     have hS:=HB2.out.jh.still hR.dr;have c0:=hS.c0;have z1:=lt_of_heap hS.box;go_simp
     exact hK _ rfl
    apply Lo.r0 5 rfl 0 (by intro u;conv=>lhs;whnf) rfl
    ·intro a w1 hR e0 K hK
     go_simp
     exact hK _ rfl
    apply Lo.r1 6 rfl 33 4 (fun _=>rfl) rfl (by kernel_rfl)
    ·intro a w1 hR e33 K hK
     go_simp
     exact hK _ rfl
    apply Lo.r1 7 rfl 34 5 (fun _=>rfl) rfl (by kernel_rfl)
    ·intro a w1 hR e34 K hK
     go_simp
     exact hK _ rfl
    apply Lo.r1 8 rfl 35 6 (fun _=>rfl) rfl (by kernel_rfl)
    ·intro a w1 hR e35 K hK
     have hS:=HB2.out.jh.still hR.dr;have c1:=hS.c1;have z1:=lt_of_heap hS.box;go_simp
     exact hK _ rfl
    apply Lo.r0 9 rfl 1 (by intro u;conv=>lhs;whnf) rfl
    ·intro a w1 hR e1 K hK
     go_simp
     exact hK _ rfl
    apply Lo.r1 10 rfl 37 8 (fun _=>rfl) rfl (by kernel_rfl)
    ·intro a w1 hR e37 K hK
     go_simp
     exact hK _ rfl
    apply Lo.r1 11 rfl 38 9 (fun _=>rfl) rfl (by kernel_rfl)
    ·intro a w1 hR e38 K hK
     go_simp
     exact hK _ rfl
    apply Lo.r1 12 rfl 39 10 (fun _=>rfl) rfl (by kernel_rfl)
    ·intro a w1 hR e39 K hK
     have hS:=hR.dr.heap Zk.out (by simp);have c1:w1.cell? ⟨ob,1,none⟩=some (.string rW):=by rw[cell_of hS];rfl
     have z1:=lt_of_heap hS;go_simp
     exact hK _ rfl
    refine Lo.done [3,7,11] (fun u w1 bI hSd hF=>?_);clear hSd;obtain⟨f3,f7,f11, -⟩:=hF;have d3:u 3=_:=f3;have d7:u 7=_:=f7;have d11:u 11=_:=f11;clear f3 f7 f11;simp only[List.take_succ_cons,List.take_zero,List.drop_succ_cons,List.drop_zero,ax,Act.put,List.setIfInBounds_toArray,List.set_cons_succ,List.set_cons_zero,Nat.zero_add,Nat.reduceAdd,d3,d7,d11];have HT:=hide bI.dr;clear d3 d7 d11 bI;go_wp2_with fail
    obtain⟨aI,Zg,hp⟩:=HB2.out.disk.kept HT.out (by simp);refine(Dk.Le hp file hfs rW aoW).mono ?_;rintro e w9 ⟨rfl,hd⟩;obtain⟨q,hq⟩:∃q,q=(((Ak.sync file.data.toList).2).rename file.data.toList rW).1:=⟨_,rfl⟩;rw[←hq];obtain⟨r,hr⟩:∃r,r=aC q:=⟨_,rfl⟩;rw[←hr];have HQ:=hide hq;have HR:=hide hr;have HD:=hide (Qu.uq HT2.out HF2.out HS2.out (HB2.out.did (Sg.ry HT.out hd)));clear hr hd hp hq;go_wp2
    go_ret
    have e0:replaceS A file.data.toList rW b0 xs=(q,(((Ak.sync file.data.toList).2).rename file.data.toList rW).2,xs):=by
     unfold replaceS;rw[HA0.out];simp only;rw[if_neg (by simp),if_neg (by rw[←HC.out,H0.out];simp),←HQ.out]
    rw[e0,HR.out];exact⟨rfl,HD.out⟩
   ·have hr:aC c= .iface 45 (.int .i64 c):=by unfold aC;rw[if_neg h0];rfl
    rw[hr];have HR:=hide hr;have H0:=hide h0;clear hr h0;go_wp2
    go_ret
    have e0:replaceS A file.data.toList rW b0 xs=(c,(Ak.sync file.data.toList).2,xs):=by
     unfold replaceS;rw[HA0.out];simp only;rw[if_neg (by simp),if_pos (by rw[←HC.out];exact H0.out),←HC.out]
    rw[e0];refine⟨?_,F2,sv2,HB2.out,HT2.out,HF2.out,HS2.out⟩;rw[HR.out];rfl
theorem Js(nm:List UInt8)(b0:Int):∀(xs dn:List Bt.aB) (A:DA),(dC nm b0 A dn xs).1=0→(dC nm b0 A dn xs).2.2=dn++xs
 |[],dn,A,_=>by unfold dC;simp
 |x::r,dn,A,h=>by
  unfold dC at h⊢;split at h
  ·contradiction
  ·rename_i h1
   rw[if_neg h1];split at h
   ·simp at h
   ·rename_i h2
    rw[if_neg h2];split at h
    ·contradiction
    ·rename_i h3
     rw[if_neg h3,Js nm b0 r (dn++[x]) _ h];simp
theorem Jt{A:DA}{nm:List UInt8}{tn:ByteArray}{b0:Int}{xs:List Bt.aB}(h:(replaceS A nm tn b0 xs).1=0):(replaceS A nm tn b0 xs).2.2=xs:=by
 unfold replaceS at h⊢;split at h
 ·contradiction
 ·rename_i h1
  rw[if_neg h1];have h0:(dC nm b0 A [] xs).2.2=xs:=Js nm b0 xs [] A (Classical.not_not.1 h1);split at h
  ·contradiction
  ·rename_i h2
   rw[if_neg h2];exact h0
def aG(A:DA)(file:ByteArray)(b0:Int)(xs:List Bt.aB):Int×DA×Bool:=
 if (eQ A (aN file)).1≠0 then((eQ A (aN file)).1,(eQ A (aN file)).2,false)else
 if (replaceS (eQ A (aN file)).2 (aN file).data.toList file b0 xs).1≠0 then
  (if ((replaceS (eQ A (aN file)).2 (aN file).data.toList file b0 xs).2.1.remove (aN file).data.toList).1≠0 then((replaceS (eQ A (aN file)).2 (aN file).data.toList file b0 xs).2.1.remove (aN file).data.toList).1 else(replaceS (eQ A (aN file)).2 (aN file).data.toList file b0 xs).1,
    ((replaceS (eQ A (aN file)).2 (aN file).data.toList file b0 xs).2.1.remove (aN file).data.toList).2,false)else
 (0,(replaceS (eQ A (aN file)).2 (aN file).data.toList file b0 xs).2.1,true)
section
variable {w w1 w3:World} {base d sb sb2:Nat} {F F1 F3:List Nat} {A A3:DA} {sv sv3:Value} {file B:ByteArray} {b0:Int} {ps ps3:List Sg.Pl}
theorem rE(h:Both w base d F A sb sv file b0 ps)(hf1:∀k∈F1,k∈F∨w.heap.size≤k)(hs2:w.heap.size≤sb2):∀k∈aA sb sv,k∉F1++aA sb2 (.slice none 0 0):=by
 intro k hk hm;have hl:=(h.jh.lt k hk).2;rcases List.mem_append.1 hm with hm|hm
 ·exact(hf1 k hm).elim (h.sep k hk) (fun h'=>by omega)
 ·simp[aA,Value.ownBlock]at hm
  omega
theorem G8(hf1:∀k∈F1,k∈F∨w.heap.size≤k)(hs2:w.heap.size≤sb2):∀k∈F1++aA sb2 (.slice none 0 0),k∈F++aA sb sv∨w.heap.size≤k:=by
 intro k hm;rcases List.mem_append.1 hm with hm|hm
 ·exact(hf1 k hm).imp_left (List.mem_append_left _)
 ·simp[aA,Value.ownBlock]at hm
  exact .inr (by omega)
theorem Po(h:Both w base d F A sb sv file b0 ps)(ht1:Turn F w w1)(hf1:∀k∈F1,k∈F∨w.heap.size≤k)(hs2:w.heap.size≤sb2)(ht3:Turn (F1++aA sb2 (.slice none 0 0)) w1 w3)(hf3:∀k∈F3,k∈F1∨w1.heap.size≤k){w4:World}{A4:DA}(hd:dA w3 w4 base d F3 A4):Came w w4 base d F A4 sb sv file b0 ps:=by
 obtain⟨F4,hd4,ht4,hf4⟩:=hd;have afT:∀k∈F3,k∈F∨w.heap.size≤k:=fun k hk=>(hf3 k hk).elim (hf1 k) (fun h'=> .inr (Nat.le_trans ht1.size h'))
 have ak2:∀k∈F4,k∈F∨w.heap.size≤k:=fun k hk=>(hf4 k hk).elim (afT k) (fun h'=> .inr (Nat.le_trans ht1.size (Nat.le_trans ht3.size h')))
 have hn:∀{G:List Nat},(∀k∈G,k∈F∨w.heap.size≤k)→∀k∈aA sb sv,k∉G:=fun hG k hk hm=>(hG k hm).elim (h.sep k hk) (fun h'=>by have:=(h.jh.lt k hk).2;omega)
 have ae6:Turn (F++aA sb sv) w w3:=(ht1.mono (fun k hk=> .inl (List.mem_append_left _ hk))).trans ht3 (G8 hf1 hs2);exact⟨F4,sv,⟨hd4,((h.jh.kept ht1 h.sep).kept ht3 (rE h hf1 hs2)).kept ht4 (hn afT),hn ak2⟩,ae6.trans ht4 (fun k hk=>(afT k hk).imp_left (List.mem_append_left _)),ak2,fun k hk=> .inl hk⟩
theorem Lt(h:Both w base d F A sb sv file b0 ps)(ht1:Turn F w w1)(hf1:∀k∈F1,k∈F∨w.heap.size≤k)(hs2:w.heap.size≤sb2)(ht3:Turn (F1++aA sb2 (.slice none 0 0)) w1 w3)(hf3:∀k∈F3,k∈F1∨w1.heap.size≤k)
 (h3:Both w3 base d F3 A3 sb2 sv3 B b0 ps3)(hs3:∀k∈aA sb2 sv3,k∈aA sb2 (.slice none 0 0)∨w1.heap.size≤k):Came w (w3.setCell ⟨sb,3,none⟩ sv3) base d F A3 sb sv file b0 ps3:=by
 have hsl:=(h.jh.lt sb (by simp[aA])).2;have afT:∀k∈F3,k∈F∨w.heap.size≤k:=fun k hk=>(hf3 k hk).elim (hf1 k) (fun h'=> .inr (Nat.le_trans ht1.size h'))
 have ak3:∀k∈aA sb2 sv3,w.heap.size≤k:=fun k hk=>(hs3 k hk).elim (fun h'=>by simp[aA,Value.ownBlock]at h';omega) (fun h'=>Nat.le_trans ht1.size h')
 have ak4:sb∉F3:=fun hm=>(afT sb hm).elim (h.sep sb (by simp[aA])) (fun h'=>by omega)
 have aau:∀k∈sv3.ownBlock,k∈aA sb2 sv3:=fun k hk=>by simp[aA];exact .inr (by simpa using hk)
 have abw:Turn [sb] w3 (w3.setCell ⟨sb,3,none⟩ sv3):=(Turn.refl [sb] w3).setCell (by simp) _;have ae6:Turn (F++aA sb sv) w w3:=(ht1.mono (fun k hk=> .inl (List.mem_append_left _ hk))).trans ht3 (G8 hf1 hs2);have adr:=(h.jh.kept ht1 h.sep).kept ht3 (rE h hf1 hs2);refine⟨F3,sv3,⟨h3.disk.kept abw (fun k hk hm=>by obtain rfl:=List.mem_singleton.1 hm;exact ak4 hk),⟨?_,h3.jh.row.kept abw (fun k hk hm=>by obtain rfl:=List.mem_singleton.1 hm;have:=ak3 _ (aau _ hk);omega),h.jh.low⟩,fun k hk hm=>?_⟩,ae6.trans abw (fun k hk=>by obtain rfl:=List.mem_singleton.1 hk;exact .inl (by simp[aA])),afT,fun k hk=>?_⟩
 ·rw[heap_set adr.box];rfl
 ·simp only[aA,List.mem_cons,Option.mem_toList]at hk
  rcases hk with rfl|hk
  ·exact ak4 hm
  ·exact h3.sep k (aau k hk) hm
 ·simp only[aA,List.mem_cons,Option.mem_toList]at hk
  rcases hk with rfl|hk
  ·exact .inl (by simp[aA])
  ·exact .inr (ak3 k (aau k hk))
end
def Lu(b:Bool)(new old:List Sg.Pl):List Sg.Pl:=if b then new else old
theorem Ju(w:World)(base d:Nat)(F:List Nat)(A:DA)(sb:Nat)(sv:Value)(file:ByteArray)(b0:Int)(ps:List Sg.Pl)(h:Both w base d F A sb sv file b0 ps)(hfs:file.size≤10000)
 (rb:Nat)(lv:Value)(ys:List BV)(hb:iG w rb lv ys)(hyl:ys.length≤900000)(hfl:(flat (ys.map (·.x))).length≤1048576)
 (hbd:∀y∈ys, -9223372036854775808≤y.x.base∧y.x.base≤9223372036854775807∧ -9223372036854775808≤y.x.fin∧y.x.fin≤9223372036854775807)
 (abV:∀k,(k∈lv.ownBlock∨∃y∈ys,k∈y.sl.ownBlock)→k∉F):
 Calls Tryz.prog 113 #[.pointer (some ⟨sb,0,none⟩),lv] w fun e w'=>
  e= .returned (aC (aG A file b0 (ys.map (·.x))).1)∧Came w w' base d F (aG A file b0 (ys.map (·.x))).2.1 sb sv file b0 (Lu (aG A file b0 (ys.map (·.x))).2.2 (dV 0 (-1) (ys.map (·.x))) ps):=by
 have hmx:maxLen=9223372036854775807:=by simp[maxLen]
 have hBs:(aN file).size≤maxLen:=by have:=wR file;omega
 have hfm:file.size≤maxLen:=by omega
 have UR:=SG w base d F A sb sv file b0 ps h hfs;have hlt:∀k,(k∈lv.ownBlock∨∃y∈ys,k∈y.sl.ownBlock)→k<w.heap.size:=by
  rintro k (hk|⟨y,hy,hk⟩)
  ·exact(hb.row.lt k hk).2
  ·exact((hb.recs y hy).lt k hk).2
 obtain⟨xs,hxs⟩:∃xs,xs=ys.map (fun y:BV=>y.x):=⟨_,rfl⟩;rw[←hxs];obtain⟨RW,Pq⟩:∃RW,RW=aG A file b0 xs:=⟨_,rfl⟩;rw[←Pq];have HRW:=hide Pq;have KJ:=hide hxs;have HB:=hide hb;have H:=hide h;have sN:=hide hlt;have Jr:=hide abV;have Qs:=hide UR;have HBD:=hide hbd;have hsb:=lt_of_heap h.jh.box;unfold aG at Pq;obtain⟨B,hB⟩:∃B,B=aN file:=⟨_,rfl⟩;rw[←hB]at Pq hBs Qs;obtain⟨c,A1,hcA⟩:∃c A1,eQ A B=(c,A1):=⟨_,_,rfl⟩;rw[hcA]at Qs Pq;simp only at Qs Pq;clear hxs hb h hlt abV UR hbd HRW hB hcA;have HR:=hide Pq;clear Pq;go_enter Tryz.func113,Tryz.ntmps113
 go_wp2_with fail
 refine Qs.out.mono ?_;rintro e w1 (⟨h1,rfl,hd⟩|⟨h1,sb2,rfl,F1,hb1,ht1,hf1,hs1⟩)
 ·have hr:aC c= .iface 45 (.int .i64 c):=by unfold aC;rw[if_neg h1];rfl
  rw[hr];have HRR:=hide hr;have H1:=hide h1;have HD:=hide (H.out.did hd);clear hr h1 hd Qs;go_wp2
  go_ret
  have e0:RW=(c,A1,false):=by rw[HR.out,if_pos H1.out]
  rw[e0];exact⟨by rw[HRR.out];rfl,HD.out⟩
 ·have hbr:iG w1 rb lv ys:=⟨HB.out.row.kept ht1 (fun k hk=>Jr.out k (.inl hk)),fun y hy=>(HB.out.recs y hy).kept ht1 (fun k hk=>Jr.out k (.inr ⟨y,hy,hk⟩)),HB.out.ok,HB.out.apart⟩
  have NH:=Jq w1 base d F1 A1 sb2 (.slice none 0 0) B b0 hb1 hBs sb file b0 sv (H.out.jh.kept ht1 H.out.sep).box (rE H.out hf1 hs1 sb (by simp[aA])) hfm rb lv ys hbr hyl hfl HBD.out
   (fun k hk hm=>(G8 (sb:=sb) (sv:=sv) hf1 hs1 k hm).elim (fun h'=>by
     rcases List.mem_append.1 hm with hm|hm
     ·exact(hf1 k hm).elim (Jr.out k hk) (fun h2=>by have:=sN.out k hk;omega)
     ·simp[aA,Value.ownBlock]at hm;have:=sN.out k hk;omega) (fun h'=>by have:=sN.out k hk;omega))
  rw[←KJ.out]at NH;obtain⟨q,A3,xs3,hq⟩:∃q A3 xs3,replaceS A1 B.data.toList file b0 xs=(q,A3,xs3):=⟨_,_,_,rfl⟩;have aan:q=0→xs3=xs:=fun e0=>by
   have:=Jt (A:=A1) (nm:=B.data.toList) (tn:=file) (b0:=b0) (xs:=xs) (by rw[hq];exact e0);rw[hq]at this;exact this
  have hR:=HR.out;rw[if_neg (by rw[h1];simp),hq]at hR;rw[hq]at NH;simp only at hR NH;have HR2:=hide hR;have HRP:=hide NH;have nX:=hide aan;have HT1:=hide ht1;have HF1:=hide hf1;have hws:=ht1.size;clear hbr NH hq aan hR HR Qs hb1 ht1 hf1 h1;go_wp2_with fail
  refine HRP.out.mono ?_;rintro e w3 ⟨rfl,F3,sv3,hb3,ht3,hf3,hs3⟩;by_cases h0:q=0
  ·have hr:aC q= .nilIface:=by rw[h0];rfl
   rw[hr];have hx3:=nX.out h0;rw[hx3]at hb3;have H0:=hide h0;obtain⟨va,vc,hv3,hvl,hvm⟩:=hb3.jh.row.form;have hct:=Lt H.out HT1.out HF1.out hs1 ht3 hf3 hb3 hs3;have hsg:=(H.out.jh.kept HT1.out H.out.sep).kept ht3 (rE H.out HF1.out hs1);have ao2:=hv3;subst hv3;have c3:=hb3.jh.c3;have z3:=lt_of_heap hb3.jh.box;have o3:=hsg.c3;have zo:=lt_of_heap hsg.box;have fo:=hsg.fr 3;obtain⟨ga,gc,hgv, -, -⟩:=H.out.jh.row.form;rw[hgv]at o3;have LC:=hide hct;clear hr h0 hx3 hb3 ht3 hf3 hs3 hsg hct HRP nX ao2 hgv;go_wp2
   go_ret
   have e0:RW=(0,A3,true):=by rw[HR2.out,if_neg (by rw[H0.out];simp)]
   rw[e0];exact⟨rfl,LC.out⟩
  ·have hr:aC q= .iface 45 (.int .i64 q):=by unfold aC;rw[if_neg h0];rfl
   have hlv:=Pm w3 base d F3 A3 sb2 sv3 B b0 _ hb3 hBs q;obtain⟨cc,hcc⟩:∃cc,cc=(if (A3.remove B.data.toList).1≠0 then(A3.remove B.data.toList).1 else q):=⟨_,rfl⟩;obtain⟨A4,hA4⟩:∃A4,A4=(A3.remove B.data.toList).2:=⟨_,rfl⟩;have hR3:=HR2.out;rw[if_pos h0]at hR3;rw[←hcc,←hA4]at hR3 hlv;rw[hr]at hlv⊢;obtain⟨er,her⟩:∃er,aC cc=er:=⟨_,rfl⟩;rw[her]at hlv;have HR3:=hide hR3;have HLV:=hide hlv;have QX:=hide her;have NQ:=fun(w4:World) (hd:dA w3 w4 base d F3 A4)=>Po H.out HT1.out HF1.out hs1 ht3 hf3 hd
   have Zl:=hide NQ;clear hr hlv hcc hA4 hR3 her NQ hb3 ht3 hf3 hs3 HRP nX HR2 h0;go_wp2_with fail
   refine HLV.out.mono ?_;rintro e w4 ⟨rfl,hd⟩;have HC:=hide (Zl.out w4 hd);clear hd Zl HLV;go_wp2
   go_ret
   rw[HR3.out,QX.out];exact⟨rfl,HC.out⟩
end Lg
end
section
open Dk (DA FA aH fO dm)
open Sg (Chain flat ae)
namespace Lg
def bu(A:DA)(nm:List UInt8):Option (List UInt8):=(A.file nm).map (·.bytes)
theorem wS{l l':List Nat}(h:l.Perm l'):l.sum=l'.sum:=by
 induction h with
 |nil=>rfl
 |cons x _ ih=>simp[ih]
 |swap x y l=>simp;omega
 |trans _ _ h1 h2=>exact h1.trans h2
theorem Ce:∀{l:List FA},(l.map (·.name)).Nodup→∀{f:FA},f∈l→l.find? (fun g=>g.name==f.name)=some f
 |[],_,f,hf=>by simp at hf
 |g::r,h,f,hf=>by
  rw[List.map_cons,List.nodup_cons]at h;rcases List.mem_cons.1 hf with rfl|hf
  ·simp
  ·have hne:(g.name==f.name)=false:=by
    rw[beq_eq_false_iff_ne];intro e;exact h.1 (List.mem_map.2 ⟨f,hf,e.symm⟩)
   rw[List.find?_cons,hne];exact Ce h.2 hf
theorem Cf{l:List FA}{nm:List UInt8}(h:nm∉l.map (·.name)):l.find? (fun f=>f.name==nm)=none:=by
 rw[List.find?_eq_none];intro x hx e;exact h (List.mem_map.2 ⟨x,hx,by simpa using e⟩)
theorem jb{A:DA}(h:A.limited=false):A.tick=A:=by unfold DA.tick;rw[h];rfl
theorem fQ{A:DA}(h:A.limited=false):A.fails=false:=by unfold DA.fails;rw[h];rfl
theorem vC{A:DA}{nm b:List UInt8}(h:bu A nm=some b):∃f,A.file nm=some f∧f.bytes=b:=by
 unfold bu at h;exact Option.map_eq_some_iff.1 h
def dZ(A A':DA)(S:List (List UInt8)):Prop:=∀nm,nm∉S→bu A' nm=bu A nm
theorem dZ.refl(A:DA)(S:List (List UInt8)):dZ A A S:=fun _ _=>rfl
theorem dZ.trans{A B C:DA}{S:List (List UInt8)}(h:dZ A B S)(k:dZ B C S):dZ A C S:=fun nm hn=>(k nm hn).trans (h nm hn)
theorem dZ.mono{A B:DA}{S T:List (List UInt8)}(h:dZ A B S)(k:∀x∈S,x∈T):dZ A B T:=fun nm hn=>h nm (fun hm=>hn (k nm hm))
theorem G9(A:DA)(nm:List UInt8):bu A.tick nm=bu A nm:=by unfold bu DA.file;rw[Dk.di]
theorem gy(A:DA)(S:List (List UInt8)):dZ A A.tick S:=fun nm _=>G9 A nm
theorem DY(A:DA)(nm:List UInt8)(g:FA→FA)(hg:∀f,(g f).name=f.name)(nm':List UInt8):(A.upd nm g).file nm'=(A.file nm').map (fun f=>if f.name==nm then g f else f):=by
 unfold DA.upd DA.file Dk.fO;rw[List.find?_map];congr 1
 congr 1
 funext f
 simp only[Function.comp];split
 ·rw[hg]
 ·rfl
theorem FH{A:DA}{nm:List UInt8}{f:FA}(h:A.file nm=some f):f.name=nm:=by
 have:=List.find?_some h;simpa using this
theorem upd_same(A:DA)(nm:List UInt8)(g:FA→FA)(hg:∀f,(g f).name=f.name):dZ A (A.upd nm g) [nm]:=by
 intro nm' hn;unfold bu;rw[DY A nm g hg];cases hf:A.file nm' with
 |none=>rfl
 |some f=>
  have:=FH hf;have hne:¬f.name=nm:=by rw[this];simpa using hn
  simp[hne]
theorem uU(A:DA)(nm:List UInt8)(g:FA→FA)(hg:∀f,(g f).name=f.name){f:FA}(hf:A.file nm=some f):bu (A.upd nm g) nm=some (g f).bytes:=by
 unfold bu;rw[DY A nm g hg,hf];simp[FH hf]
theorem Pv(A:DA)(s:ByteArray):dZ A (A.make s).2 [s.data.toList]:=by
 unfold DA.make;split
 ·exact dZ.refl _ _
 split
 ·exact gy _ _
 split
 ·exact gy _ _
 split
 ·exact gy _ _
 ·intro nm hn
  unfold bu DA.file;simp only;rw[List.find?_append];have:([⟨s.data.toList,[],0⟩]:List FA).find? (fun f=>f.name==nm)=none:=by
   simp only[List.find?_cons,List.find?_nil];have:(s.data.toList==nm)=false:=by simp only[List.mem_singleton]at hn;simpa using fun e=>hn e.symm
   rw[this]
  rw[this,Option.or_none]
theorem UU{A:DA}{s:ByteArray}(h:(A.make s).1=0):bu (A.make s).2 s.data.toList=some []:=by
 unfold DA.make at h⊢;split
 ·rename_i h1;rw[if_pos h1]at h;simp at h
 split
 ·rename_i h1 h2;rw[if_neg h1,if_pos h2]at h;simp at h
 split
 ·rename_i h1 h2 h3;rw[if_neg h1,if_neg h2,if_pos h3]at h;simp at h
 split
 ·rename_i h1 h2 h3 h4;rw[if_neg h1,if_neg h2,if_neg h3,if_pos h4]at h;simp at h
 ·rename_i h1 h2 h3 h4
  unfold bu DA.file;simp only;have h5:A.files.find? (fun f=>f.name==s.data.toList)=none:=by
   have:A.has s.data.toList=false:=by simpa using h3
   unfold DA.has at this;simpa using this
  rw[List.find?_append,h5];simp
theorem oK(A:DA)(nm:List UInt8)(S:List (List UInt8)):dZ A (A.sync nm).2 S:=by
 unfold DA.sync;split
 ·exact dZ.refl _ _
 split
 ·exact gy _ _
 ·intro nm' _
  unfold bu;simp only;rw[DY A.tick nm (fun f=>{f with safe:=f.bytes.length}) (fun _=>rfl)];have:=G9 A nm';unfold bu at this;rw[←this];cases A.tick.file nm' with
  |none=>rfl
  |some f=>simp only[Option.map_some];split<;>rfl
theorem add_same(A:DA)(nm bs:List UInt8):dZ A (A.add nm bs).2 [nm]:=by
 unfold DA.add;split
 ·exact dZ.refl _ _
 split
 ·exact gy _ _
 split
 ·exact gy _ _
 ·exact(gy A _).trans (upd_same _ _ _ (fun _=>rfl))
theorem Xm{A:DA}{nm bs b:List UInt8}(h:(A.add nm bs).1=0)(hb:bu A nm=some b):bu (A.add nm bs).2 nm=some (b++bs):=by
 unfold DA.add at h⊢;split
 ·rename_i h1;rw[if_pos h1]at h;simp at h
 split
 ·rename_i h1 h2;rw[if_neg h1,if_pos h2]at h;simp at h
 split
 ·rename_i h1 h2 h3;rw[if_neg h1,if_neg h2,if_pos h3]at h;simp at h
 ·rw[←G9]at hb
  unfold bu at hb;cases hf:A.tick.file nm with
  |none=>rw[hf]at hb;simp at hb
  |some f=>
   rw[hf]at hb;simp only[Option.map_some,Option.some.injEq]at hb;simp only;rw[uU A.tick nm (fun f=>{f with bytes:=f.bytes++bs}) (fun _=>rfl) hf];simp only[hb]
theorem DZ(l:List FA)(nm nm':List UInt8)(h:nm'≠nm):(dm l nm).find? (fun f=>f.name==nm')=l.find? (fun f=>f.name==nm'):=by
 unfold Dk.dm;rw[List.find?_filter];congr 1
 funext f
 by_cases e:f.name=nm'
 ·have:(f.name==nm)=false:=by rw[e];simpa using h
  simp[e,h]
 ·simp[e]
theorem o9(A:DA)(nm:List UInt8):dZ A (A.remove nm).2 [nm]:=by
 unfold DA.remove;split
 ·exact dZ.refl _ _
 split
 ·exact gy _ _
 ·intro nm' hn
  unfold bu DA.file;rw[DZ _ _ _ (by simpa using hn)]
theorem Jv(A:DA)(nm:List UInt8)(tn:ByteArray):dZ A (A.rename nm tn).2 [nm,tn.data.toList]:=by
 unfold DA.rename;split
 ·exact dZ.refl _ _
 split
 ·exact gy _ _
 ·rename_i f hf
  split
  ·exact gy _ _
  ·intro nm' hn
   simp only[List.mem_cons,List.not_mem_nil,or_false,not_or]at hn;unfold bu DA.file;simp only;rw[List.find?_append,DZ _ _ _ hn.2,DZ _ _ _ hn.1];have:([{f with name:=tn.data.toList}]:List FA).find? (fun f=>f.name==nm')=none:=by
    simp only[List.find?_cons,List.find?_nil];have:(tn.data.toList==nm')=false:=by simpa using fun e=>hn.2 e.symm
    rw[this]
   rw[this,Option.or_none]
theorem Jw{A:DA}{nm:List UInt8}{tn:ByteArray}(h:(A.rename nm tn).1≠0)(S:List (List UInt8)):dZ A (A.rename nm tn).2 S:=by
 unfold DA.rename at h⊢;by_cases h1:A.fails=true
 ·rw[if_pos h1];exact dZ.refl _ _
 ·rw[if_neg h1]at h⊢
  cases hf:A.file nm with
  |none=>exact gy _ _
  |some f=>
   rw[hf]at h;simp only at h⊢;by_cases h2:(!Dk.nameB tn)=true
   ·rw[if_pos h2];exact gy _ _
   ·rw[if_neg h2]at h
    exact absurd rfl h
theorem Px{A:DA}{nm b:List UInt8}{tn:ByteArray}(h:(A.rename nm tn).1=0)(hb:bu A nm=some b):bu (A.rename nm tn).2 tn.data.toList=some b:=by
 unfold DA.rename at h⊢;by_cases h1:A.fails=true
 ·rw[if_pos h1]at h;simp at h
 ·rw[if_neg h1]at h⊢
  unfold bu at hb;cases hf:A.file nm with
  |none=>rw[hf]at hb;simp at hb
  |some f=>
   rw[hf]at h hb;simp only[Option.map_some,Option.some.injEq]at hb;simp only at h⊢;by_cases h2:(!Dk.nameB tn)=true
   ·rw[if_pos h2]at h;simp at h
   ·rw[if_neg h2]
    unfold bu DA.file;simp only;have hno:(dm (dm A.files nm) tn.data.toList).find? (fun f=>f.name==tn.data.toList)=none:=by
     rw[List.find?_eq_none];intro x hx;unfold Dk.dm at hx;have:=(List.mem_filter.1 hx).2;simpa using this
    rw[List.find?_append,hno];simp[hb]
theorem qH(file dir:ByteArray)(n:Nat):(aN file).data.toList≠bJ dir n:=by
 intro e;have e1:(aN file).data.toList=(Lib.trimSuffix file.data.toList [46,108,111,103])++[46,110,101,119]:=by
  unfold aN;simp[ByteArray.data_append]
 have e2:bJ dir n=(dir.data.toList++[47]++Sn.pad (Lib.decDigits n))++[46,108,111,103]:=by
  unfold bJ Sn.nameB Sn.iF;simp
 rw[e1,e2]at e;have:=(List.append_inj' e rfl).2;simp at this
theorem FI(A:DA)(s:ByteArray):dZ A (eQ A s).2 [s.data.toList]:=by
 unfold eQ;have h1:dZ A (oQ A s.data.toList).2 [s.data.toList]:=by
  unfold oQ;split
  ·exact o9 _ _
  ·exact dZ.refl _ _
 split
 ·exact h1
 ·exact h1.trans (Pv _ _)
theorem UW{A:DA}{s:ByteArray}(h:(eQ A s).1=0):bu (eQ A s).2 s.data.toList=some []:=by
 unfold eQ at h⊢;split
 ·rename_i h1
  rw[if_pos h1]at h;exact absurd h h1
 ·rename_i h1
  rw[if_neg h1]at h;exact UU h
theorem xO(nm:List UInt8)(b0:Int):∀(xs dn:List Bt.aB) (A:DA),dZ A (dC nm b0 A dn xs).2.1 [nm]
 |[],dn,A=>dZ.refl _ _
 |x::r,dn,A=>by
  unfold dC;split
  ·exact dZ.refl _ _
  split
  ·exact dZ.refl _ _
  split
  ·exact add_same _ _ _
  ·exact(add_same _ _ _).trans (xO nm b0 r _ _)
theorem NU(nm:List UInt8)(b0:Int):∀(xs dn:List Bt.aB) (A:DA) (b:List UInt8),(dC nm b0 A dn xs).1=0→bu A nm=some b→bu (dC nm b0 A dn xs).2.1 nm=some (b++flat xs)
 |[],dn,A,b,_,hb=>by simp[dC,flat];exact hb
 |x::r,dn,A,b,h,hb=>by
  unfold dC at h⊢;split
  ·rename_i h1;rw[if_pos h1]at h;exact absurd h h1
  split
  ·rename_i h1 h2;rw[if_neg h1,if_pos h2]at h;simp at h
  split
  ·rename_i h1 h2 h3;rw[if_neg h1,if_neg h2,if_pos h3]at h;exact absurd h h3
  ·rename_i h1 h2 h3
   rw[if_neg h1,if_neg h2,if_neg h3]at h;have h4:=NU nm b0 r _ _ (b++Bt.ah x) h (Xm (by simpa using h3) hb);rw[h4];simp[flat]
theorem wU(A:DA)(nm:List UInt8)(tn:ByteArray)(b0:Int)(xs:List Bt.aB):dZ A (replaceS A nm tn b0 xs).2.1 [nm,tn.data.toList]:=by
 have h1:=(xO nm b0 xs [] A).mono (T:=[nm,tn.data.toList]) (by simp);unfold replaceS;split
 ·exact h1
 split
 ·exact h1.trans (oK _ _ _)
 ·exact(h1.trans (oK _ _ _)).trans (Jv _ _ _)
theorem Ha{A:DA}{nm:List UInt8}{tn:ByteArray}{b0:Int}{xs:List Bt.aB}(h:(replaceS A nm tn b0 xs).1≠0):dZ A (replaceS A nm tn b0 xs).2.1 [nm]:=by
 have h1:=xO nm b0 xs [] A;unfold replaceS at h⊢;split
 ·exact h1
 split
 ·exact h1.trans (oK _ _ _)
 ·rename_i h2 h3
  rw[if_neg h2,if_neg h3]at h;exact(h1.trans (oK _ _ _)).trans (Jw h _)
theorem LD{A:DA}{nm:List UInt8}{tn:ByteArray}{b0:Int}{xs:List Bt.aB}(h:(replaceS A nm tn b0 xs).1=0)(hb:bu A nm=some []):bu (replaceS A nm tn b0 xs).2.1 tn.data.toList=some (flat xs):=by
 unfold replaceS at h⊢;split
 ·rename_i h2;rw[if_pos h2]at h;exact absurd h h2
 split
 ·rename_i h2 h3;rw[if_neg h2,if_pos h3]at h;exact absurd h h3
 ·rename_i h2 h3
  rw[if_neg h2,if_neg h3]at h;refine Px h ?_;rw[oK _ _ [] nm (by simp)];have:=NU nm b0 xs [] A [] (by simpa using h2) hb;rw[this];rfl
theorem He(A:DA)(file:ByteArray)(b0:Int)(xs:List Bt.aB):dZ A (aG A file b0 xs).2.1 [(aN file).data.toList,file.data.toList]:=by
 have h1:=(FI A (aN file)).mono (T:=[(aN file).data.toList,file.data.toList]) (by simp);unfold aG;split
 ·exact h1
 split
 ·exact(h1.trans (wU _ _ _ _ _)).trans ((o9 _ _).mono (by simp))
 ·exact h1.trans (wU _ _ _ _ _)
theorem Jy{A:DA}{file:ByteArray}{b0:Int}{xs:List Bt.aB}(h:(aG A file b0 xs).2.2=false):dZ A (aG A file b0 xs).2.1 [(aN file).data.toList]:=by
 have h1:=FI A (aN file);unfold aG at h⊢;split
 ·exact h1
 split
 ·rename_i h2 h3
  exact(h1.trans (Ha h3)).trans (o9 _ _)
 ·rename_i h2 h3
  rw[if_neg h2,if_neg h3]at h;simp at h
theorem yV{A:DA}{file:ByteArray}{b0:Int}{xs:List Bt.aB}(h:(aG A file b0 xs).2.2=true):(aG A file b0 xs).1=0∧bu (aG A file b0 xs).2.1 file.data.toList=some (flat xs):=by
 unfold aG at h⊢;split
 ·rename_i h2;rw[if_pos h2]at h;simp at h
 split
 ·rename_i h2 h3;rw[if_neg h2,if_pos h3]at h;simp at h
 ·rename_i h2 h3
  exact⟨rfl,LD (by simpa using h3) (UW (by simpa using h2))⟩
theorem yX(A:DA)(file:ByteArray)(b0:Int)(xs:List Bt.aB):(aG A file b0 xs).2.2=true↔(aG A file b0 xs).1=0:=by
 refine⟨fun h=>(yV h).1,fun h=>?_⟩;unfold aG at h⊢;split
 ·rename_i h2;rw[if_pos h2]at h;exact absurd h h2
 split
 ·rename_i h2 h3
  rw[if_neg h2,if_pos h3]at h;simp only at h;split at h
  ·rename_i h4;exact absurd h h4
  ·exact absurd h h3
 ·rfl
structure rF(A:DA)(room:Nat)(dir:ByteArray)(ss:List (Nat×List Bt.aB)):Prop where
 lim:A.limited=false
 room:A.room=room
 files:(A.files.map (fun f=>(f.name,f.bytes))).Perm (ss.map (fun p=>(bJ dir p.1,flat p.2)))
 base:∀p∈ss,p.1≤1099511627776
 nd:(ss.map (·.1)).Nodup
section
variable {A:DA} {room:Nat} {dir:ByteArray} {ss s1 s2:List (Nat×List Bt.aB)} {p:Nat×List Bt.aB}
theorem rF.names(h:rF A room dir ss):(A.files.map (·.name)).Perm (ss.map (fun p=>bJ dir p.1)):=by
 have:=h.files.map Prod.fst;simpa[Function.comp_def]using this
theorem rF.nodup(h:rF A room dir ss):(A.files.map (·.name)).Nodup:=by
 rw[h.names.nodup_iff];have h1:=h.nd;unfold List.Nodup at h1⊢;rw[List.pairwise_map]at h1⊢;exact h1.imp_of_mem (fun ha hb hab e=>hab (fK (h.base _ ha) (h.base _ hb) e))
theorem rF.bytes(h:rF A room dir ss)(hp:p∈ss):bu A (bJ dir p.1)=some (flat p.2):=by
 have h1:(bJ dir p.1,flat p.2)∈A.files.map (fun f=>(f.name,f.bytes)):=h.files.mem_iff.2 (List.mem_map.2 ⟨p,hp,rfl⟩);obtain⟨f,hf,e⟩:=List.mem_map.1 h1;have e1:f.name=bJ dir p.1:=congrArg Prod.fst e;have e2:f.bytes=flat p.2:=congrArg Prod.snd e;unfold bu DA.file;have:=Ce h.nodup hf;rw[e1]at this;rw[this];simp[e2]
theorem rF.len(h:rF A room dir ss):A.files.length=ss.length:=by
 have:=h.files.length_eq;simpa using this
theorem rF.used(h:rF A room dir ss):aH A.files=(flat (af ss)).length:=by
 rw[kQ];have:=wS (h.files.map (fun q=>q.2.length));simpa[aH,Function.comp_def]using this
theorem Jz{A:DA}{pre:List FA}{f:FA}(hA:A.files=pre++[f])(hn:f.name∉pre.map (·.name))(g:FA→FA):(A.upd f.name g).files=pre++[g f]:=by
 unfold DA.upd Dk.fO;simp only[hA,List.map_append,List.map_cons,List.map_nil,beq_self_eq_true,if_true];congr 1
 have:pre.map (fun x=>if x.name==f.name then g x else x)=pre.map id:=by
  apply List.map_congr_left;intro x hx;have:(x.name==f.name)=false:=by
   rw[beq_eq_false_iff_ne];intro e;exact hn (List.mem_map.2 ⟨x,hx,e⟩)
  rw[this];rfl
 rw[this,List.map_id]
theorem JA{A:DA}{pre:List FA}{f:FA}(hA:A.files=pre++[f]):A.has f.name=true:=by
 unfold DA.has;rw[hA,List.find?_append];cases pre.find? (fun g=>g.name==f.name)<;>simp
theorem Py(pre:List FA)(f:FA):aH (pre++[f])=aH pre+f.bytes.length:=by simp[aH]
theorem NV(nm:List UInt8)(b0:Int)(pre:List FA)(hn:nm∉pre.map (·.name))(s:Nat):∀(xs dn:List Bt.aB) (A:DA),A.limited=false→A.files=pre++[⟨nm,flat dn,s⟩]→aH pre+(flat dn).length+(flat xs).length≤A.room→Chain (ae b0 dn) xs→
 ∃A',dC nm b0 A dn xs=(0,A',dn++xs)∧A'.limited=false∧A'.room=A.room∧A'.files=pre++[⟨nm,flat (dn++xs),s⟩]
 |[],dn,A,hl,hf,_,_=>⟨A,by simp[dC],hl,rfl,by simpa using hf⟩
 |x::r,dn,A,hl,hf,hr,hc=>by
  have hfl:(flat (x::r)).length=(Bt.ah x).length+(flat r).length:=by simp[flat]
  have e:A.add nm (Bt.ah x)=(0,A.upd nm (fun f=>{f with bytes:=f.bytes++Bt.ah x})):=by
   unfold DA.add;have h1:A.has nm=true:=JA (f:=⟨nm,flat dn,s⟩) hf;rw[fQ hl,h1,hf,Py,jb hl,if_neg (by simp),if_neg (by simp),if_neg (by simp only;omega)]
  have hf2:(A.upd nm (fun f=>{f with bytes:=f.bytes++Bt.ah x})).files=pre++[⟨nm,flat (dn++[x]),s⟩]:=by
   have:=Jz (f:=⟨nm,flat dn,s⟩) hf hn (fun f=>{f with bytes:=f.bytes++Bt.ah x});rw[Sg.aP,Sg.gB];exact this
  have h1:=hc.1;have h2:=hc.2.1;have hd:=Sg.aP dn [x];have aah:(flat (dn++[x])).length=(flat dn).length+(Bt.ah x).length:=by rw[Sg.aP,Sg.gB,List.length_append]
  obtain⟨A',g1,g2,g3,g4⟩:=NV nm b0 pre hn s r (dn++[x]) (A.upd nm (fun f=>{f with bytes:=f.bytes++Bt.ah x})) hl hf2 (by show _≤A.room;omega) (by rw[Sg.dG];exact hc.2.2);refine⟨A',?_,g2,g3,?_⟩
  ·unfold dC
   rw[if_neg (by simp[h1]),if_neg (by omega),e,if_neg (by simp),g1];simp
  ·rw[g4]
   simp
theorem rF.rewrite{n:Nat}{ys:List Bt.aB}(h:rF A room dir (s1++(n,ys)::s2))(xs:List Bt.aB)(hch:Chain n xs)(hok:Dk.nameB (aN (Sn.nameB dir n))=true)(ac2:Dk.nameB (Sn.nameB dir n)=true)(hl:(s1++(n,ys)::s2).length<200)(hr:(flat (af (s1++(n,ys)::s2))).length+(flat xs).length≤room):
 (aG A (Sn.nameB dir n) n xs).1=0∧rF (aG A (Sn.nameB dir n) n xs).2.1 room dir (s1++(n,xs)::s2):=by
 obtain⟨nb,hnb⟩:∃nb,nb=(aN (Sn.nameB dir n)).data.toList:=⟨_,rfl⟩;have hno:nb∉A.files.map (·.name):=by
  intro hm;rw[h.names.mem_iff]at hm;obtain⟨q,hq,e⟩:=List.mem_map.1 hm;exact qH (Sn.nameB dir n) dir q.1 (by rw[←hnb];exact e.symm)
 have hf:=fQ h.lim;have htk:=jb h.lim;have jE:A.file nb=none:=Cf hno;have aaP:A.has nb=false:=by rw[Dk.kz,jE];rfl
 have aah:=h.len;have hcl:oQ A nb=(0,A):=by
  unfold oQ DA.sizeOf;rw[jE];rfl
 have UR:eQ A (aN (Sn.nameB dir n))=(0,{A with files:=A.files++[⟨nb,[],0⟩]}):=by
  unfold eQ;rw[←hnb,hcl,if_neg (by simp)];simp only;unfold DA.make;rw[hf,hok,←hnb,aaP,if_neg (by simp),if_neg (by simp),if_neg (by simp),if_neg (by omega),htk]
 obtain⟨A1,hA1⟩:∃A1:DA,A1={A with files:=A.files++[⟨nb,[],0⟩]}:=⟨_,rfl⟩;have hu:=h.used;obtain⟨A2,k1,k2,k3,k4⟩:=NV nb n A.files hno 0 xs [] A1 (by rw[hA1];exact h.lim) (by rw[hA1];simp[flat]) (by rw[hA1,hu];simp only[flat,List.flatMap_nil,List.length_nil];rw[h.room];simp[flat]at hr⊢;omega) (by simpa[ae]using hch);rw[List.nil_append]at k1 k4;have hsy:A2.sync nb=(0,A2.upd nb (fun f=>{f with safe:=f.bytes.length})):=by
  unfold DA.sync;have h1:A2.has nb=true:=JA (f:=⟨nb,flat xs,0⟩) k4;rw[fQ k2,h1,jb k2,if_neg (by simp),if_neg (by simp)]
 obtain⟨A3,hA3⟩:∃A3:DA,A3=A2.upd nb (fun f=>{f with safe:=f.bytes.length}):=⟨_,rfl⟩;have hf3:A3.files=A.files++[⟨nb,flat xs,(flat xs).length⟩]:=by
  rw[hA3];exact Jz (f:=⟨nb,flat xs,0⟩) k4 hno (fun f=>{f with safe:=f.bytes.length})
 have hl3:A3.limited=false:=by rw[hA3];exact k2
 have hr3:A3.room=room:=by rw[hA3];show A2.room=room;rw[k3,hA1];exact h.room
 have ak6:dm (A.files++[⟨nb,flat xs,(flat xs).length⟩]) nb=A.files:=by
  unfold Dk.dm;rw[List.filter_append];have e1:A.files.filter (fun f=> !(f.name==nb))=A.files:=by
   rw[List.filter_eq_self];intro x hx;have:(x.name==nb)=false:=by
    rw[beq_eq_false_iff_ne];intro e;exact hno (List.mem_map.2 ⟨x,hx,e⟩)
   simp[this]
  rw[e1];simp
 have hre:A3.rename nb (Sn.nameB dir n)=(0,{A3 with files:=dm A.files (bJ dir n)++[⟨bJ dir n,flat xs,(flat xs).length⟩]}):=by
  unfold DA.rename;have h1:A3.file nb=some ⟨nb,flat xs,(flat xs).length⟩:=by
   unfold DA.file;rw[hf3,List.find?_append,Cf hno];simp
  rw[fQ hl3,if_neg (by simp),h1];simp only;rw[ac2,if_neg (by simp),jb hl3,hf3,ak6];rfl
 have hrw:aG A (Sn.nameB dir n) n xs=(0,{A3 with files:=dm A.files (bJ dir n)++[⟨bJ dir n,flat xs,(flat xs).length⟩]},true):=by
  have NH:replaceS A1 nb (Sn.nameB dir n) n xs=(0,{A3 with files:=dm A.files (bJ dir n)++[⟨bJ dir n,flat xs,(flat xs).length⟩]},xs):=by
   unfold replaceS;rw[k1,if_neg (by simp)];simp only;rw[hsy,←hA3,if_neg (by simp)];simp only;rw[hre]
  unfold aG;rw[UR,←hA1,←hnb,if_neg (by simp)];simp only;rw[NH,if_neg (by simp)]
 rw[hrw];refine⟨rfl,hl3,hr3,?_,fun q hq=>?_,?_⟩
 ·simp only[List.map_append,List.map_cons,List.map_nil]
  have xh:(dm A.files (bJ dir n)).map (fun f=>(f.name,f.bytes))=(A.files.map (fun f=>(f.name,f.bytes))).filter (fun q=> !(q.1==bJ dir n)):=by
   unfold Dk.dm;rw[List.filter_map];rfl
  have hnd:=h.nd;have hbs:=h.base;have acE:∀q∈s1++s2,(!(bJ dir q.1==bJ dir n))=true:=by
   intro q hq;have hq':q∈s1++(n,ys)::s2:=by
    rcases List.mem_append.1 hq with hq|hq
    ·exact List.mem_append_left _ hq
    ·exact List.mem_append_right _ (List.mem_cons_of_mem _ hq)
   have:(bJ dir q.1==bJ dir n)=false:=by
    rw[beq_eq_false_iff_ne];intro e;have e2:=fK (hbs q hq') (hbs (n,ys) (by simp)) e;rw[List.map_append,List.map_cons,List.nodup_append,List.nodup_cons]at hnd;rcases List.mem_append.1 hq with hq|hq
    ·exact hnd.2.2 q.1 (List.mem_map.2 ⟨q,hq,rfl⟩) n (by simp) e2
    ·exact hnd.2.1.1 (List.mem_map.2 ⟨q,hq,e2⟩)
   rw[this];rfl
  have ak8:((s1++(n,ys)::s2).map (fun p=>(bJ dir p.1,flat p.2))).filter (fun q=> !(q.1==bJ dir n))=s1.map (fun p=>(bJ dir p.1,flat p.2))++s2.map (fun p=>(bJ dir p.1,flat p.2)):=by
   rw[List.map_append,List.map_cons,List.filter_append,List.filter_cons,if_neg (by simp)];congr 1
   ·rw[List.filter_eq_self]
    intro q hq;obtain⟨q',hq',rfl⟩:=List.mem_map.1 hq;exact acE q' (List.mem_append_left _ hq')
   ·rw[List.filter_eq_self]
    intro q hq;obtain⟨q',hq',rfl⟩:=List.mem_map.1 hq;exact acE q' (List.mem_append_right _ hq')
  rw[xh];refine(List.Perm.append_right _ (h.files.filter _)).trans ?_;rw[ak8,List.append_assoc];refine List.Perm.append_left _ ?_;exact List.perm_append_comm.trans (by simp)
 ·have hb:=h.base
  rcases List.mem_append.1 hq with hq|hq
  ·exact hb q (List.mem_append_left _ hq)
  ·rcases List.mem_cons.1 hq with rfl|hq
   ·exact hb (n,ys) (by simp)
   ·exact hb q (List.mem_append_right _ (List.mem_cons_of_mem _ hq))
 ·have:=h.nd
  rw[List.map_append,List.map_cons]at this⊢;exact this
end
end Lg
end
section
set_option maxRecDepth 100000
attribute [local go_sem] Oper.semAt_some
open Dk (DA aj Parts dA aC bQ)
open Sg (Chain flat dV Both ae)
namespace Lg
def aK(xs:List Bt.aB):List Bt.Rec:=xs.flatMap (·.recs)
theorem jq(fr:Int):∀xs:List Bt.aB,aZ fr xs=dY fr (aK xs)
 |[]=>rfl
 |x::r=>by
  have h:=jq fr r;unfold aZ aK dY at*;rw[List.flatMap_cons,List.flatMap_cons,List.filter_append,h]
theorem tH:∀{rs:List Bt.Rec} {lo hi:Int},Bt.bG rs lo hi=0→rs.Pairwise (fun a b=>a.off<b.off)
 |[],_,_,_=>List.Pairwise.nil
 |q::rs,lo,hi,h=>by
  unfold Bt.bG at h;split at h
  ·rw[List.pairwise_cons]
   exact⟨fun r hr=>by have:=sV h r hr;omega,tH h⟩
  ·rename_i h0
   exact absurd h h0
theorem pg{xs:List Bt.aB}{b:Int}(h:Chain b xs):∀r∈aK xs,b≤r.off:=by
 intro r hr;obtain⟨x,hx,hr⟩:=List.mem_flatMap.1 hr;have:=oP h x hx;have:=(kY (Sg.Chain.mem h x hx) r hr).1;omega
theorem jV:∀{xs:List Bt.aB} {b:Int},Chain b xs→(aK xs).Pairwise (fun a b=>a.off<b.off)
 |[],_,_=>List.Pairwise.nil
 |x::r,b,h=>by
  unfold aK;rw[List.flatMap_cons,List.pairwise_append];refine⟨tH (Bt.jX (Bt.dJ h.1).1).2.2.2.2.2,jV h.2.2,fun p hp q hq=>?_⟩;have h1:=(kY h.1 p hp).2;have h2:=pg h.2.2 q hq;omega
theorem piece{L P Q:List Bt.Rec}(hs:L.Pairwise (fun a b=>a.off<b.off))(e:L=P++Q){fr:Int}{R:List Bt.Rec}(hR:R=dY fr P)(h0:R≠[]):fr≤(R.getLast h0).off∧R.getLast h0∈L∧dY fr L=R++dY ((R.getLast h0).off+1) L:=by
 obtain⟨z,hz⟩:∃z,z=R.getLast h0:=⟨_,rfl⟩;have hzR:z∈R:=by rw[hz];exact List.getLast_mem h0
 have hzP:z∈P∧fr≤z.off:=by
  rw[hR]at hzR;unfold dY at hzR;have:=List.mem_filter.1 hzR;exact⟨this.1,by simpa using this.2⟩
 rw[←hz];rw[e]at hs;have hs':=List.pairwise_append.1 hs;have hRs:R.Pairwise (fun a b=>a.off<b.off):=by rw[hR];exact hs'.1.filter _
 have hle:∀r∈R,r.off≤z.off:=by
  intro r hr;have e2:R=R.dropLast++[z]:=by rw[hz];exact(List.dropLast_concat_getLast h0).symm
  rw[e2]at hr hRs;rcases List.mem_append.1 hr with h|h
  ·have:=(List.pairwise_append.1 hRs).2.2 r h z (by simp)
   omega
  ·obtain rfl:=List.mem_singleton.1 h
   exact Int.le_refl _
 refine⟨hzP.2,by rw[e];exact List.mem_append_left _ hzP.1,?_⟩;have h1:dY (z.off+1) P=[]:=DK fun r hr=>by
  rcases Int.lt_or_le r.off fr with h|h
  ·omega
  ·have:r∈R:=by rw[hR];unfold dY;exact List.mem_filter.2 ⟨hr,by simpa using h⟩
   have:=hle r this;omega
 have h2:dY fr Q=Q:=oI fun r hr=>by have:=hs'.2.2 z hzP.1 r hr;omega
 have h3:dY (z.off+1) Q=Q:=oI fun r hr=>by have:=hs'.2.2 z hzP.1 r hr;omega
 have hap:∀(f:Int) (a b:List Bt.Rec),dY f (a++b)=dY f a++dY f b:=fun f a b=>by unfold dY;rw[List.filter_append]
 rw[e,hap,hap,h1,h2,h3,hR,List.nil_append]
theorem Hf(w:World)(base d:Nat)(F:List Nat)(A:DA)(lb:Nat)(gv:Value)(dir:ByteArray)(v:LV)(ms0:List SM)(m:SM)(h:az w base d F A lb gv dir v (ms0++[m]))(gG:dir.size≤1000)(hok:sW A dir ((ms0++[m]).map SM.abs))(most:Int)(hmo: -9223372036854775808≤most∧most≤9223372036854775807)
 (b0:Int)(hch:Chain b0 (af ((ms0++[m]).map SM.abs)))(hen:∀x∈af ((ms0++[m]).map SM.abs),x.fin≤ae m.n m.xs)(hst:v.start≤ae m.n m.xs)(aja:0≤v.start)(ao4:ae m.n m.xs≤1099511627776)(ajb:(aZ v.start (af ((ms0++[m]).map SM.abs))).length<5000):
 Calls Tryz.prog 29 #[.pointer (some ⟨lb,0,none⟩), .int .i64 most] w fun e w'=>∃ov,e= .returned (.tuple #[ov, .bool true])∧aO 52 6 recC w' w.heap.size ov (aZ v.start (af ((ms0++[m]).map SM.abs)))∧Turn [] w w':=by
 obtain⟨bs,hbs⟩:∃bs,bs=af ((ms0++[m]).map SM.abs):=⟨_,rfl⟩;obtain⟨nx,hnx⟩:∃nx,nx=ae m.n m.xs:=⟨_,rfl⟩;have hrd:=fun(wr:World) (ht:Turn [] w wr) (fr:Int) (h1:v.start≤fr) (h2:fr≤ae m.n m.xs)=>Jj wr base d F A lb gv dir v ms0 m (h.still ht) gG hok fr most hmo h1 h2
 rw[←hbs]at hrd hch hen ajb⊢;rw[←hnx]at hrd hen hst ao4;have hso:=jV hch;have H:=hide h;have DF:=hide hrd;have HSO:=hide hso;have Lj:=hide hen;have KU:=hide hch;have ao5:=hide ajb;clear h hrd hso hch hen ajb hok hnx hbs;go_enter Tryz.func29,Tryz.ntmps29
 go_wp2_with fail
 refine(qE w base d F A lb gv dir v _ H.out).mono ?_;rintro e w1 ⟨rfl,rfl⟩;go_wp2
 go_loopw [6,7,8] (fun ov fv iv wr=>∃(i:Nat) (fr:Int) (acc:List Bt.Rec),iv= .int .i64 i∧fv= .int .i64 fr∧aO 52 6 recC wr w.heap.size ov acc∧v.start≤fr∧fr≤nx∧acc++aZ fr bs=aZ v.start bs∧i≤acc.length∧Turn [] w wr) (fun _ _ iv _=>5000-(intOf iv).toNat)
 case atStart=>exact⟨0,v.start,[],rfl,rfl, .inl ⟨rfl,rfl⟩,Int.le_refl _,hst,rfl,Nat.zero_le _,Turn.refl _ _⟩
 case round=>
  obtain⟨i,fr,acc,rfl,rfl,hov,hf1,hf2,agG,hia,htw⟩:=hrel;have hal:acc.length+(aZ fr bs).length<5000:=by
   have:=congrArg List.length agG;rw[List.length_append]at this;have:=ao5.out;omega
  obtain⟨oa,oc,hoe, -, -⟩:=hov.form;subst hoe;have Qq:=hide hov;have Zm:=hide agG;have dO:=hide htw;clear hov agG htw;have hi5:(i:Int)<5000:=by omega
  go_wp2_with fail
  refine(DF.out wr dO.out fr hf1 hf2).mono ?_;rintro e w2 ⟨rv,q,rfl,Pe,adt,ht2⟩;obtain⟨R,hR⟩:∃R,R=aZ fr (bs.take q):=⟨_,rfl⟩;rw[←hR]at Pe adt;obtain⟨ra,rc,hre,Dw,wK⟩:=Pe.form;subst hre;have hmx:maxLen=9223372036854775807:=by simp[maxLen]
  rw[hmx]at wK;have HR:=hide hR;have dI:=hide Pe;have HEM:=hide adt;have HT2:=hide (dO.out.same ht2);have adQ:=hide ht2;clear hR Pe adt ht2;by_cases hR0:R=[]
  ·have auB:(R.length:Int)=0:=by rw[hR0];rfl
   have hno:=HEM.out hR0;have aar:=Zm.out;rw[hno,List.append_nil]at aar;have jK:=hide aar;clear hno aar hR0;go_wp2
   go_ret2
   exact⟨_,rfl,by rw[←jK.out];exact Qq.out.still adQ.out,HT2.out⟩
  ·obtain⟨n,hn⟩:∃n,R.length=n+1:=⟨R.length-1,by have:=List.length_pos_iff.2 hR0;omega⟩
   have ar8:((n:Int)+1==0)=false:=by rw[beq_eq_false_iff_ne];omega
   have ab7:aK bs=aK (bs.take q)++aK (bs.drop q):=by unfold aK;rw[←List.flatMap_append,List.take_append_drop]
   obtain⟨p1,p2,p3⟩:=piece HSO.out ab7 (fr:=fr) (by rw[HR.out,jq]) hR0;obtain⟨z,hz⟩:∃z,z=R.getLast hR0:=⟨_,rfl⟩;rw[←hz]at p1 p2 p3;have hzn:R[n]'(by omega)=z:=by
    rw[hz,List.getLast_eq_getElem];congr 1
    omega
   obtain⟨x,hx,hzx⟩:=List.mem_flatMap.1 p2;have hzb:=(kY (Sg.Chain.mem KU.out x hx) z hzx).2;have hxe:=Lj.out x hx;have Zn:acc.length+R.length<5000:=by
    have h1:R.length≤(aZ fr bs).length:=by rw[jq,p3,List.length_append];omega
    omega
   have aau:∀k∈(Value.slice oa acc.length oc).ownBlock,w.heap.size≤k∧k<wr.heap.size:=Qq.out.lt;obtain⟨v7,w7,hr7,aai,ht7, -⟩:=IL w2 w.heap.size (.slice oa acc.length oc) (.slice ra R.length rc) acc R (Qq.out.still adQ.out) (dI.out.src bH) (by omega) (Nat.le_trans dO.out.size adQ.out.size);have aaC:=dI.out.kept ht7 (fun k hk hm=>by have:=(dI.out.lt k hk).1;have:=(aau k (by simpa using hm)).2;omega);obtain⟨g,cap,e,hc, -⟩:=aaC.at bH (j:=n) (by omega);simp only[Value.slice.injEq,true_and]at e;obtain⟨rfl,rfl⟩:=e;rw[hzn]at hc;have c0:w7.cell? ⟨g,n*6,none⟩=some (.int .i64 z.off):=hc 0 (by omega);have hnb:n<5000:=by omega
   obtain⟨va7,vc7,hv7, -, -⟩:=aai.form;subst hv7;have aie:(acc++R)++aZ (z.off+1) bs=aZ v.start bs:=by
    rw[←Zm.out,List.append_assoc];congr 1
    rw[jq,jq,p3]
   have Zo:=hide aie;have lF:=hide aai;have HT7:=hide (HT2.out.trans ht7 (fun k hk=> .inr (aau k (by simpa using hk)).1));have hz1:v.start≤z.off:=by omega
   have hz2:z.off+1≤nx:=by omega
   have HR7:=hide hr7;have Zp:i+1≤(acc++R).length:=by rw[List.length_append];omega
   have ao6:=hide Zp;rw[hn]at HR7⊢;clear ab7 p1 p2 p3 hz hzn hx hzx hzb hxe aau hr7 aai ht7 aaC hc aie Zp hR0 Zn hn hal;go_wp2_with (at_builtin;go_must (refine bU rfl rfl rfl rfl HR7.out ?_))
   all_goals refine⟨⟨i+1,z.off+1,acc++R,by go_num,by go_num,?_,by omega,hz2,Zo.out,ao6.out,HT7.out⟩,?_⟩
   all_goals first|(simp only[intOf];omega)|(have:=lF.out;rw[List.length_append]at this;exact this)
end Lg
end
section
set_option maxRecDepth 100000
attribute [local go_sem] Oper.semAt_some
open Dk (DA aj Parts dA aC bQ)
open Sg (aS aA dV Both Came ae flat Chain iG BV uD jm Fj GM)
namespace Lg
theorem mV.Zq{w w':World}{B0 B1 B2 mb n g:Nat}{f:List UInt8→Int}{now ak:Int}(h:mV w B0 B1 B2 mb n f now ak)(ht:Turn [g] w w'){cs:Array Value}{fr:Nat×Nat}{T:TypeId}(e:w.heap[g]? =some (.cells cs T fr)) (h1:T≠90) (h2:T≠3):mV w' B0 B1 B2 mb n f now ak:=by
 have hne:∀{k:Nat} {c2:Array Value} {T2:TypeId} {f2:Nat×Nat},w.heap[k]? =some (.cells c2 T2 f2)→T≠T2→k∉[g]:=fun {k c2 T2 f2} e2 hT hm=>by
  obtain rfl:=List.mem_singleton.1 hm;rw[e]at e2;simp at e2;exact hT e2.2.1
 refine⟨ht.heap h.b0 (hne h.b0 h1),ht.heap h.b1 (hne h.b1 h2),ht.heap h.b2 (hne h.b2 h2),h.map.kept ht (fun hm=>?_)⟩;obtain rfl:=List.mem_singleton.1 hm;obtain⟨D,⟨es,clock,hb, -⟩, -⟩:=h.map;rw[hb]at e;simp at e
def wV(f:List UInt8→Int)(now ak:Int)(y:BV):BV:=⟨{y.x with recs:=aU f now ak y.x.recs},y.a,(aU f now ak y.x.recs).length,y.c⟩
theorem FK(f:List UInt8→Int)(now ak:Int)(y:BV):(wV f now ak y).sl.ownBlock=y.sl.ownBlock:=by
 show(Value.slice y.a _ y.c).ownBlock=(Value.slice y.a y.n y.c).ownBlock;cases y.a<;>simp[Value.ownBlock]
theorem SL{f:List UInt8→Int}{now ak:Int}{rs:List Bt.Rec}(h:∀r∈rs,iQ r):∀r∈aU f now ak rs,iQ r:=fun r hr=>by
 unfold aU at hr;exact h r (List.mem_filter.1 hr).1
theorem Pz{w w2:World}{base g c l j:Nat}{Y:List BV}{f:List UInt8→Int}{now ak:Int}(h:iG w base (.slice (some ⟨g,0,none⟩) l c) Y)(hj:j<Y.length)
 (Pe:aO 52 6 recC w2 base (.slice Y[j].a (aU f now ak Y[j].x.recs).length Y[j].c) (aU f now ak Y[j].x.recs))(ht:Turn Y[j].sl.ownBlock.toList w w2):
 iG (w2.setCell ⟨g,j*3+2,none⟩ (.slice Y[j].a (aU f now ak Y[j].x.recs).length Y[j].c)) base (.slice (some ⟨g,0,none⟩) l c) (Y.set j (wV f now ak Y[j])):=by
 obtain⟨y,hy⟩:∃y,y=Y[j]:=⟨_,rfl⟩;have hym:y∈Y:=by rw[hy];exact List.getElem_mem _
 have Zr:=h.row.kept ht (fun k hk hm=>GM h.row (h.recs Y[j] (List.getElem_mem _)) k (by simpa using hm) hk);have abw:=Zr.set jm hj (i:=2) (by omega) (u:= .slice Y[j].a (aU f now ak Y[j].x.recs).length Y[j].c) (x':=wV f now ak Y[j]) rfl;have hts:Turn [g] w2 (w2.setCell ⟨g,j*3+2,none⟩ (.slice Y[j].a (aU f now ak Y[j].x.recs).length Y[j].c)):=(Turn.refl [g] w2).setCell (by simp) _;have hgl:g∈(Value.slice (some ⟨g,0,none⟩) l c).ownBlock:=by simp[Value.ownBlock]
 have hsl:∀i (hi:i<(Y.set j (wV f now ak Y[j])).length),((Y.set j (wV f now ak Y[j]))[i]).sl.ownBlock=(Y[i]'(by simpa using hi)).sl.ownBlock:=by
  intro i hi;rw[List.getElem_set];split
  ·rename_i e;subst e;exact FK _ _ _ _
  ·rfl
 have hap:=List.pairwise_iff_getElem.1 h.apart;refine⟨abw,fun z hz=>?_,fun z hz=>?_,?_⟩
 ·obtain⟨i,hi,rfl⟩:=List.mem_iff_getElem.1 hz
  have hi':i<Y.length:=by simpa using hi
  have aau:=hsl i hi;rw[List.getElem_set]at aau⊢;split
  ·rename_i e
   subst e;refine aO.kept (sv:=(wV f now ak Y[j]).sl) Pe hts (fun k hk hm=>?_);obtain rfl:=List.mem_singleton.1 hm;rw[FK]at hk;exact GM h.row (h.recs Y[j] (List.getElem_mem _)) _ hk hgl
  ·rename_i e
   have hr:=h.recs Y[i] (List.getElem_mem _);refine(hr.kept ht (fun k hk hm=>?_)).kept hts (fun k hk hm=>?_)
   ·have hm':k∈Y[j].sl.ownBlock:=by simpa using hm
    rcases Nat.lt_or_gt_of_ne e with e|e
    ·exact hap j i hj hi' e k hm' hk
    ·exact hap i j hi' hj e k hk hm'
   ·obtain rfl:=List.mem_singleton.1 hm
    exact GM h.row hr _ hk hgl
 ·obtain⟨i,hi,rfl⟩:=List.mem_iff_getElem.1 hz
  rw[List.getElem_set];split
  ·exact SL (h.ok Y[j] (List.getElem_mem _))
  ·exact h.ok _ (List.getElem_mem _)
 ·rw[List.pairwise_iff_getElem]
  intro a b ha hb hab k hk;rw[hsl a ha]at hk;rw[hsl b hb];exact hap a b (by simpa using ha) (by simpa using hb) hab k hk
def pq(f:List UInt8→Int)(now ak:Int)(ys:List BV):Nat:=(ys.map (fun y=>y.x.recs.length-(aU f now ak y.x.recs).length)).sum
def pF(f:List UInt8→Int)(now ak:Int)(k:Nat)(ys:List BV):List BV:=(ys.take k).map (wV f now ak)++ys.drop k
theorem uu(f:List UInt8→Int)(now ak:Int)(k:Nat)(ys:List BV):(pF f now ak k ys).length=ys.length:=by
 unfold pF;simp;omega
theorem SN(f:List UInt8→Int)(now ak:Int){k:Nat}{ys:List BV}(hk:k<ys.length):(pF f now ak k ys)[k]'(by rw[uu];exact hk)=ys[k]:=by
 unfold pF;rw[List.getElem_append_right (by simp;omega)];simp[Nat.min_eq_left (Nat.le_of_lt hk)]
theorem LG(f:List UInt8→Int)(now ak:Int){k:Nat}{ys:List BV}(hk:k<ys.length):(pF f now ak k ys).set k (wV f now ak ys[k])=pF f now ak (k+1) ys:=by
 unfold pF;rw[List.set_append_right _ _ (by simp;omega),List.take_succ_eq_append_getElem hk,List.map_append];simp[Nat.min_eq_left (Nat.le_of_lt hk)];rw[List.drop_eq_getElem_cons hk];rfl
theorem LH(f:List UInt8→Int)(now ak:Int){k:Nat}{ys:List BV}(hk:k<ys.length):pq f now ak (ys.take (k+1))=pq f now ak (ys.take k)+(ys[k].x.recs.length-(aU f now ak ys[k].x.recs).length):=by
 unfold pq;rw[List.take_succ_eq_append_getElem hk,List.map_append,List.sum_append];simp
end Lg
end
section
set_option maxRecDepth 100000
attribute [local go_sem] Oper.semAt_some
open Dk (DA aj Parts dA aC bQ)
open Sg (aS aA dV Both Came ae flat Chain iG BV)
namespace Lg
def nZ:(List UInt8→Int)→List Bt.Rec→(List UInt8→Int)
 |f,[]=>f
 |f,r::rs=>nZ (if r.keyed then(fun x=>if x=r.key then r.off else f x)else f) rs
theorem pG:∀(xs ys:List Bt.Rec) (f:List UInt8→Int),nZ f (xs++ys)=nZ (nZ f xs) ys
 |[],_,_=>rfl
 |x::r,ys,f=>by
  show nZ (if x.keyed then(fun z=>if z=x.key then x.off else f z)else f) (r++ys)=nZ (nZ (if x.keyed then(fun z=>if z=x.key then x.off else f z)else f) r) ys;exact pG r ys _
theorem PD(f:List UInt8→Int)(rs:List Bt.Rec){j:Nat}(h:j<rs.length):nZ f (rs.take (j+1))=if rs[j].keyed then(fun x=>if x=rs[j].key then rs[j].off else nZ f (rs.take j) x)else nZ f (rs.take j):=by
 rw[List.take_succ_eq_append_getElem h,pG];rfl
theorem rf(w:World)(base d:Nat)(F:List Nat)(A:DA)(lb:Nat)(gv:Value)(dir:ByteArray)(v:LV)(ms:List SM)(h:az w base d F A lb gv dir v ms)(gG:dir.size≤1000)(hok:sW A dir (ms.map SM.abs)):
 Calls Tryz.prog 75 #[.pointer (some ⟨lb,0,none⟩)] w fun e w'=>∃mb n,e= .returned (.tuple #[.map (some mb), .nilIface])∧pO w' mb n (nZ (fun _=>0) (aK (af (ms.map SM.abs))))∧w.heap.size≤mb∧n≤1000000000∧Turn [] w w':=by
 have qF:=hok.many;rw[List.length_map]at qF;obtain⟨ga,gc,hgv,Ag,uF⟩:=h.row.form;subst hgv;have hmx:maxLen=9223372036854775807:=by simp[maxLen]
 rw[hmx]at uF;have H:=hide h;have xq:=hide hok;have c3:=(h.still ((Turn.refl [] w).alloc (.map #[] 0))).c3;have hlb:=lt_of_heap h.box;have hmm:= @run_makeMap Tryz.prog;clear h hok;go_enter Tryz.func75,Tryz.ntmps75
 go_wp2
 go_loopw [17] (fun kv wr=>∃k n:Nat,k≤ms.length∧kv= .int .i64 k∧n≤k*400000∧w.heap.size<wr.heap.size∧pO wr w.heap.size n (nZ (fun _=>0) (aK (af ((ms.map SM.abs).take k))))∧Turn [] w wr) (fun kv _=>ms.length-(intOf kv).toNat)
 case atStart=>exact⟨0,0,Nat.zero_le _,rfl,Nat.zero_le _,by rw[World.size_alloc];omega,pO.made w,(Turn.refl [] w).alloc _⟩
 case round=>
  obtain⟨k,n,hk,rfl,hn,hgt,him,htw⟩:=hrel;have Uh:=hide him;have dO:=hide htw;clear him htw hmm c3;by_cases hlt:k<ms.length
  ·obtain⟨g,cap,e,hc, -⟩:=(H.out.still dO.out).row.at fJ (j:=k) hlt
   simp only[Value.slice.injEq,true_and]at e;obtain⟨rfl,rfl⟩:=e;obtain⟨m,hm⟩:∃m,m=ms[k]:=⟨_,rfl⟩;have abq:m∈ms:=by rw[hm];exact List.getElem_mem _
   have hpa:m.abs∈ms.map SM.abs:=List.mem_map_of_mem abq;have hkm:k<(ms.map SM.abs).length:=by rw[List.length_map];exact hlt
   have hka:(ms.map SM.abs)[k]=m.abs:=by rw[List.getElem_map,hm]
   have hn0:m.n≤1099511627776:=xq.out.base _ hpa;obtain⟨f,hf,hfb⟩:=xq.out.file _ hpa;have hch:Chain (m.n:Int) m.xs:=xq.out.chain _ hpa;have hfl:(flat m.xs).length≤1048576:=iM H.out.disk xq.out hpa;have hrf:=sZ m.xs;have hxl:=Sg.dw m.xs;have hwh:=fun(Z:World) (hZ:Turn [] w Z)=>FB Z base d F A m.sb m.sv _ m.n m.xs ((H.out.still hZ).both abq) (Sg.ja hn0 gG) f hf hfb hch
   have hba:=fun(Z:World) (hZ:Turn [] w Z)=>Sg.jP Z base d m.sb m.sv _ m.n _ ((H.out.still hZ).jo m abq)
   have hsn:aK (af ((ms.map SM.abs).take (k+1)))=aK (af ((ms.map SM.abs).take k))++aK m.xs:=by
    rw[vw _ hkm,hka];unfold aK;rw[List.flatMap_append];rfl
   have aan:aZ (m.n:Int) m.xs=aK m.xs:=by rw[jq,oI (pg hch)]
   rw[←hm]at hc;have c0:wr.cell? ⟨g,k,none⟩=some (.pointer (some ⟨m.sb,0,none⟩)):=by simpa[DL]using hc 0 (by omega)
   have Zt:=hide hwh;have Aa:=hide hba;have xJ:=hide hsn;have nX:=hide aan;have UX:=hide (And.intro hfl (And.intro hrf hxl));clear hc hm abq hpa hkm hka hn0 hf hfb hch hfl hrf hxl hwh hba hsn aan;go_wp2_with fail
   refine(Zt.out wr dO.out).mono ?_;rintro e w2 ⟨lv,ys,rfl,hbr,hys,ht2⟩;have xm:=hide hbr;have NP:=hide hys;have HT2:=hide ht2;have hs2:=ht2.size;clear hbr hys ht2 Zt;go_wp2_with fail
   refine(Aa.out w2 (dO.out.same HT2.out)).mono ?_;rintro e w3 ⟨rfl,rfl⟩;clear Aa;go_wp2_with fail
   refine(Fp w2 wr.heap.size lv ys xm.out.toB (m.n:Int) (by have:=UX.out;have:=congrArg List.length NP.out;rw[List.length_map]at this;omega) (by have:=UX.out;rw[NP.out];omega)).mono ?_;rintro e w4 ⟨ov,rfl,Pe,ht4⟩;rw[NP.out,nX.out]at Pe;obtain⟨ra,rc,hov,Dw,wK⟩:=Pe.form;subst hov;have LJ:∀r∈aK m.xs,iQ r:=by
    intro r hr;obtain⟨x,hx,hr⟩:=List.mem_flatMap.1 hr;rw[←NP.out]at hx;obtain⟨y,hy,rfl⟩:=List.mem_map.1 hx;exact xm.out.ok y hy r hr
   have hrl:(aK m.xs).length≤400000:=by have:=UX.out;unfold aK;omega
   obtain⟨rs,hrs⟩:∃rs,rs=aK m.xs:=⟨_,rfl⟩;rw[←hrs]at Pe Dw LJ hrl xJ⊢;obtain⟨f0,hf0⟩:∃f0,f0=nZ (fun _=>0) (aK (af ((ms.map SM.abs).take k))):=⟨_,rfl⟩;rw[←hf0]at Uh;have hsn:nZ (fun _=>0) (aK (af ((ms.map SM.abs).take (k+1))))=nZ f0 rs:=by rw[xJ.out,pG,←hf0]
   have hs4:=ht4.size;have HT4:=hide ((dO.out.same HT2.out).same ht4);have ao7:=hide (Uh.out.still (HT2.out.same ht4));have dI:=hide Pe;have ao8:=hide LJ;have ao9:=hide hsn;rw[hmx]at wK;clear Pe LJ hsn hrs hf0 xJ Uh xm NP nX UX ht4;go_wp2
   go_loopw [34] (fun jv wi=>∃j q:Nat,j≤rs.length∧jv= .int .i64 j∧q≤n+j∧pO wi w.heap.size q (nZ f0 (rs.take j))∧Turn [w.heap.size] w4 wi∧Turn [] w wi) (fun jv _=>rs.length-(intOf jv).toNat)
   case atStart=>exact⟨0,n,Nat.zero_le _,rfl,by omega,ao7.out,Turn.refl _ _,HT4.out⟩
   case round=>
    obtain⟨j,q,hj,rfl,hq,him,hti,Zu⟩:=hrel;have UI:=hide hti;have Xn:=hide Zu;have UY:=hide him;have hsi:=hti.size;clear hti Zu him;by_cases hjl:j<rs.length
    ·have VH:=dI.out.kept UI.out (by intro b hb;have:=(dI.out.lt b hb).1;simp;omega)
     obtain⟨g2,cap2,e2,hc2, -⟩:=VH.at bH (j:=j) hjl;simp only[Value.slice.injEq,true_and]at e2;obtain⟨rfl,rfl⟩:=e2;have hls:=PD f0 rs hjl;have hrk:=ao8.out rs[j] (List.getElem_mem _);obtain⟨r,hr⟩:∃r,r=rs[j]:=⟨_,rfl⟩;rw[←hr]at hc2 hls hrk;have g0:wr.cell? ⟨g2,j*6,none⟩=some (.int .i64 r.off):=hc2 0 (by omega);have g1:wr.cell? ⟨g2,j*6+1,none⟩=some (.int .i64 r.time):=hc2 1 (by omega);have g22:wr.cell? ⟨g2,j*6+2,none⟩=some (.bool r.keyed):=hc2 2 (by omega);have g3:wr.cell? ⟨g2,j*6+3,none⟩=some (.string ⟨r.key.toArray⟩):=hc2 3 (by omega);have g4:wr.cell? ⟨g2,j*6+4,none⟩=some (.bool r.gone):=hc2 4 (by omega);have g5:wr.cell? ⟨g2,j*6+5,none⟩=some (.string ⟨r.value.toArray⟩):=hc2 5 (by omega);have Rq:=hide hls;have HRK:=hide hrk;have hks:(⟨r.key.toArray⟩:ByteArray).size≤maxLen:=by rw[hmx];show r.key.toArray.size≤_;simpa using hrk.key
     have Zv:=hide hks;clear VH hc2 hls hrk hr hks;cases hkd:r.keyed
     ·rw[hkd]at g22 Rq
      clear hkd Zv;go_wp2
      all_goals refine⟨⟨j+1,q,by omega,by go_num,by omega,?_,UI.out.alloc _,Xn.out.alloc _⟩,?_⟩
      all_goals first|(simp only[intOf];omega)|(rw[Rq.out,if_neg Bool.false_ne_true];exact UY.out.still ((Turn.refl [] wr).alloc _))
     ·rw[hkd]at g22 Rq
      clear hkd;have hal:Turn [] wr (wr.alloc (.cells #[.int .i64 r.off, .int .i64 r.time, .bool true, .string ⟨r.key.toArray⟩, .bool r.gone, .string ⟨r.value.toArray⟩] 52)):=(Turn.refl [] wr).alloc _;obtain⟨w7,hr7,ae8,ht7⟩:=(UY.out.still hal).put (by rw[hmx];omega) Zv.out (v:=r.off) (by have:=HRK.out.off1;have:=HRK.out.off2;simp[Lit.wf,IntKind.min,IntKind.max,IntKind.signed,IntKind.bits];omega);have HAL:=hide hal;rw[show(⟨r.key.toArray⟩:ByteArray).data.toList=r.key from by simp]at ae8;have Xo:=hide ae8;have HT7:=hide ht7;clear hal ae8 ht7;go_wp2
      all_goals refine⟨⟨j+1,q+1,by omega,by go_num,by omega,?_,(UI.out.alloc _).same HT7.out,(Xn.out.alloc _).trans HT7.out (fun x hx=> .inr (by simp at hx;omega))⟩,?_⟩
      all_goals first|(simp only[intOf];omega)|(rw[Rq.out,if_pos rfl];exact Xo.out)
    ·obtain rfl:j=rs.length:=by omega
     rw[List.take_length]at UY;go_wp2
     all_goals refine⟨⟨k+1,q,by omega,by go_num,by omega,by omega,?_,Xn.out⟩,?_⟩
     all_goals first|(simp only[intOf];omega)|(rw[ao9.out];exact UY.out)
  ·obtain rfl:k=ms.length:=by omega
   have htk:(ms.map SM.abs).take ms.length=ms.map SM.abs:=List.take_of_length_le (by rw[List.length_map];exact Nat.le_refl _);rw[htk]at Uh;clear htk;go_wp2
   go_ret2
   exact⟨_,n,rfl,Uh.out,Nat.le_refl _,by omega,dO.out⟩
end Lg
end
section
open Dk (DA FA aH)
open Sg (Chain flat ae)
namespace Lg
theorem JB:∀(f m n:Nat),n<f→m≤n→(Nu.put m).length≤(Nu.put n).length
 |0,_,_,h,_=>by omega
 |f+1,m,n,h,hm=>by
  by_cases h1:m<128
  ·rw[Nu.jR h1]
   have:=Nu.put_pos n;simp only[List.length_cons,List.length_nil];omega
  ·rw[Nu.oZ (by omega:128≤m),Nu.oZ (by omega:128≤n),List.length_cons,List.length_cons]
   have:=JB f (m/128) (n/128) (by omega) (by omega);omega
theorem PE{r:Bt.Rec}{lo lo' hi:Int}(h:Bt.dR r lo hi=0)(hl:lo'≤lo):Bt.dR r lo' hi=0:=by
 unfold Bt.dR at h⊢;split at h
 ·omega
 ·rename_i h1
  rw[if_neg (fun hc=>h1 (hc.imp_left (fun h=>by omega)))];exact h
theorem LK:∀{rs:List Bt.Rec} {lo lo' hi:Int},Bt.bG rs lo hi=0→lo'≤lo→Bt.bG rs lo' hi=0
 |[],_,_,_,_,_=>rfl
 |r::rs,lo,lo',hi,h,hl=>by
  unfold Bt.bG at h⊢;split at h
  ·rename_i h1
   rw[if_pos (PE h1 hl)];exact h
  ·rename_i h1
   exact absurd h h1
theorem tJ(p:Bt.Rec→Bool):∀{rs:List Bt.Rec} {lo hi:Int},Bt.bG rs lo hi=0→Bt.bG (rs.filter p) lo hi=0
 |[],_,_,_=>rfl
 |r::rs,lo,hi,h=>by
  unfold Bt.bG at h;split at h
  ·rename_i h1
   have ih:=tJ p h;rw[List.filter_cons];split
   ·unfold Bt.bG
    rw[if_pos h1];exact ih
   ·exact LK ih (by have:=(Bt.jS h1).1;omega)
  ·rename_i h1
   exact absurd h h1
theorem wW(p:Bt.Rec→Bool)(base:Int):∀rs:List Bt.Rec,(Bt.iy base (rs.filter p)).length≤(Bt.iy base rs).length
 |[]=>Nat.le_refl _
 |r::rs=>by
  have ih:=wW p base rs;unfold Bt.iy at ih⊢;rw[List.filter_cons];split
  ·simp only[List.flatMap_cons,List.length_append];omega
  ·simp only[List.flatMap_cons,List.length_append];omega
section
variable (f:List UInt8→Int) (now ak:Int)
def bn(x:Bt.aB):Bt.aB:={x with recs:=aU f now ak x.recs}
def fU(xs:List Bt.aB):Nat:=(xs.map (fun x=>x.recs.length-(aU f now ak x.recs).length)).sum
theorem uw(rs:List Bt.Rec):(aU f now ak rs).length≤rs.length:=List.length_filter_le _ _
theorem FM{x:Bt.aB}(h:Bt.aQ x=0):(Bt.ah (bn f now ak x)).length≤(Bt.ah x).length:=by
 have h1:=JB (x.recs.length+1) (aU f now ak x.recs).length x.recs.length (by omega) (uw f now ak _);have h2:=wW (fun r=> !jf f now ak r) x.base x.recs;unfold Bt.ah Bt.body bn aU at*;simp only[List.length_append,Bt.su];omega
theorem PG{x:Bt.aB}(h:Bt.aQ x=0):Bt.aQ (bn f now ak x)=0:=by
 have hl:=FM f now ak h;have hk:=(Bt.dJ h).1;obtain⟨k1,k2,k3,k4,k5,k6⟩:=Bt.jX hk;have hs:=uw f now ak x.recs;have hc:Bt.chk (bn f now ak x)=0:=by
  unfold Bt.chk bn;simp only;rw[if_neg (by omega),if_neg (by omega),if_neg (by omega)];exact tJ _ k6
 have hb:=(Bt.dJ h).2;have e1:=Bt.gX x;have e2:=Bt.gX (bn f now ak x);unfold Bt.aQ;rw[if_pos hc,if_neg (by omega)]
theorem iO:∀{xs:List Bt.aB} {b:Int},Chain b xs→Chain b (xs.map (bn f now ak))
 |[],_,_=>trivial
 |x::r,b,h=>⟨PG f now ak h.1,h.2.1,iO h.2.2⟩
theorem qI:∀{xs:List Bt.aB} {b:Int},Chain b xs→(flat (xs.map (bn f now ak))).length≤(flat xs).length
 |[],_,_=>Nat.le_refl _
 |x::r,b,h=>by
  have h1:=FM f now ak h.1;have h2:=qI h.2.2;unfold flat at h2⊢;simp only[List.map_cons,List.flatMap_cons,List.length_append];omega
theorem uy:∀(xs:List Bt.aB) (b:Int),ae b (xs.map (bn f now ak))=ae b xs
 |[],b=>rfl
 |x::r,b=>by
  rw[List.map_cons,Sg.lI,Sg.lI];exact uy r _
theorem PH(xs:List Bt.aB):aK (xs.map (bn f now ak))=aU f now ak (aK xs):=by
 induction xs with
 |nil=>rfl
 |cons x r ih=>
  unfold aK aU at ih⊢;rw[List.map_cons,List.flatMap_cons,List.flatMap_cons,List.filter_append,ih];rfl
theorem FN(xs:List Bt.aB):(aU f now ak (aK xs)).length+fU f now ak xs=(aK xs).length:=by
 induction xs with
 |nil=>rfl
 |cons x r ih=>
  have h1:=uw f now ak x.recs;simp only[aK,aU,fU]at h1 ih⊢;simp only[List.map_cons,List.flatMap_cons,List.filter_append,List.length_append,List.sum_cons];omega
theorem FO{xs:List Bt.aB}(h:fU f now ak xs=0):xs.map (bn f now ak)=xs:=by
 have:∀x∈xs,bn f now ak x=x:=by
  intro x hx;have h1:x.recs.length-(aU f now ak x.recs).length=0:=by
   unfold fU at h;rw[List.sum_eq_zero_iff_forall_eq_nat]at h;exact h _ (List.mem_map.2 ⟨x,hx,rfl⟩)
  have h2:aU f now ak x.recs=x.recs:=by
   unfold aU at h1⊢;exact List.filter_eq_self.2 (by
    have:=List.length_filter_eq_length_iff.1 (show(x.recs.filter (fun r=> !jf f now ak r)).length=x.recs.length by have:=List.length_filter_le (fun r=> !jf f now ak r) x.recs;omega);exact this)
  unfold bn;rw[h2]
 have:=List.map_congr_left this;simpa using this
end
theorem UZ{L:List Bt.Rec}:∀{f:List UInt8→Int},L.Pairwise (fun a b=>a.off<b.off)→(∀k,∀r∈L,f k≤r.off)→∀r∈L,r.keyed=true→r.off≤nZ f L r.key:=by
 have hup:∀(L:List Bt.Rec) (f:List UInt8→Int) (k:List UInt8),L.Pairwise (fun a b=>a.off<b.off)→(∀r∈L,f k≤r.off)→f k≤nZ f L k:=by
  intro L;induction L with
  |nil=>intro f k _ _;exact Int.le_refl _
  |cons r rs ih=>
   intro f k hs hf;rw[List.pairwise_cons]at hs;unfold nZ;refine Int.le_trans ?_ (ih _ k hs.2 (fun x hx=>?_))
   ·split
    ·dsimp only
     split
     ·rename_i e;exact hf r (by simp)
     ·exact Int.le_refl _
    ·exact Int.le_refl _
   ·have h1:=hs.1 x hx
    have h2:=hf x (by simp[hx]);split
    ·dsimp only
     split
     ·omega
     ·exact h2
    ·exact h2
 induction L with
 |nil=>intro f _ _ r hr;simp at hr
 |cons q rs ih=>
  intro f hs hf r hr hk;rw[List.pairwise_cons]at hs;unfold nZ;rcases List.mem_cons.1 hr with rfl|hr
  ·rw[if_pos hk]
   refine Int.le_trans ?_ (hup rs _ r.key hs.2 (fun x hx=>?_))
   ·simp
   ·simp only[if_true]
    exact Int.le_of_lt (hs.1 x hx)
  ·refine ih hs.2 (fun k x hx=>?_) r hr hk
   have h1:=hs.1 x hx;have h2:=hf k x (by simp[hx]);split
   ·dsimp only
    split
    ·omega
    ·exact h2
   ·exact h2
theorem D5:∀(L:List Bt.Rec) (f:List UInt8→Int) (k:List UInt8),(∃r∈L,r.keyed=true∧r.key=k∧nZ f L k=r.off)∨nZ f L k=f k
 |[],f,k=> .inr rfl
 |q::rs,f,k=>by
  unfold nZ;rcases D5 rs (if q.keyed then(fun x=>if x=q.key then q.off else f x)else f) k with⟨r,hr,h1,h2,h3⟩|h
  ·exact .inl ⟨r,by simp[hr],h1,h2,h3⟩
  ·rw[h]
   cases hq:q.keyed with
   |false=>exact .inr (by simp)
   |true=>
    by_cases e:k=q.key
    ·exact .inl ⟨q,by simp,hq,e.symm,by simp[e]⟩
    ·exact .inr (by simp[e])
def dQ(L:List Bt.Rec):List UInt8→Int:=nZ (fun _=>0) L
theorem JC{L:List Bt.Rec}(hs:L.Pairwise (fun a b=>a.off<b.off))(h0:∀r∈L,0≤r.off):∀r∈L,r.keyed=true→r.off≤dQ L r.key:=UZ hs (fun _ r hr=>h0 r hr)
def bC(dir:ByteArray)(f:List UInt8→Int)(now ak:Int):DA→List (Nat×List Bt.aB)→Int×DA×Nat×List (Nat×List Bt.aB)
 |A,[]=>(0,A,0,[])
 |A,p::r=>
  if fU f now ak p.2=0 then((bC dir f now ak A r).1,(bC dir f now ak A r).2.1,(bC dir f now ak A r).2.2.1,p::(bC dir f now ak A r).2.2.2)
  else if (aG A (Sn.nameB dir p.1) p.1 (p.2.map (bn f now ak))).1≠0 then((aG A (Sn.nameB dir p.1) p.1 (p.2.map (bn f now ak))).1,(aG A (Sn.nameB dir p.1) p.1 (p.2.map (bn f now ak))).2.1,0,p::r)
  else((bC dir f now ak (aG A (Sn.nameB dir p.1) p.1 (p.2.map (bn f now ak))).2.1 r).1,(bC dir f now ak (aG A (Sn.nameB dir p.1) p.1 (p.2.map (bn f now ak))).2.1 r).2.1,
   fU f now ak p.2+(bC dir f now ak (aG A (Sn.nameB dir p.1) p.1 (p.2.map (bn f now ak))).2.1 r).2.2.1,(p.1,p.2.map (bn f now ak))::(bC dir f now ak (aG A (Sn.nameB dir p.1) p.1 (p.2.map (bn f now ak))).2.1 r).2.2.2)
theorem sW.rewrite{A:DA}{dir:ByteArray}{s1 s2:List (Nat×List Bt.aB)}{p:Nat×List Bt.aB}(h:sW A dir (s1++p::s2))(hnd:((s1++p::s2).map (·.1)).Nodup)(f:List UInt8→Int)(now ak:Int):
 ((aG A (Sn.nameB dir p.1) p.1 (p.2.map (bn f now ak))).1≠0→sW (aG A (Sn.nameB dir p.1) p.1 (p.2.map (bn f now ak))).2.1 dir (s1++p::s2))∧
 ((aG A (Sn.nameB dir p.1) p.1 (p.2.map (bn f now ak))).1=0→sW (aG A (Sn.nameB dir p.1) p.1 (p.2.map (bn f now ak))).2.1 dir (s1++(p.1,p.2.map (bn f now ak))::s2)):=by
 have ae9:=yX A (Sn.nameB dir p.1) p.1 (p.2.map (bn f now ak));have hat:∀q∈s1++p::s2,bu A (bJ dir q.1)=some (flat q.2):=by
  intro q hq;obtain⟨g,hg,hb⟩:=h.file q hq;unfold bu bJ;rw[hg,Option.map_some,hb]
 have afx:∀(A':DA) (q:Nat×List Bt.aB),bu A' (bJ dir q.1)=some (flat q.2)→∃g,A'.file (Sn.nameB dir q.1).data.toList=some g∧g.bytes=flat q.2:=by
  intro A' q e;unfold bu bJ at e;obtain⟨g,hg,hb⟩:=Option.map_eq_some_iff.1 e;exact⟨g,hg,hb⟩
 constructor
 ·intro hne
  have hf:(aG A (Sn.nameB dir p.1) p.1 (p.2.map (bn f now ak))).2.2=false:=by
   cases e:(aG A (Sn.nameB dir p.1) p.1 (p.2.map (bn f now ak))).2.2 with
   |false=>rfl
   |true=>exact absurd (ae9.1 e) hne
  refine⟨h.base,fun q hq=>afx _ q ?_,h.chain,h.many⟩;rw[Jy hf _ (by simp only[List.mem_singleton];exact fun e=>qH _ _ _ e.symm)];exact hat q hq
 ·intro h0
  have acx:=(yV (ae9.2 h0)).2;refine⟨fun q hq=>?_,fun q hq=>afx _ q ?_,fun q hq=>?_,by have:=h.many;simpa using this⟩
  ·rcases List.mem_append.1 hq with hq|hq
   ·exact h.base q (List.mem_append_left _ hq)
   ·rcases List.mem_cons.1 hq with rfl|hq
    ·exact h.base p (by simp)
    ·exact h.base q (by simp[hq])
  ·have alb:∀q∈s1++p::s2,q.1≠p.1→bu (aG A (Sn.nameB dir p.1) p.1 (p.2.map (bn f now ak))).2.1 (bJ dir q.1)=some (flat q.2):=by
    intro q hq hne;rw[He A _ _ _ _ (by
     simp only[List.mem_cons,List.not_mem_nil,or_false,not_or];exact⟨fun e=>qH _ _ _ e.symm,fun e=>hne (fK (h.base q hq) (h.base p (by simp)) e)⟩)]
    exact hat q hq
   rw[List.map_append,List.map_cons,List.nodup_append,List.nodup_cons]at hnd;rcases List.mem_append.1 hq with hq|hq
   ·exact alb q (List.mem_append_left _ hq) (fun e=>hnd.2.2 q.1 (List.mem_map.2 ⟨q,hq,rfl⟩) p.1 (by simp) e)
   ·rcases List.mem_cons.1 hq with rfl|hq
    ·exact acx
    ·exact alb q (by simp[hq]) (fun e=>hnd.2.1.1 (List.mem_map.2 ⟨q,hq,e⟩))
  ·rcases List.mem_append.1 hq with hq|hq
   ·exact h.chain q (List.mem_append_left _ hq)
   ·rcases List.mem_cons.1 hq with rfl|hq
    ·exact iO f now ak (h.chain p (by simp))
    ·exact h.chain q (by simp[hq])
theorem D6{room:Nat}{dir:ByteArray}{f:List UInt8→Int}{now ak:Int}(hok:∀n,n≤1099511627776→Dk.nameB (aN (Sn.nameB dir n))=true∧Dk.nameB (Sn.nameB dir n)=true)(hi:Nat):∀(ss s1 s2:List (Nat×List Bt.aB)) (A:DA),rF A room dir (s1++ss++s2)→(s1++ss++s2).length<200→(∀p∈ss,Chain p.1 p.2)→(flat (af (s1++ss++s2))).length≤hi→2*hi≤room→
 (bC dir f now ak A ss).1=0∧rF (bC dir f now ak A ss).2.1 room dir (s1++ss.map (fun p=>(p.1,p.2.map (bn f now ak)))++s2)∧(bC dir f now ak A ss).2.2=(fU f now ak (af ss),ss.map (fun p=>(p.1,p.2.map (bn f now ak))))
 |[],s1,s2,A,h,_,_,_,_=>⟨rfl,by simpa[bC]using h,rfl⟩
 |p::r,s1,s2,A,h,hl,hc,hf,hr=>by
  have hbl:fU f now ak (af (p::r))=fU f now ak p.2+fU f now ak (af r):=by
   rw[gQ];unfold fU;rw[List.map_append,List.sum_append]
  unfold bC;by_cases h0:fU f now ak p.2=0
  ·have hst:=FO f now ak h0
   obtain⟨k1,k2,k3⟩:=D6 hok hi r (s1++[p]) s2 A (by simpa using h) (by simpa using hl) (fun q hq=>hc q (by simp[hq])) (by simpa using hf) hr;rw[if_pos h0,List.map_cons,hst];refine⟨k1,by simpa using k2,?_⟩;simp only;rw[k3,hbl,h0];simp
  ·have h':rF A room dir (s1++(p.1,p.2)::(r++s2)):=by simpa using h
   have hpc:=hc p (by simp);have hsf:=qI f now ak hpc;have hpl:(flat p.2).length≤(flat (af (s1++(p::r)++s2))).length:=by
    rw[kQ];simp only[List.map_append,List.map_cons,List.sum_append,List.sum_cons];omega
   obtain⟨q1,q2⟩:=h'.rewrite (p.2.map (bn f now ak)) (iO f now ak hpc) (hok p.1 (h.base p (by simp))).1 (hok p.1 (h.base p (by simp))).2 (by simpa using hl) (by
    have e:(s1++(p.1,p.2)::(r++s2))=s1++(p::r)++s2:=by simp
    rw[e];omega)
   have hf2:(flat (af (s1++[(p.1,p.2.map (bn f now ak))]++r++s2))).length≤hi:=by
    rw[kQ]at hf⊢;simp only[List.map_append,List.map_cons,List.map_nil,List.sum_append,List.sum_cons,List.sum_nil]at hf⊢;omega
   obtain⟨k1,k2,k3⟩:=D6 hok hi r (s1++[(p.1,p.2.map (bn f now ak))]) s2 (aG A (Sn.nameB dir p.1) p.1 (p.2.map (bn f now ak))).2.1 (by simpa using q2) (by simpa using hl) (fun q hq=>hc q (by simp[hq])) hf2 hr;rw[if_neg h0,if_neg (by simp[q1]),List.map_cons];refine⟨k1,by simpa using k2,?_⟩;simp only;rw[k3,hbl]
end Lg
end
end Go.Proofs.YtficbckncieabaaGreatDoor
