/- Lemmas of the claim, part i of 14. -/
import Derived.Test.YtmjpdhpmjmgmaaaGreatDoorMh
import Derived.Test.YtmjpdhpmjmgmaaaGreatDoorMb
import Derived.Test.YtmjpdhpmjmgmaaaGreatDoorProg
import Derived.Test.YtmjpdhpmjmgmaaaGreatDoorMc
import Derived.Maps.OwnSet
import Derived.Sort.KeysCollected
namespace Go.Proofs.YtmjpdhpmjmgmaaaGreatDoor
open Go.RowKit Go.Maps
set_option maxRecDepth 100000
set_option linter.unusedSimpArgs false
set_option linter.unusedVariables false
section
attribute [local go_sem] Oper.semAt_some
namespace Wh
def o9(x:Tm):List Value:=[.int .i64 x.1, .int .i64 x.2]
def zh(x:Tm):Value:= .agg #[.int .i64 x.1, .int .i64 x.2]
theorem eQ:∀x,(o9 x).length=2:=fun _=>rfl
abbrev TR(w:World)(base:Nat)(v:Value)(l:List Tm):Prop:=aH 87 2 o9 w base v l
theorem YT(w:World):(sizeOf 87).run Tryz.prog w= .ok 2 w:=by kernel_rfl
theorem aggT(w:World):(isAgg 87).run Tryz.prog w= .ok true w:=by kernel_rfl
theorem Ui{w:World}{p:Addr}{x:Tm}(h0:w.cell? (p.add 0)=some (.int .i64 x.1))(h1:w.cell? (p.add 1)=some (.int .i64 x.2)):(loadVar 87 p).run Tryz.prog w= .ok (zh x) w:=by
 simp[loadVar,aggT,YT,Result.andThen,loadCells,loadCellsFrom,zh];simp[h0,h1]
theorem TR.load{w:World}{base:Nat}{g c n:Nat}{l:List Tm}(h:TR w base (.slice (some ⟨g,0,none⟩) n c) l){j:Nat}(hj:j<l.length):(loadVar 87 ⟨g,j*2,none⟩).run Tryz.prog w= .ok (zh l[j]) w:=by
 obtain⟨g',cap',e,hc, -⟩:=h.at eQ hj;simp only[Value.slice.injEq,Option.some.injEq,Addr.mk.injEq,true_and]at e;obtain⟨⟨rfl, -⟩,rfl,rfl⟩:=e;have h0:=hc 0 (by omega);have h1:=hc 1 (by omega);exact Ui (by rw[Addr.add_lit];first|(simp[o9];done)|simpa[o9]using h0) (by rw[Addr.add_lit];first|(simp[o9];done)|simpa[o9]using h1)
theorem TR.put{w:World}{base g n c:Nat}{l:List Tm}(h:TR w base (.slice (some ⟨g,0,none⟩) n c) l){i:Nat}(hi:i<l.length)(x:Tm):TR (w.setCells g (i*2) (o9 x)) base (.slice (some ⟨g,0,none⟩) n c) (l.set i x):=by
 have h0:=h.set eQ (j:=i) (i:=0) hi (by omega) (u:= .int .i64 x.1) (x':=(x.1,l[i].2)) rfl;have h1:=h0.set eQ (j:=i) (i:=1) (by simpa using hi) (by omega) (u:= .int .i64 x.2) (x':=x) (by simp[o9]);simp only[List.set_set]at h1;exact h1
theorem jc(g:Nat):∀(vs:List Value) (o:Nat) (w:World),Turn [g] w (w.setCells g o vs)
 |[],_,w=>Turn.refl _ w
 |v::r,o,w=>((Turn.refl [g] w).setCell (p:=⟨g,o,none⟩) (.inl (by simp)) v).same (jc g r (o+1) _)
theorem CJ(P M S:List Tm)(x y:Tm):((P++x::(M++y::S)).set P.length y).set (P.length+1+M.length) x=P++y::(M++x::S):=by
 rw[List.set_append_right _ _ (Nat.le_refl _),Nat.sub_self,List.set_cons_zero,List.set_append_right _ _ (by omega),show P.length+1+M.length-P.length=M.length+1 by omega,List.set_cons_succ,List.set_append_right _ _ (Nat.le_refl _),Nat.sub_self,List.set_cons_zero]
theorem II(P M S:List Tm)(x y:Tm):((P++x::(M++y::S)).set (P.length+1+M.length) x).set P.length y=P++y::(M++x::S):=by
 rw[List.set_comm _ _ (by omega),CJ]
theorem fP{L P R:List Tm}{x:Tm}{j:Nat}(hL:L=P++x::R)(hj:j=P.length)(h:j<L.length):L[j]=x:=by
 subst hL;subst hj;rw[List.getElem_append_right (Nat.le_refl _)];simp
def vT(x y:Int):Int:=if x<y then-1 else if y<x then 1 else 0
theorem AU(x y:Int):decide (vT x y<0)=decide (x<y):=by
 unfold vT;split
 ·simp[*]
 ·split
  ·simp[*]
  ·simp[*]
theorem EG(x:Int)(w:World):Calls Tryz.prog 44 #[.int .i64 x] w fun e w'=>e= .returned (.bool false)∧w'=w:=by
 go_enter Tryz.func44,Tryz.ntmps44
 go_wp2
 go_ret
 exact⟨rfl,rfl⟩
theorem IJ(x y:Int)(w:World):Calls Tryz.prog 26 #[.int .i64 x, .int .i64 y] w fun e w'=>e= .returned (.int .i64 (vT x y))∧w'=w:=by
 unfold vT;go_enter Tryz.func26,Tryz.ntmps26
 go_wp2_with fail
 refine(EG x _).mono ?_;rintro e w1 ⟨rfl,rfl⟩;go_wp2_with fail
 refine(EG y _).mono ?_;rintro e w2 ⟨rfl,rfl⟩;go_wp2
 all_goals go_ret
 all_goals simp_all
def DI:Value:= .func (.func 25) #[] #[]
theorem AV(x y:Tm)(w:World):Calls Tryz.prog 25 #[zh x,zh y] w fun e w'=>e= .returned (.int .i64 (vT x.1 y.1))∧Turn [] w w':=by
 unfold zh;go_enter Tryz.func25,Tryz.ntmps25
 go_wp2_with fail
 refine(IJ x.1 y.1 _).mono ?_;rintro e w1 ⟨rfl,rfl⟩;go_wp2
 go_ret
 exact⟨rfl,((Turn.refl _ _).alloc _).alloc _⟩
theorem TR.swapped{w:World}{base g n c:Nat}{P M S:List Tm}{x y:Tm}(h:TR w base (.slice (some ⟨g,0,none⟩) n c) (P++x::(M++y::S))):
 TR ((w.setCells g (P.length*2) (o9 y)).setCells g ((P.length+1+M.length)*2) (o9 x)) base (.slice (some ⟨g,0,none⟩) n c) (P++y::(M++x::S))∧
 TR ((w.setCells g ((P.length+1+M.length)*2) (o9 x)).setCells g (P.length*2) (o9 y)) base (.slice (some ⟨g,0,none⟩) n c) (P++y::(M++x::S)):=by
 have hl:(P++x::(M++y::S)).length=P.length+1+M.length+1+S.length:=by simp;omega
 refine⟨?_,?_⟩
 ·rw[←CJ P M S x y]
  exact(h.put (by rw[hl];omega) y).put (by rw[List.length_set,hl];omega) x
 ·rw[←II P M S x y]
  exact(h.put (by rw[hl];omega) x).put (by rw[List.length_set,hl];omega) y
theorem uK(w:World)(g o p:Nat)(us vs:List Value):Turn [g] w ((w.setCells g o us).setCells g p vs):=(jc g us o w).same (jc g vs p _)
set_option maxHeartbeats 1000000 in
theorem nG(w:World)(base g n c:Nat)(X A M B Y:List Tm)(h:TR w base (.slice (some ⟨g,0,none⟩) n c) (X++A++M++B++Y))(hAB:A.length=B.length)(hl:(X++A++M++B++Y).length≤1000000)(a b k:Int)(ha:a=X.length)(hb:b=((X++A++M).length:Nat))(hk:k=A.length):
 Calls Tryz.prog 156 #[.slice (some ⟨g,0,none⟩) n c, .int .i64 a, .int .i64 b, .int .i64 k,DI] w fun e w'=>e= .returned (.tuple #[])∧TR w' base (.slice (some ⟨g,0,none⟩) n c) (X++B++M++A++Y)∧Turn [g] w w':=by
 subst ha;subst hb;subst hk;have hn:n=(X++A++M++B++Y).length:=by
  obtain⟨a,c,e, -⟩:=h.form;simp only[Value.slice.injEq]at e;exact e.2.1
 have H:=hide h;have HN:=hide hn;have HL:=hide hl;have HAB:=hide hAB;have hlen:(X++A++M++B++Y).length=X.length+A.length+M.length+B.length+Y.length:=by simp;omega
 have hl2:(X++A++M).length=X.length+A.length+M.length:=by simp;omega
 rw[hl2];have HLEN:=hide hlen;obtain⟨xl,hxl⟩:∃xl,xl=X.length:=⟨_,rfl⟩;obtain⟨al,hal⟩:∃al,al=A.length:=⟨_,rfl⟩;obtain⟨ml,hml⟩:∃ml,ml=M.length:=⟨_,rfl⟩;rw[←hxl,←hal,←hml];have jd:=hide hxl;have mX:=hide hal;have X9:=hide hml;have hb1:xl+al+ml+al≤n:=by rw[hn,hlen,hxl,hal,hml,hAB];omega
 have hb2:n≤1000000:=by rw[hn];exact hl
 clear h hn hl hAB hlen hl2 hxl hal hml;unfold DI;go_enter Tryz.func156,Tryz.ntmps156
 go_wp2
 go_loopw [10] (fun iv wr=>∃i:Nat,i≤al∧iv= .int .i64 i∧TR wr base (.slice (some ⟨g,0,none⟩) n c) (X++B.take i++A.drop i++M++A.take i++B.drop i++Y)∧Turn [g] w wr) (fun iv _=>al-(intOf iv).toNat)
 case atStart=>
  refine⟨0,Nat.zero_le _,rfl,?_,Turn.refl _ _⟩;simpa using H.out
 case round=>
  obtain⟨i,hi,rfl,hrow,htw⟩:=hrel;have dJ:=hide htw;clear htw;by_cases hlt:i<al
  ·have hiA:i<A.length:=by rw[←mX.out];exact hlt
   have hiB:i<B.length:=by rw[←HAB.out];exact hiA
   rw[List.drop_eq_getElem_cons hiA,List.drop_eq_getElem_cons hiB]at hrow;obtain⟨x,hx⟩:∃x,x=A[i]:=⟨_,rfl⟩;obtain⟨y,hy⟩:∃y,y=B[i]:=⟨_,rfl⟩;rw[←hx,←hy]at hrow;have e1:X++B.take i++x::A.drop (i+1)++M++A.take i++y::B.drop (i+1)++Y=(X++B.take i)++x::((A.drop (i+1)++M++A.take i)++y::(B.drop (i+1)++Y)):=by simp
   rw[e1]at hrow;have hp1:(X++B.take i).length=xl+i:=by rw[List.length_append,List.length_take,←jd.out,Nat.min_eq_left (by omega)]
   have hm1:(A.drop (i+1)++M++A.take i).length=al+ml-1:=by
    rw[List.length_append,List.length_append,List.length_drop,List.length_take,←X9.out,←mX.out];omega
   obtain⟨L,hL⟩:∃L,L=(X++B.take i)++x::((A.drop (i+1)++M++A.take i)++y::(B.drop (i+1)++Y)):=⟨_,rfl⟩;have yO:L.length=n:=by
    obtain⟨a,c,e, -⟩:=hrow.form;rw[←hL]at e;simp only[Value.slice.injEq]at e;exact e.2.1.symm
   have hx1:L[xl+i]'(by omega)=x:=fP hL hp1.symm _;have hy1:L[xl+al+ml+i]'(by omega)=y:=by
    refine fP (P:=(X++B.take i)++x::(A.drop (i+1)++M++A.take i)) (R:=B.drop (i+1)++Y) (by rw[hL];simp) ?_ _;rw[List.length_append,List.length_cons,hp1,hm1];omega
   have hsw:=hrow.swapped;rw[hp1,hm1,show xl+i+1+(al+ml-1)=xl+al+ml+i by omega]at hsw;rw[←hL]at hrow;have q1:=hrow.load (j:=xl+i) (by omega);have q2:=hrow.load (j:=xl+al+ml+i) (by omega);rw[hx1]at q1;rw[hy1]at q2;obtain⟨g',cap',e,k1,kf⟩:=hrow.at eQ (j:=xl+i) (by omega);simp only[Value.slice.injEq,Option.some.injEq,Addr.mk.injEq,and_true]at e;obtain⟨rfl, -,rfl⟩:=e;obtain⟨g',cap',e,k2, -⟩:=hrow.at eQ (j:=xl+al+ml+i) (by omega);simp only[Value.slice.injEq,Option.some.injEq,Addr.mk.injEq,and_true]at e;obtain⟨rfl, -,rfl⟩:=e;rw[hx1]at k1;rw[hy1]at k2;have zg:=(hrow.lt g (by simp[Value.ownBlock])).2;have a0:wr.cell? ⟨g,(xl+i)*2,none⟩=some (.int .i64 x.1):=k1 0 (by omega);have a1:wr.cell? ⟨g,(xl+i)*2+1,none⟩=some (.int .i64 x.2):=k1 1 (by omega);have b0:wr.cell? ⟨g,(xl+al+ml+i)*2,none⟩=some (.int .i64 y.1):=k2 0 (by omega);have b1:wr.cell? ⟨g,(xl+al+ml+i)*2+1,none⟩=some (.int .i64 y.2):=k2 1 (by omega);have f0:=kf ((xl+i)*2);have f1:=kf ((xl+i)*2+1);have f2:=kf ((xl+al+ml+i)*2);have f3:=kf ((xl+al+ml+i)*2+1);have HX:=hide hx;have HY:=hide hy;have OW:=hide hsw.1;obtain⟨p,hp⟩:∃p,p=xl+i:=⟨_,rfl⟩;obtain⟨q,hq⟩:∃q,q=xl+al+ml+i:=⟨_,rfl⟩;rw[←hp]at q1 a0 a1 f0 f1 OW;rw[←hq]at q2 b0 b1 f2 f3 OW;have hpa:p≤xl+i:=by omega
   have hpb:xl+i≤p:=by omega
   have hqa:q≤xl+al+ml+i:=by omega
   have hqb:xl+al+ml+i≤q:=by omega
   clear hp hq;clear hrow hL yO hx1 hy1 hx hy k1 k2 kf hsw e1 hp1 hm1;have i1:(p:Int)<(n:Int):=by omega
   have i2:(q:Int)<(n:Int):=by omega
   clear q1 q2;have s0:IntKind.i64.wrap ((xl:Int)+i)=p:=by rw[IntWalk.i64_in _ (by omega)];omega
   have s1:IntKind.i64.wrap ((xl:Int)+al+ml+i)=q:=by rw[IntWalk.i64_in _ (by omega)];omega
   go_wp2
   go_region
   go_wp2
   refine⟨⟨i+1,by omega,by go_num,?_,dJ.out.same (uK wr g (p*2) (q*2) (o9 y) (o9 x)).drew⟩,by simp only[intOf];omega⟩;have hsw:=OW.out.still ((Turn.refl [] _).drew);rw[List.take_succ_eq_append_getElem hiA,List.take_succ_eq_append_getElem hiB,←HX.out,←HY.out];have e:X++(B.take i++[y])++A.drop (i+1)++M++(A.take i++[x])++B.drop (i+1)++Y=X++B.take i++y::(A.drop (i+1)++M++A.take i++x::(B.drop (i+1)++Y)):=by simp
   rw[e];exact hsw
  ·obtain rfl:i=al:=by omega
   go_wp2
   go_end0
   refine⟨rfl,?_,dJ.out⟩;have e1:B.take i=B:=List.take_of_length_le (by rw[←HAB.out,←mX.out];exact Nat.le_refl _);have e2:A.take i=A:=List.take_of_length_le (by rw[←mX.out];exact Nat.le_refl _);have e3:B.drop i=[]:=List.drop_eq_nil_of_le (by rw[←HAB.out,←mX.out];exact Nat.le_refl _);have e4:A.drop i=[]:=List.drop_eq_nil_of_le (by rw[←mX.out];exact Nat.le_refl _);rw[e1,e2,e3,e4]at hrow;simpa using hrow
set_option maxHeartbeats 1000000 in
theorem o5(w:World)(base g n c:Nat)(X A B Y:List Tm)(h:TR w base (.slice (some ⟨g,0,none⟩) n c) (X++A++B++Y))(hl:(X++A++B++Y).length≤1000000)(hA:0<A.length)(hB:0<B.length)(a m b:Int)(ha:a=X.length)(hm:m=((X++A).length:Nat))(hb:b=((X++A++B).length:Nat)):
 Calls Tryz.prog 112 #[.slice (some ⟨g,0,none⟩) n c, .int .i64 a, .int .i64 m, .int .i64 b,DI] w fun e w'=>e= .returned (.tuple #[])∧TR w' base (.slice (some ⟨g,0,none⟩) n c) (X++B++A++Y)∧Turn [g] w w':=by
 subst ha;subst hm;subst hb;have hl0:(X++A).length=X.length+A.length:=by simp
 have hl1:(X++A++B).length=X.length+A.length+B.length:=by simp;omega
 have hl2:(X++A++B++Y).length=X.length+A.length+B.length+Y.length:=by simp;omega
 rw[hl2]at hl;rw[hl0,hl1];have H:=hide h;obtain⟨xl,hxl⟩:∃xl,xl=X.length:=⟨_,rfl⟩;obtain⟨al,hal⟩:∃al,al=A.length:=⟨_,rfl⟩;obtain⟨bl,hbl⟩:∃bl,bl=B.length:=⟨_,rfl⟩;rw[←hxl,←hal,←hbl]at hl;rw[←hal]at hA;rw[←hbl]at hB;rw[←hxl,←hal,←hbl];have jd:=hide hxl;have mX:=hide hal;have Gv:=hide hbl;have hmax:xl+al+bl≤1000000:=by omega
 have hlen0:X.length+A.length+B.length+Y.length≤1000000:=by rw[←hxl,←hal,←hbl];exact hl
 clear h hl hl0 hl1 hl2 hxl hal hbl;have s0:IntKind.i64.wrap (((xl+al:Nat):Int)-xl)=al:=by rw[IntWalk.i64_in _ (by omega)];omega
 have s1:IntKind.i64.wrap (((xl+al+bl:Nat):Int)-(xl+al:Nat))=bl:=by rw[IntWalk.i64_in _ (by omega)];omega
 unfold DI;go_enter Tryz.func112,Tryz.ntmps112
 clear s0 s1;go_wp2
 go_loopw [10,11] (fun iv jv wr=>∃X' A' B' Y':List Tm,X'++B'++A'++Y'=X++B++A++Y∧X'.length+A'.length=xl+al∧0<A'.length∧0<B'.length∧X'.length+A'.length+B'.length+Y'.length≤1000000∧iv= .int .i64 (A'.length:Nat)∧jv= .int .i64 (B'.length:Nat)∧TR wr base (.slice (some ⟨g,0,none⟩) n c) (X'++A'++B'++Y')∧Turn [g] w wr) (fun iv jv _=>(intOf iv).toNat+(intOf jv).toNat)
 case atStart=>
  refine⟨X,A,B,Y,rfl,by rw[jd.out,mX.out],by rw[←mX.out];exact hA,by rw[←Gv.out];exact hB,hlen0,?_,?_,H.out,Turn.refl _ _⟩
  ·rw[←mX.out];simp only[Value.int.injEq,true_and];omega
  ·rw[←Gv.out];simp only[Value.int.injEq,true_and];omega
 case round=>
  obtain⟨X',A',B',Y',Vj,hxa,ha0,hb0,hsum,rfl,rfl,hrow,htw⟩:=hrel;have dJ:=hide htw;have bQ:=hide hrow;have HG:=hide Vj;clear htw hrow Vj;obtain⟨i,hi⟩:∃i,i=A'.length:=⟨_,rfl⟩;obtain⟨j,hj⟩:∃j,j=B'.length:=⟨_,rfl⟩;obtain⟨x,hx⟩:∃x,x=X'.length:=⟨_,rfl⟩;rw[←hi,←hx]at hxa;rw[←hi]at ha0;rw[←hj]at hb0;rw[←hi,←hj,←hx]at hsum;rw[←hi,←hj];have HI:=hide hi;have HJ:=hide hj;have HX:=hide hx;clear hi hj hx;have hxa1:x+i≤xl+al:=by omega
  have hxa2:xl+al≤x+i:=by omega
  clear hxa;by_cases hij:i=j
  ·have hij1:(i:Int)=j:=by omega
   go_wp2_with fail
   refine(nG wr base g n c X' A' [] B' Y' (by simpa using bQ.out) (by rw[←HI.out,←HJ.out];exact hij) (by simp only[List.append_nil,List.length_append];rw[←HI.out,←HJ.out,←HX.out];omega) _ _ _ ?_ ?_ ?_).mono ?_
   ·rw[←HX.out];omega
   ·simp only[List.append_nil,List.length_append];rw[←HX.out,←HI.out];omega
   ·rw[←HI.out];omega
   rintro e w1 ⟨rfl,hr,ht⟩;go_wp2
   go_end0
   refine⟨rfl,?_,dJ.out.same ht⟩;rw[←HG.out];simpa using hr
  ·have hij1:¬(i:Int)=j:=by omega
   by_cases hgt:j<i
   ·obtain⟨A1,A2,hA12,hA1⟩:∃A1 A2,A'=A1++A2∧A1.length=j:=⟨A'.take j,A'.drop j,(List.take_append_drop j A').symm,by rw[List.length_take,←HI.out];omega⟩
    have hA2:A2.length=i-j:=by have:=HI.out;rw[hA12,List.length_append]at this;omega
    have hgt1:(j:Int)<i:=by omega
    go_wp2_with fail
    refine(nG wr base g n c X' A1 A2 B' Y' (by have:=bQ.out;rw[hA12]at this;simpa using this) (by rw[hA1,HJ.out]) (by simp only[List.length_append];rw[hA1,hA2,←HJ.out,←HX.out];omega) _ _ _ ?_ ?_ ?_).mono ?_
    ·rw[←HX.out];omega
    ·simp only[List.length_append];rw[←HX.out,hA1,hA2];omega
    ·rw[hA1]
    rintro e w1 ⟨rfl,hr,ht⟩;have HT:=hide (dJ.out.same ht);have HR:=hide hr;clear ht hr;have p1:X'++B'++A1++A2++Y'=X++B++A++Y:=by rw[←HG.out,hA12];simp
    have p2:(X'++B').length+A2.length=xl+al:=by rw[List.length_append,←HX.out,←HJ.out,hA2];omega
    have p3:(X'++B').length+A2.length+A1.length+Y'.length≤1000000:=by rw[List.length_append,←HX.out,←HJ.out,hA2,hA1];omega
    have P1:=hide p1;have P2:=hide p2;have P3:=hide p3;have HA1:=hide hA1;have HA2:=hide hA2;clear p1 p2 p3 hA1 hA2 hA12;go_wp2
    go_roundw
    case rel=>
     repeat apply Exists.intro
     exact⟨⟨X'++B',A2,A1,Y',P1.out,P2.out,by rw[HA2.out];omega,by rw[HA1.out];omega,P3.out,by rw[HA2.out];simp only[Value.int.injEq,true_and];omega,by rw[HA1.out],HR.out,HT.out⟩,rfl⟩
    case measure=>simp[intOf];omega
   ·obtain⟨B1,B2,hB12,hB1⟩:∃B1 B2,B'=B1++B2∧B1.length=j-i:=⟨B'.take (j-i),B'.drop (j-i),(List.take_append_drop (j-i) B').symm,by rw[List.length_take,←HJ.out];omega⟩
    have hB2:B2.length=i:=by have:=HJ.out;rw[hB12,List.length_append]at this;omega
    have hgt1:¬(j:Int)<i:=by omega
    go_wp2_with fail
    refine(nG wr base g n c X' A' B1 B2 Y' (by have:=bQ.out;rw[hB12]at this;simpa using this) (by rw[hB2,HI.out]) (by simp only[List.length_append];rw[hB1,hB2,←HI.out,←HX.out];omega) _ _ _ ?_ ?_ ?_).mono ?_
    ·rw[←HX.out];omega
    ·simp only[List.length_append];rw[←HX.out,←HI.out,hB1];omega
    ·rw[←HI.out]
    rintro e w1 ⟨rfl,hr,ht⟩;have HT:=hide (dJ.out.same ht);have HR:=hide hr;clear ht hr;have p1:X'++B1++B2++(A'++Y')=X++B++A++Y:=by rw[←HG.out,hB12];simp
    have p2:X'.length+B2.length=xl+al:=by rw[←HX.out,hB2];omega
    have p3:X'.length+B2.length+B1.length+(A'++Y').length≤1000000:=by rw[List.length_append,←HX.out,←HI.out,hB1,hB2];omega
    have P1:=hide p1;have P2:=hide p2;have P3:=hide p3;have HB1:=hide hB1;have HB2:=hide hB2;clear p1 p2 p3 hB1 hB2 hB12;go_wp2
    go_roundw
    case rel=>
     repeat apply Exists.intro
     exact⟨⟨X',B2,B1,A'++Y',P1.out,P2.out,by rw[HB2.out];omega,by rw[HB1.out];omega,P3.out,by rw[HB2.out],by rw[HB1.out];simp only[Value.int.injEq,true_and];omega,by simpa using HR.out,HT.out⟩,rfl⟩
    case measure=>simp[intOf];omega
theorem TR.two{w:World}{base g n c:Nat}{l:List Tm}(h:TR w base (.slice (some ⟨g,0,none⟩) n c) l){i:Nat}(hi:i<l.length){x:Tm}(hx:l[i]=x):
 w.cell? ⟨g,i*2,none⟩=some (.int .i64 x.1)∧w.cell? ⟨g,i*2+1,none⟩=some (.int .i64 x.2)∧w.frozen? ⟨g,i*2,none⟩=false∧w.frozen? ⟨g,i*2+1,none⟩=false∧g<w.heap.size:=by
 obtain⟨g',cap',e,k1,kf⟩:=h.at eQ hi;simp only[Value.slice.injEq,Option.some.injEq,Addr.mk.injEq,and_true]at e;obtain⟨rfl, -,rfl⟩:=e;rw[hx]at k1;exact⟨k1 0 (by omega),k1 1 (by omega),kf _,kf _,(h.lt g (by simp[Value.ownBlock])).2⟩
theorem TR.len{w:World}{base n c:Nat}{a:Option Addr}{l:List Tm}(h:TR w base (.slice a n c) l):n=l.length:=by
 obtain⟨a,c,e, -⟩:=h.form;simp only[Value.slice.injEq]at e;exact e.2.1
set_option maxHeartbeats 1000000 in
theorem CO(w:World)(base g n c:Nat)(X A Y:List Tm)(h:TR w base (.slice (some ⟨g,0,none⟩) n c) (X++A++Y))(hl:X.length+A.length+Y.length≤1000000)(a b:Int)(ha:a=X.length)(hb:b=((X.length+A.length:Nat):Int)):
 Calls Tryz.prog 71 #[.slice (some ⟨g,0,none⟩) n c, .int .i64 a, .int .i64 b,DI] w fun e w'=>e= .returned (.tuple #[])∧(∃M,og A M∧TR w' base (.slice (some ⟨g,0,none⟩) n c) (X++M++Y))∧Turn [g] w w':=by
 subst ha;subst hb;have H:=hide h;have hn:n=X.length+A.length+Y.length:=by rw[h.len];simp;omega
 obtain⟨xl,hxl⟩:∃xl,xl=X.length:=⟨_,rfl⟩;obtain⟨al,hal⟩:∃al,al=A.length:=⟨_,rfl⟩;rw[←hxl,←hal]at hl hn⊢;have jd:=hide hxl;have mX:=hide hal;have hmax:n≤1000000:=by omega
 have hxn:xl+al≤n:=by omega
 clear h hl hxl hal hn;unfold DI;go_enter Tryz.func71,Tryz.ntmps71
 go_wp2
 go_loopw [8] (fun iv wr=>∃(k:Nat) (A':List Tm),1≤k∧(k≤al∨al=0∧k=1)∧iv= .int .i64 ((xl+k:Nat):Int)∧og (A.take k) A'∧TR wr base (.slice (some ⟨g,0,none⟩) n c) (X++A'++A.drop k++Y)∧Turn [g] w wr) (fun iv _=>xl+al+1-(intOf iv).toNat)
 case atStart=>
  refine⟨1,A.take 1,Nat.le_refl _,by omega,by simp only[Value.int.injEq,true_and];omega,?_,?_,Turn.refl _ _⟩
  ·refine lG.Oy ?_
   unfold lG;rw[List.pairwise_iff_getElem];intro i j hi hj hij;rw[List.length_take]at hi hj;omega
  ·rw[List.append_assoc X,List.take_append_drop]
   exact H.out
 case round=>
  obtain⟨k,A',hk1,hk2,rfl,hst,hrow,htw⟩:=hrel;have dJ:=hide htw;have HST:=hide hst;have bQ:=hide hrow;clear htw hst hrow;by_cases hlt:k<al
  ·have OY:k<A.length:=by rw[←mX.out];exact hlt
   obtain⟨x,hx⟩:∃x,x=A[k]:=⟨_,rfl⟩;have hrow0:=bQ.out;rw[List.drop_eq_getElem_cons OY,←hx]at hrow0;have HX:=hide hx;have YU:=hide hrow0;have YV:A'.length=k:=by rw[HST.out.length,List.length_take];omega
   have YW:=hide YV;clear hrow0 hx YV;have hlt1:(xl:Int)+k<xl+al:=by omega
   have s1:IntKind.i64.wrap ((xl:Int)+k+1)=((xl+(k+1):Nat):Int):=by rw[IntWalk.i64_in _ (by omega)];omega
   obtain⟨wo,rfl⟩:∃wo,wo=wr:=⟨_,rfl⟩;go_wp2
   go_loopw [9] (fun jv wq=>∃L R:List Tm,A'=L++R∧jv= .int .i64 ((xl+L.length:Nat):Int)∧(∀z∈R,x.1<z.1)∧TR wq base (.slice (some ⟨g,0,none⟩) n c) (X++L++x::(R++A.drop (k+1)++Y))∧Turn [g] wo wq) (fun jv _=>(intOf jv).toNat-xl)
   case atStart=>
    refine⟨A',[],by simp,by rw[YW.out],by simp,?_,Turn.refl _ _⟩;have:=YU.out;simpa using this
   case round=>
    obtain⟨L,R,hA',rfl,hR,hrow,Ve⟩:=hrel;have HA:=hide hA';have HR:=hide hR;have Jq:=hide Ve;have Jr:=hide hrow;have yO:L.length≤k:=by rw[←YW.out,hA',List.length_append];omega
    clear hA' hR Ve hrow;have hdone:∀Z,Turn [] wr Z→(∀z∈L,z.1≤x.1)→∃A2,og (A.take (k+1)) A2∧TR Z base (.slice (some ⟨g,0,none⟩) n c) (X++A2++A.drop (k+1)++Y)∧Turn [g] w Z:=fun Z hZ hz=>by
     refine⟨L++x::R,?_,?_,dJ.out.same (Jq.out.same (hZ.mono (by simp)))⟩
     ·rw[List.take_succ_eq_append_getElem OY,←HX.out]
      exact KI (by rw[←HA.out];exact HST.out) HR.out hz
     ·have:=Jr.out.still hZ
      simpa using this
    have HD:=hide hdone;clear hdone;rcases List.eq_nil_or_concat L with rfl|⟨L1,y,rfl⟩
    ·go_wp2
     refine aF (Turn []) (by kernel_rfl) (by kernel_rfl) (by kernel_rfl) (by kernel_rfl) rfl (Turn.refl _) (fun _ _ _ h k=>h.same k) ?_;apply Lo.ag 1 rfl rfl [] (by kernel_rfl) (Turn.refl _);apply Exists.intro;apply And.intro
     ·intro u w1 hR hF
      clear hF;refine⟨rfl,fun a ha K hK=>?_⟩;have e9:=ha 9;conv at e9=>rhs;whnf
      clear ha;go_simp
      refine hK _ ?_;rfl
     apply Lo.ag 2 rfl rfl [] (by kernel_rfl) (Turn.refl _);apply Exists.intro;apply And.intro
     ·intro u w1 hR hF
      clear hF;refine⟨rfl,fun a ha K hK=>?_⟩;have e1:=ha 1;conv at e1=>rhs;whnf
      clear ha;go_simp
      refine hK _ ?_;rfl
     refine Lo.aJ 3 rfl rfl [0,1] (.bool (false)) (by kernel_rfl) (fun u w1 hR hF=>?_) (Turn.refl _) ?_
     ·obtain⟨h0,h1, -⟩:=hF
      refine⟨rfl,fun a ha K hK=>?_⟩;have e18:=(ha 18).trans h0;have e19:=(ha 19).trans h1;clear ha h0 h1;go_simp
      refine hK _ ?_;simp
     apply Lo.ag 4 rfl rfl [2] (by kernel_rfl) (Turn.refl _);apply Exists.intro;apply And.intro
     ·intro u w1 hR hF
      obtain⟨h2, -⟩:=hF;refine⟨rfl,fun a ha K hK=>?_⟩;have e20:=(ha 20).trans h2;clear ha h2;go_simp
      refine hK _ ?_;rfl
     refine Lo.pass 5 rfl rfl [3] (by kernel_rfl) (Turn.refl _) (fun u w1 hR hF=>?_) ?_
     ·exact .inl ⟨false,hF.1,rfl⟩
     refine Lo.pass 6 rfl rfl [3] (by kernel_rfl) (Turn.refl _) (fun u w1 hR hF=>?_) ?_
     ·exact .inl ⟨false,hF.1,rfl⟩
     refine Lo.pass 7 rfl rfl [3] (by kernel_rfl) (Turn.refl _) (fun u w1 hR hF=>?_) ?_
     ·exact .inl ⟨false,hF.1,rfl⟩
     refine Lo.pass 8 rfl rfl [3] (by kernel_rfl) (Turn.refl _) (fun u w1 hR hF=>?_) ?_
     ·exact .inl ⟨false,hF.1,rfl⟩
     refine Lo.pass 9 rfl rfl [3] (by kernel_rfl) (Turn.refl _) (fun u w1 hR hF=>?_) ?_
     ·exact .inl ⟨false,hF.1,rfl⟩
     refine Lo.pass 10 rfl rfl [3] (by kernel_rfl) (Turn.refl _) (fun u w1 hR hF=>?_) ?_
     ·exact .inl ⟨false,hF.1,rfl⟩
     refine Lo.pass 11 rfl rfl [3] (by kernel_rfl) (Turn.refl _) (fun u w1 hR hF=>?_) ?_
     ·exact .inl ⟨false,hF.1,rfl⟩
     refine Lo.pass 12 rfl rfl [3] (by kernel_rfl) (Turn.refl _) (fun u w1 hR hF=>?_) ?_
     ·exact .inl ⟨false,hF.1,rfl⟩
     refine Lo.pass 13 rfl rfl [3] (by kernel_rfl) (Turn.refl _) (fun u w1 hR hF=>?_) ?_
     ·exact .inl ⟨false,hF.1,rfl⟩
     refine Lo.pass 14 rfl rfl [3] (by kernel_rfl) (Turn.refl _) (fun u w1 hR hF=>?_) ?_
     ·exact .inl ⟨false,hF.1,rfl⟩
     refine Lo.pass 15 rfl rfl [3] (by kernel_rfl) (Turn.refl _) (fun u w1 hR hF=>?_) ?_
     ·exact .inl ⟨false,hF.1,rfl⟩
     refine Lo.pass 16 rfl rfl [3] (by kernel_rfl) (Turn.refl _) (fun u w1 hR hF=>?_) ?_
     ·exact .inl ⟨false,hF.1,rfl⟩
     apply Lo.ag 17 rfl rfl [3,15] (by kernel_rfl) (Turn.refl _);apply Exists.intro;apply And.intro
     ·intro u w1 hR hF
      obtain⟨h3,h15, -⟩:=hF;refine⟨rfl,fun a ha K hK=>?_⟩;have e21:=(ha 21).trans h3;have e33:=(ha 33).trans h15;clear ha h3 h15;go_simp
      refine hK _ ?_;rfl
     refine Lo.done [16] (fun u w1 bP hSd hF=>?_);clear hSd;obtain⟨f16, -⟩:=hF;have d16:u 16=_:=f16;clear f16;simp only[ax,Act.put,List.setIfInBounds_toArray,List.set_cons_succ,List.set_cons_zero,Nat.zero_add,Nat.reduceAdd,d16];have HT1:=hide (((Turn.refl [] wr).drew).same bP);clear d16 bP;obtain⟨A2,hs2,hr2,ht2⟩:=HD.out _ HT1.out (by simp);have HS2:=hide hs2;have HR2:=hide hr2;have HT2:=hide ht2;clear hs2 hr2 ht2;go_wp2
     exact⟨⟨k+1,A2,by omega,by omega,by simp only[Value.int.injEq,true_and];omega,HS2.out,HR2.out,HT2.out⟩,by simp only[intOf];omega⟩
    ·rw[List.concat_eq_append]at*
     have hl1:(L1++[y]).length=L1.length+1:=by simp
     rw[hl1]at yO⊢;clear hl1;obtain⟨l1,hl1⟩:∃l1,l1=L1.length:=⟨_,rfl⟩;rw[←hl1]at yO⊢;have hrow:=Jr.out;rw[show X++(L1++[y])++x::(R++A.drop (k+1)++Y)=(X++L1)++y::([]++x::(R++A.drop (k+1)++Y))by simp]at hrow;have hp1:(X++L1).length=xl+l1:=by rw[List.length_append,←jd.out,←hl1]
     have hlen:=hrow.len;have hg1:∀h,((X++L1)++y::([]++x::(R++A.drop (k+1)++Y)))[xl+l1]'h=y:=fun h=>fP rfl hp1.symm h
     have hg2:∀h,((X++L1)++y::([]++x::(R++A.drop (k+1)++Y)))[xl+l1+1]'h=x:=fun h=>fP (P:=X++L1++[y]) (R:=R++A.drop (k+1)++Y) (by simp) (by rw[List.length_append,hp1];rfl) h
     have hlb:xl+l1+1<((X++L1)++y::([]++x::(R++A.drop (k+1)++Y))).length:=by rw[List.length_append,hp1];simp
     have hsw:=hrow.swapped.2;rw[hp1,show xl+l1+1+([]:List Tm).length=xl+l1+1 by simp]at hsw;obtain⟨j,hj⟩:∃j,j=xl+l1:=⟨_,rfl⟩;rw[←hj]at hsw hg1 hg2 hlb;have hcell:∀Z,Turn [] wr Z→(Z.cell? ⟨g,j*2,none⟩=some (.int .i64 y.1)∧Z.cell? ⟨g,j*2+1,none⟩=some (.int .i64 y.2)∧Z.cell? ⟨g,(j+1)*2,none⟩=some (.int .i64 x.1)∧Z.cell? ⟨g,(j+1)*2+1,none⟩=some (.int .i64 x.2))∧Z.frozen? ⟨g,j*2,none⟩=false∧Z.frozen? ⟨g,j*2+1,none⟩=false∧Z.frozen? ⟨g,(j+1)*2,none⟩=false∧Z.frozen? ⟨g,(j+1)*2+1,none⟩=false∧g<Z.heap.size:=fun Z hZ=>by
      obtain⟨c0,c1,f0,f1,z⟩:=TR.two (hrow.still hZ) (i:=j) (by omega) (hg1 _);obtain⟨c2,c3,f2,f3, -⟩:=TR.two (hrow.still hZ) (i:=j+1) hlb (hg2 _);exact⟨⟨c0,c1,c2,c3⟩,f0,f1,f2,f3,z⟩
     have hjn:j+1<n:=by rw[hlen];exact hlb
     have hj1:j≤xl+l1:=by omega
     have hj2:xl+l1≤j:=by omega
     have HL1:=hide hl1;have HC:=hide hcell;have OW:=hide (show ∀Z,Turn [] wr Z→TR ((Z.setCells g ((j+1)*2) (o9 y)).setCells g (j*2) (o9 x)) base (.slice (some ⟨g,0,none⟩) n c) ((X++L1)++x::([]++y::(R++A.drop (k+1)++Y)))from fun Z hZ=>by
      have:=(TR.swapped (hrow.still hZ)).2;rw[hp1,show xl+l1+1+([]:List Tm).length=j+1 by simp;omega,←hj]at this;exact this)
     clear hrow hp1 hlen hg1 hg2 hlb hsw hj hcell hl1;have hgt1:(xl:Int)<((xl+(l1+1):Nat):Int):=by omega
     have i1:((j+1:Nat):Int)<(n:Int):=by omega
     have i2:(j:Int)<(n:Int):=by omega
     have e1:((xl+(l1+1):Nat):Int)=((j+1:Nat):Int):=by omega
     rw[e1]at hgt1⊢;clear e1;obtain⟨j1,YX⟩:∃j1,j1=j+1:=⟨_,rfl⟩;rw[←YX]at HC OW i1 hgt1 hjn⊢;have j1a:j1≤j+1:=by omega
     have j1b:j+1≤j1:=by omega
     clear YX;have hs1:IntKind.i64.wrap ((j1:Int)-1)=j:=by rw[IntWalk.i64_in _ (by omega)];omega
     go_wp2
     refine aF (Turn []) (by kernel_rfl) (by kernel_rfl) (by kernel_rfl) (by kernel_rfl) rfl (Turn.refl _) (fun _ _ _ h k=>h.same k) ?_;apply Lo.ag 1 rfl rfl [] (by kernel_rfl) (Turn.refl _);apply Exists.intro;apply And.intro
     ·intro u w1 hR hF
      clear hF;refine⟨rfl,fun a ha K hK=>?_⟩;have e9:=ha 9;conv at e9=>rhs;whnf
      clear ha;go_simp
      refine hK _ ?_;rfl
     apply Lo.ag 2 rfl rfl [] (by kernel_rfl) (Turn.refl _);apply Exists.intro;apply And.intro
     ·intro u w1 hR hF
      clear hF;refine⟨rfl,fun a ha K hK=>?_⟩;have e1:=ha 1;conv at e1=>rhs;whnf
      clear ha;go_simp
      refine hK _ ?_;rfl
     refine Lo.aJ 3 rfl rfl [0,1] (.bool (true)) (by kernel_rfl) (fun u w1 hR hF=>?_) (Turn.refl _) ?_
     ·obtain⟨h0,h1, -⟩:=hF
      refine⟨rfl,fun a ha K hK=>?_⟩;have e18:=(ha 18).trans h0;have e19:=(ha 19).trans h1;clear ha h0 h1;go_simp
      refine hK _ ?_;simp
     apply Lo.ag 4 rfl rfl [2] (by kernel_rfl) (Turn.refl _);apply Exists.intro;apply And.intro
     ·intro u w1 hR hF
      obtain⟨h2, -⟩:=hF;refine⟨rfl,fun a ha K hK=>?_⟩;have e20:=(ha 20).trans h2;clear ha h2;go_simp
      refine hK _ ?_;rfl
     apply Lo.ag 5 rfl rfl [3] (by kernel_rfl) (Turn.refl _);apply Exists.intro;apply And.intro
     ·intro u w1 hR hF
      obtain⟨h3, -⟩:=hF;refine⟨.inl ⟨true,h3,rfl⟩,fun a ha K hK=>?_⟩;have e3:=ha 3;conv at e3=>rhs;whnf
      clear ha h3;go_simp
      refine hK _ ?_;rfl
     apply Lo.ag 6 rfl rfl [3] (by kernel_rfl) (Turn.refl _);apply Exists.intro;apply And.intro
     ·intro u w1 hR hF
      obtain⟨h3, -⟩:=hF;refine⟨.inl ⟨true,h3,rfl⟩,fun a ha K hK=>?_⟩;have e0:=ha 0;conv at e0=>rhs;whnf
      clear ha h3;go_simp
      refine hK _ ?_;rfl
     apply Lo.ag 7 rfl rfl [3] (by kernel_rfl) (Turn.refl _);apply Exists.intro;apply And.intro
     ·intro u w1 hR hF
      obtain⟨h3, -⟩:=hF;refine⟨.inl ⟨true,h3,rfl⟩,fun a ha K hK=>?_⟩;have e9:=ha 9;conv at e9=>rhs;whnf
      clear ha h3;go_simp
      refine hK _ ?_;rfl
     apply Lo.ag 8 rfl rfl [3,5,6] (by kernel_rfl) (Turn.refl _);apply Exists.intro;apply And.intro
     ·intro u w1 hR hF
      obtain⟨h3,h5,h6, -⟩:=hF;refine⟨.inl ⟨true,h3,rfl⟩,fun a ha K hK=>?_⟩;have e23:=(ha 23).trans h5;have e24:=(ha 24).trans h6;clear ha h3 h5 h6;go_simp
      refine hK _ ?_;rfl
     refine Lo.aJ 9 rfl rfl [3,7] (zh x) (by kernel_rfl) (fun u w1 hR hF=>?_) (Turn.refl _) ?_
     ·obtain⟨h3,h7, -⟩:=hF
      refine⟨.inl ⟨true,h3,rfl⟩,fun a ha K hK=>?_⟩;have e25:=(ha 25).trans h7;clear ha h3 h7;obtain⟨⟨c0,c1,c2,c3⟩, -⟩:=HC.out w1 (((Turn.refl [] _).drew).same hR);go_simp
      refine hK _ ?_;rfl
     apply Lo.ag 10 rfl rfl [3] (by kernel_rfl) (Turn.refl _);apply Exists.intro;apply And.intro
     ·intro u w1 hR hF
      obtain⟨h3, -⟩:=hF;refine⟨.inl ⟨true,h3,rfl⟩,fun a ha K hK=>?_⟩;have e0:=ha 0;conv at e0=>rhs;whnf
      clear ha h3;go_simp
      refine hK _ ?_;rfl
     apply Lo.ag 11 rfl rfl [3] (by kernel_rfl) (Turn.refl _);apply Exists.intro;apply And.intro
     ·intro u w1 hR hF
      obtain⟨h3, -⟩:=hF;refine⟨.inl ⟨true,h3,rfl⟩,fun a ha K hK=>?_⟩;have e9:=ha 9;conv at e9=>rhs;whnf
      clear ha h3;go_simp
      refine hK _ ?_;rfl
     refine Lo.aJ 12 rfl rfl [3,10] (.int .i64 (j:Int)) (by kernel_rfl) (fun u w1 hR hF=>?_) (Turn.refl _) ?_
     ·obtain⟨h3,h10, -⟩:=hF
      refine⟨.inl ⟨true,h3,rfl⟩,fun a ha K hK=>?_⟩;have e28:=(ha 28).trans h10;clear ha h3 h10;go_simp
      refine hK _ ?_;rfl
     apply Lo.ag 13 rfl rfl [3,9,11] (by kernel_rfl) (Turn.refl _);apply Exists.intro;apply And.intro
     ·intro u w1 hR hF
      obtain⟨h3,h9,h11, -⟩:=hF;refine⟨.inl ⟨true,h3,rfl⟩,fun a ha K hK=>?_⟩;have e27:=(ha 27).trans h9;have e29:=(ha 29).trans h11;clear ha h3 h9 h11;go_simp
      refine hK _ ?_;rfl
     refine Lo.aJ 14 rfl rfl [3,12] (zh y) (by kernel_rfl) (fun u w1 hR hF=>?_) (Turn.refl _) ?_
     ·obtain⟨h3,h12, -⟩:=hF
      refine⟨.inl ⟨true,h3,rfl⟩,fun a ha K hK=>?_⟩;have e30:=(ha 30).trans h12;clear ha h3 h12;obtain⟨⟨c0,c1,c2,c3⟩, -⟩:=HC.out w1 (((Turn.refl [] _).drew).same hR);go_simp
      refine hK _ ?_;rfl
     refine Lo.run 15 rfl rfl [3,4,8,13] (fun v w'=>v= .int .i64 (vT x.1 y.1)) (by kernel_rfl) (fun x w w' h hR=>?_) (fun _ _ h=>h) (fun u w1 hR hF=>?_) ?_
     ·exact h
     ·obtain⟨h3,h4,h8,h13, -⟩:=hF
      refine⟨.inl ⟨true,h3,rfl⟩,fun a ha K hK=>?_⟩;have e22:=(ha 22).trans h4;have e26:=(ha 26).trans h8;have e31:=(ha 31).trans h13;clear ha h3 h4 h8 h13;go_simp
      refine(AV x y w1).mono ?_;rintro e w5 ⟨rfl,ht5⟩;exact hK _ _ rfl ht5
     refine Lo.aJ 16 rfl rfl [3,14] (.bool (decide (x.1<y.1))) (by kernel_rfl) (fun u w1 hR hF=>?_) (Turn.refl _) ?_
     ·obtain⟨h3,h14, -⟩:=hF
      refine⟨.inl ⟨true,h3,rfl⟩,fun a ha K hK=>?_⟩;have e32:a.tmps.getD 32 undef=u 14:=ha 32;have h14:=(show(fun v w'=>v= .int .i64 (vT x.1 y.1)) (u 14) w1 from h14);dsimp only at h14;clear ha h3;go_simp
      refine hK _ ?_;rw[←AU x.1 y.1]
     apply Lo.ag 17 rfl rfl [3,15] (by kernel_rfl) (Turn.refl _);apply Exists.intro;apply And.intro
     ·intro u w1 hR hF
      obtain⟨h3,h15, -⟩:=hF;refine⟨rfl,fun a ha K hK=>?_⟩;have e21:=(ha 21).trans h3;have e33:=(ha 33).trans h15;clear ha h3 h15;go_simp
      refine hK _ ?_;rfl
     refine Lo.done [16] (fun u w1 bP hSd hF=>?_);clear hSd;obtain⟨f16, -⟩:=hF;have d16:u 16=_:=f16;clear f16;simp only[ax,Act.put,List.setIfInBounds_toArray,List.set_cons_succ,List.set_cons_zero,Nat.zero_add,Nat.reduceAdd,d16];have HT1:=hide (((Turn.refl [] wr).drew).same bP);obtain⟨wa,rfl⟩:∃wa,wa=w1:=⟨_,rfl⟩;clear d16 bP;by_cases hxy:x.1<y.1
     ·have hd:decide (x.1<y.1)=true:=by simpa using hxy
      rw[hd];clear hd;obtain⟨⟨c0,c1,c2,c3⟩,f0,f1,f2,f3,z⟩:=HC.out wa HT1.out;have hsw:=OW.out wa HT1.out;have HSW2:=hide hsw;clear hsw;go_wp2
      go_region
      go_wp2
      refine⟨⟨L1,y::R,by rw[HA.out];simp,by rw[←HL1.out];simp only[Value.int.injEq,true_and];omega,?_,?_,Jq.out.same (((HT1.out.mono (T:=[g]) (by simp)).same (uK wa g (j1*2) (j*2) (o9 y) (o9 x))).drew)⟩,by simp only[intOf];omega⟩
      ·intro z' hz
       rcases List.mem_cons.1 hz with rfl|hz
       ·exact hxy
       ·exact HR.out z' hz
      ·exact HSW2.out.still ((Turn.refl [] _).drew)
     ·have hd:decide (x.1<y.1)=false:=by simpa using hxy
      rw[hd];clear hd;obtain⟨A2,hs2,hr2,ht2⟩:=HD.out _ HT1.out (Q8 ((iM.1 (by have:=HST.out.Kv;rw[HA.out]at this;exact this)).1) (by omega));have HS2:=hide hs2;have HR2:=hide hr2;have HT2:=hide ht2;clear hs2 hr2 ht2;go_wp2
      exact⟨⟨k+1,A2,by omega,by omega,by simp only[Value.int.injEq,true_and];omega,HS2.out,HR2.out,HT2.out⟩,by simp only[intOf];omega⟩
  ·have hd:A.drop k=[]:=List.drop_eq_nil_of_le (by rw[←mX.out];omega)
   have ht:A.take k=A:=List.take_of_length_le (by rw[←mX.out];omega);have hr:=bQ.out;have hs:=HST.out;rw[hd,List.append_nil]at hr;rw[ht]at hs;have HR:=hide hr;have HS:=hide hs;clear hr hs hd ht;have hlt1:¬(xl:Int)+k<xl+al:=by omega
   go_wp2
   go_end0
   exact⟨rfl,⟨A',HS.out,by simpa using HR.out⟩,dJ.out⟩
def rC(w:World)(base g n c:Nat)(X A B Y:List Tm)(a m b:Int):Prop:=Calls Tryz.prog 72 #[.slice (some ⟨g,0,none⟩) n c, .int .i64 a, .int .i64 m, .int .i64 b,DI] w fun e w'=>e= .returned (.tuple #[])∧(∃M,og (A++B) M∧TR w' base (.slice (some ⟨g,0,none⟩) n c) (X++M++Y))∧Turn [g] w w'
set_option maxHeartbeats 1000000 in
theorem KJ(w:World)(base g n c:Nat)(X B Y:List Tm)(x:Tm)(h:TR w base (.slice (some ⟨g,0,none⟩) n c) (X++x::(B++Y)))(hl:X.length+1+B.length+Y.length≤1000000)(hB:lG B):
 rC w base g n c X [x] B Y X.length ((X.length+1:Nat):Int) ((X.length+1+B.length:Nat):Int):=by
 unfold rC;have H:=hide h;have HS:=hide hB;have hn:n=X.length+1+B.length+Y.length:=by rw[h.len];simp;omega
 obtain⟨xl,hxl⟩:∃xl,xl=X.length:=⟨_,rfl⟩;obtain⟨bl,hbl⟩:∃bl,bl=B.length:=⟨_,rfl⟩;rw[←hxl,←hbl]at hl hn⊢;have jd:=hide hxl;have Gv:=hide hbl;have hmax:n≤1000000:=by omega
 have hxn:xl+1+bl≤n:=by omega
 clear h hl hxl hbl hn hB;have s0:IntKind.i64.wrap (((xl+1:Nat):Int)-xl)=1:=by rw[IntWalk.i64_in _ (by omega)];omega
 unfold DI;go_enter Tryz.func72,Tryz.ntmps72
 go_wp2
 go_loopw [10,11] (fun iv jv wr=>∃i j:Nat,i≤j∧j≤bl∧iv= .int .i64 ((xl+1+i:Nat):Int)∧jv= .int .i64 ((xl+1+j:Nat):Int)∧(i=0∨∃h:i-1<B.length,(B[i-1]).1<x.1)∧(j=B.length∨∃h:j<B.length,x.1≤(B[j]).1)∧Turn [] w wr) (fun iv jv _=>(intOf jv).toNat-(intOf iv).toNat)
 case atStart=>
  exact⟨0,bl,Nat.zero_le _,Nat.le_refl _,rfl,rfl, .inl rfl, .inl Gv.out,Turn.refl _ _⟩
 case round=>
  obtain⟨i,j,hij,hjb,rfl,rfl,hi,hj,htw⟩:=hrel;have dJ:=hide htw;have HI:=hide hi;have HJ:=hide hj;clear htw hi hj;by_cases hlt:i<j
  ·have hlt1:(xl:Int)+1+i<xl+1+j:=by omega
   obtain⟨k,hk⟩:∃k,k=(i+j)/2:=⟨_,rfl⟩;obtain⟨hh,hhe⟩:∃hh,hh=xl+1+k:=⟨_,rfl⟩;have e:((xl:Int)+1+i+(xl+1+j))/2=(hh:Int):=by omega
   have hkB:k<B.length:=by rw[←Gv.out];omega
   obtain⟨y,hy⟩:∃y,y=B[k]:=⟨_,rfl⟩;have hcell:∀Z,Turn [] wr Z→(Z.cell? ⟨g,hh*2,none⟩=some (.int .i64 y.1)∧Z.cell? ⟨g,hh*2+1,none⟩=some (.int .i64 y.2))∧Z.cell? ⟨g,xl*2,none⟩=some (.int .i64 x.1)∧Z.cell? ⟨g,xl*2+1,none⟩=some (.int .i64 x.2):=fun Z hZ=>by
    have hrow:=H.out.still (dJ.out.same hZ);have hlx:(X++x::(B++Y)).length=X.length+1+B.length+Y.length:=by simp;omega
    obtain⟨c0,c1, -⟩:=TR.two hrow (i:=hh) (x:=y) (by rw[hlx,←jd.out,←Gv.out];omega) (by
     rw[List.getElem_append_right (by rw[←jd.out];omega)];simp only[show hh-X.length=k+1 by rw[←jd.out];omega,List.getElem_cons_succ];rw[List.getElem_append_left hkB,hy])
    obtain⟨c2,c3, -⟩:=TR.two hrow (i:=xl) (x:=x) (by rw[hlx,←jd.out,←Gv.out];omega) (fP rfl jd.out _);exact⟨⟨c0,c1⟩,c2,c3⟩
   have HC:=hide hcell;have HY:=hide hy;have hk1:k≤(i+j)/2:=by omega
   have hk2:(i+j)/2≤k:=by omega
   have hh1:hh≤xl+1+k:=by omega
   have hh2:xl+1+k≤hh:=by omega
   clear hcell hy hk hhe;have i1:(hh:Int)<(n:Int):=by omega
   have i2:(xl:Int)<(n:Int):=by omega
   go_wp2
   clear e;refine aF (Turn []) (by kernel_rfl) (by kernel_rfl) (by kernel_rfl) (by kernel_rfl) rfl (Turn.refl _) (fun _ _ _ h k=>h.same k) ?_;apply Lo.ag 1 rfl rfl [] (by kernel_rfl) (Turn.refl _);apply Exists.intro;apply And.intro
   ·intro u w1 hR hF
    clear hF;refine⟨rfl,fun a ha K hK=>?_⟩;have e4:=ha 4;conv at e4=>rhs;whnf
    clear ha;go_simp
    refine hK _ ?_;rfl
   apply Lo.ag 2 rfl rfl [] (by kernel_rfl) (Turn.refl _);apply Exists.intro;apply And.intro
   ·intro u w1 hR hF
    clear hF;refine⟨rfl,fun a ha K hK=>?_⟩;have e0:=ha 0;conv at e0=>rhs;whnf
    clear ha;go_simp
    refine hK _ ?_;rfl
   apply Lo.ag 3 rfl rfl [] (by kernel_rfl) (Turn.refl _);apply Exists.intro;apply And.intro
   ·intro u w1 hR hF
    clear hF;refine⟨rfl,fun a ha K hK=>?_⟩;have e12:=ha 12;conv at e12=>rhs;whnf
    clear ha;go_simp
    refine hK _ ?_;rfl
   apply Lo.ag 4 rfl rfl [1,2] (by kernel_rfl) (Turn.refl _);apply Exists.intro;apply And.intro
   ·intro u w1 hR hF
    obtain⟨h1,h2, -⟩:=hF;refine⟨rfl,fun a ha K hK=>?_⟩;have e41:=(ha 41).trans h1;have e42:=(ha 42).trans h2;clear ha h1 h2;go_simp
    refine hK _ ?_;rfl
   refine Lo.aJ 5 rfl rfl [3] (zh y) (by kernel_rfl) (fun u w1 hR hF=>?_) (Turn.refl _) ?_
   ·obtain⟨h3, -⟩:=hF
    refine⟨rfl,fun a ha K hK=>?_⟩;have e43:=(ha 43).trans h3;clear ha h3;obtain⟨⟨c0,c1⟩,c2,c3⟩:=HC.out w1 (((Turn.refl [] _).drew).same hR);go_simp
    refine hK _ ?_;rfl
   apply Lo.ag 6 rfl rfl [] (by kernel_rfl) (Turn.refl _);apply Exists.intro;apply And.intro
   ·intro u w1 hR hF
    clear hF;refine⟨rfl,fun a ha K hK=>?_⟩;have e0:=ha 0;conv at e0=>rhs;whnf
    clear ha;go_simp
    refine hK _ ?_;rfl
   apply Lo.ag 7 rfl rfl [] (by kernel_rfl) (Turn.refl _);apply Exists.intro;apply And.intro
   ·intro u w1 hR hF
    clear hF;refine⟨rfl,fun a ha K hK=>?_⟩;have e1:=ha 1;conv at e1=>rhs;whnf
    clear ha;go_simp
    refine hK _ ?_;rfl
   apply Lo.ag 8 rfl rfl [5,6] (by kernel_rfl) (Turn.refl _);apply Exists.intro;apply And.intro
   ·intro u w1 hR hF
    obtain⟨h5,h6, -⟩:=hF;refine⟨rfl,fun a ha K hK=>?_⟩;have e45:=(ha 45).trans h5;have e46:=(ha 46).trans h6;clear ha h5 h6;go_simp
    refine hK _ ?_;rfl
   refine Lo.aJ 9 rfl rfl [7] (zh x) (by kernel_rfl) (fun u w1 hR hF=>?_) (Turn.refl _) ?_
   ·obtain⟨h7, -⟩:=hF
    refine⟨rfl,fun a ha K hK=>?_⟩;have e47:=(ha 47).trans h7;clear ha h7;obtain⟨⟨c0,c1⟩,c2,c3⟩:=HC.out w1 (((Turn.refl [] _).drew).same hR);go_simp
    refine hK _ ?_;rfl
   refine Lo.run 10 rfl rfl [0,4,8] (fun v w'=>v= .int .i64 (vT y.1 x.1)) (by kernel_rfl) (fun x w w' h hR=>?_) (fun _ _ h=>h) (fun u w1 hR hF=>?_) ?_
   ·exact h
   ·obtain⟨h0,h4,h8, -⟩:=hF
    refine⟨rfl,fun a ha K hK=>?_⟩;have e40:=(ha 40).trans h0;have e44:=(ha 44).trans h4;have e48:=(ha 48).trans h8;clear ha h0 h4 h8;go_simp
    refine(AV y x w1).mono ?_;rintro e w5 ⟨rfl,ht5⟩;exact hK _ _ rfl ht5
   refine Lo.aJ 11 rfl rfl [9] (.bool (decide (y.1<x.1))) (by kernel_rfl) (fun u w1 hR hF=>?_) (Turn.refl _) ?_
   ·obtain⟨h9, -⟩:=hF
    refine⟨rfl,fun a ha K hK=>?_⟩;have e49:a.tmps.getD 49 undef=u 9:=ha 49;have h9:=(show(fun v w'=>v= .int .i64 (vT y.1 x.1)) (u 9) w1 from h9);dsimp only at h9;clear ha;go_simp
    refine hK _ ?_;rw[←AU y.1 x.1]
   refine Lo.done [10] (fun u w1 bP hSd hF=>?_);clear hSd;obtain⟨f10, -⟩:=hF;have d10:u 10=_:=f10;clear f10;simp only[ax,Act.put,List.setIfInBounds_toArray,List.set_cons_succ,List.set_cons_zero,Nat.zero_add,Nat.reduceAdd,d10];have HT1:=hide (dJ.out.same (((Turn.refl [] wr).drew).same bP));clear d10 bP;by_cases hyx:y.1<x.1
   ·have hd:decide (y.1<x.1)=true:=by simpa using hyx
    rw[hd];clear hd;have e2:IntKind.i64.wrap ((hh:Int)+1)=((xl+1+(k+1):Nat):Int):=by rw[IntWalk.i64_in _ (by omega)];omega
    go_wp2
    refine⟨⟨k+1,j,by omega,hjb,by simp only[Value.int.injEq,true_and];omega,rfl, .inr ⟨hkB,?_⟩,HJ.out,HT1.out⟩,by simp only[intOf];omega⟩;show(B[k]).1<x.1;rw[←HY.out];exact hyx
   ·have hd:decide (y.1<x.1)=false:=by simpa using hyx
    rw[hd];clear hd;go_wp2
    refine⟨⟨i,k,by omega,by omega,rfl,by simp only[Value.int.injEq,true_and];omega,HI.out, .inr ⟨hkB,?_⟩,HT1.out⟩,by simp only[intOf];omega⟩;rw[←HY.out];omega
  ·obtain rfl:i=j:=by omega
   have hst:og ([x]++B) (B.take i++x::B.drop i):=by
    have h0:=vS (A1:=[]) (A2:=[x]) (B1:=B.take i) (B2:=B.drop i) (M1:=B.take i) (M2:=x::B.drop i) (by simp[lG]) (by rw[List.take_append_drop];exact HS.out) (by simp) (fun y hy z hz=>by
     obtain rfl:=List.mem_singleton.1 hz;exact uI HS.out (by rw[←Gv.out];exact hjb) (p:=fun v=>v<z.1) (fun _ _ h1 h2=>by omega) HI.out y hy) (lG.Oy (ru HS.out i)) (by
     refine lG.Oy (List.pairwise_cons.2 ⟨fun y hy=>?_,ry HS.out i⟩);exact uJ HS.out (by rw[←Gv.out];exact hjb) (p:=fun v=>x.1≤v) (fun _ _ h1 h2=>by omega) HJ.out y hy)
    rw[List.take_append_drop]at h0;exact h0
   have HST:=hide hst;obtain⟨wo,rfl⟩:∃wo,wo=wr:=⟨_,rfl⟩;clear HI HJ hst;have e3:IntKind.i64.wrap (((xl+1+i:Nat):Int)-1)=((xl+i:Nat):Int):=by rw[IntWalk.i64_in _ (by omega)];omega
   go_wp2
   go_loopw [13] (fun kv wr=>∃k:Nat,k≤i∧kv= .int .i64 ((xl+k:Nat):Int)∧TR wr base (.slice (some ⟨g,0,none⟩) n c) (X++B.take k++x::(B.drop k++Y))∧Turn [g] w wr) (fun kv _=>xl+i-(intOf kv).toNat)
   case atStart=>
    refine⟨0,Nat.zero_le _,rfl,?_,dJ.out.mono (by simp)⟩;have:=H.out.still dJ.out;simpa using this
   case round=>
    obtain⟨k,hk,rfl,hrow,htw⟩:=hrel;have Jq:=hide htw;have Jr:=hide hrow;clear htw hrow;by_cases hlt2:k<i
    ·have hkB:k<B.length:=by rw[←Gv.out];omega
     obtain⟨y,hy⟩:∃y,y=B[k]:=⟨_,rfl⟩;have hrow:=Jr.out;rw[List.drop_eq_getElem_cons hkB,←hy,show X++B.take k++x::(y::B.drop (k+1)++Y)=(X++B.take k)++x::([]++y::(B.drop (k+1)++Y))by simp]at hrow;have hp1:(X++B.take k).length=xl+k:=by rw[List.length_append,List.length_take,←jd.out];omega
     have hlen:=hrow.len;have hg1:∀h,((X++B.take k)++x::([]++y::(B.drop (k+1)++Y)))[xl+k]'h=x:=fun h=>fP rfl hp1.symm h
     have hg2:∀h,((X++B.take k)++x::([]++y::(B.drop (k+1)++Y)))[xl+k+1]'h=y:=fun h=>fP (P:=X++B.take k++[x]) (R:=B.drop (k+1)++Y) (by simp) (by rw[List.length_append,hp1];rfl) h
     have hlb:xl+k+1<((X++B.take k)++x::([]++y::(B.drop (k+1)++Y))).length:=by rw[List.length_append,hp1];simp
     have hsw:=hrow.swapped.1;rw[hp1,show xl+k+1+([]:List Tm).length=xl+k+1 by simp]at hsw;obtain⟨c0,c1,f0,f1,z⟩:=TR.two hrow (i:=xl+k) (by omega) (hg1 _);obtain⟨c2,c3,f2,f3, -⟩:=TR.two hrow (i:=xl+k+1) hlb (hg2 _);have hjn:xl+k+1<n:=by rw[hlen];exact hlb
     obtain⟨j,hj⟩:∃j,j=xl+k:=⟨_,rfl⟩;obtain⟨j1,hj1⟩:∃j1,j1=j+1:=⟨_,rfl⟩;rw[←hj]at hsw c0 c1 f0 f1 c2 c3 f2 f3 hjn⊢;rw[←hj1]at hsw c2 c3 f2 f3 hjn;have HY:=hide hy;have OW:=hide hsw;have ja:j≤xl+k:=by omega
     have jb:xl+k≤j:=by omega
     have j1a:j1≤j+1:=by omega
     have j1b:j+1≤j1:=by omega
     clear hrow hp1 hlen hg1 hg2 hlb hsw hj hj1 hy;have i1:(j:Int)<(n:Int):=by omega
     have i2:(j1:Int)<(n:Int):=by omega
     have hlt3:(j:Int)<(xl:Int)+i:=by omega
     have e4:IntKind.i64.wrap ((j:Int)+1)=(j1:Int):=by rw[IntWalk.i64_in _ (by omega)];omega
     go_wp2
     go_region
     go_wp2
     refine⟨⟨k+1,by omega,by simp only[Value.int.injEq,true_and];omega,?_,Jq.out.same (uK wr g (j*2) (j1*2) (o9 y) (o9 x)).drew⟩,by simp only[intOf];omega⟩;have:=OW.out.still ((Turn.refl [] _).drew);rw[List.take_succ_eq_append_getElem hkB,←HY.out];have e:X++(B.take k++[y])++x::(B.drop (k+1)++Y)=X++B.take k++y::([]++x::(B.drop (k+1)++Y)):=by simp
     rw[e];exact this
    ·obtain rfl:k=i:=by omega
     go_wp2
     refine bodyPost_ret (results_none rfl _ _ _) rfl ?_;exact⟨rfl,⟨_,HST.out,by simpa using Jr.out⟩,Jq.out⟩
set_option maxHeartbeats 1000000 in
theorem merge_right(w:World)(base g n c:Nat)(X A Y:List Tm)(y:Tm)(h:TR w base (.slice (some ⟨g,0,none⟩) n c) (X++A++y::Y))(hl:X.length+A.length+1+Y.length≤1000000)(hA:lG A)(hA2:2≤A.length):
 rC w base g n c X A [y] Y X.length ((X.length+A.length:Nat):Int) ((X.length+A.length+1:Nat):Int):=by
 unfold rC;have H:=hide h;have HS:=hide hA;have hn:n=X.length+A.length+1+Y.length:=by rw[h.len];simp;omega
 obtain⟨xl,hxl⟩:∃xl,xl=X.length:=⟨_,rfl⟩;obtain⟨al,hal⟩:∃al,al=A.length:=⟨_,rfl⟩;rw[←hxl,←hal]at hl hn⊢;rw[←hal]at hA2;have jd:=hide hxl;have mX:=hide hal;have hmax:n≤1000000:=by omega
 have hxn:xl+al+1≤n:=by omega
 clear h hl hxl hal hn hA;have s0:IntKind.i64.wrap (((xl+al:Nat):Int)-xl)=al:=by rw[IntWalk.i64_in _ (by omega)];omega
 have s1:IntKind.i64.wrap (((xl+al+1:Nat):Int)-(xl+al:Nat))=1:=by rw[IntWalk.i64_in _ (by omega)];omega
 unfold DI;go_enter Tryz.func72,Tryz.ntmps72
 go_wp2
 go_loopw [14,15] (fun iv jv wr=>∃i j:Nat,i≤j∧j≤al∧iv= .int .i64 ((xl+i:Nat):Int)∧jv= .int .i64 ((xl+j:Nat):Int)∧(i=0∨∃h:i-1<A.length,(A[i-1]).1≤y.1)∧(j=A.length∨∃h:j<A.length,y.1<(A[j]).1)∧Turn [] w wr) (fun iv jv _=>(intOf jv).toNat-(intOf iv).toNat)
 case atStart=>
  exact⟨0,al,Nat.zero_le _,Nat.le_refl _,rfl,rfl, .inl rfl, .inl mX.out,Turn.refl _ _⟩
 case round=>
  obtain⟨i,j,hij,hjb,rfl,rfl,hi,hj,htw⟩:=hrel;have dJ:=hide htw;have HI:=hide hi;have HJ:=hide hj;clear htw hi hj;by_cases hlt:i<j
  ·have hlt1:(xl:Int)+i<xl+j:=by omega
   obtain⟨k,hk⟩:∃k,k=(i+j)/2:=⟨_,rfl⟩;obtain⟨hh,hhe⟩:∃hh,hh=xl+k:=⟨_,rfl⟩;have e:((xl:Int)+i+(xl+j))/2=(hh:Int):=by omega
   have OY:k<A.length:=by rw[←mX.out];omega
   obtain⟨x,hx⟩:∃x,x=A[k]:=⟨_,rfl⟩;have hcell:∀Z,Turn [] wr Z→(Z.cell? ⟨g,hh*2,none⟩=some (.int .i64 x.1)∧Z.cell? ⟨g,hh*2+1,none⟩=some (.int .i64 x.2))∧Z.cell? ⟨g,(xl+al)*2,none⟩=some (.int .i64 y.1)∧Z.cell? ⟨g,(xl+al)*2+1,none⟩=some (.int .i64 y.2):=fun Z hZ=>by
    have hrow:=H.out.still (dJ.out.same hZ);have hlx:(X++A++y::Y).length=X.length+A.length+1+Y.length:=by simp;omega
    obtain⟨c0,c1, -⟩:=TR.two hrow (i:=hh) (x:=x) (by rw[hlx,←jd.out,←mX.out];omega) (by
     rw[List.getElem_append_left (by rw[List.length_append,←jd.out];omega),List.getElem_append_right (by rw[←jd.out];omega)];simp only[show hh-X.length=k by rw[←jd.out];omega];exact hx.symm)
    obtain⟨c2,c3, -⟩:=TR.two hrow (i:=xl+al) (x:=y) (by rw[hlx,←jd.out,←mX.out];omega) (fP rfl (by rw[List.length_append,←jd.out,←mX.out]) _);exact⟨⟨c0,c1⟩,c2,c3⟩
   have HX:=hide hx;obtain⟨mm,hmm⟩:∃mm,mm=xl+al:=⟨_,rfl⟩;rw[←hmm]at hcell⊢;have HC:=hide hcell;have hk1:k≤(i+j)/2:=by omega
   have hk2:(i+j)/2≤k:=by omega
   have hh1:hh≤xl+k:=by omega
   have hh2:xl+k≤hh:=by omega
   have hm1:mm≤xl+al:=by omega
   have hm2:xl+al≤mm:=by omega
   clear hcell hx hk hhe hmm;have i1:(hh:Int)<(n:Int):=by omega
   have i2:(mm:Int)<(n:Int):=by omega
   go_wp2
   clear e;refine aF (Turn []) (by kernel_rfl) (by kernel_rfl) (by kernel_rfl) (by kernel_rfl) rfl (Turn.refl _) (fun _ _ _ h k=>h.same k) ?_;apply Lo.ag 1 rfl rfl [] (by kernel_rfl) (Turn.refl _);apply Exists.intro;apply And.intro
   ·intro u w1 hR hF
    clear hF;refine⟨rfl,fun a ha K hK=>?_⟩;have e4:=ha 4;conv at e4=>rhs;whnf
    clear ha;go_simp
    refine hK _ ?_;rfl
   apply Lo.ag 2 rfl rfl [] (by kernel_rfl) (Turn.refl _);apply Exists.intro;apply And.intro
   ·intro u w1 hR hF
    clear hF;refine⟨rfl,fun a ha K hK=>?_⟩;have e0:=ha 0;conv at e0=>rhs;whnf
    clear ha;go_simp
    refine hK _ ?_;rfl
   apply Lo.ag 3 rfl rfl [] (by kernel_rfl) (Turn.refl _);apply Exists.intro;apply And.intro
   ·intro u w1 hR hF
    clear hF;refine⟨rfl,fun a ha K hK=>?_⟩;have e2:=ha 2;conv at e2=>rhs;whnf
    clear ha;go_simp
    refine hK _ ?_;rfl
   apply Lo.ag 4 rfl rfl [1,2] (by kernel_rfl) (Turn.refl _);apply Exists.intro;apply And.intro
   ·intro u w1 hR hF
    obtain⟨h1,h2, -⟩:=hF;refine⟨rfl,fun a ha K hK=>?_⟩;have e93:=(ha 93).trans h1;have e94:=(ha 94).trans h2;clear ha h1 h2;go_simp
    refine hK _ ?_;rfl
   refine Lo.aJ 5 rfl rfl [3] (zh y) (by kernel_rfl) (fun u w1 hR hF=>?_) (Turn.refl _) ?_
   ·obtain⟨h3, -⟩:=hF
    refine⟨rfl,fun a ha K hK=>?_⟩;have e95:=(ha 95).trans h3;clear ha h3;obtain⟨⟨c0,c1⟩,c2,c3⟩:=HC.out w1 (((Turn.refl [] _).drew).same hR);go_simp
    refine hK _ ?_;rfl
   apply Lo.ag 6 rfl rfl [] (by kernel_rfl) (Turn.refl _);apply Exists.intro;apply And.intro
   ·intro u w1 hR hF
    clear hF;refine⟨rfl,fun a ha K hK=>?_⟩;have e0:=ha 0;conv at e0=>rhs;whnf
    clear ha;go_simp
    refine hK _ ?_;rfl
   apply Lo.ag 7 rfl rfl [] (by kernel_rfl) (Turn.refl _);apply Exists.intro;apply And.intro
   ·intro u w1 hR hF
    clear hF;refine⟨rfl,fun a ha K hK=>?_⟩;have e16:=ha 16;conv at e16=>rhs;whnf
    clear ha;go_simp
    refine hK _ ?_;rfl
   apply Lo.ag 8 rfl rfl [5,6] (by kernel_rfl) (Turn.refl _);apply Exists.intro;apply And.intro
   ·intro u w1 hR hF
    obtain⟨h5,h6, -⟩:=hF;refine⟨rfl,fun a ha K hK=>?_⟩;have e97:=(ha 97).trans h5;have e98:=(ha 98).trans h6;clear ha h5 h6;go_simp
    refine hK _ ?_;rfl
   refine Lo.aJ 9 rfl rfl [7] (zh x) (by kernel_rfl) (fun u w1 hR hF=>?_) (Turn.refl _) ?_
   ·obtain⟨h7, -⟩:=hF
    refine⟨rfl,fun a ha K hK=>?_⟩;have e99:=(ha 99).trans h7;clear ha h7;obtain⟨⟨c0,c1⟩,c2,c3⟩:=HC.out w1 (((Turn.refl [] _).drew).same hR);go_simp
    refine hK _ ?_;rfl
   refine Lo.run 10 rfl rfl [0,4,8] (fun v w'=>v= .int .i64 (vT y.1 x.1)) (by kernel_rfl) (fun x w w' h hR=>?_) (fun _ _ h=>h) (fun u w1 hR hF=>?_) ?_
   ·exact h
   ·obtain⟨h0,h4,h8, -⟩:=hF
    refine⟨rfl,fun a ha K hK=>?_⟩;have e92:=(ha 92).trans h0;have e96:=(ha 96).trans h4;have e100:=(ha 100).trans h8;clear ha h0 h4 h8;go_simp
    refine(AV y x w1).mono ?_;rintro e w5 ⟨rfl,ht5⟩;exact hK _ _ rfl ht5
   refine Lo.aJ 11 rfl rfl [9] (.bool (decide (y.1<x.1))) (by kernel_rfl) (fun u w1 hR hF=>?_) (Turn.refl _) ?_
   ·obtain⟨h9, -⟩:=hF
    refine⟨rfl,fun a ha K hK=>?_⟩;have e101:a.tmps.getD 101 undef=u 9:=ha 101;have h9:=(show(fun v w'=>v= .int .i64 (vT y.1 x.1)) (u 9) w1 from h9);dsimp only at h9;clear ha;go_simp
    refine hK _ ?_;rw[←AU y.1 x.1]
   refine Lo.aJ 12 rfl rfl [10] (.bool (!decide (y.1<x.1))) (by kernel_rfl) (fun u w1 hR hF=>?_) (Turn.refl _) ?_
   ·obtain⟨h10, -⟩:=hF
    refine⟨rfl,fun a ha K hK=>?_⟩;have e102:=(ha 102).trans h10;clear ha h10;go_simp
    refine hK _ ?_;rfl
   refine Lo.done [11] (fun u w1 bP hSd hF=>?_);clear hSd;obtain⟨f11, -⟩:=hF;have d11:u 11=_:=f11;clear f11;simp only[ax,Act.put,List.setIfInBounds_toArray,List.set_cons_succ,List.set_cons_zero,Nat.zero_add,Nat.reduceAdd,d11];have HT1:=hide (dJ.out.same (((Turn.refl [] wr).drew).same bP));clear d11 bP;by_cases hyx:y.1<x.1
   ·have hd:decide (y.1<x.1)=true:=by simpa using hyx
    rw[hd];clear hd;go_wp2
    refine⟨⟨i,k,by omega,by omega,rfl,by simp only[Value.int.injEq,true_and];omega,HI.out, .inr ⟨OY,?_⟩,HT1.out⟩,by simp only[intOf];omega⟩;rw[←HX.out];exact hyx
   ·have hd:decide (y.1<x.1)=false:=by simpa using hyx
    rw[hd];clear hd;have e2:IntKind.i64.wrap ((hh:Int)+1)=((xl+(k+1):Nat):Int):=by rw[IntWalk.i64_in _ (by omega)];omega
    go_wp2
    refine⟨⟨k+1,j,by omega,hjb,by simp only[Value.int.injEq,true_and];omega,rfl, .inr ⟨OY,?_⟩,HJ.out,HT1.out⟩,by simp only[intOf];omega⟩;show(A[k]).1≤y.1;rw[←HX.out];omega
  ·obtain rfl:i=j:=by omega
   have hst:og (A++[y]) (A.take i++y::A.drop i):=by
    have h0:=vS (A1:=A.take i) (A2:=A.drop i) (B1:=[y]) (B2:=[]) (M1:=A.take i++[y]) (M2:=A.drop i) (by rw[List.take_append_drop];exact HS.out) (by simp[lG]) (by simp) (fun z hz x hx=>by
     obtain rfl:=List.mem_singleton.1 hz;exact uJ HS.out (by rw[←mX.out];exact hjb) (p:=fun v=>z.1<v) (fun _ _ h1 h2=>by omega) HJ.out x hx) (by
     refine lG.Oy (iM.2 ⟨ru HS.out i,by simp[lG],fun x hx z hz=>?_⟩);obtain rfl:=List.mem_singleton.1 hz;exact uI HS.out (by rw[←mX.out];exact hjb) (p:=fun v=>v≤z.1) (fun _ _ h1 h2=>by omega) HI.out x hx) (by rw[List.append_nil];exact lG.Oy (ry HS.out i))
    rw[List.take_append_drop]at h0;simpa using h0
   have HST:=hide hst;obtain⟨wo,rfl⟩:∃wo,wo=wr:=⟨_,rfl⟩;clear HI HJ hst;go_wp2
   go_loopw [17] (fun kv wr=>∃k:Nat,i≤k∧k≤al∧kv= .int .i64 ((xl+k:Nat):Int)∧TR wr base (.slice (some ⟨g,0,none⟩) n c) (X++A.take k++y::(A.drop k++Y))∧Turn [g] w wr) (fun kv _=>(intOf kv).toNat-xl)
   case atStart=>
    refine⟨al,hjb,Nat.le_refl _,rfl,?_,dJ.out.mono (by simp)⟩;have:=H.out.still dJ.out;rw[List.take_of_length_le (by rw[←mX.out];exact Nat.le_refl _),List.drop_eq_nil_of_le (by rw[←mX.out];exact Nat.le_refl _)];simpa using this
   case round=>
    obtain⟨k,hk,hkl,rfl,hrow,htw⟩:=hrel;have Jq:=hide htw;have Jr:=hide hrow;clear htw hrow;by_cases hlt2:i<k
    ·obtain⟨q,rfl⟩:∃q,k=q+1:=⟨k-1,by omega⟩
     have OY:q<A.length:=by rw[←mX.out];omega
     obtain⟨x,hx⟩:∃x,x=A[q]:=⟨_,rfl⟩;have hrow:=Jr.out;rw[List.take_succ_eq_append_getElem OY,←hx,show X++(A.take q++[x])++y::(A.drop (q+1)++Y)=(X++A.take q)++x::([]++y::(A.drop (q+1)++Y))by simp]at hrow;have hp1:(X++A.take q).length=xl+q:=by rw[List.length_append,List.length_take,←jd.out];omega
     have hlen:=hrow.len;have hg1:∀h,((X++A.take q)++x::([]++y::(A.drop (q+1)++Y)))[xl+q]'h=x:=fun h=>fP rfl hp1.symm h
     have hg2:∀h,((X++A.take q)++x::([]++y::(A.drop (q+1)++Y)))[xl+q+1]'h=y:=fun h=>fP (P:=X++A.take q++[x]) (R:=A.drop (q+1)++Y) (by simp) (by rw[List.length_append,hp1];rfl) h
     have hlb:xl+q+1<((X++A.take q)++x::([]++y::(A.drop (q+1)++Y))).length:=by rw[List.length_append,hp1];simp
     have hsw:=hrow.swapped.2;rw[hp1,show xl+q+1+([]:List Tm).length=xl+q+1 by simp]at hsw;obtain⟨c0,c1,f0,f1,z⟩:=TR.two hrow (i:=xl+q) (by omega) (hg1 _);obtain⟨c2,c3,f2,f3, -⟩:=TR.two hrow (i:=xl+q+1) hlb (hg2 _);have hjn:xl+q+1<n:=by rw[hlen];exact hlb
     obtain⟨j,hj⟩:∃j,j=xl+q:=⟨_,rfl⟩;obtain⟨j1,hj1⟩:∃j1,j1=j+1:=⟨_,rfl⟩;rw[←hj]at hsw c0 c1 f0 f1 c2 c3 f2 f3 hjn;rw[←hj1]at hsw c2 c3 f2 f3 hjn;rw[show xl+(q+1)=j1 by omega];have HX:=hide hx;have OW:=hide hsw;have ja:j≤xl+q:=by omega
     have jb:xl+q≤j:=by omega
     have j1a:j1≤j+1:=by omega
     have j1b:j+1≤j1:=by omega
     clear hrow hp1 hlen hg1 hg2 hlb hsw hj hj1 hx;have i1:(j:Int)<(n:Int):=by omega
     have i2:(j1:Int)<(n:Int):=by omega
     have hlt3:((xl:Int)+i)<(j1:Int):=by omega
     have e4:IntKind.i64.wrap ((j1:Int)-1)=(j:Int):=by rw[IntWalk.i64_in _ (by omega)];omega
     go_wp2
     go_region
     go_wp2
     refine⟨⟨q,by omega,by omega,by simp only[Value.int.injEq,true_and];omega,?_,Jq.out.same (uK wr g (j1*2) (j*2) (o9 x) (o9 y)).drew⟩,by simp only[intOf];omega⟩;have:=OW.out.still ((Turn.refl [] _).drew);rw[List.drop_eq_getElem_cons OY,←HX.out];exact this
    ·obtain rfl:k=i:=by omega
     go_wp2
     refine bodyPost_ret (results_none rfl _ _ _) rfl ?_;exact⟨rfl,⟨_,HST.out,by simpa using Jr.out⟩,Jq.out⟩
theorem MQ{L P A R:List Tm}{i k:Nat}(hL:L=P++A++R)(hk:k<A.length)(hi:i=P.length+k)(h:i<L.length):L[i]=A[k]:=by
 subst hL;subst hi;rw[List.getElem_append_left (by rw[List.length_append];omega),List.getElem_append_right (by omega)];simp
structure Part(A B:List Tm)(h s0 r0 s r:Nat):Prop where
 lo:s0≤s
 mid:s≤r
 hi:r≤r0
 left:s=s0∨∃(h1:s-1<A.length) (h2:h-s<B.length),(A[s-1]).1≤(B[h-s]).1
 right:r=r0∨∃(h1:r<A.length) (h2:h-1-r<B.length),(B[h-1-r]).1<(A[r]).1
theorem Part.merged{A B M1 M2:List Tm}{h s0 r0 s:Nat}(hp:Part A B h s0 r0 s s)(hA:lG A)(hB:lG B)(hs0:s0=0∨s0+B.length=h)(hr0:r0=h∨r0=A.length)(hsA:s≤A.length)(hsh:s≤h)(hhB:h-s≤B.length)
 (m1:og (A.take s++B.take (h-s)) M1)(m2:og (A.drop s++B.drop (h-s)) M2):og (A++B) (M1++M2):=by
 have h0:=vS (A1:=A.take s) (A2:=A.drop s) (B1:=B.take (h-s)) (B2:=B.drop (h-s)) (by rw[List.take_append_drop];exact hA) (by rw[List.take_append_drop];exact hB) (fun x hx y hy=>?_) (fun y hy x hx=>?_) m1 m2
 ·rw[List.take_append_drop,List.take_append_drop]at h0
  exact h0
 ·rcases hp.left with e|⟨h1,h2,hle⟩
  ·rcases hs0 with e2|e2
   ·rw[e,e2]at hx
    simp at hx
   ·rw[List.drop_eq_nil_of_le (by omega)]at hy
    simp at hy
  ·have hx2:=uI hA hsA (p:=fun v=>v≤(A[s-1]).1) (fun _ _ h1 h2=>by omega) (.inr ⟨h1,Int.le_refl _⟩) x hx
   have hy2:=uJ hB hhB (p:=fun v=>(B[h-s]).1≤v) (fun _ _ h1 h2=>by omega) (.inr ⟨h2,Int.le_refl _⟩) y hy;omega
 ·rcases hp.right with e|⟨h1,h2,hlt⟩
  ·rcases hr0 with e2|e2
   ·rw[show h-s=0 by omega]at hy
    simp at hy
   ·rw[List.drop_eq_nil_of_le (by omega)]at hx
    simp at hx
  ·have hy2:=uI hB hhB (p:=fun v=>v≤(B[h-1-s]).1) (fun _ _ h1 h2=>by omega) (by
    by_cases e:h-s=0
    ·exact .inl e
    ·refine .inr ⟨by omega,?_⟩
     have e2:h-s-1=h-1-s:=by omega
     simp only[e2];exact Int.le_refl _) y hy
   have hx2:=uJ hA hsA (p:=fun v=>(A[s]).1≤v) (fun _ _ h1 h2=>by omega) (.inr ⟨h1,Int.le_refl _⟩) x hx;omega
theorem WV(X A B Y:List Tm)(s t:Nat):X++A++B++Y=(X++A.take s)++A.drop s++B.take t++(B.drop t++Y):=by
 simp only[List.append_assoc];rw[←List.append_assoc (List.take s A),List.take_append_drop,←List.append_assoc (List.take t B),List.take_append_drop]
def FT(N:Nat):Prop:=∀(w:World) (base g n c:Nat) (X A B Y:List Tm) (_:TR w base (.slice (some ⟨g,0,none⟩) n c) (X++A++B++Y)) (_:X.length+A.length+B.length+Y.length≤1000000) (_:lG A) (_:lG B) (_:0<A.length) (_:0<B.length) (_:A.length+B.length≤N) (a m b:Int) (_:a=X.length) (_:m=((X.length+A.length:Nat):Int)) (_:b=((X.length+A.length+B.length:Nat):Int)),
    rC w base g n c X A B Y a m b
set_option maxHeartbeats 2000000 in
theorem KL(N:Nat)(IH:FT N):FT (N+1):=by
 intro w base g n c X A B Y h hl hA hB hA0 hB0 hN a m b ha hm hb;subst ha;subst hm;subst hb;by_cases hA1:A.length=1
 ·obtain⟨x,rfl⟩:=List.length_eq_one_iff.1 hA1
  exact KJ w base g n c X B Y x (by simpa using h) hl hB
 by_cases hB1:B.length=1
 ·obtain⟨y,rfl⟩:=List.length_eq_one_iff.1 hB1
  exact merge_right w base g n c X A Y y (by simpa using h) hl hA (by omega)
 unfold rC;have HIH:=hide IH;have H:=hide h;have Js:=hide hA;have XL:=hide hB;have hn:n=X.length+A.length+B.length+Y.length:=by rw[h.len];simp;omega
 obtain⟨xl,hxl⟩:∃xl,xl=X.length:=⟨_,rfl⟩;obtain⟨al,hal⟩:∃al,al=A.length:=⟨_,rfl⟩;obtain⟨bl,hbl⟩:∃bl,bl=B.length:=⟨_,rfl⟩;rw[←hxl,←hal,←hbl]at hl hn;rw[←hal,←hbl]at hN;have ha2:2≤al:=by omega
 have hb2:2≤bl:=by omega
 rw[←hxl,←hal,←hbl];have jd:=hide hxl;have mX:=hide hal;have Gv:=hide hbl;have MH:=hide hl;have hmax:n≤1000000:=by omega
 have hxn:xl+al+bl≤n:=by omega
 obtain⟨hf,hhf⟩:∃hf,hf=(al+bl)/2:=⟨_,rfl⟩;obtain⟨md,hmd⟩:∃md,md=xl+hf:=⟨_,rfl⟩;have emid:((xl:Int)+(xl+al+bl))/2=(md:Int):=by omega
 have hf1:2*hf≤al+bl:=by omega
 have hf2:al+bl≤2*hf+1:=by omega
 have md1:md≤xl+hf:=by omega
 have md2:xl+hf≤md:=by omega
 clear hhf hmd;clear IH h hl hxl hal hbl hn hA hB hA0 hB0 hA1 hB1;have n1:¬(((xl+al:Nat):Int)-xl)=1:=by omega
 have n2:¬(((xl+al+bl:Nat):Int)-(xl+al:Nat))=1:=by omega
 unfold DI;have hcs:∃s0 r0:Nat,(s0=0∨s0+bl=hf)∧(r0=hf∨r0=al)∧s0≤r0∧r0≤hf∧r0≤al∧hf≤s0+bl∧(((md:Int)<xl+al∧s0+bl=hf∧r0=hf)∨(¬(md:Int)<xl+al∧s0=0∧r0=al)):=by
  by_cases hgt:md<xl+al
  ·exact⟨hf-bl,hf,by omega,by omega,by omega,by omega,by omega,by omega,by omega⟩
  ·exact⟨0,al,by omega,by omega,by omega,by omega,by omega,by omega,by omega⟩
 obtain⟨s0,r0,hs0,hr0,TY,Z9,hra,hsb,hcs⟩:=hcs;have HS0:=hide hs0;have HR0:=hide hr0;clear hs0 hr0;rcases hcs with⟨hgt1,es0,er0⟩|⟨hgt1,es0,er0⟩
 all_goals
  have HE1:=hide es0;have HE2:=hide er0;clear es0 er0;go_enter Tryz.func72,Tryz.ntmps72
  go_wp2
  go_loopw [20,21] (fun sv rv wr=>∃s r:Nat,sv= .int .i64 ((xl+s:Nat):Int)∧rv= .int .i64 ((xl+r:Nat):Int)∧Part A B hf s0 r0 s r∧Turn [] w wr) (fun sv rv _=>(intOf rv).toNat-(intOf sv).toNat)
  case atStart=>exact⟨s0,r0,by have:=HE1.out;simp only[Value.int.injEq,true_and];omega,by have:=HE2.out;simp only[Value.int.injEq,true_and];omega,⟨Nat.le_refl _,TY,Nat.le_refl _, .inl rfl, .inl rfl⟩,Turn.refl _ _⟩
  case round=>
   obtain⟨s,r,rfl,rfl,hpt,htw⟩:=hrel;have dJ:=hide htw;have YY:=hide hpt;have q1:=hpt.lo;have q2:=hpt.mid;have q3:=hpt.hi;clear htw hpt;by_cases hlt:s<r
   ·have hlt1:(xl:Int)+s<xl+r:=by omega
    obtain⟨k,hk⟩:∃k,k=(s+r)/2:=⟨_,rfl⟩;obtain⟨cc,hcc⟩:∃cc,cc=xl+k:=⟨_,rfl⟩;have e:((xl:Int)+s+(xl+r))/2=(cc:Int):=by omega
    obtain⟨kb,hkb⟩:∃kb,kb=hf-1-k:=⟨_,rfl⟩;obtain⟨qq,hqq⟩:∃qq,qq=xl+al+kb:=⟨_,rfl⟩;have OY:k<A.length:=by rw[←mX.out];omega
    have hkB:kb<B.length:=by rw[←Gv.out];omega
    obtain⟨x,hx⟩:∃x,x=A[k]:=⟨_,rfl⟩;obtain⟨y,hy⟩:∃y,y=B[kb]:=⟨_,rfl⟩;have hcell:∀Z,Turn [] wr Z→(Z.cell? ⟨g,cc*2,none⟩=some (.int .i64 x.1)∧Z.cell? ⟨g,cc*2+1,none⟩=some (.int .i64 x.2))∧Z.cell? ⟨g,qq*2,none⟩=some (.int .i64 y.1)∧Z.cell? ⟨g,qq*2+1,none⟩=some (.int .i64 y.2):=fun Z hZ=>by
     have hrow:=H.out.still (dJ.out.same hZ);have hlx:(X++A++B++Y).length=X.length+A.length+B.length+Y.length:=by simp;omega
     obtain⟨c0,c1, -⟩:=TR.two hrow (i:=cc) (x:=x) (by rw[hlx,←jd.out,←mX.out,←Gv.out];omega) (by rw[hx];exact MQ (P:=X) (A:=A) (R:=B++Y) (by simp) OY (by rw[←jd.out];exact hcc) _);obtain⟨c2,c3, -⟩:=TR.two hrow (i:=qq) (x:=y) (by rw[hlx,←jd.out,←mX.out];have:=hkB;omega) (by rw[hy];exact MQ (P:=X++A) (A:=B) (R:=Y) rfl hkB (by rw[List.length_append,←jd.out,←mX.out];exact hqq) _);exact⟨⟨c0,c1⟩,c2,c3⟩
    have e5:IntKind.i64.wrap (((md:Int)+(xl+al)-1)-(cc:Int))=(qq:Int):=by rw[IntWalk.i64_in _ (by omega)];omega
    have HX:=hide hx;have HY:=hide hy;have HC:=hide hcell;have hk1:2*k≤s+r:=by omega
    have hk2:s+r≤2*k+1:=by omega
    have hh1:cc≤xl+k:=by omega
    have hh2:xl+k≤cc:=by omega
    have hq1:qq≤xl+al+kb:=by omega
    have hq2:xl+al+kb≤qq:=by omega
    have hb1:kb+1+k≤hf:=by omega
    have hb2:hf≤kb+1+k:=by omega
    clear hcell hx hy hk hcc hkb hqq;have i1:(cc:Int)<(n:Int):=by omega
    have i2:(qq:Int)<(n:Int):=by have:=hkB;rw[←Gv.out]at this;omega
    go_wp2
    clear e;refine aF (Turn []) (by kernel_rfl) (by kernel_rfl) (by kernel_rfl) (by kernel_rfl) rfl (Turn.refl _) (fun _ _ _ h k=>h.same k) ?_;apply Lo.ag 1 rfl rfl [] (by kernel_rfl) (Turn.refl _);apply Exists.intro;apply And.intro
    ·intro u w1 hR hF
     clear hF;refine⟨rfl,fun a ha K hK=>?_⟩;have e4:=ha 4;conv at e4=>rhs;whnf
     clear ha;go_simp
     refine hK _ ?_;rfl
    apply Lo.ag 2 rfl rfl [] (by kernel_rfl) (Turn.refl _);apply Exists.intro;apply And.intro
    ·intro u w1 hR hF
     clear hF;refine⟨rfl,fun a ha K hK=>?_⟩;have e0:=ha 0;conv at e0=>rhs;whnf
     clear ha;go_simp
     refine hK _ ?_;rfl
    apply Lo.ag 3 rfl rfl [] (by kernel_rfl) (Turn.refl _);apply Exists.intro;apply And.intro
    ·intro u w1 hR hF
     clear hF;refine⟨rfl,fun a ha K hK=>?_⟩;have e22:=ha 22;conv at e22=>rhs;whnf
     clear ha;go_simp
     refine hK _ ?_;rfl
    apply Lo.ag 4 rfl rfl [] (by kernel_rfl) (Turn.refl _);apply Exists.intro;apply And.intro
    ·intro u w1 hR hF
     clear hF;refine⟨rfl,fun a ha K hK=>?_⟩;have e23:=ha 23;conv at e23=>rhs;whnf
     clear ha;go_simp
     refine hK _ ?_;rfl
    refine Lo.aJ 5 rfl rfl [2,3] (.int .i64 (qq:Int)) (by kernel_rfl) (fun u w1 hR hF=>?_) (Turn.refl _) ?_
    ·obtain⟨h2,h3, -⟩:=hF
     refine⟨rfl,fun a ha K hK=>?_⟩;have e160:=(ha 160).trans h2;have e161:=(ha 161).trans h3;clear ha h2 h3;go_simp
     refine hK _ ?_;rfl
    apply Lo.ag 6 rfl rfl [1,4] (by kernel_rfl) (Turn.refl _);apply Exists.intro;apply And.intro
    ·intro u w1 hR hF
     obtain⟨h1,h4, -⟩:=hF;refine⟨rfl,fun a ha K hK=>?_⟩;have e159:=(ha 159).trans h1;have e162:=(ha 162).trans h4;clear ha h1 h4;go_simp
     refine hK _ ?_;rfl
    refine Lo.aJ 7 rfl rfl [5] (zh y) (by kernel_rfl) (fun u w1 hR hF=>?_) (Turn.refl _) ?_
    ·obtain⟨h5, -⟩:=hF
     refine⟨rfl,fun a ha K hK=>?_⟩;have e163:=(ha 163).trans h5;clear ha h5;obtain⟨⟨c0,c1⟩,c2,c3⟩:=HC.out w1 (((Turn.refl [] _).drew).same hR);go_simp
     refine hK _ ?_;rfl
    apply Lo.ag 8 rfl rfl [] (by kernel_rfl) (Turn.refl _);apply Exists.intro;apply And.intro
    ·intro u w1 hR hF
     clear hF;refine⟨rfl,fun a ha K hK=>?_⟩;have e0:=ha 0;conv at e0=>rhs;whnf
     clear ha;go_simp
     refine hK _ ?_;rfl
    apply Lo.ag 9 rfl rfl [] (by kernel_rfl) (Turn.refl _);apply Exists.intro;apply And.intro
    ·intro u w1 hR hF
     clear hF;refine⟨rfl,fun a ha K hK=>?_⟩;have e23:=ha 23;conv at e23=>rhs;whnf
     clear ha;go_simp
     refine hK _ ?_;rfl
    apply Lo.ag 10 rfl rfl [7,8] (by kernel_rfl) (Turn.refl _);apply Exists.intro;apply And.intro
    ·intro u w1 hR hF
     obtain⟨h7,h8, -⟩:=hF;refine⟨rfl,fun a ha K hK=>?_⟩;have e165:=(ha 165).trans h7;have e166:=(ha 166).trans h8;clear ha h7 h8;go_simp
     refine hK _ ?_;rfl
    refine Lo.aJ 11 rfl rfl [9] (zh x) (by kernel_rfl) (fun u w1 hR hF=>?_) (Turn.refl _) ?_
    ·obtain⟨h9, -⟩:=hF
     refine⟨rfl,fun a ha K hK=>?_⟩;have e167:=(ha 167).trans h9;clear ha h9;obtain⟨⟨c0,c1⟩,c2,c3⟩:=HC.out w1 (((Turn.refl [] _).drew).same hR);go_simp
     refine hK _ ?_;rfl
    refine Lo.run 12 rfl rfl [0,6,10] (fun v w'=>v= .int .i64 (vT y.1 x.1)) (by kernel_rfl) (fun x w w' h hR=>?_) (fun _ _ h=>h) (fun u w1 hR hF=>?_) ?_
    ·exact h
    ·obtain⟨h0,h6,h10, -⟩:=hF
     refine⟨rfl,fun a ha K hK=>?_⟩;have e158:=(ha 158).trans h0;have e164:=(ha 164).trans h6;have e168:=(ha 168).trans h10;clear ha h0 h6 h10;go_simp
     refine(AV y x w1).mono ?_;rintro e w5 ⟨rfl,ht5⟩;exact hK _ _ rfl ht5
    refine Lo.aJ 13 rfl rfl [11] (.bool (decide (y.1<x.1))) (by kernel_rfl) (fun u w1 hR hF=>?_) (Turn.refl _) ?_
    ·obtain⟨h11, -⟩:=hF
     refine⟨rfl,fun a ha K hK=>?_⟩;have e169:a.tmps.getD 169 undef=u 11:=ha 169;have h11:=(show(fun v w'=>v= .int .i64 (vT y.1 x.1)) (u 11) w1 from h11);dsimp only at h11;clear ha;go_simp
     refine hK _ ?_;rw[←AU y.1 x.1]
    refine Lo.aJ 14 rfl rfl [12] (.bool (!decide (y.1<x.1))) (by kernel_rfl) (fun u w1 hR hF=>?_) (Turn.refl _) ?_
    ·obtain⟨h12, -⟩:=hF
     refine⟨rfl,fun a ha K hK=>?_⟩;have e170:=(ha 170).trans h12;clear ha h12;go_simp
     refine hK _ ?_;rfl
    refine Lo.done [13] (fun u w1 bP hSd hF=>?_);clear hSd;obtain⟨f13, -⟩:=hF;have d13:u 13=_:=f13;clear f13;simp only[ax,Act.put,List.setIfInBounds_toArray,List.set_cons_succ,List.set_cons_zero,Nat.zero_add,Nat.reduceAdd,d13];have HT1:=hide (dJ.out.same (((Turn.refl [] wr).drew).same bP));clear d13 bP;by_cases hyx:y.1<x.1
    ·have hd:decide (y.1<x.1)=true:=by simpa using hyx
     rw[hd];clear hd;have hpt2:Part A B hf s0 r0 s k:=⟨q1,by omega,by omega,YY.out.left, .inr ⟨OY,by rw[show hf-1-k=kb by omega];exact hkB,by
      simp only[show hf-1-k=kb by omega];rw[←HX.out,←HY.out];exact hyx⟩⟩
     have WW:=hide hpt2;clear hpt2;go_wp2
     exact⟨⟨s,k,rfl,by simp only[Value.int.injEq,true_and];omega,WW.out,HT1.out⟩,by simp only[intOf];omega⟩
    ·have hd:decide (y.1<x.1)=false:=by simpa using hyx
     rw[hd];clear hd;have hpt2:Part A B hf s0 r0 (k+1) r:=⟨by omega,by omega,q3, .inr ⟨by simpa using OY,by rw[show hf-(k+1)=kb by omega];exact hkB,by
      simp only[show hf-(k+1)=kb by omega,Nat.add_sub_cancel];rw[←HX.out,←HY.out];omega⟩,YY.out.right⟩
     have WW:=hide hpt2;have e2:IntKind.i64.wrap ((cc:Int)+1)=((xl+(k+1):Nat):Int):=by rw[IntWalk.i64_in _ (by omega)];omega
     clear hpt2;go_wp2
     exact⟨⟨k+1,r,by simp only[Value.int.injEq,true_and];omega,rfl,WW.out,HT1.out⟩,by simp only[intOf];omega⟩
   ·obtain rfl:s=r:=by omega
    have hfin:∀M1 M2,og (A.take s++B.take (hf-s)) M1→og (A.drop s++B.drop (hf-s)) M2→og (A++B) (M1++M2):=fun M1 M2 h1 h2=>
     Part.merged YY.out Js.out XL.out (by rw[←Gv.out];exact HS0.out) (by rw[←mX.out];exact HR0.out) (by rw[←mX.out];omega) (by omega) (by rw[←Gv.out];omega) h1 h2
    have hrow0:=H.out.still dJ.out;rw[WV X A B Y s (hf-s)]at hrow0;obtain⟨A1,hA1⟩:∃A1,A1=A.take s:=⟨_,rfl⟩;obtain⟨A2,hA2⟩:∃A2,A2=A.drop s:=⟨_,rfl⟩;obtain⟨B1,hB1⟩:∃B1,B1=B.take (hf-s):=⟨_,rfl⟩;obtain⟨B2,hB2⟩:∃B2,B2=B.drop (hf-s):=⟨_,rfl⟩;have sA1:lG A1:=by rw[hA1];exact ru Js.out s
    have sA2:lG A2:=by rw[hA2];exact ry Js.out s
    have sB1:lG B1:=by rw[hB1];exact ru XL.out _
    have sB2:lG B2:=by rw[hB2];exact ry XL.out _
    have lA1:A1.length=s:=by rw[hA1,List.length_take,←mX.out];omega
    have lA2:A2.length=al-s:=by rw[hA2,List.length_drop,←mX.out]
    have lB1:B1.length=hf-s:=by rw[hB1,List.length_take,←Gv.out];omega
    have lB2:B2.length=bl-(hf-s):=by rw[hB2,List.length_drop,←Gv.out]
    rw[←hA1,←hA2,←hB1,←hB2]at hrow0;rw[←hA1,←hA2,←hB1,←hB2]at hfin;have lK:=hide hfin;have bQ:=hide hrow0;have LA1:=hide lA1;have LA2:=hide lA2;have LB1:=hide lB1;have LB2:=hide lB2;have SA1:=hide sA1;have SA2:=hide sA2;have SB1:=hide sB1;have SB2:=hide sB2;clear hfin hrow0 hA1 hA2 hB1 hB2 sA1 sA2 sB1 sB2 lA1 lA2 lB1 lB2;obtain⟨en,hen⟩:∃en,en=xl+al+(hf-s):=⟨_,rfl⟩;have hen1:en≤xl+al+(hf-s):=by omega
    have hen2:xl+al+(hf-s)≤en:=by omega
    clear hen;have een:IntKind.i64.wrap ((md:Int)+(xl+al)-((xl+s:Nat):Int))=(en:Int):=by rw[IntWalk.i64_in _ (by omega)];omega
    have een2:((md:Int)+(xl+al)-((xl:Int)+s))=(en:Int):=by omega
    have YZ:(s<al∧s<hf∧0<s∧hf-s<bl)∨(s<al∧s<hf∧0<s∧¬hf-s<bl)∨(s<al∧s<hf∧¬0<s∧hf-s<bl)∨(s<al∧s<hf∧¬0<s∧¬hf-s<bl)∨(s<al∧¬s<hf∧0<s∧hf-s<bl)∨(¬s<al∧s<hf∧0<s∧hf-s<bl)∨(¬s<al∧¬s<hf∧0<s∧hf-s<bl):=by omega
    rcases YZ with⟨p1,p2,p3,p4⟩|⟨p1,p2,p3,p4⟩|⟨p1,p2,p3,p4⟩|⟨p1,p2,p3,p4⟩|⟨p1,p2,p3,p4⟩|⟨p1,p2,p3,p4⟩|⟨p1,p2,p3,p4⟩
    ·first
     |(exfalso;have:=HE1.out;have:=HE2.out;omega)
     |skip
     all_goals
      have v1:((xl:Int)+s)<(xl:Int)+al:=by omega
      have v2:((xl:Int)+s)<(md:Int):=by omega
      have v3:(xl:Int)<(xl:Int)+s:=by omega
      have v4:(en:Int)<((xl:Int)+al)+bl:=by omega
      have v5:((xl:Int)+al)<(en:Int):=by omega
      have v6:(md:Int)<(en:Int):=by omega
      go_wp2_with fail
      refine(o5 wr base g n c (X++A1) A2 B1 (B2++Y) bQ.out ?_ ?_ ?_ _ _ _ ?_ ?_ ?_).mono ?_
      ·have h1:=LA1.out;have h2:=LA2.out;have h3:=LB1.out;have h4:=LB2.out;have h5:=MH.out;have h6:=jd.out
       simp only[List.length_append];omega
      ·rw[LA2.out];omega
      ·rw[LB1.out];omega
      ·rw[List.length_append,LA1.out,←jd.out];omega
      ·simp only[List.length_append];rw[LA1.out,LA2.out,←jd.out];omega
      ·simp only[List.length_append];rw[LA1.out,LA2.out,LB1.out,←jd.out];omega
      rintro e w1 ⟨rfl,hr1,ht1⟩;have HR1:=hide hr1;have HT1:=hide ((dJ.out.mono (T:=[g]) (by simp)).same ht1);clear hr1 ht1;go_wp2_with fail
      refine(show Calls _ _ _ _ _ from HIH.out w1 base g n c X A1 B1 (A2++(B2++Y)) (by simpa using HR1.out) ?_ SA1.out SB1.out ?_ ?_ ?_ _ _ _ ?_ ?_ ?_).mono ?_
      ·have h1:=LA1.out;have h2:=LA2.out;have h3:=LB1.out;have h4:=LB2.out;have h5:=MH.out;have h6:=jd.out
       simp only[List.length_append];omega
      ·rw[LA1.out];omega
      ·rw[LB1.out];omega
      ·rw[LA1.out,LB1.out];omega
      ·rw[←jd.out]
      ·rw[←jd.out,LA1.out];omega
      ·rw[←jd.out,LA1.out,LB1.out];omega
      rintro e w2 ⟨rfl,⟨M1,hm1,hr2⟩,ht2⟩;have HR2:=hide hr2;have HM1:=hide hm1;have HT2:=hide (HT1.out.same ht2);clear hr2 ht2 hm1;have lM1:M1.length=hf:=by rw[HM1.out.length,List.length_append,LA1.out,LB1.out];omega
      have LM1:=hide lM1;clear lM1;go_wp2_with fail
      refine(show Calls _ _ _ _ _ from HIH.out w2 base g n c (X++M1) A2 B2 Y (by simpa using HR2.out) ?_ SA2.out SB2.out ?_ ?_ ?_ _ _ _ ?_ ?_ ?_).mono ?_
      ·have h1:=LM1.out;have h2:=LA2.out;have h3:=LB1.out;have h4:=LB2.out;have h5:=MH.out;have h6:=jd.out
       simp only[List.length_append];omega
      ·rw[LA2.out];omega
      ·rw[LB2.out];omega
      ·rw[LA2.out,LB2.out];omega
      ·rw[List.length_append,←jd.out,LM1.out];omega
      ·rw[List.length_append,←jd.out,LM1.out,LA2.out];omega
      ·rw[List.length_append,←jd.out,LM1.out,LA2.out,LB2.out];omega
      rintro e w3 ⟨rfl,⟨M2,hm2,hr3⟩,ht3⟩;have HR3:=hide hr3;have HM2:=hide hm2;have HT3:=hide (HT2.out.same ht3);clear hr3 ht3 hm2;go_wp2
      go_end0
      exact⟨rfl,⟨M1++M2,lK.out M1 M2 HM1.out HM2.out,by simpa using HR3.out⟩,HT3.out⟩
    ·first
     |(exfalso;have:=HE1.out;have:=HE2.out;omega)
     |skip
     all_goals
      have v1:((xl:Int)+s)<(xl:Int)+al:=by omega
      have v2:((xl:Int)+s)<(md:Int):=by omega
      have v3:(xl:Int)<(xl:Int)+s:=by omega
      have v4:¬(en:Int)<((xl:Int)+al)+bl:=by omega
      have v5:((xl:Int)+al)<(en:Int):=by omega
      have v6:(md:Int)<(en:Int):=by omega
      go_wp2_with fail
      refine(o5 wr base g n c (X++A1) A2 B1 (B2++Y) bQ.out ?_ ?_ ?_ _ _ _ ?_ ?_ ?_).mono ?_
      ·have h1:=LA1.out;have h2:=LA2.out;have h3:=LB1.out;have h4:=LB2.out;have h5:=MH.out;have h6:=jd.out
       simp only[List.length_append];omega
      ·rw[LA2.out];omega
      ·rw[LB1.out];omega
      ·rw[List.length_append,LA1.out,←jd.out];omega
      ·simp only[List.length_append];rw[LA1.out,LA2.out,←jd.out];omega
      ·simp only[List.length_append];rw[LA1.out,LA2.out,LB1.out,←jd.out];omega
      rintro e w1 ⟨rfl,hr1,ht1⟩;have HR1:=hide hr1;have HT1:=hide ((dJ.out.mono (T:=[g]) (by simp)).same ht1);clear hr1 ht1;go_wp2_with fail
      refine(show Calls _ _ _ _ _ from HIH.out w1 base g n c X A1 B1 (A2++(B2++Y)) (by simpa using HR1.out) ?_ SA1.out SB1.out ?_ ?_ ?_ _ _ _ ?_ ?_ ?_).mono ?_
      ·have h1:=LA1.out;have h2:=LA2.out;have h3:=LB1.out;have h4:=LB2.out;have h5:=MH.out;have h6:=jd.out
       simp only[List.length_append];omega
      ·rw[LA1.out];omega
      ·rw[LB1.out];omega
      ·rw[LA1.out,LB1.out];omega
      ·rw[←jd.out]
      ·rw[←jd.out,LA1.out];omega
      ·rw[←jd.out,LA1.out,LB1.out];omega
      rintro e w2 ⟨rfl,⟨M1,hm1,hr2⟩,ht2⟩;have HR2:=hide hr2;have HM1:=hide hm1;have HT2:=hide (HT1.out.same ht2);clear hr2 ht2 hm1;have lM1:M1.length=hf:=by rw[HM1.out.length,List.length_append,LA1.out,LB1.out];omega
      have LM1:=hide lM1;clear lM1;obtain⟨w3,rfl⟩:∃w3,w3=w2:=⟨_,rfl⟩;have HT3:=hide HT2.out;obtain⟨M2,hm2,hr3⟩:∃M2,og (A2++B2) M2∧TR w3 base (.slice (some ⟨g,0,none⟩) n c) (X++M1++M2++Y):=by
       refine⟨A2++B2,lG.Oy ?_,by simpa using HR2.out⟩;rw[List.eq_nil_of_length_eq_zero (l:=B2) (by rw[LB2.out];omega)];simpa using SA2.out
      have HR3:=hide hr3;have HM2:=hide hm2;clear hr3 hm2;go_wp2
      go_end0
      exact⟨rfl,⟨M1++M2,lK.out M1 M2 HM1.out HM2.out,by simpa using HR3.out⟩,HT3.out⟩
    ·first
     |(exfalso;have:=HE1.out;have:=HE2.out;omega)
     |skip
     all_goals
      have v1:((xl:Int)+s)<(xl:Int)+al:=by omega
      have v2:((xl:Int)+s)<(md:Int):=by omega
      have v3:¬(xl:Int)<(xl:Int)+s:=by omega
      have v4:(en:Int)<((xl:Int)+al)+bl:=by omega
      have v5:((xl:Int)+al)<(en:Int):=by omega
      have v6:(md:Int)<(en:Int):=by omega
      go_wp2_with fail
      refine(o5 wr base g n c (X++A1) A2 B1 (B2++Y) bQ.out ?_ ?_ ?_ _ _ _ ?_ ?_ ?_).mono ?_
      ·have h1:=LA1.out;have h2:=LA2.out;have h3:=LB1.out;have h4:=LB2.out;have h5:=MH.out;have h6:=jd.out
       simp only[List.length_append];omega
      ·rw[LA2.out];omega
      ·rw[LB1.out];omega
      ·rw[List.length_append,LA1.out,←jd.out];omega
      ·simp only[List.length_append];rw[LA1.out,LA2.out,←jd.out];omega
      ·simp only[List.length_append];rw[LA1.out,LA2.out,LB1.out,←jd.out];omega
      rintro e w1 ⟨rfl,hr1,ht1⟩;have HR1:=hide hr1;have HT1:=hide ((dJ.out.mono (T:=[g]) (by simp)).same ht1);clear hr1 ht1;obtain⟨w2,rfl⟩:∃w2,w2=w1:=⟨_,rfl⟩;have HT2:=hide HT1.out;obtain⟨M1,hm1,hr2⟩:∃M1,og (A1++B1) M1∧TR w2 base (.slice (some ⟨g,0,none⟩) n c) (X++M1++(A2++(B2++Y))):=by
       refine⟨A1++B1,lG.Oy ?_,by simpa using HR1.out⟩;rw[List.eq_nil_of_length_eq_zero (l:=A1) (by rw[LA1.out];omega)];simpa using SB1.out
      have HR2:=hide hr2;have HM1:=hide hm1;clear hr2 hm1;have lM1:M1.length=hf:=by rw[HM1.out.length,List.length_append,LA1.out,LB1.out];omega
      have LM1:=hide lM1;clear lM1;go_wp2_with fail
      refine(show Calls _ _ _ _ _ from HIH.out w2 base g n c (X++M1) A2 B2 Y (by simpa using HR2.out) ?_ SA2.out SB2.out ?_ ?_ ?_ _ _ _ ?_ ?_ ?_).mono ?_
      ·have h1:=LM1.out;have h2:=LA2.out;have h3:=LB1.out;have h4:=LB2.out;have h5:=MH.out;have h6:=jd.out
       simp only[List.length_append];omega
      ·rw[LA2.out];omega
      ·rw[LB2.out];omega
      ·rw[LA2.out,LB2.out];omega
      ·rw[List.length_append,←jd.out,LM1.out];omega
      ·rw[List.length_append,←jd.out,LM1.out,LA2.out];omega
      ·rw[List.length_append,←jd.out,LM1.out,LA2.out,LB2.out];omega
      rintro e w3 ⟨rfl,⟨M2,hm2,hr3⟩,ht3⟩;have HR3:=hide hr3;have HM2:=hide hm2;have HT3:=hide (HT2.out.same ht3);clear hr3 ht3 hm2;go_wp2
      go_end0
      exact⟨rfl,⟨M1++M2,lK.out M1 M2 HM1.out HM2.out,by simpa using HR3.out⟩,HT3.out⟩
    ·first
     |(exfalso;have:=HE1.out;have:=HE2.out;omega)
     |skip
     all_goals
      have v1:((xl:Int)+s)<(xl:Int)+al:=by omega
      have v2:((xl:Int)+s)<(md:Int):=by omega
      have v3:¬(xl:Int)<(xl:Int)+s:=by omega
      have v4:¬(en:Int)<((xl:Int)+al)+bl:=by omega
      have v5:((xl:Int)+al)<(en:Int):=by omega
      have v6:(md:Int)<(en:Int):=by omega
      go_wp2_with fail
      refine(o5 wr base g n c (X++A1) A2 B1 (B2++Y) bQ.out ?_ ?_ ?_ _ _ _ ?_ ?_ ?_).mono ?_
      ·have h1:=LA1.out;have h2:=LA2.out;have h3:=LB1.out;have h4:=LB2.out;have h5:=MH.out;have h6:=jd.out
       simp only[List.length_append];omega
      ·rw[LA2.out];omega
      ·rw[LB1.out];omega
      ·rw[List.length_append,LA1.out,←jd.out];omega
      ·simp only[List.length_append];rw[LA1.out,LA2.out,←jd.out];omega
      ·simp only[List.length_append];rw[LA1.out,LA2.out,LB1.out,←jd.out];omega
      rintro e w1 ⟨rfl,hr1,ht1⟩;have HR1:=hide hr1;have HT1:=hide ((dJ.out.mono (T:=[g]) (by simp)).same ht1);clear hr1 ht1;obtain⟨w2,rfl⟩:∃w2,w2=w1:=⟨_,rfl⟩;have HT2:=hide HT1.out;obtain⟨M1,hm1,hr2⟩:∃M1,og (A1++B1) M1∧TR w2 base (.slice (some ⟨g,0,none⟩) n c) (X++M1++(A2++(B2++Y))):=by
       refine⟨A1++B1,lG.Oy ?_,by simpa using HR1.out⟩;rw[List.eq_nil_of_length_eq_zero (l:=A1) (by rw[LA1.out];omega)];simpa using SB1.out
      have HR2:=hide hr2;have HM1:=hide hm1;clear hr2 hm1;have lM1:M1.length=hf:=by rw[HM1.out.length,List.length_append,LA1.out,LB1.out];omega
      have LM1:=hide lM1;clear lM1;obtain⟨w3,rfl⟩:∃w3,w3=w2:=⟨_,rfl⟩;have HT3:=hide HT2.out;obtain⟨M2,hm2,hr3⟩:∃M2,og (A2++B2) M2∧TR w3 base (.slice (some ⟨g,0,none⟩) n c) (X++M1++M2++Y):=by
       refine⟨A2++B2,lG.Oy ?_,by simpa using HR2.out⟩;rw[List.eq_nil_of_length_eq_zero (l:=B2) (by rw[LB2.out];omega)];simpa using SA2.out
      have HR3:=hide hr3;have HM2:=hide hm2;clear hr3 hm2;go_wp2
      go_end0
      exact⟨rfl,⟨M1++M2,lK.out M1 M2 HM1.out HM2.out,by simpa using HR3.out⟩,HT3.out⟩
    ·first
     |(exfalso;have:=HE1.out;have:=HE2.out;omega)
     |skip
     all_goals
      have v1:((xl:Int)+s)<(xl:Int)+al:=by omega
      have v2:¬((xl:Int)+s)<(md:Int):=by omega
      have v3:(xl:Int)<(xl:Int)+s:=by omega
      have v4:(en:Int)<((xl:Int)+al)+bl:=by omega
      have v5:¬((xl:Int)+al)<(en:Int):=by omega
      have v6:(md:Int)<(en:Int):=by omega
      obtain⟨w1,rfl⟩:∃w1,w1=wr:=⟨_,rfl⟩;have HT1:=hide (dJ.out.mono (T:=[g]) (by simp));have hr1:TR w1 base (.slice (some ⟨g,0,none⟩) n c) (X++A1++B1++A2++(B2++Y)):=by
       have:=bQ.out;rw[List.eq_nil_of_length_eq_zero (l:=B1) (by rw[LB1.out];omega)]at this⊢;simpa using this
      have HR1:=hide hr1;clear hr1;obtain⟨w2,rfl⟩:∃w2,w2=w1:=⟨_,rfl⟩;have HT2:=hide HT1.out;obtain⟨M1,hm1,hr2⟩:∃M1,og (A1++B1) M1∧TR w2 base (.slice (some ⟨g,0,none⟩) n c) (X++M1++(A2++(B2++Y))):=by
       refine⟨A1++B1,lG.Oy ?_,by simpa using HR1.out⟩;rw[List.eq_nil_of_length_eq_zero (l:=B1) (by rw[LB1.out];omega)];simpa using SA1.out
      have HR2:=hide hr2;have HM1:=hide hm1;clear hr2 hm1;have lM1:M1.length=hf:=by rw[HM1.out.length,List.length_append,LA1.out,LB1.out];omega
      have LM1:=hide lM1;clear lM1;go_wp2_with fail
      refine(show Calls _ _ _ _ _ from HIH.out w2 base g n c (X++M1) A2 B2 Y (by simpa using HR2.out) ?_ SA2.out SB2.out ?_ ?_ ?_ _ _ _ ?_ ?_ ?_).mono ?_
      ·have h1:=LM1.out;have h2:=LA2.out;have h3:=LB1.out;have h4:=LB2.out;have h5:=MH.out;have h6:=jd.out
       simp only[List.length_append];omega
      ·rw[LA2.out];omega
      ·rw[LB2.out];omega
      ·rw[LA2.out,LB2.out];omega
      ·rw[List.length_append,←jd.out,LM1.out];omega
      ·rw[List.length_append,←jd.out,LM1.out,LA2.out];omega
      ·rw[List.length_append,←jd.out,LM1.out,LA2.out,LB2.out];omega
      rintro e w3 ⟨rfl,⟨M2,hm2,hr3⟩,ht3⟩;have HR3:=hide hr3;have HM2:=hide hm2;have HT3:=hide (HT2.out.same ht3);clear hr3 ht3 hm2;go_wp2
      go_end0
      exact⟨rfl,⟨M1++M2,lK.out M1 M2 HM1.out HM2.out,by simpa using HR3.out⟩,HT3.out⟩
    ·first
     |(exfalso;have:=HE1.out;have:=HE2.out;omega)
     |skip
     all_goals
      have v1:¬((xl:Int)+s)<(xl:Int)+al:=by omega
      have v2:((xl:Int)+s)<(md:Int):=by omega
      have v3:(xl:Int)<(xl:Int)+s:=by omega
      have v4:(en:Int)<((xl:Int)+al)+bl:=by omega
      have v5:((xl:Int)+al)<(en:Int):=by omega
      have v6:¬(md:Int)<(en:Int):=by omega
      obtain⟨w1,rfl⟩:∃w1,w1=wr:=⟨_,rfl⟩;have HT1:=hide (dJ.out.mono (T:=[g]) (by simp));have hr1:TR w1 base (.slice (some ⟨g,0,none⟩) n c) (X++A1++B1++A2++(B2++Y)):=by
       have:=bQ.out;rw[List.eq_nil_of_length_eq_zero (l:=A2) (by rw[LA2.out];omega)]at this⊢;simpa using this
      have HR1:=hide hr1;clear hr1;go_wp2_with fail
      refine(show Calls _ _ _ _ _ from HIH.out w1 base g n c X A1 B1 (A2++(B2++Y)) (by simpa using HR1.out) ?_ SA1.out SB1.out ?_ ?_ ?_ _ _ _ ?_ ?_ ?_).mono ?_
      ·have h1:=LA1.out;have h2:=LA2.out;have h3:=LB1.out;have h4:=LB2.out;have h5:=MH.out;have h6:=jd.out
       simp only[List.length_append];omega
      ·rw[LA1.out];omega
      ·rw[LB1.out];omega
      ·rw[LA1.out,LB1.out];omega
      ·rw[←jd.out]
      ·rw[←jd.out,LA1.out];omega
      ·rw[←jd.out,LA1.out,LB1.out];omega
      rintro e w2 ⟨rfl,⟨M1,hm1,hr2⟩,ht2⟩;have HR2:=hide hr2;have HM1:=hide hm1;have HT2:=hide (HT1.out.same ht2);clear hr2 ht2 hm1;have lM1:M1.length=hf:=by rw[HM1.out.length,List.length_append,LA1.out,LB1.out];omega
      have LM1:=hide lM1;clear lM1;obtain⟨w3,rfl⟩:∃w3,w3=w2:=⟨_,rfl⟩;have HT3:=hide HT2.out;obtain⟨M2,hm2,hr3⟩:∃M2,og (A2++B2) M2∧TR w3 base (.slice (some ⟨g,0,none⟩) n c) (X++M1++M2++Y):=by
       refine⟨A2++B2,lG.Oy ?_,by simpa using HR2.out⟩;rw[List.eq_nil_of_length_eq_zero (l:=A2) (by rw[LA2.out];omega)];simpa using SB2.out
      have HR3:=hide hr3;have HM2:=hide hm2;clear hr3 hm2;go_wp2
      go_end0
      exact⟨rfl,⟨M1++M2,lK.out M1 M2 HM1.out HM2.out,by simpa using HR3.out⟩,HT3.out⟩
    ·first
     |(exfalso;have:=HE1.out;have:=HE2.out;omega)
     |skip
     all_goals
      have v1:¬((xl:Int)+s)<(xl:Int)+al:=by omega
      have v2:¬((xl:Int)+s)<(md:Int):=by omega
      have v3:(xl:Int)<(xl:Int)+s:=by omega
      have v4:(en:Int)<((xl:Int)+al)+bl:=by omega
      have v5:¬((xl:Int)+al)<(en:Int):=by omega
      have v6:¬(md:Int)<(en:Int):=by omega
      obtain⟨w1,rfl⟩:∃w1,w1=wr:=⟨_,rfl⟩;have HT1:=hide (dJ.out.mono (T:=[g]) (by simp));have hr1:TR w1 base (.slice (some ⟨g,0,none⟩) n c) (X++A1++B1++A2++(B2++Y)):=by
       have:=bQ.out;rw[List.eq_nil_of_length_eq_zero (l:=A2) (by rw[LA2.out];omega)]at this⊢;simpa using this
      have HR1:=hide hr1;clear hr1;obtain⟨w2,rfl⟩:∃w2,w2=w1:=⟨_,rfl⟩;have HT2:=hide HT1.out;obtain⟨M1,hm1,hr2⟩:∃M1,og (A1++B1) M1∧TR w2 base (.slice (some ⟨g,0,none⟩) n c) (X++M1++(A2++(B2++Y))):=by
       refine⟨A1++B1,lG.Oy ?_,by simpa using HR1.out⟩;rw[List.eq_nil_of_length_eq_zero (l:=B1) (by rw[LB1.out];omega)];simpa using SA1.out
      have HR2:=hide hr2;have HM1:=hide hm1;clear hr2 hm1;have lM1:M1.length=hf:=by rw[HM1.out.length,List.length_append,LA1.out,LB1.out];omega
      have LM1:=hide lM1;clear lM1;obtain⟨w3,rfl⟩:∃w3,w3=w2:=⟨_,rfl⟩;have HT3:=hide HT2.out;obtain⟨M2,hm2,hr3⟩:∃M2,og (A2++B2) M2∧TR w3 base (.slice (some ⟨g,0,none⟩) n c) (X++M1++M2++Y):=by
       refine⟨A2++B2,lG.Oy ?_,by simpa using HR2.out⟩;rw[List.eq_nil_of_length_eq_zero (l:=A2) (by rw[LA2.out];omega)];simpa using SB2.out
      have HR3:=hide hr3;have HM2:=hide hm2;clear hr3 hm2;go_wp2
      go_end0
      exact⟨rfl,⟨M1++M2,lK.out M1 M2 HM1.out HM2.out,by simpa using HR3.out⟩,HT3.out⟩
theorem merge_any:∀N,FT N
 |0=>by intro w base g n c X A B Y h hl hA hB hA0 hB0 hN;omega
 |N+1=>KL N (merge_any N)
set_option maxHeartbeats 2000000 in
theorem KN(w:World)(base g c:Nat)(l:List Tm)(h:TR w base (.slice (some ⟨g,0,none⟩) l.length c) l)(hl:l.length≤200000):
 Calls Tryz.prog 43 #[.slice (some ⟨g,0,none⟩) l.length c, .int .i64 l.length,DI] w fun e w'=>e= .returned (.tuple #[])∧(∃M,og l M∧TR w' base (.slice (some ⟨g,0,none⟩) l.length c) M)∧Turn [g] w w':=by
 have H:=hide h;obtain⟨n,hn⟩:∃n,n=l.length:=⟨_,rfl⟩;rw[←hn]at hl H⊢;have HN:=hide hn;clear h hn;unfold DI;go_enter Tryz.func43,Tryz.ntmps43
 go_wp2
 go_loopw [7,8] (fun av bv wr=>∃(t:Nat) (D:List Tm),20*t≤n∧av= .int .i64 ((20*t:Nat):Int)∧bv= .int .i64 ((20*t+20:Nat):Int)∧D.length=20*t∧BS 20 D∧Sq (l.take (20*t)) D∧TR wr base (.slice (some ⟨g,0,none⟩) n c) (D++l.drop (20*t))∧Turn [g] w wr) (fun av _ _=>n-(intOf av).toNat)
 case atStart=>exact⟨0,[],by omega,rfl,rfl,rfl,BS.nil _,Sq.refl _,by simpa using H.out,Turn.refl _ _⟩
 case round=>
  obtain⟨t,D,ht,rfl,rfl,hD,hbs,Vk,hrow,htw⟩:=hrel;have dJ:=hide htw;have Jo:=hide hbs;have Q9:=hide Vk;have bQ:=hide hrow;have HD:=hide hD;clear htw hbs Vk hrow hD;obtain⟨a,ha⟩:∃a,a=20*t:=⟨_,rfl⟩;rw[←ha]at ht HD Q9 bQ⊢;have HA:=hide ha;clear ha;by_cases hlt:a+20≤n
  ·have hlt1:(a:Int)+20≤n:=by omega
   go_wp2_with fail
   refine(CO wr base g n c D ((l.drop a).take 20) (l.drop (a+20)) ?_ ?_ _ _ ?_ ?_).mono ?_
   ·have:=bQ.out
    rw[←List.take_append_drop 20 (l.drop a),List.drop_drop,←List.append_assoc]at this;exact this
   ·rw[HD.out,List.length_take,List.length_drop,List.length_drop,←HN.out];omega
   ·rw[HD.out]
   ·rw[HD.out,List.length_take,List.length_drop,←HN.out];omega
   rintro e w1 ⟨rfl,⟨M,hM,hr⟩,ht1⟩;have Uj:M.length=20:=by rw[hM.length,List.length_take,List.length_drop,←HN.out];omega
   have p1:(D++M).length=20*(t+1):=by rw[List.length_append,HD.out,Uj,HA.out];omega
   have p2:BS 20 (D++M):=BS.append (t:=t) (by omega) Jo.out (by rw[HD.out];exact HA.out) hM.Kv (by omega);have p3:Sq (l.take (20*(t+1))) (D++M):=by
    have h1:=Q9.out.app hM.sq;rw[show 20*(t+1)=a+20 by rw[HA.out];omega,List.take_add];exact h1
   have p4:TR w1 base (.slice (some ⟨g,0,none⟩) n c) (D++M++l.drop (20*(t+1))):=by
    rw[show 20*(t+1)=a+20 by rw[HA.out];omega];exact hr
   have P1:=hide p1;have P2:=hide p2;have P3:=hide p3;have P4:=hide p4;have HT1:=hide (dJ.out.same ht1);have ea:20*(t+1)=a+20:=by rw[HA.out];omega
   have ea1:20*t+20≤a+20:=by rw[HA.out];omega
   have ea2:a+20≤20*t+20:=by rw[HA.out];omega
   clear p1 p2 p3 p4 hM hr ht1 Uj ea;go_wp2
   go_roundw
   case rel=>
    exact⟨t+1,D++M,by omega,by simp only[Value.int.injEq,true_and];omega,by simp only[Value.int.injEq,true_and];omega,P1.out,P2.out,P3.out,P4.out,HT1.out⟩
   case measure=>simp[intOf];omega
  ·have hlt1:¬(a:Int)+20≤n:=by omega
   go_wp2_with fail
   refine(CO wr base g n c D (l.drop a) [] (by rw[List.append_nil];exact bQ.out) ?_ _ _ ?_ ?_).mono ?_
   ·rw[HD.out,List.length_drop,←HN.out];simp;omega
   ·rw[HD.out]
   ·rw[HD.out,List.length_drop,←HN.out];omega
   rintro e w1 ⟨rfl,⟨M,hM,hr⟩,ht1⟩;rw[List.append_nil]at hr;have Uj:M.length=n-a:=by rw[hM.length,List.length_drop,←HN.out]
   have p2:BS 20 (D++M):=BS.append (t:=t) (by omega) Jo.out (by rw[HD.out];exact HA.out) hM.Kv (by omega);have p3:Sq l (D++M):=by
    have h1:=Q9.out.app hM.sq;rw[List.take_append_drop]at h1;exact h1
   obtain⟨K,hK⟩:∃K,K=D++M:=⟨_,rfl⟩;rw[←hK]at hr p2 p3;have HR:=hide hr;have P2:=hide p2;have P3:=hide p3;have HT1:=hide (dJ.out.same ht1);clear hM hr ht1 Uj p2 p3 hK HD HA Jo Q9 bQ dJ hlt hlt1 ht;go_wp2
   obtain⟨wo,rfl⟩:∃wo,wo=w1:=⟨_,rfl⟩;go_loopw [6] (fun sv wr=>∃(s:Nat) (L:List Tm),20≤s∧s≤20+2*n∧sv= .int .i64 (s:Int)∧BS s L∧Sq l L∧TR wr base (.slice (some ⟨g,0,none⟩) n c) L∧Turn [g] w wr) (fun sv _=>20+4*n-(intOf sv).toNat)
   case atStart=>exact⟨20,K,Nat.le_refl _,by omega,rfl,P2.out,P3.out,HR.out,HT1.out⟩
   case round=>
    obtain⟨s,L,hs20,hs2,rfl,hbs,Vk,hrow,htw⟩:=hrel;have dJ:=hide htw;have Jo:=hide hbs;have Q9:=hide Vk;have bQ:=hide hrow;have yO:=hrow.len;have IK:=hide yO;clear htw hbs Vk hrow yO;by_cases hlt:s<n
    ·have hlt1:(s:Int)<n:=by omega
     obtain⟨s2,Y0⟩:∃s2,s2=2*s:=⟨_,rfl⟩;have e1:IntKind.i64.wrap (2*(s:Int))=(s2:Int):=by rw[IntWalk.i64_in _ (by omega)];omega
     have e1':(2*(s:Int))=(s2:Int):=by omega
     have HS2:=hide Y0;have s2a:s2≤2*s:=by omega
     have s2b:2*s≤s2:=by omega
     clear Y0;obtain⟨wq,rfl⟩:∃wq,wq=wr:=⟨_,rfl⟩;go_wp2
     go_loopw [7,8] (fun av bv wr=>∃(t:Nat) (D:List Tm),s2*t≤n∧av= .int .i64 ((s2*t:Nat):Int)∧bv= .int .i64 ((s2*t+s2:Nat):Int)∧D.length=s2*t∧BS s2 D∧Sq (L.take (s2*t)) D∧TR wr base (.slice (some ⟨g,0,none⟩) n c) (D++L.drop (s2*t))∧Turn [g] wq wr) (fun av _ _=>n-(intOf av).toNat)
     case atStart=>exact⟨0,[],by omega,by simp,by simp,by simp,BS.nil _,by simpa using Sq.refl [],by simpa using bQ.out,Turn.refl _ _⟩
     case round=>
      obtain⟨t,D,ht,rfl,rfl,hD,hbs,Vk,hrow,htw⟩:=hrel;have Hu:=hide htw;have HBD:=hide hbs;have ZN:=hide Vk;have LJ:=hide hrow;have HD:=hide hD;clear htw hbs Vk hrow hD;obtain⟨a,ha⟩:∃a,a=s2*t:=⟨_,rfl⟩;rw[←ha]at ht HD ZN LJ⊢;have has:a=s*(2*t):=by rw[ha,HS2.out,Nat.mul_assoc,Nat.mul_comm 2 (s*t),Nat.mul_assoc,Nat.mul_comm t 2]
      have has2:a+s=s*(2*t+1):=by rw[Nat.mul_add,←has,Nat.mul_one]
      have hnx:s2*(t+1)=a+s2:=by rw[Nat.mul_add,←ha,Nat.mul_one]
      have hA:lG ((L.drop a).take s):=by rw[has];exact Jo.out.block (by omega) (Nat.le_refl _)
      have hB:∀k,k≤s→lG ((L.drop (a+s)).take k):=fun k hk=>by rw[has2];exact Jo.out.block (by omega) hk
      have HA:=hide ha;have Js:=hide hA;have XL:=hide hB;have tK:=hide hnx;clear ha has has2 hA hB hnx;by_cases hle:a+s2≤n
      ·have hle1:(a:Int)+s2≤n:=by omega
       go_wp2_with fail
       refine(show Calls _ _ _ _ _ from merge_any (s+s) wr base g n c D ((L.drop a).take s) ((L.drop (a+s)).take s) (L.drop (a+s2)) ?_ ?_ Js.out (XL.out s (Nat.le_refl _)) ?_ ?_ ?_ _ _ _ ?_ ?_ ?_).mono ?_
       ·have:=LJ.out
        have e:L.drop a=(L.drop a).take s++((L.drop (a+s)).take s++L.drop (a+s2)):=by
         rw[show L.drop (a+s2)=(L.drop (a+s)).drop s by rw[List.drop_drop,show a+s2=a+s+s by omega],List.take_append_drop,←List.drop_drop,List.take_append_drop]
        rw[e]at this;simpa using this
       ·rw[HD.out,List.length_take,List.length_take,List.length_drop,List.length_drop,List.length_drop,←IK.out];omega
       ·rw[List.length_take,List.length_drop,←IK.out];omega
       ·rw[List.length_take,List.length_drop,←IK.out];omega
       ·rw[List.length_take,List.length_take];omega
       ·rw[HD.out]
       ·rw[HD.out,List.length_take,List.length_drop,←IK.out];omega
       ·rw[HD.out,List.length_take,List.length_take,List.length_drop,List.length_drop,←IK.out];omega
       rintro e w1 ⟨rfl,⟨M,hM,hr⟩,ht1⟩;have Uj:M.length=s2:=by rw[hM.length];simp only[List.length_append,List.length_take,List.length_drop];rw[←IK.out];omega
       have p1:(D++M).length=s2*(t+1):=by rw[List.length_append,HD.out,Uj,tK.out]
       have p2:BS s2 (D++M):=BS.append (t:=t) (by omega) HBD.out (by rw[HD.out];exact HA.out) hM.Kv (by omega);have p3:Sq (L.take (s2*(t+1))) (D++M):=by
        have h1:=ZN.out.app hM.sq;have e:L.take (s2*(t+1))=L.take a++((L.drop a).take s++(L.drop (a+s)).take s):=by
         rw[tK.out,List.take_add,show s2=s+s by omega,List.take_add,List.drop_drop]
        rw[e];exact h1
       have p4:TR w1 base (.slice (some ⟨g,0,none⟩) n c) (D++M++L.drop (s2*(t+1))):=by
        rw[tK.out];exact hr
       have P1:=hide p1;have P2:=hide p2;have P3:=hide p3;have P4:=hide p4;have HT1:=hide (Hu.out.same ht1);obtain⟨a2,ha2⟩:∃a2,a2=s2*(t+1):=⟨_,rfl⟩;have ea1:a2≤a+s2:=by have:=tK.out;omega
       have ea2:a+s2≤a2:=by have:=tK.out;omega
       have HA2:=hide ha2;clear p1 p2 p3 p4 hM hr ht1 Uj ha2;have e3:(a:Int)+s2=(a2:Int):=by omega
       go_wp2
       go_roundw
       case rel=>
        exact⟨t+1,D++M,by rw[←HA2.out];omega,by rw[←HA2.out],by rw[←HA2.out];simp only[Value.int.injEq,true_and];omega,P1.out,P2.out,P3.out,P4.out,HT1.out⟩
       case measure=>simp[intOf];omega
      ·have hle1:¬(a:Int)+s2≤n:=by omega
       obtain⟨wz,hwz⟩:∃wz,wz=wr:=⟨_,rfl⟩;by_cases hm:a+s<n
       ·have hm1:(a:Int)+s<n:=by omega
        go_wp2_with fail
        refine(show Calls _ _ _ _ _ from merge_any (s+s) wr base g n c D ((L.drop a).take s) (L.drop (a+s)) [] ?_ ?_ Js.out ?_ ?_ ?_ ?_ _ _ _ ?_ ?_ ?_).mono ?_
        ·have:=LJ.out
         rw[show L.drop a=(L.drop a).take s++L.drop (a+s)by rw[←List.drop_drop,List.take_append_drop]]at this;simpa using this
        ·rw[HD.out,List.length_take,List.length_drop,List.length_drop,←IK.out];simp;omega
        ·have:=XL.out (n-(a+s)) (by omega)
         rwa [List.take_of_length_le (by rw[List.length_drop,←IK.out];exact Nat.le_refl _)]at this
        ·rw[List.length_take,List.length_drop,←IK.out];omega
        ·rw[List.length_drop,←IK.out];omega
        ·rw[List.length_take];simp only[List.length_drop];rw[←IK.out];omega
        ·rw[HD.out]
        ·rw[HD.out,List.length_take,List.length_drop,←IK.out];omega
        ·rw[HD.out,List.length_take];simp only[List.length_drop];rw[←IK.out];omega
        rintro e w1 ⟨rfl,⟨M,hM,hr⟩,ht1⟩;have Uj:M.length=n-a:=by rw[hM.length];simp only[List.length_append,List.length_take,List.length_drop];rw[←IK.out];omega
        have p2:BS s2 (D++M):=BS.append (t:=t) (by omega) HBD.out (by rw[HD.out];exact HA.out) hM.Kv (by omega);have p3:Sq l (D++M):=by
         have h1:=ZN.out.app hM.sq;rw[←List.drop_drop,List.take_append_drop,List.take_append_drop]at h1;exact Q9.out.trans h1
        rw[List.append_nil]at hr;have P2:=hide p2;have P3:=hide p3;have P4:=hide hr;have HT1:=hide (dJ.out.same (Hu.out.same ht1));clear p2 p3 hr hM Uj ht1;go_wp2
        exact⟨⟨s2,D++M,by omega,by omega,by simp only[Value.int.injEq,true_and];omega,P2.out,P3.out,P4.out,HT1.out⟩,by simp only[intOf];omega⟩
       ·have hm1:¬(a:Int)+s<n:=by omega
        have hS:lG (L.drop a):=by
         have:=Js.out;rwa [List.take_of_length_le (by rw[List.length_drop,←IK.out];omega)]at this
        have p2:BS s2 (D++L.drop a):=BS.append (t:=t) (by omega) HBD.out (by rw[HD.out];exact HA.out) hS (by rw[List.length_drop,←IK.out];omega);have p3:Sq l (D++L.drop a):=by
         have h1:=ZN.out.app (Sq.refl (L.drop a));rw[List.take_append_drop]at h1;exact Q9.out.trans h1
        have P2:=hide p2;have P3:=hide p3;have HT1:=hide (dJ.out.same Hu.out);clear p2 p3 hS;go_wp2
        exact⟨⟨s2,D++L.drop a,by omega,by omega,by simp only[Value.int.injEq,true_and];omega,P2.out,P3.out,LJ.out,HT1.out⟩,by simp only[intOf];omega⟩
    ·have hst:og l L:=⟨BS.all Jo.out (by rw[←IK.out];omega),Q9.out⟩
     have HST:=hide hst;clear hst;have hlt1:¬(s:Int)<n:=by omega
     go_wp2
     go_end0
     exact⟨rfl,⟨L,HST.out,bQ.out⟩,dJ.out⟩
theorem qE(p:Option Addr)(cap:Nat)(w:World):Calls Tryz.prog 71 #[.slice p 0 cap, .int .i64 0, .int .i64 0,DI] w fun e w'=>e= .returned (.tuple #[])∧Turn [] w w':=by
 unfold DI;go_enter Tryz.func71,Tryz.ntmps71
 go_wp2
 refine wp_loop_rounds 1 ?_;rw[rounds_succ];go_wp2
 go_end0
 exact⟨rfl,Turn.refl _ _⟩
theorem IL(p:Option Addr)(cap:Nat)(w:World):Calls Tryz.prog 43 #[.slice p 0 cap, .int .i64 0,DI] w fun e w'=>e= .returned (.tuple #[])∧Turn [] w w':=by
 have hi:=qE p cap;unfold DI at*;have HI:=hide hi;clear hi;go_enter Tryz.func43,Tryz.ntmps43
 go_wp2
 refine wp_loop_rounds 1 ?_;rw[rounds_succ];go_wp2_with fail
 refine(HI.out _).mono ?_;rintro e w1 ⟨rfl,ht⟩;go_wp2
 refine wp_loop_rounds 1 ?_;rw[rounds_succ];go_wp2
 go_end0
 exact⟨rfl,ht⟩
theorem Rf(w:World)(base c:Nat)(a:Option Addr)(l:List Tm)(h:TR w base (.slice a l.length c) l)(hl:l.length≤200000):
 Calls Tryz.prog 24 #[.slice a l.length c,DI] w fun e w'=>e= .returned (.tuple #[])∧(∃M,og l M∧TR w' base (.slice a l.length c) M)∧Turn (Value.slice a l.length c).ownBlock.toList w w':=by
 obtain⟨a',c',e,hlc,hcm⟩:=h.form;have H:=hide h;unfold DI;have hcall:Calls Tryz.prog 43 #[.slice a l.length c, .int .i64 l.length,DI] w fun e w'=>e= .returned (.tuple #[])∧(∃M,og l M∧TR w' base (.slice a l.length c) M)∧Turn (Value.slice a l.length c).ownBlock.toList w w':=by
  rcases h with⟨e0,rfl⟩|⟨g,cap,cur,e0, -⟩
  ·simp only[Value.slice.injEq]at e0
   obtain⟨rfl, -,rfl⟩:=e0;refine(IL none 0 w).mono ?_;rintro e2 w1 ⟨rfl,ht⟩;exact⟨rfl,⟨[],⟨by simp[lG],Sq.refl []⟩,H.out.still ht⟩,ht.mono (by simp)⟩
  ·simp only[Value.slice.injEq,true_and]at e0
   obtain⟨rfl,rfl⟩:=e0;refine(KN w base g c l H.out hl).mono ?_;rintro e2 w1 ⟨rfl,hM,ht⟩;exact⟨rfl,hM,ht.mono (by simp[Value.ownBlock])⟩
 have HC:=hide hcall;unfold DI at HC;clear hcall h;go_enter Tryz.func24,Tryz.ntmps24
 go_wp2_with fail
 refine HC.out.mono ?_;rintro e2 w1 ⟨rfl,hM,ht⟩;go_wp2
 go_end0
 exact⟨rfl,hM,ht⟩
end Wh
end
namespace Wh
def dF(l:List Tm)(id:Int):Option Tm:=l.find? (fun x=>x.2==id)
def dQ(l:List Tm)(id:Int):List Tm:=l.filter (fun x=> !(x.2==id))
def ZO(o:Option Tm)(z:DataW Unit):DataW Unit:=match o with
 |some x=> .lit (.int .i64 x.1)
 |none=>z
theorem vU:Keyed Tryz.prog 3:=int_keyed Tryz.underlying3
theorem Q4(w:World):(zeroValue 3).run Tryz.prog w= .ok (.int .i64 0) w:=by kernel_rfl
theorem oG{a b:Int}(h:a≠b):(Lit.int .i64 a)≠Lit.int .i64 b:=by simpa using h
theorem KO(a:Int):WideAt.IsKeyLit (.int .i64 a):=trivial
def FU(D:DataW Unit)(l:List Tm):Prop:=size D=l.length∧∀id z,D.atKey (.int .i64 id) z=ZO (dF l id) z
def je(w:World)(ah:Option Nat)(l:List Tm):Prop:=match ah with
 |none=>l=[]
 |some mb=>∃D:DataW Unit,w.ownsMap Tryz.prog 3 (plainElem Tryz.prog 3) mb l.length D∧FU D l
theorem iO{w w':World}{P:Program}{k:TypeId}{R:Value→Option (DataW Unit×List MemPlace)}{b n:Nat}{D:DataW Unit}{S:List Nat}(h:w.ownsMap P k R b n D)(ht:Turn S w w')(hn:b∉S):w'.ownsMap P k R b n D:=by
 obtain⟨es,clock,hb,r⟩:=h;exact⟨es,clock,ht.heap hb hn,r⟩
theorem fH{w:World}{P:Program}{k:TypeId}{R:Value→Option (DataW Unit×List MemPlace)}{b n:Nat}{D:DataW Unit}(h:w.ownsMap P k R b n D):w.ownsMap P k R b (size D) D:=by
 obtain⟨es,clock,hb,F,hs,rfl⟩:=h;exact⟨es,clock,hb,F,by simp[size,length_sorted],rfl⟩
theorem je.kept{w w':World}{ah:Option Nat}{l:List Tm}{S:List Nat}(h:je w ah l)(ht:Turn S w w')(hn:∀k∈ah,k∉S):je w' ah l:=by
 cases ah with
 |none=>exact h
 |some mb=>obtain⟨D,h1,h2⟩:=h;exact⟨D,iO h1 ht (hn mb rfl),h2⟩
theorem je.still{w w':World}{ah:Option Nat}{l:List Tm}(h:je w ah l)(ht:Turn [] w w'):je w' ah l:=h.kept ht (by simp)
theorem je.lt{w:World}{ah:Option Nat}{l:List Tm}(h:je w ah l):∀k∈ah,k<w.heap.size:=by
 intro k hk;cases ah with
 |none=>simp at hk
 |some mb=>obtain⟨D,h1,_⟩:=h;simp at hk;subst hk;exact h1.lt
theorem je.ne{w:World}{ah:Option Nat}{l:List Tm}(h:je w ah l){k:Nat}{cs:Array Value}{T:TypeId}{fr:Nat×Nat}(hk:w.heap[k]? =some (.cells cs T fr)):k∉ah:=by
 intro hm;cases ah with
 |none=>simp at hm
 |some mb=>
  simp at hm;subst hm;obtain⟨D,⟨es,clock,hb, -⟩, -⟩:=h;rw[hb]at hk;simp at hk
theorem fF{D:DataW Unit}{l:List Tm}(h:FU D l)(id:Int):has D (.int .i64 id)=(dF l id).isSome:=by
 cases hf:dF l id with
 |none=>exact has_false_of_atKey (fun z=>by rw[h.2,hf];rfl)
 |some m=>exact has_true_of_atKey (y:= .lit (.int .i64 m.1)) (fun z=>by rw[h.2,hf];rfl)
theorem je.look{w:World}{ah:Option Nat}{l:List Tm}(h:je w ah l){id:Int}(hw:(Lit.int .i64 id).wf=true):
 (Instr.lookup 57 (.map ah) (.int .i64 id) true).run Tryz.prog w= .ok (.tuple #[.int .i64 (((dF l id).map (·.1)).getD 0), .bool (dF l id).isSome]) w:=by
 cases ah with
 |none=>
  have h':l=[]:=h;subst h';exact look_nil true vU Tryz.underlying57 (Q4 w) (keyOf_int_mk Tryz.underlying3 hw)
 |some mb=>
  obtain⟨D,h1,h2⟩:=h;obtain⟨v,ps,hrun,hv⟩:=h1.look_ok vU Tryz.underlying57 (Q4 w) (zd:= .lit (.int .i64 0)) (zp:=[]) (plainElem_int Tryz.underlying3 (by decide)) (keyOf_int_mk Tryz.underlying3 hw);obtain⟨c,rfl,hc,hwc⟩:=plainElem_int_inv Tryz.underlying3 hv;have hc1:=congrArg Prod.fst hc;simp only at hc1;rw[h2.2]at hc1;rw[hrun,fF h2];cases hf:dF l id with
  |none=>
   rw[hf]at hc1;simp only[ZO,DataW.lit.injEq,Lit.int.injEq,true_and]at hc1;simp[←hc1]
  |some m=>
   rw[hf]at hc1;simp only[ZO,DataW.lit.injEq,Lit.int.injEq,true_and]at hc1;simp[hc1]
theorem je.len{w:World}{ah:Option Nat}{l:List Tm}(h:je w ah l)(ty:TypeId):(Builtin.len_ #[57] ty #[.map ah]).run Tryz.prog w= .ok (.int .i64 l.length) w:=by
 cases ah with
 |none=>
  have h':l=[]:=h;subst h';exact Maps.len_nil Tryz.underlying57 ty
 |some mb=>
  obtain⟨D,h1,h2,h3⟩:=h;rw[h1.len Tryz.underlying57 ty,h2]
theorem je.made(w:World):je (w.alloc (.map #[] 0)) (some w.heap.size) []:=
 ⟨.map [],World.ownsMap_made _ _ _ _,rfl,fun id z=>rfl⟩
theorem FV(l:List Tm)(x:Tm)(id:Int):dF (l++[x]) id=(dF l id).or (if x.2==id then some x else none):=by
 unfold dF;rw[List.find?_append];congr 1
 simp[List.find?_cons];split<;>simp_all
theorem je.put{w:World}{mb:Nat}{l:List Tm}(h:je w (some mb) l){x:Tm}(h1:(Lit.int .i64 x.1).wf=true)(h2:(Lit.int .i64 x.2).wf=true)(hx:dF l x.2=none)(hl:l.length≤1000000):
 ∃w',(Instr.mapUpdate 57 (.map (some mb)) (.int .i64 x.2) (.int .i64 x.1)).run Tryz.prog w= .ok () w'∧je w' (some mb) (l++[x])∧Turn [mb] w w':=by
 obtain⟨D,ho,hr⟩:=h;have hm:maxLen=9223372036854775807:=by simp[maxLen]
 have hT:=ho.tidy vU;obtain⟨w',hrun,ho',hg⟩:=ho.update vU Tryz.underlying57 (by rw[hm];omega) (keyOf_int_mk Tryz.underlying3 h2) (plainElem_int Tryz.underlying3 h1);have hrd:FU (D.put (.int .i64 x.2) (.lit (.int .i64 x.1))) (l++[x]):=by
  refine⟨?_,fun id z=>?_⟩
  ·rw[size_put hT,fF hr,hx,hr.1]
   simp
  ·rw[FV]
   by_cases e:id=x.2
   ·subst e
    rw[atKey_put_same hT.isMap (KO _),hx];simp[ZO]
   ·rw[atKey_put_other (oG e),hr.2]
    have:(x.2==id)=false:=by simpa using fun e'=>e e'.symm
    simp[this]
 refine⟨w',hrun,⟨_,?_,hrd⟩,(Turn.refl _ _).grown hg (by intro k hk;cases hk;exact .inl (by simp))⟩;have:=fH ho';rwa [hrd.1]at this
theorem zA(l:List Tm)(id:Int):dF (dQ l id) id=none:=by
 unfold dF dQ;rw[List.find?_eq_none];intro m hm;have:=(List.mem_filter.1 hm).2;simpa using this
theorem oh:∀(l:List Tm) {id k:Int},k≠id→dF (dQ l id) k=dF l k
 |[],_,_,_=>rfl
 |x::l,id,k,h=>by
  have ih:=oh l h;unfold dF dQ at*;by_cases e:x.2=id
  ·have e1:(x.2==k)=false:=by rw[e];simpa using fun e'=>h e'.symm
   have e2:(x.2==id)=true:=by simpa using e
   simp only[List.filter_cons,e2,Bool.not_true,Bool.false_eq_true,if_false,List.find?_cons,e1];exact ih
  ·have e2:(x.2==id)=false:=by simpa using e
   simp only[List.filter_cons,e2,Bool.not_false,if_true,List.find?_cons];rw[ih]
theorem FW(l:List Tm)(id:Int)(hn:(l.map (·.2)).Nodup):(dQ l id).length+(if (dF l id).isSome then 1 else 0)=l.length:=by
 induction l with
 |nil=>rfl
 |cons m r ih=>
  simp only[List.map_cons,List.nodup_cons]at hn;have ih:=ih hn.2;unfold dQ dF at*;by_cases hm:m.2=id
  ·have hr:r.find? (fun x=>x.2==id)=none:=by
    rw[List.find?_eq_none];intro x hx;have:x.2≠m.2:=fun e=>hn.1 (by rw[←e];exact List.mem_map.2 ⟨x,hx,rfl⟩)
    simpa[←hm]using this
   rw[hr]at ih;simp[hm]at ih⊢;exact ih
  ·have hm':(m.2==id)=false:=by simpa using hm
   simp only[List.filter_cons,hm',List.find?_cons,Bool.not_false,if_true,List.length_cons];omega
theorem je.del{w:World}{mb:Nat}{l:List Tm}(h:je w (some mb) l)(hn:(l.map (·.2)).Nodup){id:Int}(hw:(Lit.int .i64 id).wf=true)(ty:TypeId):
 ∃w',(Builtin.delete_ #[57,3] ty #[.map (some mb), .int .i64 id]).run Tryz.prog w= .ok (.tuple #[]) w'∧je w' (some mb) (dQ l id)∧Turn [mb] w w':=by
 obtain⟨D,ho,hr⟩:=h;have hT:=ho.tidy vU;obtain⟨w',hrun,ho',hg⟩:=ho.drop vU Tryz.underlying57 (keyOf_int_mk Tryz.underlying3 hw) ty;have hrd:FU (D.del (.int .i64 id)) (dQ l id):=by
  refine⟨?_,fun k z=>?_⟩
  ·have h1:=size_del (k:= .int .i64 id) hT
   rw[fF hr,hr.1]at h1;have h2:=FW l id hn;omega
  ·by_cases e:k=id
   ·subst e
    rw[atKey_del_same,zA];rfl
   ·rw[atKey_del_other (oG e),hr.2,oh _ e]
 refine⟨w',hrun,⟨_,?_,hrd⟩,(Turn.refl _ _).grown hg.grown (by intro k hk;cases hk;exact .inl (by simp))⟩;have:=fH ho';rwa [hrd.1]at this
end Wh
end Go.Proofs.YtmjpdhpmjmgmaaaGreatDoor
