/- Lemmas of the claim, part n of 14. -/
import Derived.Test.YtficbckncieabaaGreatDoorMm
import Derived.Deep.CutBlock
import Derived.Deep.RegionWith
import Derived.Test.YtficbckncieabaaGreatDoorMl
import Derived.Test.YtficbckncieabaaGreatDoorRows
import Derived.Test.YtficbckncieabaaGreatDoorMe
import Derived.Test.YtficbckncieabaaGreatDoorMf
import Derived.LaidSub
import Derived.MakeChecks
import Derived.LaidHandle
import Derived.Stop.LaidErr
import Derived.Lib.LaidTab
set_option maxHeartbeats 16000000
namespace Go.Proofs.YtficbckncieabaaGreatDoor
set_option maxRecDepth 100000
set_option linter.unusedSimpArgs false
set_option linter.unusedVariables false
section
open Go.RowKit Go.Maps
set_option linter.unusedSectionVars false
attribute [local go_sem] Oper.semAt_some
open Dk (DA FA aj Parts dA aC bQ)
open Sg (aS aA dV Both Came ae flat Chain)
namespace Lg
theorem X6(w:World):(sizeOf 52).run Tryz.prog w= .ok 6 w:=by kernel_rfl
theorem X7(w:World):(sizeOf 4).run Tryz.prog w= .ok 1 w:=by kernel_rfl
theorem Qn(a:Option Addr)(l c n:Nat)(hn:n≤c)(w:World):(Instr.slice 34 (.slice a l c) none (some (.int .i64 (n:Int))) none).run Tryz.prog w= .ok (.slice a n c) w:=by
 have h:=X6 w;cases a<;>simp[Instr.slice,run_underlying Tryz.underlying34,Instr.sliceBounds,run_sliceBound,h,Result.andThen,hn,add_zero]
theorem Gg(a:Option Addr)(l c n:Nat)(hn:n≤c)(w:World):(Instr.slice 35 (.slice a l c) none (some (.int .i64 (n:Int))) none).run Tryz.prog w= .ok (.slice a n c) w:=by
 have h:=X7 w;cases a<;>simp[Instr.slice,run_underlying Tryz.underlying35,Instr.sliceBounds,run_sliceBound,h,Result.andThen,hn,add_zero]
theorem _root_.Go.Proofs.YtficbckncieabaaGreatDoor.aO.pre{α:Type}{T:TypeId}{n:Nat}{enc:α→List Value}(hn:∀x,(enc x).length=n){w:World}{base:Nat}{a:Option Addr}{l c:Nat}{xs:List α}(h:aO T n enc w base (.slice a l c) xs){e:Nat}(he:e≤xs.length):aO T n enc w base (.slice a e c) (xs.take e):=by
 have hl:(xs.take e).length=e:=by rw[List.length_take];omega
 rcases h with⟨h,rfl⟩|⟨g,cap,cur,h,h1,h2,h3,h4,h5,h6⟩
 ·simp only[Value.slice.injEq]at h
  obtain⟨rfl,rfl,rfl⟩:=h;simp only[List.length_nil,Nat.le_zero]at he;subst he;exact .inl ⟨rfl,rfl⟩
 ·simp only[Value.slice.injEq]at h
  obtain⟨rfl,rfl,rfl⟩:=h;refine .inr ⟨g,c,cur,by rw[hl],h1,h2,by omega,h4,h5,?_⟩;have hm:e*n≤xs.length*n:=Nat.mul_le_mul_right _ he;have e2:xs.flatMap enc=(xs.take e).flatMap enc++(xs.drop e).flatMap enc:=by rw[←List.flatMap_append,List.take_append_drop]
  have e3:((xs.take e).flatMap enc).length=e*n:=by rw[bM hn,hl]
  rw[hl,←Nat.min_eq_left hm,←List.take_take,h6,e2,List.take_append_of_le_length (by omega),List.take_of_length_le (by omega)]
def Oq(W w:World)(d wb mo i:Nat):Prop:=∃(lb:Nat) (F:List Nat) (A:DA) (gv:Value) (v:LV) (ms0:List SM) (m:SM) (X:List FA) (y:LW) (va vg vm ve:Value) (js n:Nat),
 az w W.heap.size d F A lb gv aX v (ms0++[m])∧bY w W.heap.size wb d lb (mo:Int) va vg vm ve y∧kF A v (ms0.map SM.abs) m.abs js n i mo X y∧Turn [] W w∧v.start=(dH (ms0.map SM.abs) m.abs:Int)
theorem Oq.at{W w:World}{d wb mo i:Nat}(h:Oq W w d wb mo i):pY W w d wb mo i:=by
 obtain⟨lb,F,A,gv,v,ms0,m,X,y,va,vg,vm,ve,js,n,h1,h2,h3,h4, -⟩:=h;exact⟨lb,F,A,gv,v,ms0,m,X,y,va,vg,vm,ve,js,n,h1,h2,h3,h4⟩
section
variable {w w':World} {base wb d lb n js:Nat} {mo:Int} {va vg vm ve:Value} {y:LW} {F:List Nat} {A:DA} {gv:Value} {v:LV} {ms0:List SM} {m:SM} {X:List FA} {dn:Bool}
theorem bY.disk(h:bY w base wb d lb mo va vg vm ve y)(hd:aj w base d F A):∀k∈jg wb va vg vm ve,k∉F:=by
 intro k hk hm;obtain⟨cs,T,fr,e,hT⟩:=h.kind k hk;have hT2:=oJ hd hm e;rcases hT with rfl|rfl|rfl|rfl<;>rcases hT2 with h2|h2|h2<;>exact absurd h2 (by decide)
theorem bY.TP(h:bY w base wb d lb mo va vg vm ve y){lb':Nat}{dir:ByteArray}{ms:List SM}(hl:az w base d F A lb' gv dir v ms):∀k∈jg wb va vg vm ve,k∉aJ F lb' gv ms:=by
 intro k hk;obtain⟨cs,T,fr,e,hT⟩:=h.kind k hk;rcases hT with rfl|rfl|rfl|rfl<;>exact hl.o8 e (by decide) (by decide) (by decide) (by decide) (by decide) (by decide) (by decide)
theorem bY.Vj(h:bY w base wb d lb mo va vg vm ve y)(e:Nat):bY (((w.setCell ⟨wb,6,none⟩ (.slice (some ⟨w.heap.size,0,none⟩) 1 1)).setCell ⟨wb,7,none⟩ (.int .i64 (e:Int))).alloc (.cells #[.int .i64 (e:Int)] 3)) base wb d lb mo va vg vm (.slice (some ⟨w.heap.size,0,none⟩) 1 1) {y with ends:=[e],safe:=(e:Int)}∧Turn [wb] w (((w.setCell ⟨wb,6,none⟩ (.slice (some ⟨w.heap.size,0,none⟩) 1 1)).setCell ⟨wb,7,none⟩ (.int .i64 (e:Int))).alloc (.cells #[.int .i64 (e:Int)] 3)):=by
 have hz:((w.setCell ⟨wb,6,none⟩ (.slice (some ⟨w.heap.size,0,none⟩) 1 1)).setCell ⟨wb,7,none⟩ (.int .i64 (e:Int))).heap.size=w.heap.size:=by simp
 have ht:Turn [wb] w (((w.setCell ⟨wb,6,none⟩ (.slice (some ⟨w.heap.size,0,none⟩) 1 1)).setCell ⟨wb,7,none⟩ (.int .i64 (e:Int))).alloc (.cells #[.int .i64 (e:Int)] 3)):=(((Turn.refl _ _).setCell (.inl (by simp)) _).setCell (.inl (by simp)) _).alloc _;have hb:=((Turn.refl [] _).alloc (.cells #[.int .i64 (e:Int)] 3)).heap (heap_set (heap_set h.box 6 (.slice (some ⟨w.heap.size,0,none⟩) 1 1)) 7 (.int .i64 (e:Int))) (by simp);have hn:=ai ((w.setCell ⟨wb,6,none⟩ (.slice (some ⟨w.heap.size,0,none⟩) 1 1)).setCell ⟨wb,7,none⟩ (.int .i64 (e:Int))) (.cells #[.int .i64 (e:Int)] 3);rw[hz]at hn;have hbw:base≤w.heap.size:=Nat.le_of_lt (Nat.lt_of_le_of_lt h.low (lt_of_heap h.box));have hne:∀{T:TypeId} {cs:Array Value} {k:Nat},w.heap[k]? =some (.cells cs T (0,0))→T≠38→k∉[wb]:=fun e hT hm=>by
  obtain rfl:=List.mem_singleton.1 hm;exact aW e h.box hT rfl
 refine⟨⟨hb,h.kT.kept ht (fun k hk=>by obtain⟨cs,e⟩:=h.kT.kind k hk;exact hne e (by decide)),h.fV.kept ht (fun k hk=>by obtain⟨cs,e⟩:=h.fV.kind k hk;exact hne e (by decide)),h.nH.kept ht (fun k hk=>by obtain⟨cs,e⟩:=h.nH.kind k hk;exact hne e (by decide)), .inr ⟨w.heap.size,1,_,rfl,hbw,hn,Nat.le_refl _,by simp,by simp[maxLen],by simp[uK]⟩,h.gm,h.low⟩,ht⟩
theorem Gh(hl:az w base d F A lb gv aX v (ms0++[m]))(hk:eG A 1048576 aX X 0 n (ms0.map SM.abs) m.abs js)(hn:n≤4000)(hsl:ms0.length≤900)(hvs:v.start=(dH (ms0.map SM.abs) m.abs:Int))(h:bY w base wb d lb mo va vg vm ve y)(hw:gq y.all y.gone y.may dn (dH (ms0.map SM.abs) m.abs) n (aK (af (ms0.map SM.abs++[m.abs])))):
 Calls Tryz.prog 11 #[.pointer (some ⟨wb,0,none⟩)] w fun e w'=>∃g,e= .returned (.bool true)∧bY w' base wb d lb mo va vg vm ve {y with gone:=g}∧g.length=n∧(∀j:Nat,g[j]? =some true↔JZ y.all (aK (af (ms0.map SM.abs++[m.abs]))) y.gone (dH (ms0.map SM.abs) m.abs) n j)∧Turn vg.ownBlock.toList w w':=by
 have hq:=hk.qm;have hok:sW A aX ((ms0++[m]).map SM.abs):=by rw[List.map_append];exact hk.ok (by simp;omega)
 have aiw:(aK (af (ms0.map SM.abs++[m.abs]))).Pairwise (fun a b=>a.off<b.off):=jV hq.chain;have VY:=hq.from;have ac9:=hq.below;have amn:aZ v.start (af ((ms0++[m]).map SM.abs))=aK (af (ms0.map SM.abs++[m.abs])):=by
  rw[List.map_append,List.map_singleton,jq,oI (fun r hr=>by rw[hvs];exact VY r hr)]
 have aah:(aK (af (ms0.map SM.abs++[m.abs]))).length≤n:=by
  rcases rJ _ 0 n aiw ac9 with h|h
  ·rw[h];exact Nat.zero_le _
  ·omega
 have hhl:(dH (ms0.map SM.abs) m.abs:Int)≤n:=by
  have h1:=hq.MN;have h2:=hq.le;have h3:=hq.next;omega
 have hnx:ae m.n m.xs=(n:Int):=hq.next;have hal:=Hf w base d F A lb gv aX v ms0 m hl (by decide) hok 300 ⟨by omega,by omega⟩ 0 (by rw[List.map_append];exact hq.chain) (by rw[List.map_append,hnx];exact hq.lK) (by rw[hvs,hnx];exact hhl) (by rw[hvs];omega) (by rw[hnx];omega) (by rw[amn];omega);rw[amn]at hal;refine Qi w base wb d lb mo va vg vm ve y h _ _ n dn (hal.mono ?_) (fun Z hZ=>?_) hw aiw (fun r hr=>⟨VY r hr,(ac9 r hr).2⟩) (by omega) hn
 ·rintro e w' ⟨ov,rfl,h1,h2⟩
  exact⟨ov,rfl,h1,h2⟩
 ·have:=qE Z base d F A lb gv aX v _ (hl.still hZ)
  rw[hvs]at this;exact this
end
structure VZ(W wr:World)(d wb lb mo i X0:Nat)(va vg vm ve:Value)(y:LW)(bx:Array Value)(F:List Nat)(A:DA):Prop where
 disk:aj wr W.heap.size d F A
 gI:∀fs,∃e ss0 m tail X',Oj (A.gI fs) ss0 m tail e i X' y
 law:bY wr W.heap.size wb d lb (mo:Int) va vg vm ve y
 turn:Turn [] W wr
 box:wr.heap[X0]? =some (.cells bx 41 (0,0))
structure Uj(W wr:World)(d wb lb mo i X0 k:Nat)(va vg vm ve:Value)(y:LW)(bx:Array Value)(F:List Nat)(A:DA)(e:Nat)(ss0:List (Nat×List Bt.aB))(m:Nat×List Bt.aB)(tail:List UInt8)(X':List FA):Prop where
 disk:aj wr W.heap.size d F A
 crz:Oj A ss0 m tail e i X' y
 lim:A.limited=true→0<k
 law:bY wr W.heap.size wb d lb (mo:Int) va vg vm ve y
 turn:Turn [] W wr
 box:wr.heap[X0]? =some (.cells bx 41 (0,0))
section
variable {W wr w':World} {d wb lb mo i X0 k:Nat} {va vg vm ve:Value} {y:LW} {bx:Array Value} {F:List Nat} {A A':DA}
theorem Ew(hd:aj wr W.heap.size d F A){cs:Array Value}(hb:wr.heap[X0]? =some (.cells cs 41 (0,0))):X0∉F:=fun hm=>by
 rcases oJ hd hm hb with h|h|h<;>exact absurd h (by decide)
theorem VZ.did(h:VZ W wr d wb lb mo i X0 va vg vm ve y bx F A)(hd:dA wr w' W.heap.size d F A'):bY w' W.heap.size wb d lb (mo:Int) va vg vm ve y∧Turn [] W w'∧w'.heap[X0]? =some (.cells bx 41 (0,0))∧∃F',aj w' W.heap.size d F' A':=by
 obtain⟨F',h1,h2,h3⟩:=hd;exact⟨h.law.kept h2 (fun q hq hm=>h.law.disk h.disk q hq hm),h.turn.trans h2 (fun q hq=> .inr (h.disk.low q hq)),h2.heap h.box (Ew h.disk h.box),F',h1⟩
theorem VZ.still(h:VZ W wr d wb lb mo i X0 va vg vm ve y bx F A)(ht:Turn [] wr w'):VZ W w' d wb lb mo i X0 va vg vm ve y bx F A:=⟨h.disk.kept ht (by simp),h.gI,h.law.still ht,h.turn.same ht,ht.heap h.box (by simp)⟩
section
variable {e:Nat} {ss0:List (Nat×List Bt.aB)} {m:Nat×List Bt.aB} {tail:List UInt8} {X':List FA}
theorem Uj.still(h:Uj W wr d wb lb mo i X0 k va vg vm ve y bx F A e ss0 m tail X')(ht:Turn [] wr w'):Uj W w' d wb lb mo i X0 k va vg vm ve y bx F A e ss0 m tail X':=⟨h.disk.kept ht (by simp),h.crz,h.lim,h.law.still ht,h.turn.same ht,ht.heap h.box (by simp)⟩
theorem Uj.loop(h:Uj W wr d wb lb mo i X0 k va vg vm ve y bx F A e ss0 m tail X'):VZ W wr d wb lb mo i X0 va vg vm ve y bx F A:=⟨h.disk,fun fs=>by obtain⟨X2,h2⟩:=h.crz.gI fs;exact⟨e,ss0,m,tail,X2,h2⟩,h.law,h.turn,h.box⟩
end
end
def OpnR(W wx:World)(d wb lb mo i X0 k:Nat)(va vg vm ve:Value)(y:LW)(bx:Array Value)(e:Nat)(ss0:List (Nat×List Bt.aB))(mm:Nat×List Bt.aB)(p6 v7:Value):Prop:=
 (p6= .pointer none∧v7= .iface 45 (.int .i64 14)∧0<k∧∃F5 A5 tail5 X5,Uj W wx d wb lb mo i X0 k va vg vm ve y bx F5 A5 e ss0 mm tail5 X5)∨
 ∃(lb':Nat) (F5:List Nat) (A5:DA) (gv:Value) (ms0:List SM) (m:SM),p6= .pointer (some ⟨lb',0,none⟩)∧v7= .nilIface∧az wx W.heap.size d F5 A5 lb' gv aX ⟨mo,(dH ss0 mm:Int),(e:Int),false⟩ (ms0++[m])∧ms0.map SM.abs=ss0∧m.abs=mm∧eG A5 1048576 aX [] 0 e ss0 mm mm.2.length∧bY wx W.heap.size wb d lb (mo:Int) va vg vm ve y∧Turn [] W wx
theorem TQ{W wr:World}{d wb lb mo i X0 k:Nat}{va vg vm ve:Value}{y:LW}{bx:Array Value}{F:List Nat}{A:DA}{e:Nat}{ss0:List (Nat×List Bt.aB)}{mm:Nat×List Bt.aB}{tail:List UInt8}{X1:List FA}(hp:Uj W wr d wb lb mo i X0 k va vg vm ve y bx F A e ss0 mm tail X1)(hm1:100≤mo)(hm2:mo≤1048576)(hv:Sn.qA W):
 Calls Tryz.prog 7 #[.pointer (some ⟨d,0,none⟩), .string ⟨#[112]⟩, .int .i64 (mo:Int), .int .i64 0] wr fun e0 w'=>∃p6 v7,e0= .returned (.tuple #[p6,v7])∧OpnR W w' d wb lb mo i X0 k va vg vm ve y bx e ss0 mm p6 v7:=by
 have hop:=FX wr W.heap.size d F A hp.disk aX (by decide) mo 0 hm1 hm2 (by omega) (fun Z hZ=>hv.below ((hp.turn.trans hZ (fun q hq=> .inr (hp.disk.low q hq))).nil));refine hop.mono ?_;rintro e0 w' ⟨cs,c,A3,ss,h1,h2,h3,h4⟩;rcases hp.crz.opened h1 h2 h3 with⟨rfl,rfl,g3,g4⟩|⟨rfl,g2,X5,tail5,g3⟩
 ·rcases h4 with⟨h4, -⟩|⟨-,lb',F',gv,ms0,m,rfl,h5,h6,h7,h8,h9⟩
  ·exact absurd rfl h4
  ·refine⟨_,_,rfl, .inr ⟨lb',F',A3,gv,ms0,m,rfl,rfl,?_,?_⟩⟩
   ·rw[List.map_append,List.map_singleton]at h6
    obtain⟨e1,e2⟩:=List.append_inj' h6 rfl;have e3:m.abs=mm:=by simpa using e2
    have hn:ae m.n m.xs=(e:Int):=by
     have:=g3.qm.next;rw[←e3]at this;exact this
    have hs:=MP g3.qm;rw[g3.qm.next]at hs;rw[hn,hs]at h5;exact h5
   ·rw[List.map_append,List.map_singleton]at h6
    obtain⟨e1,e2⟩:=List.append_inj' h6 rfl;have e3:m.abs=mm:=by simpa using e2
    exact⟨e1,e3,g3,hp.law.kept h7 (fun q hq hm=>hp.law.disk hp.disk q hq hm),hp.turn.trans h7 (fun q hq=> .inr (hp.disk.low q hq))⟩
 ·rcases h4 with⟨-,rfl,h5⟩|⟨h4, -⟩
  ·obtain⟨F5,k1,k2,k3⟩:=h5
   exact⟨_,_,rfl, .inl ⟨rfl,rfl,hp.lim g2,F5,A3,tail5,X5,k1,g3,fun _=>hp.lim g2,hp.law.kept k2 (fun q hq hm=>hp.law.disk hp.disk q hq hm),hp.turn.trans k2 (fun q hq=> .inr (hp.disk.low q hq)),k2.heap hp.box (Ew hp.disk hp.box)⟩⟩
  ·exact absurd h4 (by decide)
section
variable {W w:World} {d wb lb mo i n js:Nat} {va vg vm ve:Value} {y:LW} {F:List Nat} {A:DA} {gv:Value} {v:LV} {ms0:List SM} {m:SM} {X:List FA}
theorem zN(hw:bY w W.heap.size wb d lb (mo:Int) va vg vm ve y)(hl:az w W.heap.size d F A lb gv aX v (ms0++[m]))(ht:Turn [] W w)(hc:kF A v (ms0.map SM.abs) m.abs js n i mo X y)(hi:i≤60)(hg:As.iq W)(Qw:Sn.qA W)(hm1:100≤mo)(hm2:mo≤1048576)(what sa sb:Int)(rv fv:Value)(fs:List UInt8)(hf:∀Z,Turn [] W Z→SliceAt Z fv (fs.map ah))(hfl:fs.length≤9223372036854775807):
 Calls Tryz.prog 10 #[.pointer (some ⟨wb,0,none⟩), .agg #[.int .i64 what, .int .i64 sa, .int .i64 sb,rv,fv]] w fun e w'=>e= .returned (.bool true)∧Oq W w' d wb mo (i+1):=by
 obtain⟨xa,xc,rfl⟩:∃xa xc,fv= .slice xa fs.length xc:=by
  rcases hf w ht with⟨rfl,hb⟩|⟨a,c,rfl, -⟩
  ·have:fs=[]:=by simpa using hb
   subst this;exact⟨_,_,rfl⟩
  ·exact⟨a,c,by simp⟩
 have t1:Turn [] w (w.alloc (.cells (iZ what sa sb rv (.slice xa fs.length xc)) 41)):=(Turn.refl _ _).alloc _;obtain⟨x0,x1,x2,x3,x4,xz⟩:=kV w what sa sb rv (.slice xa fs.length xc) _ (Turn.refl _ _);have hL0:VZ W (w.alloc (.cells (iZ what sa sb rv (.slice xa fs.length xc)) 41)) d wb lb mo i w.heap.size va vg vm ve y (iZ what sa sb rv (.slice xa fs.length xc)) F A:=⟨hl.disk.kept t1 (by simp),fun fs=>by
  obtain⟨e,m',tail,X2,h2⟩:=hc.gI fs;exact⟨e,_,m',tail,X2,h2⟩,hw.still t1,ht.same t1,ai w _⟩
 have HL0:=hide hL0;have HG:=hide hg;have HV:=hide Qw;have HF:=hide hf;have hmx:maxLen=9223372036854775807:=by simp[maxLen]
 clear hw hl ht hc hg Qw hf t1 hL0;obtain⟨bx,hbx⟩:∃bx,bx=iZ what sa sb rv (.slice xa fs.length xc):=⟨_,rfl⟩;rw[←hbx]at HL0;have BR:=hide hbx;rw[hbx]at HL0;unfold iZ at*;go_enter Tryz.func10,Tryz.ntmps10
 go_wp2_with fail
 refine(jC sb 3 (by omega) (by omega) _).mono ?_;rintro e w1 ⟨⟨k0,hk0,rfl⟩,rfl⟩;obtain⟨w0,hw0⟩:∃w0,w0=w.alloc (.cells #[.int .i64 what, .int .i64 sa, .int .i64 sb,rv, .slice xa fs.length xc] 41):=⟨_,rfl⟩;rw[←hw0]at HL0;rw[←hw0];obtain⟨X0,hX0⟩:∃X0,X0=w.heap.size:=⟨_,rfl⟩;rw[←hX0]at HL0;rw[←hX0];rw[←hbx]at HL0;clear x0 x1 x2 x3 x4 xz hw0 hX0 hbx;go_wp2
 go_loopw [5] (fun kv wr=>∃(k:Nat) (F:List Nat) (A:DA),k≤2∧kv= .int .i64 k∧VZ W wr d wb lb mo i X0 va vg vm ve y bx F A) (fun kv _=>(intOf kv).toNat)
 case atStart=>exact⟨k0,F,A,by omega,rfl,HL0.out⟩
 case round=>
  obtain⟨k,F1,A1,hk,rfl,hlr⟩:=hrel;have HLR:=hide hlr;have hcs:∀Z,Turn [] wr Z→(Z.cell? ⟨wb,0,none⟩=some (.pointer (some ⟨d,0,none⟩))∧wb<Z.heap.size)∧Z.cell? ⟨X0,4,none⟩=some (.slice xa fs.length xc)∧X0<Z.heap.size:=fun Z hZ=>by
   obtain⟨c0,c1,c2,c3,c4,c5,c6,c7,c8,c9,hz⟩:=(hlr.law.still hZ).cells;have hb:=hZ.heap hlr.box (by simp);rw[BR.out]at hb;exact⟨⟨c0,hz⟩,by rw[cell_of hb];rfl,lt_of_heap hb⟩
  have yZ:=hide hcs;clear hlr hcs HL0;go_wp2
  refine gU 6 [] (by kernel_rfl) rfl ?_;apply Lo.r0 1 rfl 0 (by intro u;conv=>lhs;whnf) rfl
  ·intro a w1 hR e0 K hK
   go_simp
   exact hK _ rfl
  apply Lo.r1 2 rfl 17 0 (fun _=>rfl) rfl (by kernel_rfl)
  ·intro a w1 hR e17 K hK
   go_simp
   exact hK _ rfl
  apply Lo.r1 3 rfl 18 1 (fun _=>rfl) rfl (by kernel_rfl)
  ·intro a w1 hR e18 K hK
   go_simp
   exact hK _ rfl
  apply Lo.r1 4 rfl 19 2 (fun _=>rfl) rfl (by kernel_rfl)
  ·intro a w1 hR e19 K hK
   obtain⟨⟨q0,qz⟩, -, -⟩:=yZ.out w1 hR.dr;go_simp
   exact hK _ rfl
  apply Lo.r0 5 rfl 3 (by intro u;conv=>lhs;whnf) rfl
  ·intro a w1 hR e3 K hK
   go_simp
   exact hK _ rfl
  apply Lo.r1 6 rfl 21 4 (fun _=>rfl) rfl (by kernel_rfl)
  ·intro a w1 hR e21 K hK
   obtain⟨-,q0,qz⟩:=yZ.out w1 hR.dr;go_simp
   exact hK _ rfl
  refine Lo.done [3,5] (fun u w1 bI hSd hF=>?_);clear hSd;obtain⟨f3,f5, -⟩:=hF;have d3:u 3=_:=f3;have d5:u 5=_:=f5;clear f3 f5;simp only[List.take_succ_cons,List.take_zero,List.drop_succ_cons,List.drop_zero,ax,Act.put,List.setIfInBounds_toArray,List.set_cons_succ,List.set_cons_zero,Nat.zero_add,Nat.reduceAdd,d3,d5];have hl1:=HLR.out.still bI.dr;obtain⟨aI,fm,hp⟩:=hl1.disk;obtain⟨e,ss0,mm,tail,X1,hcz⟩:=hl1.gI fs;have hcr:=Dk.PQ hp (.slice xa fs.length xc) fs (fun Z hZ=>HF.out Z (hl1.turn.trans hZ (fun q hq=> .inr (hl1.disk.low q hq)))) hfl;have vT:=hide hcr;have HL1:=hide hl1;have HCZ:=hide hcz;have J7:=hide hcz;clear hl1 hp hcz hcr HLR yZ bI;go_wp2_with fail
  refine vT.out.mono ?_;rintro e0 w2 ⟨rfl,hd2⟩;obtain⟨amo,ht2,hb2,F2,amq⟩:=HL1.out.did hd2;have hp2:Uj W w2 d wb lb mo i X0 k va vg vm ve y bx F2 (A1.gI fs) e ss0 mm tail X1:=⟨amq,HCZ.out,fun h=>by simp[Dk.DA.gI]at h,amo,ht2,hb2⟩;have HP2:=hide hp2;clear amo ht2 hb2 amq hd2 hp2 vT HL1 HCZ;go_upto_if 25 with fail
  go_cut []from 15 to 70 (fun wx=>∃F3 A3,Uj W wx d wb lb mo i X0 k va vg vm ve y bx F3 A3 e ss0 mm tail X1)
  case first=>
   rcases Nat.eq_zero_or_pos k with rfl|hkp
   ·go_wp2
    go_meet
    case rel=>exact⟨F2,_,HP2.out⟩
   ·have aqM:(0:Int)<(k:Int):=by omega
    have hcs:∀Z,Turn [] w2 Z→(Z.cell? ⟨wb,0,none⟩=some (.pointer (some ⟨d,0,none⟩))∧wb<Z.heap.size)∧Z.cell? ⟨X0,1,none⟩=some (.int .i64 sa)∧X0<Z.heap.size:=fun Z hZ=>by
     obtain⟨c0,c1,c2,c3,c4,c5,c6,c7,c8,c9,hz⟩:=(HP2.out.law.still hZ).cells;have hb:=hZ.heap HP2.out.box (by simp);rw[BR.out]at hb;exact⟨⟨c0,hz⟩,by rw[cell_of hb];rfl,lt_of_heap hb⟩
    have yZ:=hide hcs;clear hcs;go_wp2
    refine gU 7 [] (by kernel_rfl) rfl ?_;apply Lo.r0 1 rfl 0 (by intro u;conv=>lhs;whnf) rfl
    ·intro a w1 hR e0 K hK
     go_simp
     exact hK _ rfl
    apply Lo.r1 2 rfl 26 0 (fun _=>rfl) rfl (by kernel_rfl)
    ·intro a w1 hR e26 K hK
     go_simp
     exact hK _ rfl
    apply Lo.r1 3 rfl 27 1 (fun _=>rfl) rfl (by kernel_rfl)
    ·intro a w1 hR e27 K hK
     go_simp
     exact hK _ rfl
    apply Lo.r1 4 rfl 28 2 (fun _=>rfl) rfl (by kernel_rfl)
    ·intro a w1 hR e28 K hK
     obtain⟨⟨q0,qz⟩, -, -⟩:=yZ.out w1 hR.dr;go_simp
     exact hK _ rfl
    apply Lo.r0 5 rfl 3 (by intro u;conv=>lhs;whnf) rfl
    ·intro a w1 hR e3 K hK
     go_simp
     exact hK _ rfl
    apply Lo.r1 6 rfl 30 4 (fun _=>rfl) rfl (by kernel_rfl)
    ·intro a w1 hR e30 K hK
     obtain⟨-,q0,qz⟩:=yZ.out w1 hR.dr;go_simp
     exact hK _ rfl
    refine Lo.run 7 rfl rfl [5] (fun x w'=>∃p:Nat,p<6∧x= .int .i64 (p:Int)) (by kernel_rfl) (fun x w w' h hR=>?_) (fun _ _ h=>h) (fun u w1 hR hF=>?_) ?_
    ·exact h
    ·obtain⟨h5, -⟩:=hF
     refine⟨rfl,fun a ha K hK=>?_⟩;have e31:=(ha 31).trans h5;clear ha h5;go_simp
     refine(jC sa 6 (by omega) (by omega) w1).mono ?_;rintro e w2 ⟨⟨p,hp,rfl⟩,rfl⟩;exact hK _ _ ⟨p,hp,rfl⟩ (Turn.refl _ _)
    refine Lo.done [3,6] (fun u w1 bI hSd hF=>?_);clear hSd;obtain⟨f3,f6, -⟩:=hF;have d3:u 3=_:=f3;have d6:=(show(fun x w'=>∃p:Nat,p<6∧x= .int .i64 (p:Int)) (u 6) w1 from f6);dsimp only at d6;clear f3 f6;simp only[List.take_succ_cons,List.take_zero,List.drop_succ_cons,List.drop_zero,ax,Act.put,List.setIfInBounds_toArray,List.set_cons_succ,List.set_cons_zero,Nat.zero_add,Nat.reduceAdd,d3];obtain⟨p,hpp,e6⟩:=d6;rw[e6];have hp3:=HP2.out.still bI.dr;obtain⟨aI,fm,hpt⟩:=hp3.disk;have hfa:=Dk.J4 hpt (p:Int) (by omega);have OU:=hide hfa;have HP3:=hide hp3;have HPT:=hide hpt;clear hp3 hpt hfa bI e6 yZ;go_wp2_with fail
    refine OU.out.mono ?_;rintro e0 w3 ⟨rfl,Ym,htf⟩;have aar:Uj W w3 d wb lb mo i X0 k va vg vm ve y bx F2 ((A1.gI fs).rO (p:Int)) e ss0 mm tail X1:=by
     have hdd:d∈F2:=HPT.out.iT;have hs:∀q∈[d],q∈F2:=fun q hq=>by rw[List.mem_singleton.1 hq];exact hdd
     refine⟨⟨_,_,Ym⟩,HP3.out.crz.same rfl rfl,fun _=>hkp,HP3.out.law.kept htf (fun q hq hm=>HP3.out.law.disk HP3.out.disk q hq (hs q hm)),HP3.out.turn.trans htf (fun q hq=> .inr (HP3.out.disk.low q (hs q hq))),htf.heap HP3.out.box (fun hm=>Ew HP3.out.disk HP3.out.box (hs _ hm))⟩
    have jK:=hide aar;clear aar Ym htf;go_wp2
    go_meet
    case rel=>exact⟨F2,_,jK.out⟩
  case rest=>
   obtain⟨F3,A3,hp3⟩:=hcut;have HP3:=hide hp3;have hp4:=hp3.still ((Turn.refl [] wc).drew);have hop:=TQ hp4 hm1 hm2 HV.out;obtain⟨c0,c1,c2,c3,c4,c5,c6,c7,c8,c9,cz⟩:=hp3.law.cells;have Tt:=hide hop;have HP4:=hide hp4;clear hp3 hop hp4 c1 c3 c4 c5 c6 c7 c8 c9 HP2;go_upto_region 6 with fail
   go_cut [6,7]from 15 to 70 (fun e6 e7 wx=>OpnR W wx d wb lb mo i X0 k va vg vm ve y bx e ss0 mm e6 e7)
   case first=>
    go_region_with (go_at_call 7;refine Tt.out.mono ?_;rintro e0 w9 ⟨p6,v7,rfl,aqP⟩)
    all_goals
     go_wp2
     go_meet
     exact aqP
   case rest=>
    clear Tt HP4 HP3 c0 c2 cz;rcases hcut with⟨rfl,rfl,hkp,F5,A5,tail5,X5,hp5⟩|⟨lb',F5,A5,gv',ms0',q,rfl,rfl,hl5,h51,h52,hk5,hw5,ht5⟩
    ·have aqM:(0:Int)<(k:Int):=by omega
     have hte:=As.rC 14 wc (HG.out.below hp5.turn.nil);have HTE:=hide hte;have HP5:=hide hp5;clear hte hp5;go_wp2_with fail
     refine HTE.out.mono ?_;rintro e0 w5 ⟨rfl,hb5⟩;have hlp:=(HP5.out.still (Turn.of_below hb5 [])).loop;have HLP:=hide hlp;clear hb5 hlp HTE HP5;go_wp2
     all_goals refine⟨⟨k-1,F5,A5,by omega,congrArg (Value.int .i64) (by omega),HLP.out⟩,?_⟩
     all_goals (simp only[intOf];omega)
    ·have hfa:=J5 hl5 (-1) (by omega)
     obtain⟨c0,c1,c2,c3,c4,c5,c6,c7,c8,c9,cz⟩:=hw5.cells;have OU:=hide hfa;have HL5:=hide hl5;have HK5:=hide (And.intro h51 (And.intro h52 hk5));have HW5:=hide hw5;have HT5:=hide ht5;clear hfa hl5 hk5 h51 h52 hw5 ht5 c1 c2 c3 c4 c5 c6 c7 c8 c9;go_wp2_with fail
     refine OU.out.mono ?_;rintro e0 w6 ⟨rfl,hd6⟩;have hw6:=HW5.out.kept hd6.turn (fun z hz=>HW5.out.TP HL5.out z hz);obtain⟨F6,gv6,ms6,hl6,hm6,ht6,hf6⟩:=hd6;rw[List.map_append,List.map_singleton,HK5.out.1,HK5.out.2.1]at hm6;obtain⟨ms60,q6,rfl,h61,h62⟩:=dB hm6;have hT6:=HT5.out.trans ht6 (fun z hz=> .inr (HL5.out.lt z hz).1);obtain⟨c0,c1,c2,c3,c4,c5,c6,c7,c8,c9,cz⟩:=hw6.cells;have f1:=hw6.frozen 1;have f9:=hw6.frozen 9;have hk6:=HK5.out.2.2.same (B:=A5.rO (-1)) rfl rfl;have hw7:=(hw6.put (i:=1) (u:= .pointer (some ⟨lb',0,none⟩)) (lb':=lb') (y':=y) rfl rfl rfl rfl rfl).put (i:=9) (u:= .bool false) (lb':=lb') (y':={y with down:=false}) rfl rfl rfl rfl rfl;have ht7:Turn [wb] w6 ((w6.setCell ⟨wb,1,none⟩ (.pointer (some ⟨lb',0,none⟩))).setCell ⟨wb,9,none⟩ (.bool false)):=((Turn.refl _ _).setCell (.inl (by simp)) _).setCell (.inl (by simp)) _;have TR:wb∈jg wb va vg vm ve:=bV.2 (.inl rfl);have hl7:=hl6.kept ht7 (fun z hz hm=>hw6.TP hl6 wb TR (by rw[←List.mem_singleton.1 hm];exact hz));have hT7:=hT6.trans ht7 (fun z hz=> .inr (by rw[List.mem_singleton.1 hz];exact hw6.low));have HW7:=hide hw7;have HL7:=hide hl7;have HT7:=hide hT7;have HK7:=hide (And.intro h61 (And.intro h62 hk6));clear hw6 hl6 hm6 ht6 hf6 hT6 hk6 hw7 ht7 TR hl7 hT7 h61 h62 OU HL5 HK5 HW5 HT5 c0 c2 c3 c4 c5 c6 c7 c8;go_upto_region 12 with fail
     obtain⟨w7,X8⟩:∃w7,w7=(w6.setCell ⟨wb,1,none⟩ (.pointer (some ⟨lb',0,none⟩))).setCell ⟨wb,9,none⟩ (.bool false):=⟨_,rfl⟩;rw[←X8]at HW7 HL7 HT7;rw[←X8];clear X8 c1 c9 cz f1 f9;obtain⟨h0,hh0⟩:∃h0,h0=dH ss0 mm:=⟨_,rfl⟩;rw[←hh0]at HL7;have HH0:=hide hh0;have hss:ms60.length≤60∧q6.xs.length≤600000:=by
      have h1:=J7.out.sl;have h2:=J7.out.fl;rw[aV,Sg.aP,List.length_append]at h2;have h4:=Sg.dw q6.xs;have h5:mm.2=q6.xs:=by rw[←HK7.out.2.1];rfl
      rw[h5]at h2;have h6:=congrArg List.length HK7.out.1;rw[List.length_map]at h6;omega
     have hnx:ae q6.n q6.xs=(e:Int):=by
      have:=HK7.out.2.2.qm.next;rw[←HK7.out.2.1]at this;exact this
     have abn:=kD w7 _ d F6 _ lb' gv6 aX _ ms60 q6 HL7.out (by omega) (by omega);rw[hnx]at abn;obtain⟨c0,c1,c2,c3,c4,c5,c6,c7,c8,c9,cz⟩:=HW7.out.cells;have Df:=hide abn;clear abn hnx hh0 c0 c2 c3 c4 c5 c6 c7 c8 c9;go_wp2_with fail
     refine Df.out.mono ?_;rintro e0 w8 ⟨rfl,ht8⟩;have HW8:=hide (HW7.out.still ht8);have HL8:=hide (HL7.out.still ht8);have HT8:=hide (HT7.out.same ht8);obtain⟨aE,cE,hve,aqU,aqV⟩:=HW8.out.lU.form;have amu:({y with down:=false}:LW).ends=y.ends:=rfl;rw[amu]at hve aqU;rw[hmx]at aqV;have HVE:=hide hve;have hsf:=J7.out.safe;have hem:=J7.out.ends;have hel:y.ends.length≤9223372036854775807:=by omega
     obtain⟨c0,c1,c2,c3,c4,c5,c6,c7,c8,c9,cz⟩:=HW8.out.cells;have hc7:w8.cell? ⟨wb,7,none⟩=some (.int .i64 y.safe):=c7;have hge:(e:Int)≥y.safe:=hsf;clear ht8 hve amu Df HW7 HL7 HT7 c0 c1 c2 c3 c4 c5 c6 c7 c8 c9;go_wp2
     go_loopw [10,11] (fun av tv wr=>∃t:Nat,t≤y.ends.length∧av= .bool (decide (e∈y.ends.take t))∧tv= .int .i64 t∧Turn [] w8 wr) (fun _ tv _=>y.ends.length-(intOf tv).toNat)
     case atStart=>exact⟨0,Nat.zero_le _,by simp,rfl,Turn.refl _ _⟩
     case round=>
      obtain⟨t,htl,rfl,rfl,htw⟩:=hrel;have dO:=hide htw;obtain⟨c0,c1,c2,c3,c4,c5,c6,c7,c8,c9,cz9⟩:=(HW8.out.still htw).cells;rw[HVE.out]at c6;clear htw c0 c1 c2 c3 c4 c5 c7 c8 c9 hc7 hge cz;by_cases hlt:t<y.ends.length
      ·have Pe:=(HW8.out.still dO.out).lU
       rw[HVE.out]at Pe;obtain⟨ge,rfl,hce⟩:=Hz (xs:=y.ends) Pe hlt;have aqW:=hce wr (Turn.refl _ _);have hsn:(e∈y.ends.take (t+1))↔(e∈y.ends.take t∨y.ends[t]=e):=by
        rw[List.take_succ_eq_append_getElem hlt,List.mem_append,List.mem_singleton];exact⟨fun h=>h.imp id Eq.symm,fun h=>h.imp id Eq.symm⟩
       obtain⟨x,hx⟩:∃x,x=y.ends[t]:=⟨_,rfl⟩;rw[←hx]at aqW hsn;have xJ:=hide hsn;have hti:(t:Int)<(y.ends.length:Int):=by omega
       clear Pe hce hsn hx;by_cases hm:e∈y.ends.take t
       ·rw[decide_eq_true hm]
        go_wp2
        all_goals refine⟨⟨t+1,by omega,by rw[decide_eq_true (xJ.out.2 (.inl hm))],by go_num,dO.out⟩,?_⟩
        all_goals (simp only[intOf];omega)
       ·rw[decide_eq_false hm]
        by_cases hxe:x=e
        ·have hb:((x:Int)==(e:Int))=true:=by simp[hxe]
         have Sr:=hide hxe;clear hxe;go_wp2
         all_goals refine⟨⟨t+1,by omega,by rw[decide_eq_true (xJ.out.2 (.inr Sr.out))],by go_num,dO.out⟩,?_⟩
         all_goals (simp only[intOf];omega)
        ·have hb:((x:Int)==(e:Int))=false:=by simpa using fun h=>hxe (by omega)
         have Sr:=hide hxe;clear hxe;go_wp2
         all_goals refine⟨⟨t+1,by omega,by rw[decide_eq_false (fun h=>(xJ.out.1 h).elim hm Sr.out)],by go_num,dO.out⟩,?_⟩
         all_goals (simp only[intOf];omega)
      ·obtain rfl:t=y.ends.length:=by omega
       rw[List.take_length,decide_eq_true hem];have HW9:=hide (HW8.out.still dO.out);have HL9:=hide (HL8.out.still dO.out);have HT9:=hide (HT8.out.same dO.out);clear dO HW8 HL8 HT8;go_upto_region 19 with fail
       clear c6 cz9;have amv:∀Z,Turn [] wr Z→Calls Tryz.prog 20 #[.pointer (some ⟨lb',0,none⟩)] Z fun e w'=>e= .returned (.int .i64 (h0:Int))∧Z=w':=fun Z hZ=>qE Z _ d F6 _ lb' gv6 aX _ _ (HL9.out.still hZ)
       have amw:∀Z,Turn [] wr Z→Z.cell? ⟨wb,1,none⟩=some (.pointer (some ⟨lb',0,none⟩))∧Z.cell? ⟨wb,8,none⟩=some (.int .i64 y.start)∧wb<Z.heap.size:=fun Z hZ=>by
        obtain⟨c0,c1,c2,c3,c4,c5,c6,c7,c8,c9,hz⟩:=(HW9.out.still hZ).cells;exact⟨c1,c8,hz⟩
       have Vk:=hide amv;have Qo:=hide amw;have av1:(h0:Int)≤(e:Int):=by
        have h1:=HK7.out.2.2.qm.MN;have h2:=HK7.out.2.2.qm.le;have h3:=HK7.out.2.2.qm.next;have h4:=HH0.out;omega
       clear amv amw;go_cut [129]from 103 (fun v wx=>v= .bool false∧Turn [] wr wx)
       case first=>
        by_cases hst:y.start<(h0:Int)
        ·skip
         refine jT [] (by kernel_rfl) rfl ?_;apply Lo.r0 1 rfl 9 (by intro u;conv=>lhs;whnf) rfl
         ·intro a w1 hR e9 K hK
          go_simp
          exact hK _ rfl
         apply Lo.r1 2 rfl 103 0 (fun _=>rfl) rfl (by kernel_rfl)
         ·intro a w1 hR e103 K hK
          go_simp
          exact hK _ rfl
         apply Lo.r1 3 rfl 104 1 (fun _=>rfl) rfl (by kernel_rfl)
         ·intro a w1 hR e104 K hK
          go_simp
          exact hK _ rfl
         apply Lo.q0 4 rfl 2 10 rfl rfl (fun _=>rfl) rfl (by intro u;conv=>lhs;whnf) rfl (by kernel_rfl)
         ·intro a w1 hR e10 K hK
          go_simp
          exact hK _ rfl
         apply Lo.q1 5 rfl 2 106 3 rfl rfl (fun _=>rfl) rfl (fun _=>rfl) rfl rfl (by kernel_rfl)
         ·intro a w1 hR e106 K hK
          go_simp
          exact hK _ rfl
         apply Lo.r2 6 rfl 105 2 107 4 (fun _=>rfl) (fun _=>rfl) rfl rfl (by kernel_rfl)
         ·intro a w1 hR e105 e107 K hK
          go_simp
          exact hK _ rfl
         apply Lo.r1 7 rfl 108 5 (fun _=>rfl) rfl (by kernel_rfl)
         ·intro a w1 hR e108 K hK
          go_simp
          exact hK _ rfl
         apply Lo.q0 8 rfl 6 0 rfl rfl (fun _=>rfl) rfl (by intro u;conv=>lhs;whnf) rfl (by kernel_rfl)
         ·intro a w1 hR e0 K hK
          go_simp
          exact hK _ rfl
         apply Lo.q1 9 rfl 6 110 7 rfl rfl (fun _=>rfl) rfl (fun _=>rfl) rfl rfl (by kernel_rfl)
         ·intro a w1 hR e110 K hK
          go_simp
          exact hK _ rfl
         apply Lo.q1 10 rfl 6 111 8 rfl rfl (fun _=>rfl) rfl (fun _=>rfl) rfl rfl (by kernel_rfl)
         ·intro a w1 hR e111 K hK
          go_simp
          exact hK _ rfl
         apply Lo.q1 11 rfl 6 112 9 rfl rfl (fun _=>rfl) rfl (fun _=>rfl) rfl rfl (by kernel_rfl)
         ·intro a w1 hR e112 K hK
          obtain⟨q1, -,qz⟩:=Qo.out w1 hR.dr;go_simp
          exact hK _ rfl
         refine Lo.run 12 rfl rfl [6,10] (fun x w'=>x= .int .i64 (h0:Int)) (by kernel_rfl) (fun x w w' h hR=>?_) (fun _ _ h=>h) (fun u w1 hR hF=>?_) ?_
         ·exact h
         ·obtain⟨h6,h10, -⟩:=hF
          refine⟨.inl ⟨false,h6,rfl⟩,fun a ha K hK=>?_⟩;have e113:=(ha 113).trans h10;clear ha h6 h10;go_simp
          refine(Vk.out w1 hR.dr).mono ?_;rintro e9 w9 ⟨rfl,rfl⟩;exact hK _ _ rfl (Turn.refl _ _)
         apply Lo.q0 13 rfl 6 0 rfl rfl (fun _=>rfl) rfl (by intro u;conv=>lhs;whnf) rfl (by kernel_rfl)
         ·intro a w1 hR e0 K hK
          go_simp
          exact hK _ rfl
         apply Lo.q1 14 rfl 6 115 12 rfl rfl (fun _=>rfl) rfl (fun _=>rfl) rfl rfl (by kernel_rfl)
         ·intro a w1 hR e115 K hK
          go_simp
          exact hK _ rfl
         apply Lo.q1 15 rfl 6 116 13 rfl rfl (fun _=>rfl) rfl (fun _=>rfl) rfl rfl (by kernel_rfl)
         ·intro a w1 hR e116 K hK
          go_simp
          exact hK _ rfl
         apply Lo.q1 16 rfl 6 117 14 rfl rfl (fun _=>rfl) rfl (fun _=>rfl) rfl rfl (by kernel_rfl)
         ·intro a w1 hR e117 K hK
          obtain⟨-,q1,qz⟩:=Qo.out w1 hR.dr;go_simp
          exact hK _ rfl
         refine Lo.df 17 rfl rfl [6,11,15] (.bool (true)) (by kernel_rfl) (fun u w1 hR hF=>?_) (Turn.refl _) ?_
         ·obtain⟨h6,h11,h15, -⟩:=hF
          refine⟨.inl ⟨false,h6,rfl⟩,fun a ha K hK=>?_⟩;have e114:a.tmps.getD 114 undef=u 11:=ha 114;have e118:=(ha 118).trans h15;have h11:=(show(fun x w'=>x= .int .i64 (h0:Int)) (u 11) w1 from h11);dsimp only at h11;clear ha h6 h15;rw[h11]at e114;go_simp
          refine hK _ ?_;first|(simp;done)|(simp;omega)
         apply Lo.q1 18 rfl 6 119 16 rfl rfl (fun _=>rfl) rfl (fun _=>rfl) rfl rfl (by kernel_rfl)
         ·intro a w1 hR e119 K hK
          go_simp
          exact hK _ rfl
         apply Lo.q0 19 rfl 17 0 rfl rfl (fun _=>rfl) rfl (by intro u;conv=>lhs;whnf) rfl (by kernel_rfl)
         ·intro a w1 hR e0 K hK
          go_simp
          exact hK _ rfl
         apply Lo.q1 20 rfl 17 121 18 rfl rfl (fun _=>rfl) rfl (fun _=>rfl) rfl rfl (by kernel_rfl)
         ·intro a w1 hR e121 K hK
          go_simp
          exact hK _ rfl
         apply Lo.q1 21 rfl 17 122 19 rfl rfl (fun _=>rfl) rfl (fun _=>rfl) rfl rfl (by kernel_rfl)
         ·intro a w1 hR e122 K hK
          go_simp
          exact hK _ rfl
         apply Lo.q1 22 rfl 17 123 20 rfl rfl (fun _=>rfl) rfl (fun _=>rfl) rfl rfl (by kernel_rfl)
         ·intro a w1 hR e123 K hK
          obtain⟨q1, -,qz⟩:=Qo.out w1 hR.dr;go_simp
          exact hK _ rfl
         refine Lo.run 23 rfl rfl [17,21] (fun x w'=>x= .int .i64 (h0:Int)) (by kernel_rfl) (fun x w w' h hR=>?_) (fun _ _ h=>h) (fun u w1 hR hF=>?_) ?_
         ·exact h
         ·obtain⟨h17,h21, -⟩:=hF
          refine⟨.inl ⟨true,h17,rfl⟩,fun a ha K hK=>?_⟩;have e124:=(ha 124).trans h21;clear ha h17 h21;go_simp
          refine(Vk.out w1 hR.dr).mono ?_;rintro e9 w9 ⟨rfl,rfl⟩;exact hK _ _ rfl (Turn.refl _ _)
         apply Lo.q0 24 rfl 17 8 rfl rfl (fun _=>rfl) rfl (by intro u;conv=>lhs;whnf) rfl (by kernel_rfl)
         ·intro a w1 hR e8 K hK
          go_simp
          exact hK _ rfl
         refine Lo.df 25 rfl rfl [17,22,23] (.bool (false)) (by kernel_rfl) (fun u w1 hR hF=>?_) (Turn.refl _) ?_
         ·obtain⟨h17,h22,h23, -⟩:=hF
          refine⟨.inl ⟨true,h17,rfl⟩,fun a ha K hK=>?_⟩;have e125:a.tmps.getD 125 undef=u 22:=ha 125;have e126:=(ha 126).trans h23;have h22:=(show(fun x w'=>x= .int .i64 (h0:Int)) (u 22) w1 from h22);dsimp only at h22;clear ha h17 h23;rw[h22]at e125;go_simp
          refine hK _ ?_;first|(simp;done)|(simp;omega)
         apply Lo.q2 26 rfl 6 120 17 127 24 rfl rfl (fun _=>rfl) rfl (fun _=>rfl) (fun _=>rfl) rfl rfl rfl (by kernel_rfl)
         ·intro a w1 hR e120 e127 K hK
          go_simp
          exact hK _ rfl
         apply Lo.r2 27 rfl 109 6 128 25 (fun _=>rfl) (fun _=>rfl) rfl rfl (by kernel_rfl)
         ·intro a w1 hR e109 e128 K hK
          go_simp
          exact hK _ rfl
         refine Lo.done [26] (fun u w1 bI hSd hF=>?_);clear hSd;obtain⟨f26, -⟩:=hF;have d26:u 26=_:=f26;clear f26;simp only[ax,Act.put,List.setIfInBounds_toArray,List.set_cons_succ,List.set_cons_zero,Nat.zero_add,Nat.reduceAdd,d26];have Yh:=hide bI.dr;clear bI;go_wp2
         go_meet
         case rel=>exact⟨rfl,Yh.out⟩
        ·skip
         refine jT [] (by kernel_rfl) rfl ?_;apply Lo.r0 1 rfl 9 (by intro u;conv=>lhs;whnf) rfl
         ·intro a w1 hR e9 K hK
          go_simp
          exact hK _ rfl
         apply Lo.r1 2 rfl 103 0 (fun _=>rfl) rfl (by kernel_rfl)
         ·intro a w1 hR e103 K hK
          go_simp
          exact hK _ rfl
         apply Lo.r1 3 rfl 104 1 (fun _=>rfl) rfl (by kernel_rfl)
         ·intro a w1 hR e104 K hK
          go_simp
          exact hK _ rfl
         apply Lo.q0 4 rfl 2 10 rfl rfl (fun _=>rfl) rfl (by intro u;conv=>lhs;whnf) rfl (by kernel_rfl)
         ·intro a w1 hR e10 K hK
          go_simp
          exact hK _ rfl
         apply Lo.q1 5 rfl 2 106 3 rfl rfl (fun _=>rfl) rfl (fun _=>rfl) rfl rfl (by kernel_rfl)
         ·intro a w1 hR e106 K hK
          go_simp
          exact hK _ rfl
         apply Lo.r2 6 rfl 105 2 107 4 (fun _=>rfl) (fun _=>rfl) rfl rfl (by kernel_rfl)
         ·intro a w1 hR e105 e107 K hK
          go_simp
          exact hK _ rfl
         apply Lo.r1 7 rfl 108 5 (fun _=>rfl) rfl (by kernel_rfl)
         ·intro a w1 hR e108 K hK
          go_simp
          exact hK _ rfl
         apply Lo.q0 8 rfl 6 0 rfl rfl (fun _=>rfl) rfl (by intro u;conv=>lhs;whnf) rfl (by kernel_rfl)
         ·intro a w1 hR e0 K hK
          go_simp
          exact hK _ rfl
         apply Lo.q1 9 rfl 6 110 7 rfl rfl (fun _=>rfl) rfl (fun _=>rfl) rfl rfl (by kernel_rfl)
         ·intro a w1 hR e110 K hK
          go_simp
          exact hK _ rfl
         apply Lo.q1 10 rfl 6 111 8 rfl rfl (fun _=>rfl) rfl (fun _=>rfl) rfl rfl (by kernel_rfl)
         ·intro a w1 hR e111 K hK
          go_simp
          exact hK _ rfl
         apply Lo.q1 11 rfl 6 112 9 rfl rfl (fun _=>rfl) rfl (fun _=>rfl) rfl rfl (by kernel_rfl)
         ·intro a w1 hR e112 K hK
          obtain⟨q1, -,qz⟩:=Qo.out w1 hR.dr;go_simp
          exact hK _ rfl
         refine Lo.run 12 rfl rfl [6,10] (fun x w'=>x= .int .i64 (h0:Int)) (by kernel_rfl) (fun x w w' h hR=>?_) (fun _ _ h=>h) (fun u w1 hR hF=>?_) ?_
         ·exact h
         ·obtain⟨h6,h10, -⟩:=hF
          refine⟨.inl ⟨false,h6,rfl⟩,fun a ha K hK=>?_⟩;have e113:=(ha 113).trans h10;clear ha h6 h10;go_simp
          refine(Vk.out w1 hR.dr).mono ?_;rintro e9 w9 ⟨rfl,rfl⟩;exact hK _ _ rfl (Turn.refl _ _)
         apply Lo.q0 13 rfl 6 0 rfl rfl (fun _=>rfl) rfl (by intro u;conv=>lhs;whnf) rfl (by kernel_rfl)
         ·intro a w1 hR e0 K hK
          go_simp
          exact hK _ rfl
         apply Lo.q1 14 rfl 6 115 12 rfl rfl (fun _=>rfl) rfl (fun _=>rfl) rfl rfl (by kernel_rfl)
         ·intro a w1 hR e115 K hK
          go_simp
          exact hK _ rfl
         apply Lo.q1 15 rfl 6 116 13 rfl rfl (fun _=>rfl) rfl (fun _=>rfl) rfl rfl (by kernel_rfl)
         ·intro a w1 hR e116 K hK
          go_simp
          exact hK _ rfl
         apply Lo.q1 16 rfl 6 117 14 rfl rfl (fun _=>rfl) rfl (fun _=>rfl) rfl rfl (by kernel_rfl)
         ·intro a w1 hR e117 K hK
          obtain⟨-,q1,qz⟩:=Qo.out w1 hR.dr;go_simp
          exact hK _ rfl
         refine Lo.df 17 rfl rfl [6,11,15] (.bool (false)) (by kernel_rfl) (fun u w1 hR hF=>?_) (Turn.refl _) ?_
         ·obtain⟨h6,h11,h15, -⟩:=hF
          refine⟨.inl ⟨false,h6,rfl⟩,fun a ha K hK=>?_⟩;have e114:a.tmps.getD 114 undef=u 11:=ha 114;have e118:=(ha 118).trans h15;have h11:=(show(fun x w'=>x= .int .i64 (h0:Int)) (u 11) w1 from h11);dsimp only at h11;clear ha h6 h15;rw[h11]at e114;go_simp
          refine hK _ ?_;first|(simp;done)|(simp;omega)
         apply Lo.q1 18 rfl 6 119 16 rfl rfl (fun _=>rfl) rfl (fun _=>rfl) rfl rfl (by kernel_rfl)
         ·intro a w1 hR e119 K hK
          go_simp
          exact hK _ rfl
         refine Lo.pass 19 rfl rfl [17] (by kernel_rfl) (Turn.refl _) (fun u w1 hR hF=> .inl ⟨false,hF.1,rfl⟩) ?_;refine Lo.pass 20 rfl rfl [17] (by kernel_rfl) (Turn.refl _) (fun u w1 hR hF=> .inl ⟨false,hF.1,rfl⟩) ?_;refine Lo.pass 21 rfl rfl [17] (by kernel_rfl) (Turn.refl _) (fun u w1 hR hF=> .inl ⟨false,hF.1,rfl⟩) ?_;refine Lo.pass 22 rfl rfl [17] (by kernel_rfl) (Turn.refl _) (fun u w1 hR hF=> .inl ⟨false,hF.1,rfl⟩) ?_;refine Lo.pass 23 rfl rfl [17] (by kernel_rfl) (Turn.refl _) (fun u w1 hR hF=> .inl ⟨false,hF.1,rfl⟩) ?_;refine Lo.pass 24 rfl rfl [17] (by kernel_rfl) (Turn.refl _) (fun u w1 hR hF=> .inl ⟨false,hF.1,rfl⟩) ?_;refine Lo.pass 25 rfl rfl [17] (by kernel_rfl) (Turn.refl _) (fun u w1 hR hF=> .inl ⟨false,hF.1,rfl⟩) ?_;apply Lo.q2 26 rfl 6 120 17 127 24 rfl rfl (fun _=>rfl) rfl (fun _=>rfl) (fun _=>rfl) rfl rfl rfl (by kernel_rfl)
         ·intro a w1 hR e120 e127 K hK
          go_simp
          exact hK _ rfl
         apply Lo.r2 27 rfl 109 6 128 25 (fun _=>rfl) (fun _=>rfl) rfl rfl (by kernel_rfl)
         ·intro a w1 hR e109 e128 K hK
          go_simp
          exact hK _ rfl
         refine Lo.done [26] (fun u w1 bI hSd hF=>?_);clear hSd;obtain⟨f26, -⟩:=hF;have d26:u 26=_:=f26;clear f26;simp only[ax,Act.put,List.setIfInBounds_toArray,List.set_cons_succ,List.set_cons_zero,Nat.zero_add,Nat.reduceAdd,d26];have Yh:=hide bI.dr;clear bI;go_wp2
         go_meet
         case rel=>exact⟨rfl,Yh.out⟩
       case rest=>
        obtain⟨rfl,htc⟩:=hcut;have ada:=HW9.out.still htc;have adw:=HL9.out.still htc;have amx:=HT9.out.same htc;have aaK:=J7.out.recs;have hea:e≤y.all.length:=by have:=aaK.len;rw[List.length_take]at this;omega
        have heg:e≤y.gone.length:=by have:=aaK.uG;rw[List.length_take]at this;omega
        have aqZ:e≤y.may.length:=by have:=aaK.En;rw[List.length_take]at this;omega
        obtain⟨YD,Yv⟩:∃YD:LW,YD={y with down:=false}:=⟨_,rfl⟩;rw[←Yv]at ada;have hya:YD.all=y.all:=by rw[Yv]
        have hyg:YD.gone=y.gone:=by rw[Yv]
        have hym:YD.may=y.may:=by rw[Yv]
        obtain⟨a1,k1,hva,ha1,ha2⟩:=ada.kT.form;obtain⟨a2,k2,Cm,hg1,hg2⟩:=ada.fV.form;obtain⟨a3,k3,hvm,aev,ai6⟩:=ada.nH.form;rw[hya]at hva ha1;rw[hyg]at Cm hg1;rw[hym]at hvm aev;obtain⟨l1,hl1⟩:∃l1,l1=y.all.length:=⟨_,rfl⟩;obtain⟨l2,hl2⟩:∃l2,l2=y.gone.length:=⟨_,rfl⟩;obtain⟨l3,hl3⟩:∃l3,l3=y.may.length:=⟨_,rfl⟩;rw[←hl1]at hva ha1 hea;rw[←hl2]at Cm hg1 heg;rw[←hl3]at hvm aev aqZ;have ahb:=ada.gm;have Qk:fH wc W.heap.size wb d lb' (mo:Int) ve YD (.slice a1 l1 k1) (.slice a2 l2 k2) (.slice a3 l3 k3) (.slice a1 e k1) (.slice a2 e k2) (.slice a3 e k3) (y.all.take e) (y.gone.take e) (y.may.take e):=by
         refine⟨?_,?_,?_,?_,?_⟩
         ·have:=ada.box
          rw[hva,Cm,hvm]at this;exact this
         ·have:=ada.kT
          rw[hva,hya]at this;exact this.pre bH (by omega)
         ·have:=ada.fV
          rw[Cm,hyg]at this;exact this.pre rM (by omega)
         ·have:=ada.nH
          rw[hvm,hym]at this;exact this.pre rM (by omega)
         ·rw[Cm,hvm]at ahb
          intro z hz hm;exact ahb z (by cases a2<;>exact hz) (by cases a3<;>exact hm)
        have hr1:=Qn a1 l1 k1 e (by omega);have hr2:=Gg a2 l2 k2 e (by omega);have hr3:=Gg a3 l3 k3 e (by omega);have HRW:=hide Qk;have ahS:=hide ada;have ajH:=hide adw;have amy:=hide amx;have HYD:=hide Yv;have HR1:=hide hr1;have HR2:=hide hr2;have HR3:=hide hr3;clear Qk ada adw amx Yv hr1 hr2 hr3 aaK hva Cm hvm ahb hl1 hl2 hl3 htc HW9 HL9 HT9 Vk Qo hya hyg hym ha2 hg2 ai6;go_wp2
        refine jM 30 (Turn [wb]) (Turn []) (fun k u w=>match k with|0=>(fun u w'=>fH w' W.heap.size wb d lb' (mo:Int) ve YD (.slice a1 l1 k1) (.slice a2 l2 k2) (.slice a3 l3 k3) (.slice a1 e k1) (.slice a2 e k2) (.slice a3 e k3) (y.all.take e) (y.gone.take e) (y.may.take e)) u w|1=>(fun u w'=>fH w' W.heap.size wb d lb' (mo:Int) ve YD (.slice a1 e k1) (.slice a2 l2 k2) (.slice a3 l3 k3) (.slice a1 e k1) (.slice a2 e k2) (.slice a3 e k3) (y.all.take e) (y.gone.take e) (y.may.take e)) u w|2=>(fun u w'=>fH w' W.heap.size wb d lb' (mo:Int) ve YD (.slice a1 e k1) (.slice a2 e k2) (.slice a3 l3 k3) (.slice a1 e k1) (.slice a2 e k2) (.slice a3 e k3) (y.all.take e) (y.gone.take e) (y.may.take e)) u w|_=>(fun u w'=>fH w' W.heap.size wb d lb' (mo:Int) ve YD (.slice a1 e k1) (.slice a2 e k2) (.slice a3 e k3) (.slice a1 e k1) (.slice a2 e k2) (.slice a3 e k3) (y.all.take e) (y.gone.take e) (y.may.take e)) u w) [23,26,29] (by kernel_rfl) (by kernel_rfl) (by kernel_rfl) (by kernel_rfl) (by kernel_rfl) (by kernel_rfl) (Nat.le_of_ble_eq_true rfl) (by decide) rfl (Turn.refl _) (fun _ _ _ h k=>h.same k) (fun _ _ h=>h.mono (by simp)) ?_ ?_ ?_ ?_
        ·intro k u a b hk hR
         match k,hk with
         |0,hk=>
          have hk:=(show(fun u w'=>fH w' W.heap.size wb d lb' (mo:Int) ve YD (.slice a1 l1 k1) (.slice a2 l2 k2) (.slice a3 l3 k3) (.slice a1 e k1) (.slice a2 e k2) (.slice a3 e k3) (y.all.take e) (y.gone.take e) (y.may.take e)) u a from hk);dsimp only at hk;show(fun u w'=>fH w' W.heap.size wb d lb' (mo:Int) ve YD (.slice a1 l1 k1) (.slice a2 l2 k2) (.slice a3 l3 k3) (.slice a1 e k1) (.slice a2 e k2) (.slice a3 e k3) (y.all.take e) (y.gone.take e) (y.may.take e)) u b;dsimp only;exact hk.still hR
         |1,hk=>
          have hk:=(show(fun u w'=>fH w' W.heap.size wb d lb' (mo:Int) ve YD (.slice a1 e k1) (.slice a2 l2 k2) (.slice a3 l3 k3) (.slice a1 e k1) (.slice a2 e k2) (.slice a3 e k3) (y.all.take e) (y.gone.take e) (y.may.take e)) u a from hk);dsimp only at hk;show(fun u w'=>fH w' W.heap.size wb d lb' (mo:Int) ve YD (.slice a1 e k1) (.slice a2 l2 k2) (.slice a3 l3 k3) (.slice a1 e k1) (.slice a2 e k2) (.slice a3 e k3) (y.all.take e) (y.gone.take e) (y.may.take e)) u b;dsimp only;exact hk.still hR
         |2,hk=>
          have hk:=(show(fun u w'=>fH w' W.heap.size wb d lb' (mo:Int) ve YD (.slice a1 e k1) (.slice a2 e k2) (.slice a3 l3 k3) (.slice a1 e k1) (.slice a2 e k2) (.slice a3 e k3) (y.all.take e) (y.gone.take e) (y.may.take e)) u a from hk);dsimp only at hk;show(fun u w'=>fH w' W.heap.size wb d lb' (mo:Int) ve YD (.slice a1 e k1) (.slice a2 e k2) (.slice a3 l3 k3) (.slice a1 e k1) (.slice a2 e k2) (.slice a3 e k3) (y.all.take e) (y.gone.take e) (y.may.take e)) u b;dsimp only;exact hk.still hR
         |_+3,hk=>
          have hk:=(show(fun u w'=>fH w' W.heap.size wb d lb' (mo:Int) ve YD (.slice a1 e k1) (.slice a2 e k2) (.slice a3 e k3) (.slice a1 e k1) (.slice a2 e k2) (.slice a3 e k3) (y.all.take e) (y.gone.take e) (y.may.take e)) u a from hk);dsimp only at hk;show(fun u w'=>fH w' W.heap.size wb d lb' (mo:Int) ve YD (.slice a1 e k1) (.slice a2 e k2) (.slice a3 e k3) (.slice a1 e k1) (.slice a2 e k2) (.slice a3 e k3) (y.all.take e) (y.gone.take e) (y.may.take e)) u b;dsimp only;exact hk.still hR
        ·intro k u i9 y9 w9 hn hk
         match k,hn,hk with
         |0,hn,hk=>
          have hk:=(show(fun u w'=>fH w' W.heap.size wb d lb' (mo:Int) ve YD (.slice a1 l1 k1) (.slice a2 l2 k2) (.slice a3 l3 k3) (.slice a1 e k1) (.slice a2 e k2) (.slice a3 e k3) (y.all.take e) (y.gone.take e) (y.may.take e)) u w9 from hk);dsimp only at hk;show(fun u w'=>fH w' W.heap.size wb d lb' (mo:Int) ve YD (.slice a1 l1 k1) (.slice a2 l2 k2) (.slice a3 l3 k3) (.slice a1 e k1) (.slice a2 e k2) (.slice a3 e k3) (y.all.take e) (y.gone.take e) (y.may.take e)) (upd u i9 y9) w9;dsimp only;exact hk
         |1,hn,hk=>
          have e23:upd u i9 y9 23=u 23:=upd_ne (fun h=>hn 0 (by omega) (by rw[←h];rfl));have hk:=(show(fun u w'=>fH w' W.heap.size wb d lb' (mo:Int) ve YD (.slice a1 e k1) (.slice a2 l2 k2) (.slice a3 l3 k3) (.slice a1 e k1) (.slice a2 e k2) (.slice a3 e k3) (y.all.take e) (y.gone.take e) (y.may.take e)) u w9 from hk);dsimp only at hk;show(fun u w'=>fH w' W.heap.size wb d lb' (mo:Int) ve YD (.slice a1 e k1) (.slice a2 l2 k2) (.slice a3 l3 k3) (.slice a1 e k1) (.slice a2 e k2) (.slice a3 e k3) (y.all.take e) (y.gone.take e) (y.may.take e)) (upd u i9 y9) w9;dsimp only;try simp only[e23]
          exact hk
         |2,hn,hk=>
          have e23:upd u i9 y9 23=u 23:=upd_ne (fun h=>hn 0 (by omega) (by rw[←h];rfl));have e26:upd u i9 y9 26=u 26:=upd_ne (fun h=>hn 1 (by omega) (by rw[←h];rfl));have hk:=(show(fun u w'=>fH w' W.heap.size wb d lb' (mo:Int) ve YD (.slice a1 e k1) (.slice a2 e k2) (.slice a3 l3 k3) (.slice a1 e k1) (.slice a2 e k2) (.slice a3 e k3) (y.all.take e) (y.gone.take e) (y.may.take e)) u w9 from hk);dsimp only at hk;show(fun u w'=>fH w' W.heap.size wb d lb' (mo:Int) ve YD (.slice a1 e k1) (.slice a2 e k2) (.slice a3 l3 k3) (.slice a1 e k1) (.slice a2 e k2) (.slice a3 e k3) (y.all.take e) (y.gone.take e) (y.may.take e)) (upd u i9 y9) w9;dsimp only;try simp only[e23,e26]
          exact hk
         |_+3,hn,hk=>
          have e23:upd u i9 y9 23=u 23:=upd_ne (fun h=>hn 0 (by omega) (by rw[←h];rfl));have e26:upd u i9 y9 26=u 26:=upd_ne (fun h=>hn 1 (by omega) (by rw[←h];rfl));have e29:upd u i9 y9 29=u 29:=upd_ne (fun h=>hn 2 (by omega) (by rw[←h];rfl));have hk:=(show(fun u w'=>fH w' W.heap.size wb d lb' (mo:Int) ve YD (.slice a1 e k1) (.slice a2 e k2) (.slice a3 e k3) (.slice a1 e k1) (.slice a2 e k2) (.slice a3 e k3) (y.all.take e) (y.gone.take e) (y.may.take e)) u w9 from hk);dsimp only at hk;show(fun u w'=>fH w' W.heap.size wb d lb' (mo:Int) ve YD (.slice a1 e k1) (.slice a2 e k2) (.slice a3 e k3) (.slice a1 e k1) (.slice a2 e k2) (.slice a3 e k3) (y.all.take e) (y.gone.take e) (y.may.take e)) (upd u i9 y9) w9;dsimp only;try simp only[e23,e26,e29]
          exact hk
        ·intro u
         show(fun u w'=>fH w' W.heap.size wb d lb' (mo:Int) ve YD (.slice a1 l1 k1) (.slice a2 l2 k2) (.slice a3 l3 k3) (.slice a1 e k1) (.slice a2 e k2) (.slice a3 e k3) (y.all.take e) (y.gone.take e) (y.may.take e)) u _;dsimp only;exact HRW.out.still ((Turn.refl [] _).drew)
        apply Lo.r0 1 rfl 0 (by intro u;conv=>lhs;whnf) rfl
        ·intro a w1 hR e0 K hK
         go_simp
         exact hK _ rfl
        apply Lo.r0 2 rfl 0 (by intro u;conv=>lhs;whnf) rfl
        ·intro a w1 hR e0 K hK
         go_simp
         exact hK _ rfl
        apply Lo.r0 3 rfl 0 (by intro u;conv=>lhs;whnf) rfl
        ·intro a w1 hR e0 K hK
         go_simp
         exact hK _ rfl
        apply Lo.r0 4 rfl 0 (by intro u;conv=>lhs;whnf) rfl
        ·intro a w1 hR e0 K hK
         go_simp
         exact hK _ rfl
        apply Lo.r1 5 rfl 133 3 (fun _=>rfl) rfl (by kernel_rfl)
        ·intro a w1 hR e133 K hK
         go_simp
         exact hK _ rfl
        apply Lo.r1 6 rfl 134 4 (fun _=>rfl) rfl (by kernel_rfl)
        ·intro a w1 hR e134 K hK
         go_simp
         exact hK _ rfl
        refine Lo.OE 7 rfl rfl 0 (by kernel_rfl) [5] (.slice a1 l1 k1) (by kernel_rfl) (fun u w1 hR hP hF=>?_) (Turn.refl _) ?_
        ·obtain⟨h5, -⟩:=hF
         have hP:(fun u w'=>fH w' W.heap.size wb d lb' (mo:Int) ve YD (.slice a1 l1 k1) (.slice a2 l2 k2) (.slice a3 l3 k3) (.slice a1 e k1) (.slice a2 e k2) (.slice a3 e k3) (y.all.take e) (y.gone.take e) (y.may.take e)) u w1:=by
          obtain⟨k,hk,hP⟩:=hP;match k,hk,hP with
          |0,_,hP=>exact hP
          |k+1,hk,_=>exact absurd hk (by omega)
         dsimp only at hP;refine⟨rfl,fun a ha K hK=>?_⟩;have e135:=(ha 135).trans h5;clear ha h5;obtain⟨q3, -, -,qz, -⟩:=hP.cells;go_simp
         exact hK _ rfl
        apply Lo.r0 8 rfl 8 (by intro u;conv=>lhs;whnf) rfl
        ·intro a w1 hR e8 K hK
         go_simp
         exact hK _ rfl
        refine Lo.df 9 rfl rfl [6,7] (.slice a1 e k1) (by kernel_rfl) (fun u w1 hR hF=>?_) (Turn.refl _) ?_
        ·obtain⟨h6,h7, -⟩:=hF
         refine⟨rfl,fun a ha K hK=>?_⟩;have e136:=(ha 136).trans h6;have e137:=(ha 137).trans h7;clear ha h6 h7;have hr:=HR1.out;go_simp
         exact hK _ rfl
        apply Lo.r0 10 rfl 0 (by intro u;conv=>lhs;whnf) rfl
        ·intro a w1 hR e0 K hK
         go_simp
         exact hK _ rfl
        apply Lo.r1 11 rfl 139 9 (fun _=>rfl) rfl (by kernel_rfl)
        ·intro a w1 hR e139 K hK
         go_simp
         exact hK _ rfl
        apply Lo.r1 12 rfl 140 10 (fun _=>rfl) rfl (by kernel_rfl)
        ·intro a w1 hR e140 K hK
         go_simp
         exact hK _ rfl
        refine Lo.OE 13 rfl rfl 0 (by kernel_rfl) [11] (.slice a2 l2 k2) (by kernel_rfl) (fun u w1 hR hP hF=>?_) (Turn.refl _) ?_
        ·obtain⟨h11, -⟩:=hF
         have hP:(fun u w'=>fH w' W.heap.size wb d lb' (mo:Int) ve YD (.slice a1 l1 k1) (.slice a2 l2 k2) (.slice a3 l3 k3) (.slice a1 e k1) (.slice a2 e k2) (.slice a3 e k3) (y.all.take e) (y.gone.take e) (y.may.take e)) u w1:=by
          obtain⟨k,hk,hP⟩:=hP;match k,hk,hP with
          |0,_,hP=>exact hP
          |k+1,hk,_=>exact absurd hk (by omega)
         dsimp only at hP;refine⟨rfl,fun a ha K hK=>?_⟩;have e141:=(ha 141).trans h11;clear ha h11;obtain⟨-,q3, -,qz, -⟩:=hP.cells;go_simp
         exact hK _ rfl
        apply Lo.r0 14 rfl 8 (by intro u;conv=>lhs;whnf) rfl
        ·intro a w1 hR e8 K hK
         go_simp
         exact hK _ rfl
        refine Lo.df 15 rfl rfl [12,13] (.slice a2 e k2) (by kernel_rfl) (fun u w1 hR hF=>?_) (Turn.refl _) ?_
        ·obtain⟨h12,h13, -⟩:=hF
         refine⟨rfl,fun a ha K hK=>?_⟩;have e142:=(ha 142).trans h12;have e143:=(ha 143).trans h13;clear ha h12 h13;have hr:=HR2.out;go_simp
         exact hK _ rfl
        apply Lo.r0 16 rfl 0 (by intro u;conv=>lhs;whnf) rfl
        ·intro a w1 hR e0 K hK
         go_simp
         exact hK _ rfl
        apply Lo.r1 17 rfl 145 15 (fun _=>rfl) rfl (by kernel_rfl)
        ·intro a w1 hR e145 K hK
         go_simp
         exact hK _ rfl
        apply Lo.r1 18 rfl 146 16 (fun _=>rfl) rfl (by kernel_rfl)
        ·intro a w1 hR e146 K hK
         go_simp
         exact hK _ rfl
        refine Lo.OE 19 rfl rfl 0 (by kernel_rfl) [17] (.slice a3 l3 k3) (by kernel_rfl) (fun u w1 hR hP hF=>?_) (Turn.refl _) ?_
        ·obtain⟨h17, -⟩:=hF
         have hP:(fun u w'=>fH w' W.heap.size wb d lb' (mo:Int) ve YD (.slice a1 l1 k1) (.slice a2 l2 k2) (.slice a3 l3 k3) (.slice a1 e k1) (.slice a2 e k2) (.slice a3 e k3) (y.all.take e) (y.gone.take e) (y.may.take e)) u w1:=by
          obtain⟨k,hk,hP⟩:=hP;match k,hk,hP with
          |0,_,hP=>exact hP
          |k+1,hk,_=>exact absurd hk (by omega)
         dsimp only at hP;refine⟨rfl,fun a ha K hK=>?_⟩;have e147:=(ha 147).trans h17;clear ha h17;obtain⟨-, -,q3,qz, -⟩:=hP.cells;go_simp
         exact hK _ rfl
        apply Lo.r0 20 rfl 8 (by intro u;conv=>lhs;whnf) rfl
        ·intro a w1 hR e8 K hK
         go_simp
         exact hK _ rfl
        refine Lo.df 21 rfl rfl [18,19] (.slice a3 e k3) (by kernel_rfl) (fun u w1 hR hF=>?_) (Turn.refl _) ?_
        ·obtain⟨h18,h19, -⟩:=hF
         refine⟨rfl,fun a ha K hK=>?_⟩;have e148:=(ha 148).trans h18;have e149:=(ha 149).trans h19;clear ha h18 h19;have hr:=HR3.out;go_simp
         exact hK _ rfl
        apply Lo.r1 22 rfl 130 0 (fun _=>rfl) rfl (by kernel_rfl)
        ·intro a w1 hR e130 K hK
         go_simp
         exact hK _ rfl
        apply Lo.r1 23 rfl 151 21 (fun _=>rfl) rfl (by kernel_rfl)
        ·intro a w1 hR e151 K hK
         go_simp
         exact hK _ rfl
        refine Lo.je 24 rfl 0 rfl [22,8] (fun x w'=>0≤w'.heap.size) (by kernel_rfl) (fun x w w' h hR=>?_) (.inr (fun x w w' h hR=>by exact Nat.zero_le _)) (fun u w1 hR hS hF=>?_) ?_
        ·exact Nat.zero_le _
        ·obtain⟨h22,h8, -⟩:=hF
         have hS:=(show(fun u w'=>fH w' W.heap.size wb d lb' (mo:Int) ve YD (.slice a1 l1 k1) (.slice a2 l2 k2) (.slice a3 l3 k3) (.slice a1 e k1) (.slice a2 e k2) (.slice a3 e k3) (y.all.take e) (y.gone.take e) (y.may.take e)) u w1 from hS);dsimp only at hS;refine⟨rfl,fun a ha K hK=>?_⟩;have e152:=(ha 152).trans h22;have e138:=(ha 138).trans h8;clear ha h22 h8;obtain⟨q3,q4,q5,qz,f3,f4,f5⟩:=hS.cells;obtain⟨aa4,htp⟩:=hS.put (i:=3) (x:=(.slice a1 e k1)) rfl;have xN:=hide aa4;have HTP:=hide htp;clear aa4 htp hS;go_simp
         exact hK undef _ (Nat.zero_le _) HTP.out xN.out
        apply Lo.r1 25 rfl 131 1 (fun _=>rfl) rfl (by kernel_rfl)
        ·intro a w1 hR e131 K hK
         go_simp
         exact hK _ rfl
        apply Lo.r1 26 rfl 153 24 (fun _=>rfl) rfl (by kernel_rfl)
        ·intro a w1 hR e153 K hK
         go_simp
         exact hK _ rfl
        refine Lo.je 27 rfl 1 rfl [25,14] (fun x w'=>0≤w'.heap.size) (by kernel_rfl) (fun x w w' h hR=>?_) (.inr (fun x w w' h hR=>by exact Nat.zero_le _)) (fun u w1 hR hS hF=>?_) ?_
        ·exact Nat.zero_le _
        ·obtain⟨h25,h14, -⟩:=hF
         have hS:=(show(fun u w'=>fH w' W.heap.size wb d lb' (mo:Int) ve YD (.slice a1 e k1) (.slice a2 l2 k2) (.slice a3 l3 k3) (.slice a1 e k1) (.slice a2 e k2) (.slice a3 e k3) (y.all.take e) (y.gone.take e) (y.may.take e)) u w1 from hS);dsimp only at hS;refine⟨rfl,fun a ha K hK=>?_⟩;have e154:=(ha 154).trans h25;have e144:=(ha 144).trans h14;clear ha h25 h14;obtain⟨q3,q4,q5,qz,f3,f4,f5⟩:=hS.cells;obtain⟨aa4,htp⟩:=hS.put (i:=4) (x:=(.slice a2 e k2)) rfl;have xN:=hide aa4;have HTP:=hide htp;clear aa4 htp hS;go_simp
         exact hK undef _ (Nat.zero_le _) HTP.out xN.out
        apply Lo.r1 28 rfl 132 2 (fun _=>rfl) rfl (by kernel_rfl)
        ·intro a w1 hR e132 K hK
         go_simp
         exact hK _ rfl
        apply Lo.r1 29 rfl 155 27 (fun _=>rfl) rfl (by kernel_rfl)
        ·intro a w1 hR e155 K hK
         go_simp
         exact hK _ rfl
        refine Lo.je 30 rfl 2 rfl [28,20] (fun x w'=>0≤w'.heap.size) (by kernel_rfl) (fun x w w' h hR=>?_) (.inr (fun x w w' h hR=>by exact Nat.zero_le _)) (fun u w1 hR hS hF=>?_) ?_
        ·exact Nat.zero_le _
        ·obtain⟨h28,h20, -⟩:=hF
         have hS:=(show(fun u w'=>fH w' W.heap.size wb d lb' (mo:Int) ve YD (.slice a1 e k1) (.slice a2 e k2) (.slice a3 l3 k3) (.slice a1 e k1) (.slice a2 e k2) (.slice a3 e k3) (y.all.take e) (y.gone.take e) (y.may.take e)) u w1 from hS);dsimp only at hS;refine⟨rfl,fun a ha K hK=>?_⟩;have e156:=(ha 156).trans h28;have e150:=(ha 150).trans h20;clear ha h28 h20;obtain⟨q3,q4,q5,qz,f3,f4,f5⟩:=hS.cells;obtain⟨aa4,htp⟩:=hS.put (i:=5) (x:=(.slice a3 e k3)) rfl;have xN:=hide aa4;have HTP:=hide htp;clear aa4 htp hS;go_simp
         exact hK undef _ (Nat.zero_le _) HTP.out xN.out
        refine Lo.done [0] (fun u w1 bI hSd hF=>?_);have hSd:=(show(fun u w'=>fH w' W.heap.size wb d lb' (mo:Int) ve YD (.slice a1 e k1) (.slice a2 e k2) (.slice a3 e k3) (.slice a1 e k1) (.slice a2 e k2) (.slice a3 e k3) (y.all.take e) (y.gone.take e) (y.may.take e)) u w1 from hSd);dsimp only at hSd;obtain⟨f0, -⟩:=hF;have d0:u 0=_:=f0;clear f0;simp only[List.take_succ_cons,List.take_zero,List.drop_succ_cons,List.drop_zero,ax,Act.put,List.setIfInBounds_toArray,List.set_cons_succ,List.set_cons_zero,Nat.zero_add,Nat.reduceAdd,d0];have ht1:Turn [wb] wc w1:=bI.dr;have ajI:=hSd.law ahS.out (ht1.mono (fun z hz=> .inl (by rw[List.mem_singleton.1 hz];exact List.mem_cons_self)));have TR:wb∈jg wb va vg vm ve:=bV.2 (.inl rfl);have ajJ:=ajH.out.kept ht1 (fun z hz hm=>ahS.out.apart ajH.out wb TR (by rw[←List.mem_singleton.1 hm];exact hz));have amA:=amy.out.trans ht1 (fun z hz=> .inr (by rw[List.mem_singleton.1 hz];exact ahS.out.low));have hlk:=Gh (X:=[]) (js:=mm.2.length) (n:=e) (dn:=true) ajJ (by rw[HK7.out.1,HK7.out.2.1];exact HK7.out.2.2) (by have:=J7.out.nn;omega) (by omega) (by rw[HK7.out.1,HK7.out.2.1];show(h0:Int)=_;rw[HH0.out]) ajI (by rw[HK7.out.1,HK7.out.2.1];exact J7.out.recs);rw[HK7.out.1,HK7.out.2.1]at hlk;have Ve:=hide hlk;have ahT:=hide ajI;have ahU:=hide ajJ;have ajK:=hide amA;obtain⟨w11,TS⟩:∃w11,w11=w1:=⟨_,rfl⟩;rw[←TS]at Ve ahT ahU ajK;rw[←TS];clear ht1 ajI TR ajJ amA hlk bI hSd TS d0 ahS ajH amy HRW;go_wp2_with fail
        refine Ve.out.mono ?_;rintro e9 w12 ⟨g,rfl,ahc,hgl,hgk,agJ⟩;have amB:=ahU.out.kept agJ (fun z hz hm=>ahT.out.apart ahU.out z (bV.2 (.inr (.inr (.inl (by simpa using hm))))) hz);have amC:=ajK.out.trans agJ (fun z hz=> .inr (ahT.out.ge z (bV.2 (.inr (.inr (.inl (by simpa using hz)))))));obtain⟨c0,c1,c2,c3,c4,c5,c6,c7,c8,c9,cz⟩:=ahc.cells;have f6:=ahc.frozen 6;have f7:=ahc.frozen 7;have ajL:=hide ahc;have amD:=hide amB;have adQ:=hide amC;have HGK:=hide (And.intro hgl hgk);clear ahc amB amC hgl hgk agJ Ve ahT ahU ajK c0 c1 c2 c3 c4 c5 c8 c9;go_upto_region 25 with fail
        obtain⟨afi,ae6⟩:=ajL.out.Vj e;have ahd:=amD.out.kept ae6 (fun z hz hm=>ajL.out.apart amD.out wb (bV.2 (.inl rfl)) (by rw[←List.mem_singleton.1 hm];exact hz));have ajM:=adQ.out.trans ae6 (fun z hz=> .inr (by rw[List.mem_singleton.1 hz];exact ajL.out.low));obtain⟨w13,TT⟩:∃w13,w13=((w12.setCell ⟨wb,6,none⟩ (.slice (some ⟨w12.heap.size,0,none⟩) 1 1)).setCell ⟨wb,7,none⟩ (.int .i64 (e:Int))).alloc (.cells #[.int .i64 (e:Int)] 3):=⟨_,rfl⟩;rw[←TT]at afi ahd ajM;rw[←TT];obtain⟨c0,c1,c2,c3,c4,c5,c6',c7',c8,c9,cz'⟩:=afi.cells;have f8:=afi.frozen 8;have aiy:=qE w13 _ d F6 _ lb' gv6 aX _ _ ahd;have amE:=afi.put (i:=8) (u:= .int .i64 (h0:Int)) (lb':=lb') (y':=⟨y.all.take e,g,y.may.take e,[e],(e:Int),(h0:Int),false⟩) (by rw[show YD.down=false from by rw[HYD.out]];rfl) rfl rfl rfl rfl;have ajN:Turn [wb] w13 (w13.setCell ⟨wb,8,none⟩ (.int .i64 (h0:Int))):=(Turn.refl _ _).setCell (.inl (by simp)) _;have amF:=ahd.kept ajN (fun z hz hm=>afi.apart ahd wb (bV.2 (.inl rfl)) (by rw[←List.mem_singleton.1 hm];exact hz));have amG:=ajM.trans ajN (fun z hz=> .inr (by rw[List.mem_singleton.1 hz];exact afi.low));have hcm:kF (A5.rO (-1)) ⟨mo,(h0:Int),(e:Int),false⟩ ss0 mm mm.2.length e (i+1) mo [] ⟨y.all.take e,g,y.may.take e,[e],(e:Int),(h0:Int),false⟩:=by
         refine(J7.out.done (sf:=0) (v:=⟨mo,(h0:Int),(e:Int),false⟩) (gone':=g) HK7.out.2.2 rfl rfl rfl HGK.out.1 (fun z=>?_)).more;have hk:=HGK.out.2 z;rw[hk];unfold JZ;constructor
         ·rintro(h|⟨h1,h2,h3⟩)
          ·exact .inl h
          ·exact .inr ⟨h1,h3⟩
         ·rintro(h|⟨h1,r,h3,h4⟩)
          ·exact .inl h
          ·have:=(List.getElem?_eq_some_iff.1 h3).1
           rw[List.length_take]at this;exact .inr ⟨h1,by omega,r,h3,h4⟩
        have aar:Oq W (w13.setCell ⟨wb,8,none⟩ (.int .i64 (h0:Int))) d wb mo (i+1):=⟨lb',F6,A5.rO (-1),gv6,⟨mo,(h0:Int),(e:Int),false⟩,ms60,q6,[],⟨y.all.take e,g,y.may.take e,[e],(e:Int),(h0:Int),false⟩,_,_,_,_,mm.2.length,e,amF,amE,by rw[HK7.out.1,HK7.out.2.1];exact hcm,amG,by rw[HK7.out.1,HK7.out.2.1,←HH0.out]⟩;have jK:=hide aar;have HST:=hide aiy;clear afi ae6 ahd ajM TT amE ajN amF amG hcm aar aiy c0 c2 c3 c4 c5 c6 c7 c6' c7' c9 f6 f7 cz;go_wp2_with fail
        refine HST.out.mono ?_;rintro e9 w14 ⟨rfl,rfl⟩;go_wp2
        go_ret
        exact⟨rfl,jK.out⟩
end
end Lg
end
section
open Go.RowKit Go.Maps
namespace Lg
structure Kr where
 what:Int
 a:Int
 b:Int
 ra:Option Addr
 rc:Nat
 recs:List Bt.Rec
 fa:Option Addr
 fc:Nat
 tV:List UInt8
def Kr.rv(x:Kr):Value:= .slice x.ra x.recs.length x.rc
def Kr.fv(x:Kr):Value:= .slice x.fa x.tV.length x.fc
def stL(x:Kr):List Value:=[.int .i64 x.what, .int .i64 x.a, .int .i64 x.b,x.rv,x.fv]
def xg(w:World)(v:Value)(ds:List Kr):Prop:=
 ∃a c,v= .slice a ds.length c∧ds.length≤c∧c≤maxLen∧(∀j (h:j<ds.length),(bF w ds[j].rv ds[j].recs∧BytesAt w ds[j].fv ds[j].tV)∧∃p,a=some p∧∀i u,(stL ds[j])[i]? =some u→w.cell? ((p.add (j*5)).add i)=some u)
theorem xg.still{w w':World}{v:Value}{ds:List Kr}(h:xg w v ds)(ht:Turn [] w w'):xg w' v ds:=by
 obtain⟨a,c,rfl,h1,h2,h4⟩:=h;refine⟨a,c,rfl,h1,h2,fun j hj=>?_⟩;obtain⟨⟨h5,hb⟩,p,rfl,hc⟩:=h4 j hj;refine⟨⟨h5.still ht,hb.still ht⟩,p,rfl,fun i u hu=>?_⟩;have hlt:=World.block_lt_of_cell? w _ (hc i u hu);rw[World.cell?_of_block (w:=w) (ht.block _ hlt (by simp)),hc i u hu]
theorem xg.five{w:World}{a:Option Addr}{l c:Nat}{ds:List Kr}(h:xg w (.slice a l c) ds){j:Nat}(hj:j<ds.length):
 ∃p,a=some p∧bF w ds[j].rv ds[j].recs∧BytesAt w ds[j].fv ds[j].tV∧w.cell? (p.add (j*5))=some (.int .i64 ds[j].what)∧w.cell? ⟨(p.add (j*5)).block,(p.add (j*5)).off+1,none⟩=some (.int .i64 ds[j].a)∧w.cell? ⟨(p.add (j*5)).block,(p.add (j*5)).off+2,none⟩=some (.int .i64 ds[j].b)∧w.cell? ⟨(p.add (j*5)).block,(p.add (j*5)).off+3,none⟩=some ds[j].rv∧w.cell? ⟨(p.add (j*5)).block,(p.add (j*5)).off+4,none⟩=some ds[j].fv:=by
 obtain⟨a',c',e,h1,h2,h4⟩:=h;simp only[Value.slice.injEq]at e;obtain⟨rfl,rfl,rfl⟩:=e;obtain⟨⟨h5,hb⟩,p,rfl,hc⟩:=h4 j hj;refine⟨p,rfl,h5,hb,?_,hc 1 _ rfl,hc 2 _ rfl,hc 3 _ rfl,hc 4 _ rfl⟩;have:=hc 0 _ rfl;rwa [add_zero]at this
theorem V3{α:Type}{cs:List α}(h:cs.length=5):∃c0 c1 c2 c3 c4,cs=[c0,c1,c2,c3,c4]:=by
 match cs,h with
 |[c0,c1,c2,c3,c4],_=>exact⟨_,_,_,_,_,rfl⟩
theorem TU:Tryz.prog.underlying 41=some (.struct (((Tryz.prog.underlying 41).bind fun d=>match d with| .struct fs=>some fs|_=>none).getD #[])):=by kernel_rfl
theorem J8:((((Tryz.prog.underlying 41).bind fun d=>match d with| .struct fs=>some fs|_=>none).getD #[]).toList.map fun f=>(f.type,f.offset,Tryz.prog.cellsOf f.type))=[(3,0,1),(3,1,1),(3,2,1),(34,3,1),(39,4,1)]:=by kernel_rfl
theorem Ot:Tryz.prog.cellsOf 41=5:=by kernel_rfl
variable {H:Type} {enc:TypeId×Value→H} {base:Nat} {spare:Nat→Bool} {acV:Bool}
theorem Vl:Tryz.prog.cellsOf 5=1:=by kernel_rfl
theorem J9{w:World}{n:Nat}{v:Value}{x:DataW H×List MemPlace}(h:DataW.trod enc Tryz.prog w base spare acV n 39 [v]=some x):∃bs,BytesAt w v bs:=by
 rcases Deep.open_slice Tryz.underlying39 h with⟨hcs, -⟩|⟨a,len,cap,m,k,D,Pl,hcs, -,h1,h2,h3, -,h4⟩
 ·simp only[List.cons.injEq,and_true]at hcs
  rw[hcs];exact⟨[],none,0,rfl,Nat.le_refl _,Nat.zero_le _,fun _=>rfl,fun j hj=>absurd hj (Nat.not_lt_zero _)⟩
 ·simp only[List.cons.injEq,and_true]at hcs
  rw[hcs];have hlm:len≤m:=by rw[h3];split<;>omega
  rw[Vl]at h4;have hr:∀i,i<len→∃x:UInt8,w.cell? (a.add i)=some (ah x):=by
   intro i hi;obtain⟨cs',g1,g2⟩:=h4 i (by omega);obtain⟨z,rfl, -,hw⟩:=DataW.trod_int Tryz.underlying5 g2;obtain⟨-, -,g3⟩:=World.cells?_some g1;have:=g3 0 (by omega);simp only[Lit.wf,IntKind.min,IntKind.max,IntKind.signed,IntKind.bits,Bool.and_eq_true,decide_eq_true_eq]at hw;have w1:=hw.1;have w2:=hw.2;simp at w1 w2;refine⟨UInt8.ofNat z.toNat,?_⟩;rw[add_add,Nat.mul_one,Nat.add_zero]at this;rw[this];simp[ah];omega
  let bs:List UInt8:=(List.range len).attach.map fun i=>(hr i.1 (List.mem_range.1 i.2)).choose
  have hl:bs.length=len:=by simp[bs]
  refine⟨bs,some a,cap,by rw[hl],by rw[hl];exact h1,h2,by simp,fun j hj=>?_⟩;have hj':j<len:=by omega
  have e:bs[j]=(hr j hj').choose:=by simp[bs]
  rw[e];exact⟨a,rfl,(hr j hj').choose_spec⟩
theorem Vm{w:World}{n:Nat}{cs:List Value}{x:DataW H×List MemPlace}(h:DataW.trod enc Tryz.prog w base spare acV n 41 cs=some x):∃r,cs=stL r∧bF w r.rv r.recs∧BytesAt w r.fv r.tV:=by
 obtain⟨xs,m, -, -,aah,hl,hf⟩:=DataW.trod_struct TU h;rw[Ot]at aah;have hfs:=J8;generalize (((Tryz.prog.underlying 41).bind fun d=>match d with| .struct fs=>some fs|_=>none).getD #[])=fs at*
 have hxs:xs.length=5:=by
  rw[hl];have:=congrArg List.length hfs;simpa using this
 obtain⟨c0,c1,c2,c3,c4,rfl⟩:=V3 aah;obtain⟨y0,y1,y2,y3,y4,rfl⟩:=V3 hxs;have one:∀(i t o:Nat) (y:DataW H×List MemPlace),[(3,0,1),(3,1,1),(3,2,1),(34,3,1),(39,4,1)][i]? =some (t,o,1)→[y0,y1,y2,y3,y4][i]? =some y→
  DataW.trod enc Tryz.prog w base spare acV m t (([c0,c1,c2,c3,c4].drop o).take 1)=some y:=by
  intro i t o y hi hy;obtain⟨f,h1,h2,h3,h4⟩:=Iq hfs hi;have:=hf i f h1;rw[h4,h2,h3,hy]at this;exact this
 obtain⟨n0,e0, -, -⟩:=DataW.trod_int Tryz.underlying3 (one 0 _ _ y0 rfl rfl);obtain⟨n1,e1, -, -⟩:=DataW.trod_int Tryz.underlying3 (one 1 _ _ y1 rfl rfl);obtain⟨n2,e2, -, -⟩:=DataW.trod_int Tryz.underlying3 (one 2 _ _ y2 rfl rfl);obtain⟨rs,hrs⟩:=Oz (one 3 _ _ y3 rfl rfl);obtain⟨bs,hbs⟩:=J9 (one 4 _ _ y4 rfl rfl);obtain⟨ra,rc,hr3, -⟩:=hrs.form;obtain⟨ba,bc,hb3, -, -, -⟩:=hbs.form;simp only[List.drop_succ_cons,List.drop_zero,List.take_succ_cons,List.take_zero,List.cons.injEq,and_true]at e0 e1 e2;subst e0;subst e1;subst e2;subst hr3;subst hb3;exact⟨⟨n0,n1,n2,ra,rc,rs,ba,bc,bs⟩,rfl,hrs,hbs⟩
theorem open_sts{w:World}{r:Reach}{b0:Nat}{v:Value}{d:DataW H}{ps:List MemPlace}(hv:Value.okWide Tryz.prog w r b0 22 v)(h:DataW.Trod enc Tryz.prog w base spare acV 22 v d ps):∃ds,xg w v ds:=by
 obtain⟨a',len',cap',rfl⟩:=WideShapes.okWide_slice Tryz.underlying22 hv;obtain⟨n,h⟩:=h;simp only[Value.cells]at h;rcases Deep.open_slice Tryz.underlying22 h with⟨hcs, -⟩|⟨a,len,cap,m,k,D,Pl,hcs, -,h1,h2,h3, -,h4⟩
 ·simp only[List.cons.injEq,and_true]at hcs
  rw[hcs];exact⟨[],none,0,rfl,Nat.le_refl _,Nat.zero_le _,fun j hj=>absurd hj (Nat.not_lt_zero _)⟩
 ·simp only[List.cons.injEq,and_true]at hcs
  rw[hcs];have hlm:len≤m:=by rw[h3];split<;>omega
  rw[Ot]at h4;have hr:∀i,i<len→∃r,(bF w (Kr.rv r) r.recs∧BytesAt w r.fv r.tV)∧∀j u,(stL r)[j]? =some u→w.cell? ((a.add (i*5)).add j)=some u:=by
   intro i hi;obtain⟨cs',g1,g2⟩:=h4 i (by omega);obtain⟨r,rfl,hok,hb⟩:=Vm g2;obtain⟨-, -,g3⟩:=World.cells?_some g1;refine⟨r,⟨hok,hb⟩,fun j u hu=>?_⟩;have hj:j<5:=by have:=(List.getElem?_eq_some_iff.1 hu).1;simpa[stL]using this
   rw[g3 j hj];exact hu
  let rs:List Kr:=(List.range len).attach.map fun i=>(hr i.1 (List.mem_range.1 i.2)).choose
  have hl:rs.length=len:=by simp[rs]
  refine⟨rs,some a,cap,by rw[hl],by rw[hl];exact h1,h2,fun j hj=>?_⟩;have hj':j<len:=by omega
  have e:rs[j]=(hr j hj').choose:=by simp[rs]
  rw[e];have hsp:=(hr j hj').choose_spec;exact⟨hsp.1,a,rfl,hsp.2⟩
end Lg
end
section
open Go.RowKit Go.Maps
set_option linter.unusedSectionVars false
attribute [local go_sem] Oper.semAt_some
open Dk (DA FA aj Parts dA aC bQ)
open Sg (aS aA dV Both Came ae flat Chain)
namespace Lg
theorem Ig{dir:ByteArray}{A A':DA}{t:Bool}{ss ss':List (Nat×List Bt.aB)}{c:Int}{L:List (List UInt8)}(hL:L=[])(h:jr dir A t ss L c A' ss'):c=0∧A'=A∧ss'=ss:=by
 cases h with
 |done=>exact⟨rfl,rfl,rfl⟩
 |_=>cases hL
theorem MZ{c:Int}{A3:DA}{ss:List (Nat×List Bt.aB)}(h:Ej aX (DA.empty 1048576) [] 0 c A3 ss):c=0∧ss=[(0,[])]∧eG A3 1048576 aX [] 0 0 [] (0,[]) 0:=by
 obtain⟨c1,A1,ss1,h1,h2⟩:=h;obtain⟨rfl,rfl,rfl⟩:=Ig rfl h1;have hf0:FS (DA.empty 1048576) 1048576 []:=⟨rfl,List.Perm.refl _,by simp⟩;obtain⟨m1,m2,m3⟩:=hf0.make (s:=Sn.nameB aX 0) rfl (by simp) (oU 0 (by omega)) (by simp);have hb:jw aX (DA.empty 1048576) 0 []=(0,((DA.empty 1048576).make (Sn.nameB aX 0)).2,[(0,[])]):=by
  unfold jw dX;rw[if_pos rfl,m1,if_pos rfl];rfl
 obtain⟨s1,s2,s3⟩:=m2.sync (PR (by rw[m3];rfl));rcases h2 with⟨h2, -⟩|⟨-,h2⟩
 ·exact absurd rfl h2
 ·rw[hb]at h2
  rcases h2 with⟨h2, -⟩|⟨-,rfl,m,hm,rfl,rfl⟩
  ·exact absurd rfl h2
  ·have hm0:m=(0,[]):=by simpa using hm.symm
   subst hm0;refine⟨s1,rfl,⟨?_,⟨by simp,by simp[Chain],by simp[af,Chain],by simp[ae],by simp[af],by simp,Nat.le_refl _,Nat.le_refl _,by simp,by simp⟩,Nat.le_refl _⟩⟩;exact s2
theorem Qp{A:DA}{mo:Nat}{st:Int}(h:eG A 1048576 aX [] 0 0 [] (0,[]) 0)(hst:st=0):kF A ⟨mo,st,0,false⟩ [] (0,[]) 0 0 0 mo [] ⟨[],[],[],[0],0,0,false⟩:=
 ⟨h,fun f hf=>by simp at hf,by simp,fun _=>rfl,gq.nil,fun e he=>by
   have h1:=uB he;have:e=0:=by omega
   simp[this],Int.le_refl _,fun e he=>by
   have h1:=uB he;show(0:Int)≤e;omega,rfl,rfl,by omega,by simp[af,flat],by simp[Dk.aH],by simp,by simp,fun r hr=>by simp at hr⟩
section
variable {W w:World} {d wb lb mo i n js:Nat} {va vg vm ve:Value} {y:LW} {F:List Nat} {A:DA} {gv:Value} {v:LV} {ms0:List SM} {m:SM} {X:List FA}
variable (hw:bY w W.heap.size wb d lb (mo:Int) va vg vm ve y) (hl:az w W.heap.size d F A lb gv aX v (ms0++[m])) (ht:Turn [] W w) (hc:kF A v (ms0.map SM.abs) m.abs js n i mo X y) (hi:i≤60) (hg:As.iq W) (sa sb:Int)
include hw hl ht hc hi hg
theorem X9(rv fv:Value):Calls Tryz.prog 9 #[.pointer (some ⟨wb,0,none⟩), .agg #[.int .i64 4, .int .i64 sa, .int .i64 sb,rv,fv]] w fun e w'=>e= .returned (.bool true)∧pY W w' d wb mo (i+1):=by
 have t1:Turn [] w (w.alloc (.cells (iZ 4 sa sb rv fv) 41)):=(Turn.refl _ _).alloc _;obtain⟨x0,x1,x2,x3,x4,xz⟩:=kV w 4 sa sb rv fv _ (Turn.refl _ _);have HW:=hide (hw.still t1);have HL:=hide (hl.still t1);have HT:=hide (ht.same t1);have HC:=hide hc;have HG:=hide hg;have HX:=hide (kV w 4 sa sb rv fv);clear hw hl ht hc hg t1;unfold iZ at*;go_enter Tryz.func9,Tryz.ntmps9
 go_wp2
 clear x0 x1 x2 x3 x4 xz;refine gU 7 [] (by kernel_rfl) rfl ?_;apply Lo.r0 1 rfl 0 (by intro u;conv=>lhs;whnf) rfl
 ·intro a w1 hR e0 K hK
  go_simp
  exact hK _ rfl
 apply Lo.r0 2 rfl 3 (by intro u;conv=>lhs;whnf) rfl
 ·intro a w1 hR e3 K hK
  go_simp
  exact hK _ rfl
 apply Lo.r1 3 rfl 119 1 (fun _=>rfl) rfl (by kernel_rfl)
 ·intro a w1 hR e119 K hK
  obtain⟨-,r1, -, -, -,rz⟩:=HX.out w1 hR.dr;go_simp
  exact hK _ rfl
 refine Lo.run 4 rfl rfl [2] (fun x w'=>∃p:Nat,p<1000∧x= .int .i64 (p:Int)) (by kernel_rfl) (fun x w w' h hR=>?_) (fun _ _ h=>h) (fun u w1 hR hF=>?_) ?_
 ·exact h
 ·obtain⟨h2, -⟩:=hF
  refine⟨rfl,fun a ha K hK=>?_⟩;have e120:=(ha 120).trans h2;clear ha h2;go_simp
  refine(jC sa 1000 (by omega) (by omega) w1).mono ?_;rintro e w2 ⟨⟨p,hp,rfl⟩,rfl⟩;exact hK _ _ ⟨p,hp,rfl⟩ (Turn.refl _ _)
 apply Lo.r0 5 rfl 3 (by intro u;conv=>lhs;whnf) rfl
 ·intro a w1 hR e3 K hK
  go_simp
  exact hK _ rfl
 apply Lo.r1 6 rfl 122 4 (fun _=>rfl) rfl (by kernel_rfl)
 ·intro a w1 hR e122 K hK
  obtain⟨-, -,r1, -, -,rz⟩:=HX.out w1 hR.dr;go_simp
  exact hK _ rfl
 refine Lo.run 7 rfl rfl [5] (fun x w'=>∃p:Nat,p<1000∧x= .int .i64 (p:Int)) (by kernel_rfl) (fun x w w' h hR=>?_) (fun _ _ h=>h) (fun u w1 hR hF=>?_) ?_
 ·exact h
 ·obtain⟨h5, -⟩:=hF
  refine⟨rfl,fun a ha K hK=>?_⟩;have e123:=(ha 123).trans h5;clear ha h5;go_simp
  refine(jC sb 1000 (by omega) (by omega) w1).mono ?_;rintro e w2 ⟨⟨p,hp,rfl⟩,rfl⟩;exact hK _ _ ⟨p,hp,rfl⟩ (Turn.refl _ _)
 refine Lo.done [0,3,6] (fun u w1 bI hSd hF=>?_);clear hSd;obtain⟨f0,f3,f6, -⟩:=hF;have d0:u 0=_:=f0;have d3:=(show(fun x w'=>∃p:Nat,p<1000∧x= .int .i64 (p:Int)) (u 3) w1 from f3);dsimp only at d3;have d6:=(show(fun x w'=>∃p:Nat,p<1000∧x= .int .i64 (p:Int)) (u 6) w1 from f6);dsimp only at d6;clear f0 f3 f6;simp only[List.take_succ_cons,List.take_zero,List.drop_succ_cons,List.drop_zero,ax,Act.put,List.setIfInBounds_toArray,List.set_cons_succ,List.set_cons_zero,Nat.zero_add,Nat.reduceAdd,d0];obtain⟨p,hp,e3⟩:=d3;obtain⟨q,hq,e6⟩:=d6;rw[e3,e6];have tr:Turn [] (w.alloc (.cells #[.int .i64 4, .int .i64 sa, .int .i64 sb,rv,fv] 41)) w1:=bI.dr;have hco:=Ie (HW.out.still tr) (HL.out.still tr) (HT.out.same tr) HC.out hi HG.out p q hp hq;have HCO:=hide hco;clear hco tr bI e3 e6;go_wp2_with fail
 refine HCO.out.mono ?_;rintro e w2 ⟨rfl,hcr⟩;have vT:=hide hcr;clear hcr;go_wp2
 go_ret
 exact⟨rfl,vT.out⟩
theorem Ya(Qw:Sn.qA W)(hm1:100≤mo)(hm2:mo≤1048576)(rv fv:Value)(fs:List UInt8)(hf:∀Z,Turn [] W Z→SliceAt Z fv (fs.map ah))(hfl:fs.length≤9223372036854775807)(TZ:∃a l c,rv= .slice a l c)(hfv:∃a l c,fv= .slice a l c):Calls Tryz.prog 9 #[.pointer (some ⟨wb,0,none⟩), .agg #[.int .i64 6, .int .i64 sa, .int .i64 sb,rv,fv]] w fun e w'=>e= .returned (.bool true)∧pY W w' d wb mo (i+1):=by
 obtain⟨ra,rl,rc,rfl⟩:=TZ;obtain⟨fa,fl,fc,rfl⟩:=hfv;have t1:Turn [] w (w.alloc (.cells (iZ 6 sa sb (.slice ra rl rc) (.slice fa fl fc)) 41)):=(Turn.refl _ _).alloc _;obtain⟨x0,x1,x2,x3,x4,xz⟩:=kV w 6 sa sb (.slice ra rl rc) (.slice fa fl fc) _ (Turn.refl _ _);have hcr:=zN (hw.still t1) (hl.still t1) (ht.same t1) hc hi hg Qw hm1 hm2 6 sa sb (.slice ra rl rc) (.slice fa fl fc) fs hf hfl;have vT:=hide hcr;clear hw hl ht hc hg t1 hcr hf Qw;unfold iZ at*;go_enter Tryz.func9,Tryz.ntmps9
 go_wp2_with fail
 refine vT.out.mono ?_;rintro e w2 ⟨rfl,hcr⟩;have aq1:=hide hcr.at;clear hcr;go_wp2
 go_ret
 exact⟨rfl,aq1.out⟩
end
theorem TV{W w:World}{d wb mo i:Nat}(h:pY W w d wb mo i)(hi:i<60)(hg:As.iq W)(Qw:Sn.qA W)(hm1:100≤mo)(hm2:mo≤1048576)(x:Kr)(hr:∀Z,Turn [] W Z→bF Z x.rv x.recs)(hf:∀Z,Turn [] W Z→SliceAt Z x.fv (x.tV.map ah))(hrl:x.recs.length≤60)(hfl:x.tV.length≤9223372036854775807):
 Calls Tryz.prog 9 #[.pointer (some ⟨wb,0,none⟩), .agg #[.int .i64 x.what, .int .i64 x.a, .int .i64 x.b,x.rv,x.fv]] w fun e w'=>e= .returned (.bool true)∧pY W w' d wb mo (i+1):=by
 obtain⟨lb,F,A,gv,v,ms0,m,X,y,va,vg,vm,ve,js,n,h1,h2,h3,h4⟩:=h;have hi':i≤60:=by omega
 by_cases q0:x.what=0
 ·rw[q0];exact XV h2 h1 h4 h3 hi' hg x.a x.b x.fv hi hm2 Qw x.rv x.recs hr hrl
 by_cases q1:x.what=1
 ·rw[q1];exact XO h2 h1 h4 h3 hi' hg x.a x.b x.rv x.fv
 by_cases q2:x.what=2
 ·rw[q2];exact XP h2 h1 h4 h3 hi' hg x.a x.b x.rv x.fv
 by_cases q3:x.what=3
 ·rw[q3];exact XQ h2 h1 h4 h3 hi' hg x.a x.b x.rv x.fv
 by_cases q4:x.what=4
 ·rw[q4];exact X9 h2 h1 h4 h3 hi' hg x.a x.b x.rv x.fv
 by_cases q5:x.what=5
 ·rw[q5];exact XR h2 h1 h4 h3 hi' hg x.a x.b x.rv x.fv
 by_cases q6:x.what=6
 ·rw[q6];exact Ya h2 h1 h4 h3 hi' hg x.a x.b Qw hm1 hm2 x.rv x.fv x.tV hf hfl ⟨_,_,_,rfl⟩ ⟨_,_,_,rfl⟩
 exact XT h2 h1 h4 h3 hi' hg x.a x.b x.rv x.fv x.what (by simpa using q0) (by simpa using q1) (by simpa using q2) (by simpa using q3) (by simpa using q4) (by simpa using q5) (by simpa using q6)
end Lg
end
section
open Go.RowKit Go.Maps
attribute [local go_sem] Oper.semAt_some
open Dk (DA FA aj Parts dA aC bQ)
open Sg (aS aA dV Both Came ae flat Chain)
namespace Lg
theorem xg.get{W:World}{a:Option Addr}{l c:Nat}{ds:List Kr}(h:xg W (.slice a l c) ds){j:Nat}(hj:j<ds.length):(∀Z,Turn [] W Z→bF Z ds[j].rv ds[j].recs)∧(∀Z,Turn [] W Z→SliceAt Z ds[j].fv (ds[j].tV.map ah))∧ds[j].tV.length≤9223372036854775807:=by
 obtain⟨a',c',e,h1,h2,h4⟩:=h;obtain⟨⟨h5,hb⟩, -⟩:=h4 j hj;refine⟨fun Z hZ=>h5.still hZ,fun Z hZ=>(hb.still hZ).slice,?_⟩;obtain⟨fa,fc, -,q1,q2, -⟩:=hb.form;have hmx:maxLen=9223372036854775807:=by simp[maxLen]
 omega
theorem Vo(W:World)(a:Int)(v1:Value)(ss:List Kr)(h1:xg W v1 ss)(hv:Sn.qA W)(hg:As.iq W):
 Calls Tryz.prog 3 #[.int .i64 a,v1] W fun e w'=>e= .returned (.bool true)∧Below W.heap.size W w':=by
 obtain⟨a1,c1,rfl,av6,aq2⟩:=(show ∃a c,v1= .slice a ss.length c∧ss.length≤c∧c≤maxLen from by obtain⟨a,c,h,h2,h3, -⟩:=h1;exact⟨a,c,h,h2,h3⟩);have hmx:maxLen=9223372036854775807:=by simp[maxLen]
 rw[hmx]at aq2;have H1:=hide h1;have HV:=hide hv;have HG:=hide hg;clear h1 hv hg;by_cases hl:60<(ss.length:Int)
 ·go_enter Tryz.func3,Tryz.ntmps3
  go_wp2
  go_ret
  exact⟨rfl,Below.refl _ _⟩
 go_enter Tryz.func3,Tryz.ntmps3
 go_wp2_with fail
 refine(jC a 400 (by omega) (by omega) W).mono ?_;rintro e w0 ⟨⟨q,hq,rfl⟩,rfl⟩;go_wp2_with fail
 refine(Dk.Q7 1048576 (by omega) W W.heap.size (Nat.le_refl _)).mono ?_;rintro e w1 ⟨rfl,hd1,ht1⟩;have HT1:=hide ht1;go_wp2_with fail
 refine(MM _ (HV.out.below HT1.out.nil) (HG.out.below HT1.out.nil)).mono ?_;rintro e w2 ⟨rfl,ht2⟩;have hd2:=hd1.kept ht2 (by simp);have hT2:=HT1.out.same ht2;have hop:=FX w2 W.heap.size W.heap.size [W.heap.size] (DA.empty 1048576) hd2 aX (by decide) (100+q) 0 (by omega) (by omega) (by omega) (fun Z hZ=>HV.out.below ((hT2.trans hZ (fun k hk=> .inr (by simp at hk;omega))).nil));rw[zq,show(((100+q:Nat)):Int)=100+(q:Int)by omega]at hop;have Tt:=hide hop;have HT2:=hide hT2;clear hop hd1 ht1 ht2 hd2 hT2;go_wp2_with fail
 refine Tt.out.mono ?_;rintro e w4 ⟨cs,c,A3,ss4,g1,g2,g3,g4⟩;have hcs:cs=[]:=by
  have:=g1.length_eq;exact List.eq_nil_of_length_eq_zero (by simpa[aY]using this)
 subst hcs;obtain⟨rfl,rfl,hk⟩:=MZ g3;rcases g4 with⟨g4, -⟩|⟨-,lb,F4,gv4,ms0,m,rfl,hl4,hm4,ht4,ajl,hf4⟩
 ·exact absurd rfl g4
 obtain⟨rfl,hma⟩:ms0=[]∧m.abs=(0,[]):=by
  cases ms0 with
  |nil=>exact⟨rfl,by simpa using hm4⟩
  |cons x r=>simp at hm4
 have hnx:ae m.n m.xs=0:=by
  have h1:m.n=0:=congrArg Prod.fst hma;have h2:m.xs=[]:=congrArg Prod.snd hma;rw[h1,h2];rfl
 rw[hnx,show yf 0 [(0,[])] 0=0 from by simp[yf]]at hl4;have hT4:=HT2.out.trans ht4 (fun k hk=> .inr (by simp at hk;omega));have HL4:=hide hl4;have HT4:=hide hT4;have HK4:=hide (And.intro hma (And.intro hk hnx));clear g1 g2 g3 hl4 hm4 ht4 ajl hf4 hk hma hnx hT4 Tt HT2 HT1;go_upto_region 11 with fail
 obtain⟨w5,hw5⟩:∃w5,w5=w4.alloc (.cells #[.pointer (some ⟨W.heap.size,0,none⟩), .pointer (some ⟨lb,0,none⟩), .int .i64 (100+(q:Int)), .slice none 0 0, .slice none 0 0, .slice none 0 0, .slice none 0 0, .int .i64 0, .int .i64 0, .bool false] 38):=⟨_,rfl⟩;rw[←hw5];have ht5:Turn [] w4 w5:=by rw[hw5];exact(Turn.refl [] w4).alloc _
 have hb5:w5.heap[w4.heap.size]? =some (.cells (XG W.heap.size lb ((100+q:Nat):Int) (.slice none 0 0) (.slice none 0 0) (.slice none 0 0) (.slice none 0 0) 0 0 false) 38 (0,0)):=by
  have h:=ai w4 (.cells #[.pointer (some ⟨W.heap.size,0,none⟩), .pointer (some ⟨lb,0,none⟩), .int .i64 (100+(q:Int)), .slice none 0 0, .slice none 0 0, .slice none 0 0, .slice none 0 0, .int .i64 0, .int .i64 0, .bool false] 38);rw[←hw5]at h;rw[h,show(100+(q:Int))=((100+q:Nat):Int)by omega];rfl
 have Ou:bY w5 W.heap.size w4.heap.size W.heap.size lb ((100+q:Nat):Int) (.slice none 0 0) (.slice none 0 0) (.slice none 0 0) (.slice none 0 0) ⟨[],[],[],[],0,0,false⟩:=⟨hb5, .inl ⟨rfl,rfl⟩, .inl ⟨rfl,rfl⟩, .inl ⟨rfl,rfl⟩, .inl ⟨rfl,rfl⟩,by simp[Value.ownBlock],HT4.out.size⟩;obtain⟨wb,hwb⟩:∃wb,wb=w4.heap.size:=⟨_,rfl⟩;rw[←hwb]at Ou;rw[←hwb];have hl5:=HL4.out.still ht5;have hT5:=HT4.out.same ht5;have hno:=F9 w5 W.heap.size wb W.heap.size lb _ _ _ _ _ _ Ou F4 A3 gv4 aX _ [] m hl5 (by simp) (by rw[show m.xs=[]from congrArg Prod.snd HK4.out.1];simp) 0 (by rw[HK4.out.2.2];rfl) (by simp);have Qr:=hide hno;have TW:=hide Ou;have HL5:=hide hl5;have HT5:=hide hT5;clear hw5 ht5 hb5 Ou hl5 hT5 hno hwb HL4 HT4;go_wp2_with fail
 refine Qr.out.mono ?_;rintro e w6 ⟨ve6,rfl,hw6,ht6, -⟩;have hl6:=HL5.out.kept ht6 (fun z hz hm=>TW.out.apart HL5.out z hm hz);have hT6:=HT5.out.trans ht6 (fun z hz=> .inr (TW.out.ge z hz));have hca:pY W w6 W.heap.size wb (100+q) 0:=by
  refine⟨lb,F4,A3,gv4,_,[],m,[],_,_,_,_,_,0,0,hl6,hw6,?_,hT6⟩;rw[HK4.out.1];have h:=Qp (mo:=100+q) (st:=0) HK4.out.2.1 rfl;rw[show(((100+q:Nat)):Int)=100+(q:Int)by omega]at h;exact h
 have HCA:=hide hca;have hq1:100≤100+q∧100+q≤1048576:=⟨by omega,by omega⟩;obtain⟨mo,hmo⟩:∃mo,mo=100+q:=⟨_,rfl⟩;rw[←hmo]at HCA hq1;obtain⟨hm1,hm2⟩:=hq1;clear hw6 ht6 hl6 hT6 hca hmo Qr TW HL5 HT5;go_wp2
 go_loopw [9] (fun iv wr=>∃i:Nat,i≤ss.length∧iv= .int .i64 i∧pY W wr W.heap.size wb mo i) (fun iv _=>ss.length-(intOf iv).toNat)
 case atStart=>exact⟨0,Nat.zero_le _,rfl,HCA.out⟩
 case round=>
  obtain⟨i,hi,rfl,hcr⟩:=hrel;have vT:=hide hcr;have hT:Turn [] W wr:=by
   obtain⟨lb,F,A,gv,v,ms0,m,X,y,va,vg,vm,ve,js,n,k1,k2,k3,k4⟩:=hcr;exact k4
  have HT:=hide hT;clear hcr hT HCA;by_cases hlt:i<ss.length
  ·obtain⟨p,rfl, -, -,g0,g1,g2,g3,g4⟩:=(H1.out.still HT.out).five hlt
   obtain⟨r1,r2,r3⟩:=H1.out.get hlt;obtain⟨x,hx⟩:∃x,x=ss[i]:=⟨_,rfl⟩;rw[←hx]at g0 g1 g2 g3 g4 r1 r2 r3;have HR1:=hide r1;have HR2:=hide r2;clear hx r1 r2;have g3':wr.cell? ⟨(p.add (i*5)).block,(p.add (i*5)).off+3,none⟩=some (.slice x.ra x.recs.length x.rc):=g3;have g4':wr.cell? ⟨(p.add (i*5)).block,(p.add (i*5)).off+4,none⟩=some (.slice x.fa x.tV.length x.fc):=g4;clear g3 g4;have hii:(i:Int)<(ss.length:Int):=by omega
   have hrc:x.recs.length≤x.rc:=by
    obtain⟨za,zc,ze,z1, -⟩:=(HR1.out W (Turn.refl _ _)).form;simp only[Kr.rv,Value.slice.injEq]at ze;omega
   by_cases h60:60<(x.recs.length:Int)
   ·go_wp2_with fail
    go_ret
    exact⟨rfl,HT.out.nil⟩
   ·have hdo:=TV vT.out (by omega) HG.out HV.out hm1 hm2 x HR1.out HR2.out (by omega) r3
    unfold Kr.rv Kr.fv at hdo;have HDO:=hide hdo;clear hdo;go_wp2_with fail
    refine HDO.out.mono ?_;rintro e w7 ⟨rfl,amH⟩;have aq4:=hide amH;clear amH HDO;go_wp2
    all_goals refine⟨⟨i+1,by omega,by go_num,aq4.out⟩,?_⟩
    all_goals (simp only[intOf];omega)
  ·obtain⟨lb,F,A,gv,v,ms0,m,X,y,va,vg,vm,ve,js,n,k1,k2,k3,k4⟩:=vT.out
   have hcr:=zN k2 k1 k4 k3 (by omega) HG.out HV.out hm1 hm2 0 0 0 (.slice none 0 0) (.slice none 0 0) [] (fun Z _=> .inl ⟨rfl,rfl⟩) (by simp);have HC:=hide hcr;clear hcr k1 k2 k3 k4 vT;go_wp2_with fail
   refine HC.out.mono ?_;rintro e w7 ⟨rfl,lb,F,A,gv,v,ms0,m,X,y,va,vg,vm,ve,js,n,k1,k2,k3,k4,k5⟩;have hlk:=Gh k1 k3.inv (by have:=k3.nn;omega) (by have:=k3.sl;rw[List.length_map]at this;omega) k5 k2 k3.recs;have Ve:=hide hlk;have HT7:=hide k4;have HK2:=hide k2;clear hlk k1 k2 k3 k4 k5;go_wp2_with fail
   refine Ve.out.mono ?_;rintro e w8 ⟨g,rfl, -, -, -,ht8⟩;have hT8:=HT7.out.trans ht8 (fun z hz=> .inr (HK2.out.ge z (bV.2 (.inr (.inr (.inl (by simpa using hz)))))));have HT8:=hide hT8;clear hT8 ht8;go_wp2
   go_ret
   exact⟨rfl,HT8.out.nil⟩
end Lg
end
section
open Go.RowKit
namespace Lv
theorem gTab:Tryz.prog.globalNamed "internal/strconv.uint64pow10" =some ((Tryz.prog.globalNamed "internal/strconv.uint64pow10").getD 0):=by kernel_rfl
theorem gTabT:(Tryz.prog.globals[(Tryz.prog.globalNamed "internal/strconv.uint64pow10").getD 0]?).map (·.type)=some 263:=by kernel_rfl
theorem cTab:Tryz.prog.cellsOf 263=20:=by kernel_rfl
theorem cU64:Tryz.prog.cellsOf 195=1:=by kernel_rfl
theorem gRng:Tryz.prog.globalNamed "strconv.ErrRange" =some ((Tryz.prog.globalNamed "strconv.ErrRange").getD 0):=by kernel_rfl
theorem gRngT:(Tryz.prog.globals[(Tryz.prog.globalNamed "strconv.ErrRange").getD 0]?).map (·.type)=some 26:=by kernel_rfl
theorem gSyn:Tryz.prog.globalNamed "strconv.ErrSyntax" =some ((Tryz.prog.globalNamed "strconv.ErrSyntax").getD 0):=by kernel_rfl
theorem gSynT:(Tryz.prog.globals[(Tryz.prog.globalNamed "strconv.ErrSyntax").getD 0]?).map (·.type)=some 26:=by kernel_rfl
theorem TY: "*" ++ "errors.errorString" = "*errors.errorString" :=by decide
theorem V4(u:TypeId)(h:Tryz.prog.typeName? 3 u=some "*errors.errorString"):u=255:=
 typeName_ptr_named (nm:= "errors.errorString") (by rw[TY];kernel_rfl) (by kernel_rfl) (by decide) u (by rw[TY];exact h)
theorem cES:Tryz.prog.cellsOf 257=1:=by kernel_rfl
theorem cStr:Tryz.prog.cellsOf 9=1:=by kernel_rfl
theorem tabEq:(Rows.laid_internal_strconv_uint64pow10:DataW Unit)=Lib.tabData .u64 Lib.pow10Tab:=by kernel_rfl
theorem et:Tryz.prog.globalNamed "errors.errorType" =some 0:=by kernel_rfl
theorem rt:(Tryz.prog.cutTypes.find? (·.1== "internal/reflectlite.rtype")).map (·.2)=some 165:=by kernel_rfl
theorem oneRow:((List.range Tryz.prog.types.size).filter fun t=>Tryz.prog.rowNamed t [101,114,114,111,114])=[26]:=by kernel_rfl
def BothT(W:World):Prop:=Sn.qA W∧As.iq W
def only(n:String)(l:List (String×DataW Unit)):List (String×DataW Unit):=l.filter (fun x=>x.1==n)
theorem vars_of{l:List (String×DataW Unit)}(hs:only "strconv.ErrSyntax" l=[("strconv.ErrSyntax",Rows.laid_strconv_ErrSyntax)])(hr:only "strconv.ErrRange" l=[("strconv.ErrRange",Rows.laid_strconv_ErrRange)])
 (ht:only "internal/strconv.uint64pow10" l=[("internal/strconv.uint64pow10",Rows.laid_internal_strconv_uint64pow10)])(he:only "errors.errorType" l=[("errors.errorType",Rows.laid_errors_errorType)]){W:World}(h0:laidMetH Tryz.prog l W):BothT W:=by
 have h1:laidMetH Tryz.prog (only "strconv.ErrSyntax" l) W:=laidMetH.filter _ h0;have h2:laidMetH Tryz.prog (only "strconv.ErrRange" l) W:=laidMetH.filter _ h0;have h3:laidMetH Tryz.prog (only "internal/strconv.uint64pow10" l) W:=laidMetH.filter _ h0;have h4:laidMetH Tryz.prog (only "errors.errorType" l) W:=laidMetH.filter _ h0;rw[hs,MakeChecks.laidMetH_plain _ _ _ (by kernel_rfl)]at h1;rw[hr,MakeChecks.laidMetH_plain _ _ _ (by kernel_rfl)]at h2;rw[ht,MakeChecks.laidMetH_plain _ _ _ (by kernel_rfl),tabEq]at h3;rw[he]at h4;have h5:laidMet Tryz.prog [] W∧handlesMet Tryz.prog [("errors.errorType",Rows.laid_errors_errorType)] W:=h4;obtain⟨a,s,e, -⟩:=laid_sentinel h2 gRng gRngT Tryz.underlying26 V4 Tryz.underlying255 Tryz.underlying257 rfl rfl Tryz.underlying9 cES cStr;obtain⟨a',s',e', -⟩:=laid_sentinel h1 gSyn gSynT Tryz.underlying26 V4 Tryz.underlying255 Tryz.underlying257 rfl rfl Tryz.underlying9 cES cStr;obtain⟨name,u,ty,e1,e2,e3,e4,e5⟩:=h5.2 _ (List.mem_singleton.2 rfl);have en:name=[101,114,114,111,114]:=(Option.some.inj e1).symm;subst en;obtain rfl:=Option.some.inj (rt.symm.trans e2);have hm:ty∈(List.range Tryz.prog.types.size).filter fun t=>Tryz.prog.rowNamed t [101,114,114,111,114]:=List.mem_filter.2 ⟨List.mem_range.2 e3,e4⟩
 rw[oneRow]at hm;obtain rfl:=List.mem_singleton.1 hm;have hd:typeHandle Tryz.prog 26= .pointer (some ⟨7,26,none⟩):=by kernel_rfl
 rw[hd]at e5;exact⟨⟨Lib.tabIs_of_head gTab gTabT Tryz.underlying263 Tryz.underlying195 cU64 cTab h3,⟨_,_,e'⟩,⟨_,_,e⟩⟩,by simpa[As.iq]using World.var?_cell et e5 0⟩
end Lv
end
end Go.Proofs.YtficbckncieabaaGreatDoor
