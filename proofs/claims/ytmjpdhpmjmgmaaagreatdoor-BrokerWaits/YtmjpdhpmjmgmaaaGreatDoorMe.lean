/- Lemmas of the claim, part e of 14. -/
import Derived.Test.YtmjpdhpmjmgmaaaGreatDoorMd
import Derived.Test.YtmjpdhpmjmgmaaaGreatDoorMc
import Derived.Shelf.Strings.Builder1
import Derived.Shelf.Strings.Builder2
import Derived.Shelf.Strings.OnBuilder
import Derived.Shelf.Small.Bits
import Derived.Shelf.Small.Strs
import Derived.Shelf.Strings.BuilderF
import Derived.Shelf.Strconv.Atoi
import Derived.Shelf.Strconv.Itoa0
import Derived.Shelf.Strconv.Itoa1
import Derived.Shelf.LaysM
import Derived.Shelf.Strconv.Itoa2
import Derived.Shelf.Strconv.Itoa3
import Derived.Shelf.Strconv.AtoiErrFast
import Derived.Shelf.Strconv.ParseIntEmpty
import Derived.Shelf.Strconv.AtoiFail
import Derived.Shelf.Strconv.Clone
import Derived.Shelf.Strconv.SyntaxError
import Derived.Shelf.LaysC
import Derived.Shelf.Strconv.ToError
import Derived.Shelf.Strconv.Lower
import Derived.Shelf.Strconv.ParseUint10
import Derived.Shelf.Strconv.ParseUint10Empty
import Derived.Shelf.Strconv.ParseUint10Any
import Derived.Shelf.Strconv.ParseInt10
import Derived.Shelf.Strconv.AtoiLong
import Derived.Shelf.Strconv.AtoiInnerAll
import Derived.Shelf.Strconv.RangeError
import Derived.Shelf.Strconv.ToErrorRange
import Derived.Shelf.Strconv.AtoiAll
import Derived.Shelf.Strconv.ErrVarAll
import Derived.Shelf.Strconv.ParseUintEmpty
import Derived.Shelf.Strconv.ParseUint10b64
import Derived.Shelf.Strconv.ParseUint10b32
import Derived.Shelf.Strconv.ParseUint10b16
import Derived.Shelf.Strconv.ParseUint10b8
import Derived.Shelf.Strconv.ParseUint10At
import Derived.Shelf.Strconv.ParseInt10At64
import Derived.Shelf.Strconv.ParseInt10At32
import Derived.Shelf.Strconv.ParseInt10At16
import Derived.Shelf.Strconv.ParseInt10At8
import Derived.Shelf.Strconv.ParseInt10All
import Derived.Shelf.Strings.Search1
import Derived.Shelf.Strings.Search2
import Derived.Shelf.Strings.Search3
import Derived.Shelf.Strings.Count
import Derived.Shelf.Strings.Shaped
import Derived.Shelf.Sort.Plain
import Derived.Shelf.Strings.Prefix
import Derived.Shelf.Bits.Mul64
import Derived.Shelf.Strings.Repeat
import Derived.Shelf.Unicode.DecodeSlow
import Derived.Shelf.Slices.In.SortNone
import Derived.Test.YtmjpdhpmjmgmaaaGreatDoorProg
import Derived.WalkKit
import Derived.Lib.AtoiAll
import Derived.Lib.ItoaNum
import Derived.Lib.TrimByte
import Derived.Lib.Strings
import Derived.Lib.ParseIntBTie
import Derived.Test.YtmjpdhpmjmgmaaaGreatDoorMa
import Derived.Test.YtmjpdhpmjmgmaaaGreatDoorMb
import Derived.Lib.ItoaLen
import Derived.Lib.ItoaMem
import Derived.Lib.Repeat
import Derived.LoopIn
namespace Go.Proofs.YtmjpdhpmjmgmaaaGreatDoor
section
open Go.RowKit Go.Maps
set_option maxRecDepth 100000
set_option linter.unusedSimpArgs false
set_option linter.unusedVariables false
attribute [local go_sem] Oper.semAt_some
namespace Sg
theorem Tryz.VS:(Tryz.prog.info? 253).map (fun i=>(i.zero,i.size,i.bytes))=some (some (.agg #[.int .i64 0, .int .i64 0, .int .i64 0, .int .i64 0, .int .i64 0]),5,40):=by kernel_rfl
theorem VT(w:World)(base:Nat)(v:Value)(xs:List Pl)(x:Pl)(k:Nat)(hrow:aH 253 5 BJ w base v xs)(hk:w.heap[k]? =some (.cells (BJ x).toArray 253 (0,0))) (hlen:xs.length≤1000000) (hbase:base≤w.heap.size):
 ∃v' w',(Builtin.append_ #[207,207] 207 #[v, .slice (some ⟨k,0,none⟩) 1 1]).run Tryz.prog w= .ok v' w'∧aH 253 5 BJ w' base v' (xs++[x])∧Turn v.ownBlock.toList w w'∧(∀j∈v'.ownBlock,j∈v.ownBlock∨w.heap.size≤j):=by
 obtain⟨i,hi,e⟩:=Option.map_eq_some_iff.1 Tryz.VS;simp only[Prod.mk.injEq]at e;exact dS (P:=Tryz.prog) 207 207 Tryz.underlying207 i _ hi e.1 (by rfl) e.2.1 (by omega) uy (fun x u hu=>by simp[BJ]at hu;rcases hu with rfl|rfl|rfl|rfl|rfl<;>rfl) w base v xs x k hrow hk hlen hbase
theorem P7(l:Int)(rs:List Bt.Rec){k:Nat}(hk:k<rs.length):MB l (rs.take (k+1))=max (MB l (rs.take k)) rs[k].time:=by
 unfold MB;rw[List.take_succ_eq_append_getElem hk,List.foldl_append];rfl
theorem VU(a b:Int):(if a<b then b else a)=max a b:=by split<;>omega
set_option maxHeartbeats 4000000 in
theorem note_any(w:World)(base d sb:Nat)(sv:Value)(file:ByteArray)(b0:Int)(ps:List Pl)(h:bu w base d sb sv file b0 ps)(hl:ps.length≤999999)(hz:nT ps≤1099511627776)
 (vb:Value)(bs:List UInt8)(hb:∀Z,Turn (bJ sb sv) w Z→BytesAt Z vb bs)(hbl:bs.length≤1099511627776)(xb xf:Int)(va:Value)(rs:List Bt.Rec)(hr:bn w va rs):
 Calls Tryz.prog 230 #[.pointer (some ⟨sb,0,none⟩), .agg #[.int .i64 xb, .int .i64 xf,va],vb] w fun e w'=>e= .returned (.tuple #[])∧
  ∃sv',bu w' base d sb sv' file b0 (ps++[⟨nT ps,bs.length,Cr.sum bs,xf,MB (iC ps) rs⟩])∧Turn (bJ sb sv) w w'∧∀k∈bJ sb sv',k∈bJ sb sv∨w.heap.size≤k:=by
 obtain⟨ra,rc,rfl,Ye,VV,hrn0,hrp⟩:=hr.form;have hmx:maxLen=9223372036854775807:=by simp[maxLen]
 rw[hmx]at VV;obtain⟨ba,bc,rfl,NY,JS, -⟩:=(hb w (Turn.refl _ _)).form;rw[hmx]at JS;have HR:=hide hr;have HS:=hide h;have HB:=hide hb;have hsb:=lt_of_heap h.box;clear h hr hb hrn0;go_enter Tryz.func230,Tryz.ntmps230
 go_wp2_with fail
 have ht0:Turn [] w (w.alloc (.cells #[.int .i64 xb, .int .i64 xf, .slice ra rs.length rc] 215)):=(Turn.refl [] w).alloc _;refine(JQ _ base d sb sv file b0 ps (HS.out.still ht0) (by omega)).mono ?_;rintro e w1 ⟨rfl,ht1⟩;have hbx:=ht1.heap (ae w (.cells #[.int .i64 xb, .int .i64 xf, .slice ra rs.length rc] 215)) (by simp);have Gs:=hide hbx;have HT1:=hide (ht0.same ht1);have hsz1:=lt_of_heap hbx;have k2:w1.cell? ⟨w.heap.size,2,none⟩=some (.slice ra rs.length rc):=by simpa using cell_of hbx 2
 clear ht0 ht1 hbx;go_wp2
 go_loopw [6,14] (fun t i wr=>∃k:Nat,k≤rs.length∧i= .int .i64 k∧t= .int .i64 (MB (iC ps) (rs.take k))∧Turn [] w1 wr) (fun _ i _=>rs.length-(intOf i).toNat)
 case atStart=>exact⟨0,Nat.zero_le _,rfl,rfl,Turn.refl _ _⟩
 case round=>
  obtain⟨k,hk,rfl,rfl,ht⟩:=hrel;have dJ:=hide ht;clear ht;by_cases hlt:k<rs.length
  ·obtain⟨p,rfl⟩:=hrp k hlt
   obtain⟨g0,g1,g2,g3,g4,g5⟩:=(HR.out.still (HT1.out.same dJ.out)).six hlt;obtain⟨r,hre⟩:∃r,r=rs[k]:=⟨_,rfl⟩;have NZ:=hide (P7 (iC ps) rs hlt);rw[←hre]at g0 g1 g2 g3 g4 g5 NZ;clear hre;go_wp2
   all_goals refine⟨⟨k+1,by omega,by go_num,by first|(rw[NZ.out];done)|(rw[NZ.out];exact congrArg _ (VU _ _)),dJ.out.alloc _⟩,?_⟩
   all_goals (simp only[intOf];omega)
  ·obtain rfl:k=rs.length:=by omega
   rw[List.take_length];obtain⟨lt,hlt'⟩:∃lt,lt=MB (iC ps) rs:=⟨_,rfl⟩;rw[←hlt'];obtain⟨xa,xc,hsv,hxl,hxm⟩:=HS.out.row.form;subst hsv;rw[hmx]at hxm;have HL:Hid (lt=MB (iC ps) rs):=hlt';have HT2:=hide (HT1.out.same dJ.out);have HBX2:=hide (dJ.out.heap Gs.out (by simp));have hown:sb∉(Value.slice xa ps.length xc).ownBlock:=fun hk=>by
    rcases HS.out.row with⟨e, -⟩|⟨g,cap,cur,e,hb',hg, -⟩
    ·rw[e]at hk;simp[Value.ownBlock]at hk
    ·rw[e]at hk
     simp[Value.ownBlock]at hk;subst hk;have:=HS.out.box;rw[hg]at this;simp at this
   have hcells:∀Z,Turn (Value.slice xa ps.length xc).ownBlock.toList wr Z→(Z.heap[sb]? =some (.cells #[.pointer (some ⟨d,0,none⟩), .string file, .int .i64 b0, .slice xa ps.length xc] 209 (0,0))∧Z.cell? ⟨sb,3,none⟩=some (.slice xa ps.length xc))∧
    (Z.heap[w.heap.size]? =some (.cells #[.int .i64 xb, .int .i64 xf, .slice ra rs.length rc] 215 (0,0))∧Z.cell? ⟨w.heap.size,1,none⟩=some (.int .i64 xf))∧BytesAt Z (.slice ba bs.length bc) bs∧(sb<Z.heap.size∧w.heap.size<Z.heap.size)∧Turn (bJ sb (.slice xa ps.length xc)) w Z:=by
    intro Z hZ;have h1:=hZ.heap (HS.out.still HT2.out).box (by simpa using hown);have h2:=hZ.heap HBX2.out (fun hm=>by have:=(HS.out.row.lt _ (by simpa using hm)).2;omega);have ht:Turn (bJ sb (.slice xa ps.length xc)) w Z:=(HT2.out.mono (by simp)).trans hZ (fun k hk=> .inl (by simp[bJ];exact .inr (by simpa using hk)));exact⟨⟨h1,by rw[cell_of h1];rfl⟩,⟨h2,by rw[cell_of h2];rfl⟩,HB.out Z ht,⟨lt_of_heap h1,lt_of_heap h2⟩,ht⟩
   have HC:=hide hcells;have HOWN:=hide hown;obtain⟨np,hnp⟩:∃np:Pl,np=⟨nT ps,bs.length,Cr.sum bs,xf,lt⟩:=⟨_,rfl⟩;have HNP:=hide hnp;clear hcells hown hlt' hnp hlt k2 hsz1;go_wp2
   refine cZ 19 (Turn (Value.slice xa ps.length xc).ownBlock.toList) (Turn []) (fun k w=>match k with|0=>(fun w=>bu w base d sb (.slice xa ps.length xc) file b0 ps) w|1=>(fun w=>bu w base d sb (.slice xa ps.length xc) file b0 ps) w|_=>(fun w=>w.heap[sb]? =some (.cells #[.pointer (some ⟨d,0,none⟩), .string file, .int .i64 b0, .slice xa ps.length xc] 209 (0,0))) w) [6,16] (by kernel_rfl) (by kernel_rfl) (by kernel_rfl) (by kernel_rfl) (by kernel_rfl) (by kernel_rfl) (Nat.le_of_ble_eq_true rfl) (by decide) rfl (Turn.refl _) (fun _ _ _ h k=>h.same k) (fun _ _ h=>h.mono (by simp)) ?_ ?_ ?_
   ·intro k a b hk hR
    match k,hk with
    |0,hk=>
     have hk:=(show(fun w=>bu w base d sb (.slice xa ps.length xc) file b0 ps) a from hk);dsimp only at hk;show(fun w=>bu w base d sb (.slice xa ps.length xc) file b0 ps) b;dsimp only;first|exact hk.still hR|exact hR.heap hk (by simp)
    |1,hk=>
     have hk:=(show(fun w=>bu w base d sb (.slice xa ps.length xc) file b0 ps) a from hk);dsimp only at hk;show(fun w=>bu w base d sb (.slice xa ps.length xc) file b0 ps) b;dsimp only;first|exact hk.still hR|exact hR.heap hk (by simp)
    |_+2,hk=>
     have hk:=(show(fun w=>w.heap[sb]? =some (.cells #[.pointer (some ⟨d,0,none⟩), .string file, .int .i64 b0, .slice xa ps.length xc] 209 (0,0))) a from hk)
     dsimp only at hk;show(fun w=>w.heap[sb]? =some (.cells #[.pointer (some ⟨d,0,none⟩), .string file, .int .i64 b0, .slice xa ps.length xc] 209 (0,0))) b
     dsimp only;first|exact hk.still hR|exact hR.heap hk (by simp)
   ·show(fun w=>bu w base d sb (.slice xa ps.length xc) file b0 ps) _
    dsimp only;exact(HS.out.still HT2.out).still ((Turn.refl [] _).drew)
   apply Lo.ag 1 rfl rfl [] (by kernel_rfl) (Turn.refl _);apply Exists.intro;apply And.intro
   ·intro u w1 hR hF
    clear hF;refine⟨rfl,fun a ha K hK=>?_⟩;have e0:=ha 0;conv at e0=>rhs;whnf
    clear ha;go_simp
    refine hK _ ?_;rfl
   apply Lo.ag 2 rfl rfl [] (by kernel_rfl) (Turn.refl _);apply Exists.intro;apply And.intro
   ·intro u w1 hR hF
    clear hF;refine⟨rfl,fun a ha K hK=>?_⟩;have e0:=ha 0;conv at e0=>rhs;whnf
    clear ha;go_simp
    refine hK _ ?_;rfl
   apply Lo.ag 3 rfl rfl [1] (by kernel_rfl) (Turn.refl _);apply Exists.intro;apply And.intro
   ·intro u w1 hR hF
    obtain⟨h1, -⟩:=hF;refine⟨rfl,fun a ha K hK=>?_⟩;have e24:=(ha 24).trans h1;clear ha h1;go_simp
    refine hK _ ?_;rfl
   apply Lo.ag 4 rfl rfl [2] (by kernel_rfl) (Turn.refl _);apply Exists.intro;apply And.intro
   ·intro u w1 hR hF
    obtain⟨h2, -⟩:=hF;refine⟨rfl,fun a ha K hK=>?_⟩;have e25:=(ha 25).trans h2;clear ha h2;go_simp
    refine hK _ ?_;rfl
   apply Lo.ag 5 rfl rfl [3] (by kernel_rfl) (Turn.refl _);apply Exists.intro;apply And.intro
   ·intro u w1 hR hF
    obtain⟨h3, -⟩:=hF;refine⟨rfl,fun a ha K hK=>?_⟩;have e26:=(ha 26).trans h3;clear ha h3;obtain⟨⟨-,c3⟩, -, -,⟨z1,z2⟩, -⟩:=HC.out w1 (((Turn.refl _ _).drew).same hR);go_simp
    refine hK _ ?_;rfl
   apply Lo.ag 6 rfl rfl [] (by kernel_rfl) (Turn.refl _);apply Exists.intro;apply And.intro
   ·intro u w1 hR hF
    clear hF;refine⟨rfl,fun a ha K hK=>?_⟩;have e0:=ha 0;conv at e0=>rhs;whnf
    clear ha;go_simp
    refine hK _ ?_;rfl
   refine Lo.rX 7 rfl 0 rfl [5] (fun y _=>y= .int .i64 (nT ps:Nat)) (by kernel_rfl) (fun x w w' h hR=>?_) (.inr (fun x w w' h hR=>by exact h)) (fun u w1 hR hS hF=>?_) ?_
   ·exact h
   ·obtain⟨h5, -⟩:=hF
    have hS:=(show(fun w=>bu w base d sb (.slice xa ps.length xc) file b0 ps) w1 from hS);dsimp only at hS;refine⟨rfl,fun a ha K hK=>?_⟩;have e28:=(ha 28).trans h5;clear ha h5;go_simp
    refine(size_any _ base d sb _ file b0 ps hS (by omega) hz).mono ?_;rintro e w2 ⟨rfl,ht2⟩;exact hK _ _ rfl (ht2.mono (by simp)) (hS.still ht2)
   apply Lo.ag 8 rfl rfl [] (by kernel_rfl) (Turn.refl _);apply Exists.intro;apply And.intro
   ·intro u w1 hR hF
    clear hF;refine⟨rfl,fun a ha K hK=>?_⟩;have e2:=ha 2;conv at e2=>rhs;whnf
    clear ha;go_simp
    refine hK _ ?_;rfl
   apply Lo.ag 9 rfl rfl [7] (by kernel_rfl) (Turn.refl _);apply Exists.intro;apply And.intro
   ·intro u w1 hR hF
    obtain⟨h7, -⟩:=hF;refine⟨rfl,fun a ha K hK=>?_⟩;have e30:=(ha 30).trans h7;clear ha h7;go_simp
    refine hK _ ?_;rfl
   apply Lo.ag 10 rfl rfl [] (by kernel_rfl) (Turn.refl _);apply Exists.intro;apply And.intro
   ·intro u w1 hR hF
    clear hF;refine⟨rfl,fun a ha K hK=>?_⟩;have e2:=ha 2;conv at e2=>rhs;whnf
    clear ha;go_simp
    refine hK _ ?_;rfl
   refine Lo.run 11 rfl rfl [9] (fun y _=>y= .int .i64 (Cr.sum bs:Nat)) (by kernel_rfl) (fun x w w' h hR=>?_) (fun _ _ h=>h.mono (by simp)) (fun u w1 hR hF=>?_) ?_
   ·exact h
   ·obtain⟨h9, -⟩:=hF
    refine⟨rfl,fun a ha K hK=>?_⟩;have e32:=(ha 32).trans h9;clear ha h9;have hby:=(HC.out w1 (((Turn.refl _ _).drew).same hR)).2.2.1;go_simp
    refine(sum_any _ _ bs hby.slice (by omega)).mono ?_;rintro e w2 ⟨rfl,rfl⟩;exact hK _ _ rfl (Turn.refl _ _)
   apply Lo.ag 12 rfl rfl [] (by kernel_rfl) (Turn.refl _);apply Exists.intro;apply And.intro
   ·intro u w1 hR hF
    clear hF;refine⟨rfl,fun a ha K hK=>?_⟩;have e4:=ha 4;conv at e4=>rhs;whnf
    clear ha;go_simp
    refine hK _ ?_;rfl
   apply Lo.ag 13 rfl rfl [11] (by kernel_rfl) (Turn.refl _);apply Exists.intro;apply And.intro
   ·intro u w1 hR hF
    obtain⟨h11, -⟩:=hF;refine⟨rfl,fun a ha K hK=>?_⟩;have e34:=(ha 34).trans h11;clear ha h11;obtain⟨-,⟨-,cx⟩, -,⟨z1,z2⟩, -⟩:=HC.out w1 (((Turn.refl _ _).drew).same hR);go_simp
    refine hK _ ?_;rfl
   apply Lo.ag 14 rfl rfl [] (by kernel_rfl) (Turn.refl _);apply Exists.intro;apply And.intro
   ·intro u w1 hR hF
    clear hF;refine⟨rfl,fun a ha K hK=>?_⟩;have e6:=ha 6;conv at e6=>rhs;whnf
    clear ha;go_simp
    refine hK _ ?_;rfl
   refine Lo.aJ 15 rfl rfl [6,8,10,12,13] (xU np) (by kernel_rfl) (fun u w1 hR hF=>?_) (Turn.refl _) ?_
   ·obtain⟨h6,h8,h10,h12,h13, -⟩:=hF
    refine⟨rfl,fun a ha K hK=>?_⟩;have e29:a.tmps.getD 29 undef=u 6:=ha 29;have e31:=(ha 31).trans h8;have e33:a.tmps.getD 33 undef=u 10:=ha 33;have e35:=(ha 35).trans h12;have e36:=(ha 36).trans h13;have h6:=(show(fun y _=>y= .int .i64 (nT ps:Nat)) (u 6) w1 from h6);dsimp only at h6;have h10:=(show(fun y _=>y= .int .i64 (Cr.sum bs:Nat)) (u 10) w1 from h10);dsimp only at h10;clear ha h8 h12 h13;rw[h6]at e29;rw[h10]at e33;rw[Array.getD_eq_getD_getElem?]at e29 e31 e33 e35 e36;go_simp
    refine hK _ ?_;rw[HNP.out];rfl
   refine Lo.run 16 rfl rfl [14] (fun x w'=>∃k,x= .slice (some ⟨k,0,none⟩) 1 1∧w'.heap[k]? =some (.cells (BJ np).toArray 253 (0,0))∧wr.heap.size≤k) (by kernel_rfl) (fun x w w' h hR=>?_) (fun _ _ h=>h.mono (by simp)) (fun u w1 hR hF=>?_) ?_
   ·obtain⟨k,h1,h2,h3⟩:=h;exact⟨k,h1,hR.heap h2 (fun hm=>by have:=((HS.out.still HT2.out).row.lt k (by simpa using hm)).2;omega),h3⟩
   ·obtain⟨h14, -⟩:=hF
    refine⟨rfl,fun a ha K hK=>?_⟩;have e37:=(ha 37).trans h14;clear ha h14;have e37':a.tmps[37]?.getD undef= .agg #[.int .i64 np.at, .int .i64 np.size, .int .i64 np.sum, .int .i64 np.fin, .int .i64 np.latest]:=by rw[←Array.getD_eq_getD_getElem?,e37];rfl
    go_simp
    exact hK _ _ ⟨w1.heap.size,rfl,ae w1 _,hR.size⟩ ((Turn.refl [] _).alloc _)
   refine Lo.rX 17 rfl 1 rfl [4,15] (fun x w'=>aH 253 5 BJ w' base x (ps++[np])∧∀j∈x.ownBlock,j∈(Value.slice xa ps.length xc).ownBlock∨wr.heap.size≤j) (by kernel_rfl) (fun x w w' h hR=>?_) (.inl (by kernel_rfl)) (fun u w1 hR hS hF=>?_) ?_
   ·exact⟨h.1.still hR,h.2⟩
   ·obtain⟨h4,h15, -⟩:=hF
    have hS:=(show(fun w=>bu w base d sb (.slice xa ps.length xc) file b0 ps) w1 from hS);dsimp only at hS;refine⟨rfl,fun a ha K hK=>?_⟩;have e27:=(ha 27).trans h4;have e38:a.tmps.getD 38 undef=u 15:=ha 38;have h15:=(show(fun x w'=>∃k,x= .slice (some ⟨k,0,none⟩) 1 1∧w'.heap[k]? =some (.cells (BJ np).toArray 253 (0,0))∧wr.heap.size≤k) (u 15) w1 from h15)
    dsimp only at h15;clear ha h4;obtain⟨kk,hx15,hc15,hk15⟩:=h15;rw[hx15]at e38;obtain⟨v7,w7,hr7,hrow7,ht7,hown7⟩:=VT w1 base (.slice xa ps.length xc) ps np kk hS.row hc15 (by omega) (by have:=hS.low;have:=lt_of_heap hS.box;omega);have hsz7:=hR.size;have hbx7:=ht7.heap hS.box (by simpa using HOWN.out);clear hx15 hc15;exact wY rfl e27 e38 hr7 (hK _ _ ⟨hrow7,fun j hj=>(hown7 j hj).elim .inl (fun h=> .inr (Nat.le_trans hsz7 h))⟩ ht7 hbx7)
   apply Lo.ag 18 rfl rfl [0] (by kernel_rfl) (Turn.refl _);apply Exists.intro;apply And.intro
   ·intro u w1 hR hF
    obtain⟨h0, -⟩:=hF;refine⟨rfl,fun a ha K hK=>?_⟩;have e23:=(ha 23).trans h0;clear ha h0;go_simp
    refine hK _ ?_;rfl
   apply Lo.ag 19 rfl rfl [17] (by kernel_rfl) (Turn.refl _);apply Exists.intro;apply And.intro
   ·intro u w1 hR hF
    obtain⟨h17, -⟩:=hF;refine⟨rfl,fun a ha K hK=>?_⟩;have e40:=(ha 40).trans h17;clear ha h17;go_simp
    refine hK _ ?_;rfl
   refine Lo.done [16,18] (fun u w1 bP hSd hF=>?_);have hSd:=(show(fun w=>w.heap[sb]? =some (.cells #[.pointer (some ⟨d,0,none⟩), .string file, .int .i64 b0, .slice xa ps.length xc] 209 (0,0))) w1 from hSd)
   dsimp only at hSd;obtain⟨f16,f18, -⟩:=hF;have d16:=(show(fun x w'=>aH 253 5 BJ w' base x (ps++[np])∧∀j∈x.ownBlock,j∈(Value.slice xa ps.length xc).ownBlock∨wr.heap.size≤j) (u 16) w1 from f16);dsimp only at d16;have d18:u 18=_:=f18;clear f16 f18;simp only[List.take_succ_cons,List.take_zero,List.drop_succ_cons,List.drop_zero,ax,Act.put,List.setIfInBounds_toArray,List.set_cons_succ,List.set_cons_zero,Nat.zero_add,Nat.reduceAdd,d18];obtain⟨hrow7,hown7⟩:=d16;obtain⟨ya,yc,hyv, -, -⟩:=hrow7.form;rw[hyv]at hrow7 hown7⊢;rw[List.length_append,List.length_singleton]at hrow7 hown7⊢;have ht7:Turn (Value.slice xa ps.length xc).ownBlock.toList wr w1:=((Turn.refl _ _).drew).same bP;obtain⟨⟨hbox,c3⟩, -, -,⟨z1, -⟩,htw⟩:=HC.out w1 ht7;have f3:w1.frozen? ⟨sb,3,none⟩=false:=af hbox 3;have hws:w.heap.size≤wr.heap.size:=HT2.out.size;have hrn:sb∉(Value.slice ya (ps.length+1) yc).ownBlock:=fun hk=>(hown7 sb hk).elim (fun h=>HOWN.out h) (fun h=>by omega)
   have iZ:=hide hrow7;have HOWN7:=hide hown7;have HTW7:=hide htw;have HBOX:=hide hbox;have HRN:=hide hrn;clear hrow7 hown7 ht7 hbox htw hrn bP hSd hyv d18;go_wp2
   go_end0
   have e:np=⟨nT ps,bs.length,Cr.sum bs,xf,MB (iC ps) rs⟩:=by rw[HNP.out,HL.out]
   have hts:Turn [sb] w1 (w1.setCell ⟨sb,3,none⟩ (.slice ya (ps.length+1) yc)):=(Turn.refl _ _).setCell (.inl (by simp)) _;rw[←e];refine⟨rfl,_,⟨by simpa using heap_set HBOX.out 3 _,iZ.out.kept hts (fun k hk=>by simp only[List.mem_singleton];intro e;subst e;exact HRN.out hk),HS.out.low⟩,HTW7.out.trans hts (fun k hk=> .inl (by simp at hk;subst hk;simp[bJ])),fun k hk=>?_⟩;simp only[bJ,List.mem_cons,Option.mem_toList]at hk⊢;rcases hk with rfl|hk
   ·exact .inl (.inl rfl)
   ·rcases HOWN7.out k hk with h|h
    ·exact .inl (.inr h)
    ·exact .inr (Nat.le_trans hws h)
end Sg
end
section
open Go.RowKit Go.Maps
set_option maxRecDepth 100000
set_option linter.unusedSimpArgs false
set_option linter.unusedVariables false
attribute [local go_sem] Oper.semAt_some
open Dk (DA ay Parts fE aW dI)
namespace Sg
structure Both(w:World)(base d:Nat)(F:List Nat)(A:DA)(sb:Nat)(sv:Value)(file:ByteArray)(b0:Int)(ps:List Pl):Prop where
 disk:ay w base d F A
 qg:bu w base d sb sv file b0 ps
 sep:∀k∈bJ sb sv,k∉F
section
variable {w w':World} {base d sb:Nat} {F:List Nat} {A:DA} {sv:Value} {file:ByteArray} {b0:Int} {ps:List Pl}
theorem Both.kept{S:List Nat}(h:Both w base d F A sb sv file b0 ps)(ht:Turn S w w')(h1:∀k∈F,k∉S)(h2:∀k∈bJ sb sv,k∉S):Both w' base d F A sb sv file b0 ps:=
 ⟨h.disk.kept ht h1,h.qg.kept ht h2,h.sep⟩
theorem Both.still(h:Both w base d F A sb sv file b0 ps)(ht:Turn [] w w'):Both w' base d F A sb sv file b0 ps:=h.kept ht (by simp) (by simp)
end
def Came(w w':World)(base d:Nat)(F:List Nat)(A':DA)(sb:Nat)(sv:Value)(file:ByteArray)(b0:Int)(ps':List Pl):Prop:=
 ∃F' sv',Both w' base d F' A' sb sv' file b0 ps'∧Turn (F++bJ sb sv) w w'∧(∀k∈F',k∈F∨w.heap.size≤k)∧∀k∈bJ sb sv',k∈bJ sb sv∨w.heap.size≤k
def VW(ps:List Pl)(x:Bt.aX):Pl:=⟨nT ps,(Bt.aj x).length,Cr.sum (Bt.aj x),x.fin,MB (iC ps) x.recs⟩
def VX(c:Int)(ps:List Pl)(p:Pl):List Pl:=if c=0 then ps++[p]else ps
theorem P8(xs:List Bt.aX)(x:Bt.aX):kL 0 (-1) xs++[VW (kL 0 (-1) xs) x]=kL 0 (-1) (xs++[x]):=by
 rw[BI,VW,qV,Hr,Nat.zero_add]
set_option maxHeartbeats 4000000 in
theorem add_any(w:World)(base d:Nat)(F:List Nat)(A:DA)(sb:Nat)(sv:Value)(file:ByteArray)(b0:Int)(ps:List Pl)(h:Both w base d F A sb sv file b0 ps)(hfs:file.size≤maxLen)(hl:ps.length≤999999)(hz:nT ps≤1099511627776)
 (va:Value)(x:Bt.aX)(hx:wS w (.agg #[.int .i64 x.base, .int .i64 x.fin,va]) x)(hxs:∀k∈va.ownBlock,k<w.heap.size→k∉F∧k∉bJ sb sv):
 Calls Tryz.prog 188 #[.pointer (some ⟨sb,0,none⟩), .agg #[.int .i64 x.base, .int .i64 x.fin,va]] w fun e w'=>
  (Bt.aO x≠0∧e= .returned (aW (Bt.aO x))∧Turn [] w w')∨(Bt.aO x=0∧x.base<qx b0 ps∧e= .returned (aW 10)∧Turn [] w w')∨
  (Bt.aO x=0∧qx b0 ps≤x.base∧e= .returned (aW (A.add file.data.toList (Bt.aj x)).1)∧Came w w' base d F (A.add file.data.toList (Bt.aj x)).2 sb sv file b0 (VX (A.add file.data.toList (Bt.aj x)).1 ps (VW ps x))):=by
 have Gs:=hide hx;obtain⟨sv0,hsv0,hr,b1,b2,f1,f2⟩:=hx;simp only[Value.agg.injEq,Array.mk.injEq,List.cons.injEq,Value.int.injEq,true_and,and_true]at hsv0;subst hsv0;have HB:=hide h;have MG:=hide hxs;have HR:=hide hr;have hmx:maxLen=9223372036854775807:=by simp[maxLen]
 have hsb:=lt_of_heap h.qg.box;clear h hxs hr;go_enter Tryz.func188,Tryz.ntmps188
 go_wp2_with fail
 have ht0:Turn [] w (w.alloc (.cells #[.int .i64 x.base, .int .i64 x.fin,va] 215)):=(Turn.refl [] w).alloc _;have hbb:wS (w.alloc (.cells #[.int .i64 x.base, .int .i64 x.fin,va] 215)) (.agg #[.int .i64 x.base, .int .i64 x.fin,va]) x:=⟨va,rfl,HR.out.still ht0,b1,b2,f1,f2⟩;refine(Fa _ _ x hbb).mono ?_;rintro e w1 ⟨vb,rfl,ht1,hrow1⟩;have hX:=ht1.heap (ae w (.cells #[.int .i64 x.base, .int .i64 x.fin,va] 215)) (by simp);have HX:=hide hX;have HT1:=hide (ht0.same ht1);have bQ:=hide hrow1;have hsz1:=lt_of_heap hX;clear ht0 hbb ht1 hrow1 hX;by_cases he:Bt.aO x=0
 ·have U3:As.pG (Bt.aO x)= .nilIface:=by rw[he];rfl
  have hrow1:=bQ.out;unfold encR at hrow1;rw[if_pos he]at hrow1;obtain⟨ba,bc,hvb,NY,JS⟩:=hrow1.form;subst hvb;have HE:=hide he;have Yf:=hide hrow1;rw[U3];clear he U3 hrow1 bQ;go_wp2
  obtain⟨nx,hnx⟩:∃nx,nx=qx b0 ps:=⟨_,rfl⟩;have tK:=hide hnx;clear hnx;refine aB 4 (Turn []) (by kernel_rfl) (by kernel_rfl) (by kernel_rfl) (by kernel_rfl) (by kernel_rfl) (Nat.le_of_ble_eq_true rfl) rfl (Turn.refl _) (fun _ _ _ h k=>h.same k) ?_;apply Lo.ag 1 rfl rfl [] (by kernel_rfl) (Turn.refl _);apply Exists.intro;apply And.intro
  ·intro u w1 hR hF
   clear hF;refine⟨rfl,fun a ha K hK=>?_⟩;have e3:=ha 3;conv at e3=>rhs;whnf
   clear ha;go_simp
   refine hK _ ?_;rfl
  apply Lo.ag 2 rfl rfl [0] (by kernel_rfl) (Turn.refl _);apply Exists.intro;apply And.intro
  ·intro u w1 hR hF
   obtain⟨h0, -⟩:=hF;refine⟨rfl,fun a ha K hK=>?_⟩;have e16:=(ha 16).trans h0;clear ha h0;have hX:=(((Turn.refl [] _).drew).same hR).heap HX.out (by simp);have c0:w1.cell? ⟨w.heap.size,0,none⟩=some (.int .i64 x.base):=by rw[cell_of hX];rfl
   have z1:=lt_of_heap hX;go_simp
   refine hK _ ?_;rfl
  apply Lo.ag 3 rfl rfl [] (by kernel_rfl) (Turn.refl _);apply Exists.intro;apply And.intro
  ·intro u w1 hR hF
   clear hF;refine⟨rfl,fun a ha K hK=>?_⟩;have e0:=ha 0;conv at e0=>rhs;whnf
   clear ha;go_simp
   refine hK _ ?_;rfl
  refine Lo.run 4 rfl rfl [2] (fun y _=>y= .int .i64 nx) (by kernel_rfl) (fun x w w' h hR=>?_) (fun _ _ h=>h) (fun u w1 hR hF=>?_) ?_
  ·exact h
  ·obtain⟨h2, -⟩:=hF
   refine⟨rfl,fun a ha K hK=>?_⟩;have e18:=(ha 18).trans h2;clear ha h2;go_simp
   refine(next_any _ base d sb sv file b0 ps (HB.out.qg.still (HT1.out.same (((Turn.refl [] _).drew).same hR))) (by omega)).mono ?_;rintro e w2 ⟨rfl,ht2⟩;exact hK _ _ (by rw[tK.out]) ht2
  refine Lo.done [1,3] (fun u w1 bP hSd hF=>?_);clear hSd;obtain⟨f1,f3, -⟩:=hF;have d1:u 1=_:=f1;have d3:=(show(fun y _=>y= .int .i64 nx) (u 3) w1 from f3);dsimp only at d3;clear f1 f3;simp only[List.take_succ_cons,List.take_zero,List.drop_succ_cons,List.drop_zero,ax,Act.put,List.setIfInBounds_toArray,List.set_cons_succ,List.set_cons_zero,Nat.zero_add,Nat.reduceAdd,d1];rw[d3];have HT2:=hide (HT1.out.same (((Turn.refl [] _).drew).same bP));have HX2:=hide ((((Turn.refl [] _).drew).same bP).heap HX.out (by simp));have Yg:=hide (Yf.out.kept (((Turn.refl [] _).drew).same bP) (by simp));clear d1 d3 bP;by_cases hlt:x.base<nx
  ·have E5:=hide hlt
   go_wp2
   go_ret
   exact .inr (.inl ⟨HE.out,by rw[←tK.out];exact E5.out,rfl,HT2.out⟩)
  ·have E5:=hide hlt
   go_wp2
   refine aB 9 (Turn []) (by kernel_rfl) (by kernel_rfl) (by kernel_rfl) (by kernel_rfl) (by kernel_rfl) (Nat.le_of_ble_eq_true rfl) rfl (Turn.refl _) (fun _ _ _ h k=>h.same k) ?_;apply Lo.ag 1 rfl rfl [] (by kernel_rfl) (Turn.refl _);apply Exists.intro;apply And.intro
   ·intro u w1 hR hF
    clear hF;refine⟨rfl,fun a ha K hK=>?_⟩;have e0:=ha 0;conv at e0=>rhs;whnf
    clear ha;go_simp
    refine hK _ ?_;rfl
   apply Lo.ag 2 rfl rfl [0] (by kernel_rfl) (Turn.refl _);apply Exists.intro;apply And.intro
   ·intro u w1 hR hF
    obtain⟨h0, -⟩:=hF;refine⟨rfl,fun a ha K hK=>?_⟩;have e22:=(ha 22).trans h0;clear ha h0;go_simp
    refine hK _ ?_;rfl
   apply Lo.ag 3 rfl rfl [1] (by kernel_rfl) (Turn.refl _);apply Exists.intro;apply And.intro
   ·intro u w1 hR hF
    obtain⟨h1, -⟩:=hF;refine⟨rfl,fun a ha K hK=>?_⟩;have e23:=(ha 23).trans h1;clear ha h1;go_simp
    refine hK _ ?_;rfl
   apply Lo.ag 4 rfl rfl [2] (by kernel_rfl) (Turn.refl _);apply Exists.intro;apply And.intro
   ·intro u w1 hR hF
    obtain⟨h2, -⟩:=hF;refine⟨rfl,fun a ha K hK=>?_⟩;have e24:=(ha 24).trans h2;clear ha h2;have hS:=HB.out.qg.still (HT2.out.same (((Turn.refl [] _).drew).same hR));have c0:=hS.c0;have z1:=lt_of_heap hS.box;go_simp
    refine hK _ ?_;rfl
   apply Lo.ag 5 rfl rfl [] (by kernel_rfl) (Turn.refl _);apply Exists.intro;apply And.intro
   ·intro u w1 hR hF
    clear hF;refine⟨rfl,fun a ha K hK=>?_⟩;have e0:=ha 0;conv at e0=>rhs;whnf
    clear ha;go_simp
    refine hK _ ?_;rfl
   apply Lo.ag 6 rfl rfl [4] (by kernel_rfl) (Turn.refl _);apply Exists.intro;apply And.intro
   ·intro u w1 hR hF
    obtain⟨h4, -⟩:=hF;refine⟨rfl,fun a ha K hK=>?_⟩;have e26:=(ha 26).trans h4;clear ha h4;go_simp
    refine hK _ ?_;rfl
   apply Lo.ag 7 rfl rfl [5] (by kernel_rfl) (Turn.refl _);apply Exists.intro;apply And.intro
   ·intro u w1 hR hF
    obtain⟨h5, -⟩:=hF;refine⟨rfl,fun a ha K hK=>?_⟩;have e27:=(ha 27).trans h5;clear ha h5;go_simp
    refine hK _ ?_;rfl
   apply Lo.ag 8 rfl rfl [6] (by kernel_rfl) (Turn.refl _);apply Exists.intro;apply And.intro
   ·intro u w1 hR hF
    obtain⟨h6, -⟩:=hF;refine⟨rfl,fun a ha K hK=>?_⟩;have e28:=(ha 28).trans h6;clear ha h6;have hS:=HB.out.qg.still (HT2.out.same (((Turn.refl [] _).drew).same hR));have c1:=hS.c1;have z1:=lt_of_heap hS.box;go_simp
    refine hK _ ?_;rfl
   apply Lo.ag 9 rfl rfl [] (by kernel_rfl) (Turn.refl _);apply Exists.intro;apply And.intro
   ·intro u w1 hR hF
    clear hF;refine⟨rfl,fun a ha K hK=>?_⟩;have e5:=ha 5;conv at e5=>rhs;whnf
    clear ha;go_simp
    refine hK _ ?_;rfl
   refine Lo.done [3,7,8] (fun u w1 bP hSd hF=>?_);clear hSd;obtain⟨f3,f7,f8, -⟩:=hF;have d3:u 3=_:=f3;have d7:u 7=_:=f7;have d8:u 8=_:=f8;clear f3 f7 f8;simp only[List.take_succ_cons,List.take_zero,List.drop_succ_cons,List.drop_zero,ax,Act.put,List.setIfInBounds_toArray,List.set_cons_succ,List.set_cons_zero,Nat.zero_add,Nat.reduceAdd,d3,d7,d8];have HT3:=hide (HT2.out.same (((Turn.refl [] _).drew).same bP));have HX3:=hide ((((Turn.refl [] _).drew).same bP).heap HX2.out (by simp));have Ht:=hide (Yg.out.kept (((Turn.refl [] _).drew).same bP) (by simp));clear d3 d7 d8 bP;have U4:=HB.out.still HT3.out;obtain⟨ah,ms,hparts⟩:=U4.disk;have N7:∀k∈F,k<w.heap.size:=HB.out.disk.lt;have Yh:∀k∈bJ sb sv,base≤k∧k<w.heap.size:=HB.out.qg.lt;have hws:=HT1.out.size;have P9:∀k∈(Value.slice ba (Bt.aj x).length bc).ownBlock,w.heap.size≤k:=fun k hk=>by
    have:=(Ht.out.lt k hk).1;simp at this;omega
   have hsl:∀Z,Turn F w1 Z→SliceAt Z (.slice ba (Bt.aj x).length bc) ((Bt.aj x).map aj):=fun Z hZ=>
    Ht.out.cells.kept hZ (fun k hk hm=>by have:=P9 k hk;have:=N7 k hm;omega)
   have hen:(Bt.aj x).length≤6000:=by have:=(Bt.eY HE.out).2;rw[Bt.gK];exact this
   have XH:=hide hsl;have hlt':nx≤x.base:=E5.out;have ZH:Hid (qx b0 ps≤x.base):=by rw[tK.out]at hlt';exact hlt'
   have HBO:=hide P9;have HF:=hide N7;have HG:=hide Yh;clear hsl hlt' P9 N7 Yh U4 NY JS;go_wp2_with fail
   refine(Dk.add_any hparts file hfs _ (Bt.aj x) XH.out (by omega)).mono ?_;rintro e w2 ⟨rfl,F',hd2,ht2,hf2⟩;have hws1:=HT3.out.size;have hdis:∀k∈bJ sb sv,k∉F':=fun k hk hm=>(hf2 k hm).elim (fun h=>HB.out.sep k hk h) (fun h=>by have:=(HG.out k hk).2;omega)
   have hX2:=ht2.heap HX3.out (fun hm=>by have:=HF.out _ hm;omega);have hs2:=(HB.out.qg.still HT3.out).kept ht2 (fun k hk=>HB.out.sep k hk);have htw2:Turn F w w2:=(HT3.out.mono (by simp)).same ht2;obtain⟨c,hc⟩:∃c,c=(A.add file.data.toList (Bt.aj x)).1:=⟨_,rfl⟩;obtain⟨A2,hA2⟩:∃A2,A2=(A.add file.data.toList (Bt.aj x)).2:=⟨_,rfl⟩;have Ec:=hide hc;have VY:=hide hA2;rw[←hA2]at hd2;rw[←hc];have HD2:=hide hd2;have HT2':=hide ht2;have HF2:=hide hf2;have VZ:=hide hdis;have HS2:=hide hs2;have Hu:=hide htw2;by_cases hc0:c=0
   ·have hr0:aW c= .nilIface:=by rw[hc0];rfl
    have k0:w2.cell? ⟨w.heap.size,0,none⟩=some (.int .i64 x.base):=by rw[cell_of hX2];rfl
    have k1:w2.cell? ⟨w.heap.size,1,none⟩=some (.int .i64 x.fin):=by rw[cell_of hX2];rfl
    have k2:w2.cell? ⟨w.heap.size,2,none⟩=some va:=by rw[cell_of hX2];rfl
    have z2:=lt_of_heap hX2;have HC0:=hide hc0;have HR0:=hide hr0;rw[hr0];clear hc hA2 hd2 ht2 hf2 hdis hs2 htw2 hX2 hc0 hr0 hparts;go_wp2_with fail
    refine(note_any w2 base d sb sv file b0 ps HS2.out hl hz _ (Bt.aj x) (fun Z hZ=>?_) (by omega) x.base x.fin va x.recs (HR.out.kept Hu.out (fun k hk hlt=>(MG.out k hk hlt).1))).mono ?_
    ·exact((Ht.out.kept HT2'.out (fun k hk hm=>by have:=HBO.out k hk;have:=HF.out k hm;omega)).kept hZ (fun k hk hm=>by have:=HBO.out k hk;have:=(HG.out k hm).2;omega)).bytes
    rintro e w3 ⟨rfl,sv',hseg,ht3,hg⟩;go_wp2
    go_ret
    refine .inr (.inr ⟨HE.out,ZH.out,by rw[←Ec.out,HR0.out];rfl,F',sv',⟨by rw[←VY.out];exact HD2.out.kept ht3 (fun k hk hm=>VZ.out k hm hk),?_,fun k hk hm=>?_⟩,?_,fun k hk=>(HF2.out k hk).imp_right (Nat.le_trans hws1),fun k hk=>(hg k hk).imp_right (Nat.le_trans Hu.out.size)⟩)
    ·rw[←Ec.out,HC0.out];exact hseg
    ·rcases hg k hk with h|h
     ·exact VZ.out k h hm
     ·have:=HD2.out.lt k hm;omega
    ·exact(Hu.out.mono (fun k hk=> .inl (List.mem_append_left _ hk))).trans ht3 (fun k hk=> .inl (List.mem_append_right _ hk))
   ·have hr0:aW c= .iface 38 (.int .i64 c):=by unfold aW;rw[if_neg hc0];rfl
    have HC0:=hide hc0;have HR0:=hide hr0;rw[hr0];clear hc hA2 hd2 ht2 hf2 hdis hs2 htw2 hX2 hc0 hr0 hparts;go_wp2
    go_ret
    refine .inr (.inr ⟨HE.out,ZH.out,by rw[←Ec.out,HR0.out];rfl,F',sv,⟨by rw[←VY.out];exact HD2.out,?_,VZ.out⟩,Hu.out.mono (fun k hk=> .inl (List.mem_append_left _ hk)),fun k hk=>(HF2.out k hk).imp_right (Nat.le_trans hws1),fun k hk=> .inl hk⟩);unfold VX;rw[←Ec.out,if_neg HC0.out];exact HS2.out
 ·have U3:As.pG (Bt.aO x)=aW (Bt.aO x):=rfl
  have hne:aW (Bt.aO x)= .iface 38 (.int .i64 (Bt.aO x)):=by unfold aW;rw[if_neg he];rfl
  rw[U3,hne];have SE:=hide hne;have HE:=hide he;clear U3 hne he bQ;go_wp2
  go_ret
  exact .inl ⟨HE.out,by rw[SE.out];rfl,HT1.out⟩
end Sg
end
section
open Go.RowKit Go.Maps
set_option maxRecDepth 100000
set_option linter.unusedSimpArgs false
set_option linter.unusedVariables false
attribute [local go_sem] Oper.semAt_some
namespace Sg
def lenOfV:Value→Nat
 | .slice _ n _=>n
 |_=>0
structure FSt(w wr:World)(base d sb:Nat)(sv:Value)(file:ByteArray)(b0:Int)(pre:List Bt.aX)(l:List UInt8)(dn:List Bt.aX)(sv':Value)(l':List UInt8)(bv:Value):Prop where
 scan:∀xs,Scan (aA b0 (pre++dn)) l' xs→Scan (aA b0 pre) l (dn++xs)
 bytes:BytesAt wr bv l'
 own:∀k∈bv.ownBlock,k<w.heap.size→k∉bJ sb sv
 own2:∀k∈bv.ownBlock,k<wr.heap.size→k∉bJ sb sv'
 qg:bu wr base d sb sv' file b0 (kL 0 (-1) (pre++dn))
 turn:Turn (bJ sb sv) w wr
 foot:∀k∈bJ sb sv',k∈bJ sb sv∨w.heap.size≤k
 len:l'.length+(flat dn).length≤l.length
end Sg
end
end Go.Proofs.YtmjpdhpmjmgmaaaGreatDoor
section
open Go.Shelf
namespace Go.Proofs
def Tryz.lays156_ren:Go.Shelf.Ren:=⟨fun|156=>118|165=>166|166=>167|169=>168|240=>212|241=>213|276=>246|277=>247|n=>n,fun|31=>138|9=>9|3=>3|4=>4|0=>0|20=>20|72=>248|76=>161|70=>246|37=>97|75=>25|127=>287|164=>182|5=>5|80=>163|n=>n,fun|n=>n⟩
theorem Tryz.lays156:Go.Proofs.Lays.n156 Tryz.prog Tryz.lays156_ren:={
 mixed:=by kernel_rfl
 f156:=Tryz.func118.trans (congrArg some (by kernel_rfl))
 f165:=Tryz.func166.trans (congrArg some (by kernel_rfl))
 f166:=Tryz.func167.trans (congrArg some (by kernel_rfl))
 f169:=Tryz.func168.trans (congrArg some (by kernel_rfl))
 f240:=Tryz.func212.trans (congrArg some (by kernel_rfl))
 f241:=Tryz.func213.trans (congrArg some (by kernel_rfl))
 f276:=Tryz.func246.trans (congrArg some (by kernel_rfl))
 f277:=Tryz.func247.trans (congrArg some (by kernel_rfl))
 t0:=Tryz.underlying0
 a0:=Tryz.isAgg0
 z0:=Tryz.sizeOf0
 v0:=Tryz.zeroValue0
 t3:=Tryz.underlying3
 a3:=Tryz.isAgg3
 z3:=Tryz.sizeOf3
 v3:=Tryz.zeroValue3
 t4:=Tryz.underlying4
 a4:=Tryz.isAgg4
 z4:=Tryz.sizeOf4
 v4:=Tryz.zeroValue4
 t9:=Tryz.underlying9
 a9:=Tryz.isAgg9
 z9:=Tryz.sizeOf9
 v9:=Tryz.zeroValue9
 t20:=Tryz.underlying20
 a20:=Tryz.isAgg20
 z20:=Tryz.sizeOf20
 v20:=Tryz.zeroValue20
 t31:=Tryz.underlying138
 a31:=Tryz.isAgg138
 z31:=Tryz.sizeOf138
 v31:=Tryz.zeroValue138
 t37:=Tryz.underlying97
 a37:=Tryz.isAgg97
 z37:=Tryz.sizeOf97
 v37:=Tryz.zeroValue97
 t70:=Tryz.underlying246
 a70:=Tryz.isAgg246
 z70:=Tryz.sizeOf246
 v70:=Tryz.zeroValue246
 t72:=Tryz.underlying248
 a72:=Tryz.isAgg248
 z72:=Tryz.sizeOf248
 v72:=Tryz.zeroValue248
 t75:=Tryz.underlying25
 a75:=Tryz.isAgg25
 z75:=Tryz.sizeOf25
 v75:=Tryz.zeroValue25
 t76:=Tryz.underlying161
 a76:=Tryz.isAgg161
 z76:=Tryz.sizeOf161
 v76:=Tryz.zeroValue161
 t127:=Tryz.underlying287
 a127:=Tryz.isAgg287
 z127:=Tryz.sizeOf287
 v127:=Tryz.zeroValue287
 t164:=Tryz.underlying182
 a164:=Tryz.isAgg182
 z164:=Tryz.sizeOf182
 v164:=Tryz.zeroValue182}
theorem Tryz.Builder_Extra_156:Builder.Extra Tryz.prog Tryz.lays156_ren:={
 sizeBuilder:=by kernel_rfl
 liesBuilder:=by kernel_rfl
 t5:=Tryz.underlying5
 a5:=Tryz.isAgg5
 z5:=Tryz.sizeOf5
 v5:=Tryz.zeroValue5
 infoByte:=by kernel_rfl
 cellsByte:=by kernel_rfl
 sizeByte:=by kernel_rfl
 neB5:=by decide}
open Go.RowKit in
open Go.RowKit in
theorem Tryz.strings_Join(bk o c:Nat)(xs:List ByteArray)(sep:ByteArray)(w:World)(hcells:∀(j:Nat) x,xs[j]? =some x→w.cell? ⟨bk,o+j,none⟩=some (.string x)) (hbk:bk<w.heap.size) (hN:xs.length≤140737488355328) (hcap:xs.length≤c) (hlen:(Lib.join (xs.map (·.data.toList)) sep.data.toList).length≤140737488355328):
 Calls Tryz.prog 118 #[.slice (some ⟨bk,o,none⟩) xs.length c, .string sep] w fun e w'=>e= .returned (.string ⟨(Lib.join (xs.map (·.data.toList)) sep.data.toList).toArray⟩)∧Below w.heap.size w w':=Any.strings_Join Tryz.lays156 Tryz.Builder_Extra_156 bk o c xs sep w hcells hbk hN hcap hlen
def Tryz.Fe:Go.Shelf.Ren:=⟨fun|171=>91|243=>134|246=>178|283=>219|284=>220|285=>221|286=>222|129=>204|317=>261|318=>262|319=>263|320=>264|337=>284|338=>285|n=>n,fun|3=>3|9=>9|2=>2|4=>4|171=>291|0=>0|53=>279|37=>97|5=>5|173=>293|212=>328|51=>277|20=>20|213=>329|46=>80|232=>357|233=>358|n=>n,fun|17=>4|18=>7|19=>8|n=>n⟩
theorem Tryz.laysM171:Go.Proofs.LaysM.n171 Tryz.prog Tryz.Fe:={
 mixed:=by kernel_rfl
 f129:=Tryz.func204.trans (congrArg some (by kernel_rfl))
 f171:=Tryz.func91.trans (congrArg some (by kernel_rfl))
 f243:=Tryz.func134.trans (congrArg some (by kernel_rfl))
 f246:=Tryz.func178.trans (congrArg some (by kernel_rfl))
 f283:=Tryz.func219.trans (congrArg some (by kernel_rfl))
 f284:=Tryz.func220.trans (congrArg some (by kernel_rfl))
 f285:=Tryz.func221.trans (congrArg some (by kernel_rfl))
 f286:=Tryz.func222.trans (congrArg some (by kernel_rfl))
 f317:=Tryz.func261.trans (congrArg some (by kernel_rfl))
 f318:=Tryz.func262.trans (congrArg some (by kernel_rfl))
 f319:=Tryz.func263.trans (congrArg some (by kernel_rfl))
 f320:=Tryz.func264.trans (congrArg some (by kernel_rfl))
 f337:=Tryz.func284.trans (congrArg some (by kernel_rfl))
 f338:=Tryz.func285.trans (congrArg some (by kernel_rfl))
 t0:=Tryz.underlying0
 a0:=Tryz.isAgg0
 z0:=Tryz.sizeOf0
 v0:=Tryz.zeroValue0
 t2:=Tryz.underlying2
 a2:=Tryz.isAgg2
 z2:=Tryz.sizeOf2
 v2:=Tryz.zeroValue2
 t3:=Tryz.underlying3
 a3:=Tryz.isAgg3
 z3:=Tryz.sizeOf3
 v3:=Tryz.zeroValue3
 t4:=Tryz.underlying4
 a4:=Tryz.isAgg4
 z4:=Tryz.sizeOf4
 v4:=Tryz.zeroValue4
 t5:=Tryz.underlying5
 a5:=Tryz.isAgg5
 z5:=Tryz.sizeOf5
 v5:=Tryz.zeroValue5
 t9:=Tryz.underlying9
 a9:=Tryz.isAgg9
 z9:=Tryz.sizeOf9
 v9:=Tryz.zeroValue9
 t20:=Tryz.underlying20
 a20:=Tryz.isAgg20
 z20:=Tryz.sizeOf20
 v20:=Tryz.zeroValue20
 t37:=Tryz.underlying97
 a37:=Tryz.isAgg97
 z37:=Tryz.sizeOf97
 v37:=Tryz.zeroValue97
 t46:=Tryz.underlying80
 a46:=Tryz.isAgg80
 z46:=Tryz.sizeOf80
 v46:=Tryz.zeroValue80
 t51:=Tryz.underlying277
 a51:=Tryz.isAgg277
 z51:=Tryz.sizeOf277
 v51:=Tryz.zeroValue277
 t53:=Tryz.underlying279
 a53:=Tryz.isAgg279
 z53:=Tryz.sizeOf279
 v53:=Tryz.zeroValue279
 t171:=Tryz.underlying291
 a171:=Tryz.isAgg291
 z171:=Tryz.sizeOf291
 v171:=Tryz.zeroValue291
 t173:=Tryz.underlying293
 a173:=Tryz.isAgg293
 z173:=Tryz.sizeOf293
 v173:=Tryz.zeroValue293
 t212:=Tryz.underlying328
 a212:=Tryz.isAgg328
 z212:=Tryz.sizeOf328
 v212:=Tryz.zeroValue328
 t213:=Tryz.underlying329
 a213:=Tryz.isAgg329
 z213:=Tryz.sizeOf329
 t232:=Tryz.underlying357
 a232:=Tryz.isAgg357
 z232:=Tryz.sizeOf357
 v232:=Tryz.zeroValue357
 t233:=Tryz.underlying358
 a233:=Tryz.isAgg358
 z233:=Tryz.sizeOf358
 v233:=Tryz.zeroValue358
 g17:=by kernel_rfl
 g18:=by kernel_rfl
 g19:=by kernel_rfl
 i0:=by kernel_rfl
 i2:=by kernel_rfl
 i3:=by kernel_rfl
 i4:=by kernel_rfl
 i5:=by kernel_rfl
 i9:=by kernel_rfl
 i20:=by kernel_rfl
 i37:=by kernel_rfl
 i46:=by kernel_rfl
 i51:=by kernel_rfl
 i53:=by kernel_rfl
 i171:=by kernel_rfl
 i173:=by kernel_rfl
 i212:=by kernel_rfl
 i232:=by kernel_rfl
 i233:=by kernel_rfl
 m17:=by kernel_rfl
 m18:=by kernel_rfl
 m19:=by kernel_rfl}
open Go.RowKit Go.Sort Go.Lib in
theorem Tryz.strconv_Itoa(n:Int)(h0: -9223372036854775808≤n)(h1:n≤9223372036854775807)(w:World)(htab:Lib.TabIs Tryz.prog w "internal/strconv.uint64pow10" .u64 Lib.pow10Tab):
 Calls Tryz.prog 91 #[.int .i64 n] w fun e w'=>e= .returned (.string ⟨(Lib.itoa n).toArray⟩)∧∃k os,w'=grow (w.drewN k) os:=Any.strconv_Itoa Tryz.laysM171 n h0 h1 w htab
def Tryz.TF:Go.Shelf.Ren:=⟨fun|172=>78|244=>116|245=>117|247=>161|279=>162|280=>163|281=>164|282=>165|287=>209|316=>210|171=>91|205=>211|321=>244|322=>245|243=>134|246=>178|283=>219|284=>220|285=>221|286=>222|129=>204|317=>261|318=>262|319=>263|320=>264|337=>284|338=>285|n=>n,fun|9=>9|3=>3|75=>25|76=>161|4=>4|5=>5|167=>240|37=>97|0=>0|85=>241|2=>2|168=>243|53=>279|175=>282|46=>80|210=>286|127=>287|145=>315|143=>313|21=>21|171=>291|173=>293|212=>328|51=>277|20=>20|213=>329|232=>357|233=>358|80=>163|n=>n,fun|15=>2|16=>3|17=>4|18=>7|19=>8|n=>n⟩
open Go.RowKit in
open Go.RowKit in
open Go.RowKit in
def Tryz.lays101_ren:Go.Shelf.Ren:=⟨fun|101=>172|208=>216|206=>124|n=>n,fun|9=>9|4=>4|3=>3|n=>n,fun|n=>n⟩
open Go.RowKit Go.Lib in
def Tryz.lays102_ren:Go.Shelf.Ren:=⟨fun|102=>47|209=>80|207=>119|n=>n,fun|9=>9|4=>4|3=>3|n=>n,fun|n=>n⟩
open Go.RowKit Go.Lib in
def Tryz.lays105_ren:Go.Shelf.Ren:=⟨fun|105=>215|212=>257|99=>84|165=>166|166=>167|170=>258|169=>168|263=>279|264=>280|206=>124|240=>212|241=>213|276=>246|277=>247|n=>n,fun|9=>9|3=>3|4=>4|20=>20|0=>0|46=>80|109=>323|5=>5|72=>248|76=>161|51=>277|146=>341|53=>279|148=>346|70=>246|37=>97|75=>25|127=>287|164=>182|80=>163|n=>n,fun|n=>n⟩
theorem Tryz.lays105:Go.Proofs.Lays.n105 Tryz.prog Tryz.lays105_ren:={
 mixed:=by kernel_rfl
 f99:=Tryz.func84.trans (congrArg some (by kernel_rfl))
 f105:=Tryz.func215.trans (congrArg some (by kernel_rfl))
 f165:=Tryz.func166.trans (congrArg some (by kernel_rfl))
 f166:=Tryz.func167.trans (congrArg some (by kernel_rfl))
 f169:=Tryz.func168.trans (congrArg some (by kernel_rfl))
 f170:=Tryz.func258.trans (congrArg some (by kernel_rfl))
 f206:=Tryz.func124.trans (congrArg some (by kernel_rfl))
 f212:=Tryz.func257.trans (congrArg some (by kernel_rfl))
 f240:=Tryz.func212.trans (congrArg some (by kernel_rfl))
 f241:=Tryz.func213.trans (congrArg some (by kernel_rfl))
 f263:=Tryz.func279.trans (congrArg some (by kernel_rfl))
 f264:=Tryz.func280.trans (congrArg some (by kernel_rfl))
 f276:=Tryz.func246.trans (congrArg some (by kernel_rfl))
 f277:=Tryz.func247.trans (congrArg some (by kernel_rfl))
 t0:=Tryz.underlying0
 a0:=Tryz.isAgg0
 z0:=Tryz.sizeOf0
 v0:=Tryz.zeroValue0
 t3:=Tryz.underlying3
 a3:=Tryz.isAgg3
 z3:=Tryz.sizeOf3
 v3:=Tryz.zeroValue3
 t4:=Tryz.underlying4
 a4:=Tryz.isAgg4
 z4:=Tryz.sizeOf4
 v4:=Tryz.zeroValue4
 t5:=Tryz.underlying5
 a5:=Tryz.isAgg5
 z5:=Tryz.sizeOf5
 v5:=Tryz.zeroValue5
 t9:=Tryz.underlying9
 a9:=Tryz.isAgg9
 z9:=Tryz.sizeOf9
 v9:=Tryz.zeroValue9
 t20:=Tryz.underlying20
 a20:=Tryz.isAgg20
 z20:=Tryz.sizeOf20
 v20:=Tryz.zeroValue20
 t37:=Tryz.underlying97
 a37:=Tryz.isAgg97
 z37:=Tryz.sizeOf97
 v37:=Tryz.zeroValue97
 t46:=Tryz.underlying80
 a46:=Tryz.isAgg80
 z46:=Tryz.sizeOf80
 v46:=Tryz.zeroValue80
 t51:=Tryz.underlying277
 a51:=Tryz.isAgg277
 z51:=Tryz.sizeOf277
 v51:=Tryz.zeroValue277
 t53:=Tryz.underlying279
 a53:=Tryz.isAgg279
 z53:=Tryz.sizeOf279
 v53:=Tryz.zeroValue279
 t70:=Tryz.underlying246
 a70:=Tryz.isAgg246
 z70:=Tryz.sizeOf246
 v70:=Tryz.zeroValue246
 t72:=Tryz.underlying248
 a72:=Tryz.isAgg248
 z72:=Tryz.sizeOf248
 v72:=Tryz.zeroValue248
 t75:=Tryz.underlying25
 a75:=Tryz.isAgg25
 z75:=Tryz.sizeOf25
 v75:=Tryz.zeroValue25
 t76:=Tryz.underlying161
 a76:=Tryz.isAgg161
 z76:=Tryz.sizeOf161
 v76:=Tryz.zeroValue161
 t109:=Tryz.underlying323
 a109:=Tryz.isAgg323
 z109:=Tryz.sizeOf323
 v109:=Tryz.zeroValue323
 t127:=Tryz.underlying287
 a127:=Tryz.isAgg287
 z127:=Tryz.sizeOf287
 v127:=Tryz.zeroValue287
 t146:=Tryz.underlying341
 a146:=Tryz.isAgg341
 z146:=Tryz.sizeOf341
 v146:=Tryz.zeroValue341
 t148:=Tryz.underlying346
 a148:=Tryz.isAgg346
 z148:=Tryz.sizeOf346
 v148:=Tryz.zeroValue346
 t164:=Tryz.underlying182
 a164:=Tryz.isAgg182
 z164:=Tryz.sizeOf182
 v164:=Tryz.zeroValue182}
theorem Tryz.Builder_Extra_105:Builder.Extra Tryz.prog Tryz.lays105_ren:={
 sizeBuilder:=by kernel_rfl
 liesBuilder:=by kernel_rfl
 t5:=Tryz.underlying5
 a5:=Tryz.isAgg5
 z5:=Tryz.sizeOf5
 v5:=Tryz.zeroValue5
 infoByte:=by kernel_rfl
 cellsByte:=by kernel_rfl
 sizeByte:=by kernel_rfl
 neB5:=by decide}
open Go.RowKit Go.Lib in
theorem Tryz.strings_Repeat(s:ByteArray)(c:Nat)(w:World)(hc:c≤9223372036854775807)(hlen:s.size*c≤140737488355328):
 Calls Tryz.prog 215 #[.string s, .int .i64 c] w fun e w'=>e= .returned (.string ⟨(Lib.repeatL s.data.toList c).toArray⟩)∧Below w.heap.size w w':=Any.strings_Repeat Tryz.lays105 Tryz.Builder_Extra_105 s c w hc hlen
end Go.Proofs
end
namespace Go.Proofs.YtmjpdhpmjmgmaaaGreatDoor
section
open Go.Lib
set_option linter.unusedSimpArgs false
set_option linter.unusedVariables false
namespace Sn
def pad(l:List UInt8):List UInt8:=List.replicate (10-l.length) 48++l
def l9(dir:List UInt8)(n:Nat):List UInt8:=dir++[47]++pad (decDigits n)++[46,108,111,103]
theorem V3(n:Nat):decDigits n≠[]:=by
 rw[decDigits];split<;>simp
theorem Hw{n:Nat}(h:¬n<10):decDigits n=decDigits (n/10)++[UInt8.ofNat (48+n%10)]:=by rw[decDigits,dif_neg h]
theorem qW{d:Nat}(h:d<10):(UInt8.ofNat (48+d)).toNat=48+d:=UInt8.toNat_ofNat_of_lt' (by show _<256;omega)
theorem Ej:∀(f n acc:Nat) (r:List UInt8),n<f→n<10000000000000→acc≤10000→parseUint10 (acc*10^(decDigits n).length+n) r=parseUint10 acc (decDigits n++r)∨0<acc
 |0,n,_,_,h,_,_=>absurd h (Nat.not_lt_zero _)
 |f+1,n,acc,r,h,hn,ha=>by
  by_cases h0:0<acc
  ·exact .inr h0
  ·left
   have:acc=0:=by omega
   subst this;by_cases h10:n<10
   ·rw[decDigits,dif_pos h10]
    simp only[List.cons_append,List.nil_append,parseUint10,qW h10];rw[if_pos (by omega),if_neg (by omega),if_neg (by omega)];congr 1
    simp
   ·have hq:n/10<f:=by omega
    have ih:=(Ej f (n/10) 0 (UInt8.ofNat (48+n%10)::r) hq (by omega) (by omega)).resolve_right (by omega);rw[Hw h10,List.append_assoc,List.singleton_append,←ih];simp only[Nat.zero_mul,Nat.zero_add,parseUint10];rw[qW (Nat.mod_lt _ (by omega)),if_pos (by omega),if_neg (by omega),if_neg (by omega)];congr 1
    omega
theorem JU{n:Nat}(hn:n<10000000000000):parseUint10 0 (decDigits n)= .ok n:=by
 have:=(Ej (n+1) n 0 [] (by omega) hn (by omega)).resolve_right (by omega);rw[List.append_nil]at this;rw[←this];simp[parseUint10]
theorem xy:∀(k:Nat) (l:List UInt8),parseUint10 0 (List.replicate k 48++l)=parseUint10 0 l
 |0,l=>rfl
 |k+1,l=>by
  rw[List.replicate_succ,List.cons_append,parseUint10];rw[if_pos (by decide),if_neg (by decide),if_neg (by decide)];exact xy k l
theorem Em:∀(f n:Nat),n<f→∀c∈decDigits n,48≤c.toNat∧c.toNat≤57
 |0,n,h,_,_=>absurd h (Nat.not_lt_zero _)
 |f+1,n,h,c,hc=>by
  by_cases h10:n<10
  ·rw[decDigits,dif_pos h10]at hc
   simp only[List.mem_singleton]at hc;subst hc;rw[qW h10];omega
  ·rw[Hw h10]at hc
   rcases List.mem_append.1 hc with hc|hc
   ·exact Em f (n/10) (by omega) c hc
   ·simp only[List.mem_singleton]at hc
    subst hc;rw[qW (Nat.mod_lt _ (by omega))];omega
theorem V4(n:Nat):pad (decDigits n)≠[]:=by
 unfold pad;simp[V3]
theorem Eo(n:Nat):∀c∈pad (decDigits n),48≤c.toNat∧c.toNat≤57:=by
 intro c hc;unfold pad at hc;rcases List.mem_append.1 hc with hc|hc
 ·have:=List.eq_of_mem_replicate hc
  subst this;decide
 ·exact Em (n+1) n (by omega) c hc
theorem V5{l:List UInt8}{n:Nat}(hne:l≠[])(hd:∀c∈l,48≤c.toNat∧c.toNat≤57)(hp:parseUint10 0 l= .ok n)(hn:n<10000000000000):atoiAll l= .ok n:=by
 cases l with
 |nil=>exact absurd rfl hne
 |cons c r=>
  have hc:=hd c (by simp);unfold atoiAll;simp only;rw[if_neg (by omega)];unfold parseMag;rw[if_neg (by simp),hp];simp only;rw[if_neg (by omega),if_neg (by omega),if_neg (by omega)]
theorem Hy{n:Nat}(hn:n<10000000000000):atoiAll (pad (decDigits n))= .ok n:=
 V5 (V4 n) (Eo n) (by unfold pad;rw[xy,JU hn]) hn
theorem Ep(dir:List UInt8)(n:Nat):trimSuffix (trimPrefix (l9 dir n) (dir++[47])) [46,108,111,103]=pad (decDigits n):=by
 have h1:trimPrefix (l9 dir n) (dir++[47])=pad (decDigits n)++[46,108,111,103]:=by
  unfold trimPrefix l9 hasPrefix;rw[List.append_assoc (dir++[47])];rw[if_pos (by simp)];simp
 rw[h1];unfold trimSuffix hasSuffix;rw[if_pos (by simp)];simp
end Sn
end
section
open Go.Lib Go.RowKit
set_option linter.unusedSimpArgs false
set_option linter.unusedVariables false
attribute [local go_sem] Oper.semAt_some
namespace Sn
def dA(w:World):Prop:=TabIs Tryz.prog w "internal/strconv.uint64pow10" .u64 pow10Tab
structure Qa(w:World):Prop where
 tab:dA w
 syn:∃tp p,w.var? Tryz.prog "strconv.ErrSyntax" =some #[.iface tp p]
 rng:∃tp p,w.var? Tryz.prog "strconv.ErrRange" =some #[.iface tp p]
theorem var_below{w w':World}{n:String}{cs:Array Value}(hb:Below w.heap.size w w')(h:w.var? Tryz.prog n=some cs):w'.var? Tryz.prog n=some cs:=by
 unfold World.var? at h⊢;cases hg:Tryz.prog.globalNamed n with
 |none=>rw[hg]at h;cases h
 |some g=>
  rw[hg]at h;simp only[Option.bind_some]at h⊢;by_cases hl:g<w.heap.size
  ·rw[hb.block g hl];exact h
  ·rw[Array.getElem?_eq_none (by omega)]at h;cases h
theorem dA.below{w w':World}(h:dA w)(hb:Below w.heap.size w w'):dA w':=var_below hb h
theorem Qa.below{w w':World}(h:Qa w)(hb:Below w.heap.size w w'):Qa w':=
 ⟨var_below hb h.tab,h.syn.imp fun tp ⟨p,e⟩=>⟨p,var_below hb e⟩,h.rng.imp fun tp ⟨p,e⟩=>⟨p,var_below hb e⟩⟩
theorem below_grow(w:World)(k:Nat)(os:Array Obj):Below w.heap.size w (Go.Sort.grow (w.drewN k) os):=
 ⟨rfl,rfl,rfl,by simp[Go.Sort.grow],fun i hi=>by simp[Go.Sort.grow,Array.getElem?_append_left hi]⟩
theorem JV{a b c:World}(h:Below a.heap.size a b)(k:Below b.heap.size b c):Below a.heap.size a c:=h.trans (k.mono h.size)
theorem Hz(n:Nat)(hn:n≤1099511627776)(w:World)(hv:dA w):
 Calls Tryz.prog 91 #[.int .i64 (n:Int)] w fun e w'=>∃S:ByteArray,e= .returned (.string S)∧S.data.toList=decDigits n∧Below w.heap.size w w':=by
 refine(Tryz.strconv_Itoa (n:Int) (by omega) (by omega) w hv).mono ?_;rintro e w' ⟨rfl,k,os,rfl⟩;exact⟨_,rfl,by simp[itoa_nonneg],below_grow w k os⟩
theorem Ia:∀c,repeatL [48] c=List.replicate c 48
 |0=>rfl
 |c+1=>by rw[repeatL,Ia c];rfl
theorem nP{n:Nat}(hn:n≤1099511627776):(decDigits n).length≤21:=by
 have:=itoa_length_le (n:Int) (by omega) (by omega);rwa [itoa_nonneg]at this
theorem TG(c:Nat)(hc:c≤10)(w:World):
 Calls Tryz.prog 215 #[.string ⟨#[48]⟩, .int .i64 (c:Int)] w fun e w'=>∃R:ByteArray,e= .returned (.string R)∧R.data.toList=List.replicate c 48∧Below w.heap.size w w':=by
 refine(Tryz.strings_Repeat ⟨#[48]⟩ c w (by omega) (by show 1*c≤_;omega)).mono ?_;rintro e w' ⟨rfl,hb⟩;exact⟨_,rfl,by simp[Ia],hb⟩
def nameB(dir:ByteArray)(n:Nat):ByteArray:=⟨(l9 dir.data.toList n).toArray⟩
theorem Qb{dir S R:ByteArray}(n:Nat)(hS:S.data.toList=decDigits n)(hR:R.data.toList=List.replicate (10-S.size) 48):dir++⟨#[47]⟩++R++S++⟨#[46,108,111,103]⟩=nameB dir n:=by
 apply ByteArray.ext;apply Array.toList_inj.1;unfold nameB l9 pad;have hz:S.size=(decDigits n).length:=by rw[size_eq,hS]
 simp[ByteArray.data_append,hS,hR,hz]
set_option maxHeartbeats 1000000 in
theorem name_any(dir:ByteArray)(n:Nat)(hn:n≤1099511627776)(hd:dir.size≤1000)(w:World)(hv:dA w):
 Calls Tryz.prog 171 #[.string dir, .int .i64 (n:Int)] w fun e w'=>e= .returned (.string (nameB dir n))∧Below w.heap.size w w':=by
 have HV:=hide hv;clear hv;go_enter Tryz.func171,Tryz.ntmps171
 go_wp2_with fail
 refine(Hz n hn _ HV.out).mono ?_;rintro e w1 ⟨S,rfl,hS,hb1⟩;have hsz:S.size≤21:=by rw[size_eq,hS];exact nP hn
 have hmax:max (10-(S.size:Int)) 0=((10-S.size:Nat):Int):=by omega
 go_wp2_with fail
 clear hmax;refine(TG (10-S.size) (by omega) _).mono ?_;rintro e w2 ⟨R,rfl,hR,hb2⟩;have HE:Hid (dir++⟨#[47]⟩++R++S++⟨#[46,108,111,103]⟩=nameB dir n):=Qb n hS hR;have hRs:R.size≤10:=by rw[size_eq,hR];simp
 clear hS hR;go_wp2_with fail
 go_ret
 exact⟨by rw[←HE.out];rfl,JV hb1 hb2⟩
theorem uz{P:Program}{o:Oper}{a:Act}{K:Act→World→Prop}{Q:Exit→Act→World→Prop}{w w':World}{s x:Operand}{t tx:TypeId}{v xv v':Value}
 (ho:o.op= .call {callee:= .builtin .append,args:= #[s,x],argTypes:= #[t,tx]})(hs:a.eval s=v)(hx:a.eval x=xv)(hr:(Builtin.append_ #[t,tx] o.type #[v,xv]).run P w= .ok v' w')(h:K (a.put o.dst v') w'):o.wp P a w K Q:=by
 unfold Oper.wp execOp;simp only[ho,resolve,invoke,builtin,Sem.run_bind,Sem.run_pure,Result.andThen_ok,List.map_toArray,List.map_cons,List.map_nil,hs,hx,hr];exact h
theorem dY{P:Program}{ops:Array Oper}{rest:List Oper}{o:Oper}{a:Act}{Q:Exit→Act→World→Prop}{w w':World}(hgd:o.guard=none){s x:Operand}{t tx:TypeId}{v xv v':Value}
 (ho:o.op= .call {callee:= .builtin .append,args:= #[s,x],argTypes:= #[t,tx]})(hs:a.eval s=v)(hx:a.eval x=xv)(hr:(Builtin.append_ #[t,tx] o.type #[v,xv]).run P w= .ok v' w')(h:wpList P ops Q rest (a.put o.dst v') w'):wpList P ops Q (o::rest) a w:=
 wpList_plain hgd fun _ hK=>uz ho hs hx hr (hK _ _ h)
theorem join_one(S:ByteArray)(bk c:Nat)(w:World)(hc:w.cell? ⟨bk,0,none⟩=some (.string S))(hb:bk<w.heap.size)(h1:1≤c)(hs:S.size≤100):
 Calls Tryz.prog 118 #[.slice (some ⟨bk,0,none⟩) 1 c, .string ⟨#[32]⟩] w fun e w'=>e= .returned (.string S)∧Below w.heap.size w w':=by
 have hj:Lib.join ([S].map (·.data.toList)) (⟨#[32]⟩:ByteArray).data.toList=S.data.toList:=by simp[Lib.join]
 refine(Tryz.strings_Join bk 0 c [S] ⟨#[32]⟩ w (fun j x hx=>?_) hb (by simp) h1 (by rw[hj,←size_eq];omega)).mono ?_
 ·cases j with
  |zero=>simp at hx;subst hx;exact hc
  |succ j=>simp at hx
 ·rintro e w' ⟨rfl,h⟩
  exact⟨by rw[hj],h⟩
end Sn
end
section
open Go.Lib Go.RowKit
set_option linter.unusedSimpArgs false
set_option linter.unusedVariables false
attribute [local go_sem] Oper.semAt_some
set_option maxRecDepth 100000
namespace Sn
theorem Qc{d:List UInt8}{n m:Nat}(hn:n≤1099511627776)(hm:m≤1099511627776)(h:l9 d n=l9 d m):n=m:=by
 have h1:=Ep d n;rw[h,Ep d m]at h1;have a:=Hy (n:=n) (by omega);have b:=Hy (n:=m) (by omega);rw[h1]at b;rw[a]at b;have:(n:Int)=m:=by simpa using b
 omega
open Classical in
noncomputable def baseS(d l:List UInt8):Int:=if h:∃n:Nat,n≤1099511627776∧l=l9 d n then(h.choose:Int)else-1
def restL(d l:List UInt8):List UInt8:=trimSuffix (trimPrefix l (d++[47])) [46,108,111,103]
theorem JW(z:Int)(w:World):
 Calls Tryz.prog 173 #[.int .i64 z] w fun e w'=>e= .returned (.bool (decide (0≤z∧z≤1099511627776)))∧w'=w:=by
 by_cases h:0≤z∧z≤1099511627776
 ·have HD:Hid (decide (0≤z∧z≤1099511627776)=true):=decide_eq_true h
  obtain⟨h1,h2⟩:=h;go_enter Tryz.func173,Tryz.ntmps173
  go_wp2
  go_ret
  exact⟨ku HD.out.symm,rfl⟩
 ·have HD:Hid (decide (0≤z∧z≤1099511627776)=false):=decide_eq_false h
  by_cases h1:0≤z
  ·have h2:¬z≤1099511627776:=fun e=>h ⟨h1,e⟩
   clear h;go_enter Tryz.func173,Tryz.ntmps173
   go_wp2
   go_ret
   exact⟨ku (by rw[eq_comm,Bool.eq_false_iff];simp;omega),rfl⟩
  ·clear h
   go_enter Tryz.func173,Tryz.ntmps173
   go_wp2
   go_ret
   exact⟨ku (by rw[eq_comm,Bool.eq_false_iff];simp;omega),rfl⟩
end Sn
end
section
open Go.RowKit Go.Maps
set_option maxRecDepth 100000
set_option linter.unusedSimpArgs false
set_option linter.unusedVariables false
attribute [local go_sem] Oper.semAt_some
open Dk (DA ay Parts fE aW dI)
namespace Sg
theorem aZ{w:World}{base d:Nat}{F:List Nat}{A:DA}(h:ay w base d F A):base≤w.heap.size:=by
 obtain⟨ah,ms,h⟩:=h;have h1:=h.low d h.jH;have h2:=h.lt d h.jH;omega
theorem lT{dir:ByteArray}{n:Nat}(hn:n≤1099511627776)(hd:dir.size≤1000):(Sn.nameB dir n).size≤maxLen:=by
 have:=Sn.nP hn;have hm:maxLen=9223372036854775807:=by simp[maxLen]
 rw[hm];rw[Lib.size_eq]at hd⊢;simp[Sn.nameB,Sn.l9,Sn.pad];simp at hd;omega
theorem BM(n:Nat)(hn:n≤1099511627776)(w:World):Calls Tryz.prog 173 #[.int .i64 n] w fun e w'=>e= .returned (.bool true)∧w=w':=by
 refine(Sn.JW n w).mono ?_;rintro e w' ⟨rfl,rfl⟩;exact⟨by rw[decide_eq_true (p:=0≤(n:Int)∧(n:Int)≤1099511627776) ⟨by omega,by omega⟩],rfl⟩
def iU(w w':World)(base d:Nat)(F:List Nat)(A':DA)(sb:Nat)(file:ByteArray)(b0:Int):Prop:=
 ∃F',Both w' base d F' A' sb (.slice none 0 0) file b0 []∧Turn F w w'∧(∀k∈F',k∈F∨w.heap.size≤k)∧w.heap.size≤sb
set_option maxHeartbeats 2000000 in
theorem empty_any(w:World)(base d:Nat)(F:List Nat)(A:DA)(h:ay w base d F A)(file:ByteArray)(hf:file.size≤maxLen)(b0:Int):
 Calls Tryz.prog 175 #[.pointer (some ⟨d,0,none⟩), .string file, .int .i64 b0] w fun e w'=>
  ((A.make file).1≠0∧e= .returned (.tuple #[.pointer none,aW (A.make file).1])∧fE w w' base d F (A.make file).2)∨
  ((A.make file).1=0∧∃sb,e= .returned (.tuple #[.pointer (some ⟨sb,0,none⟩), .nilIface])∧iU w w' base d F (A.make file).2 sb file b0):=by
 have H:=hide h;have HB:=hide (aZ h);obtain⟨ah,ms,hp⟩:=h;go_enter Tryz.func175,Tryz.ntmps175
 go_wp2_with fail
 refine(Dk.pV hp file hf).mono ?_;rintro e w1 ⟨rfl,hd1⟩;obtain⟨c,hc⟩:∃c,c=(A.make file).1:=⟨_,rfl⟩;have HC:=hide hc;have HD:=hide hd1;rw[←hc];clear hc hd1 hp;by_cases h0:c=0
 ·have hr:aW c= .nilIface:=by rw[h0];rfl
  rw[hr];have H0:=hide h0;clear hr h0;go_wp2
  go_ret2
  obtain⟨F',hd,ht,hf'⟩:=HD.out;have ht2:Turn [] w1 (w1.alloc (.cells #[.pointer (some ⟨d,0,none⟩), .string file, .int .i64 b0, .slice none 0 0] 209)):=(Turn.refl [] w1).alloc _;refine .inr ⟨HC.out.symm.trans H0.out,_,rfl,F',⟨hd.kept ht2 (by simp),⟨ae w1 _, .inl ⟨rfl,rfl⟩,Nat.le_trans HB.out ht.size⟩,fun k hk hm=>?_⟩,ht.trans ht2 (by simp),hf',ht.size⟩;simp[bJ,Value.ownBlock]at hk;have:=hd.lt k hm;omega
 ·have hr:aW c= .iface 38 (.int .i64 c):=by unfold aW;rw[if_neg h0];rfl
  rw[hr];have HR:=hide hr;have H0:=hide h0;clear hr h0;go_wp2
  go_ret2
  refine .inl ⟨fun e=>H0.out (HC.out.trans e),?_,HD.out⟩;rw[←HC.out,HR.out];rfl
set_option maxHeartbeats 2000000 in
theorem pV(w:World)(base d:Nat)(F:List Nat)(A:DA)(h:ay w base d F A)(dir:ByteArray)(hd:dir.size≤1000)(n:Nat)(hn:n≤1099511627776)(hv:Sn.dA w):
 Calls Tryz.prog 130 #[.pointer (some ⟨d,0,none⟩), .string dir, .int .i64 n] w fun e w'=>
  ((A.make (Sn.nameB dir n)).1≠0∧e= .returned (.tuple #[.pointer none,aW (A.make (Sn.nameB dir n)).1])∧fE w w' base d F (A.make (Sn.nameB dir n)).2)∨
  ((A.make (Sn.nameB dir n)).1=0∧∃sb,e= .returned (.tuple #[.pointer (some ⟨sb,0,none⟩), .nilIface])∧iU w w' base d F (A.make (Sn.nameB dir n)).2 sb (Sn.nameB dir n) n):=by
 have H:=hide h;have HV:=hide hv;clear h hv;go_enter Tryz.func130,Tryz.ntmps130
 go_wp2_with (go_at_call 173;refine(BM n hn _).mono ?_;rintro e w' ⟨rfl,rfl⟩)
 refine(Sn.name_any dir n hn hd _ HV.out).mono ?_;rintro e w1 ⟨rfl,hb1⟩;have ht1:Turn [] _ w1:=Turn.of_below hb1 [];have HT1:=hide ht1;clear hb1 ht1;obtain⟨file,Qd⟩:∃f,f=Sn.nameB dir n:=⟨_,rfl⟩;have Yi:=hide Qd;rw[←Qd];clear Qd;go_wp2_with fail
 refine(empty_any w1 base d F A (H.out.kept HT1.out (by simp)) file (by rw[Yi.out];exact lT hn hd) n).mono ?_;rintro e w2 (⟨h1,rfl,Qe⟩|⟨h1,sb,rfl,hfr⟩)
 ·have HD:=hide Qe
  have H1:=hide h1;clear Qe h1;go_wp2
  go_ret2
  rw[←Yi.out];obtain⟨F',hd2,ht2,hf2⟩:=HD.out;exact .inl ⟨H1.out,rfl,F',hd2,(HT1.out.mono (by simp)).same ht2,fun k hk=>(hf2 k hk).imp_right (Nat.le_trans HT1.out.size)⟩
 ·have HD:=hide hfr
  have H1:=hide h1;clear hfr h1;go_wp2
  go_ret2
  rw[←Yi.out];obtain⟨F',hb,ht2,hf2,hs⟩:=HD.out;exact .inr ⟨H1.out,sb,rfl,F',hb,(HT1.out.mono (by simp)).same ht2,fun k hk=>(hf2 k hk).imp_right (Nat.le_trans HT1.out.size),Nat.le_trans HT1.out.size hs⟩
theorem Ib{A:DA}{nm:List UInt8}{f:Dk.FA}(h:A.file nm=some f):A.sizeOf nm=f.bytes.length:=by unfold DA.sizeOf;rw[h]
theorem Ic{A:DA}{nm:List UInt8}(h:A.file nm=none):A.sizeOf nm= -1:=by unfold DA.sizeOf;rw[h]
theorem N8{w:World}{base d:Nat}{F:List Nat}{A:DA}(h:ay w base d F A)(s:ByteArray)(hs:s.size≤maxLen){f:Dk.FA}(hf:A.file s.data.toList=some f)(off most:Int)(hm: -9223372036854775808≤most∧most≤9223372036854775807):
 Calls Tryz.prog 28 #[.pointer (some ⟨d,0,none⟩), .string s, .int .i64 off, .int .i64 most] w fun e w'=>∃v,e= .returned v∧bC w' 5 w.heap.size v (Dk.uf f.bytes off most)∧Turn [] w w':=by
 obtain⟨ah,ms,hp⟩:=h;have e:=Dk.qH hp s.data.toList;rw[hf]at e;obtain⟨m,hm1,hm2⟩:=Option.map_eq_some_iff.1 e.symm;have:=Dk.NI hp s hs off most m hm1 hm;rw[hm2]at this;exact this
theorem N9{w:World}{base d:Nat}{F:List Nat}{A:DA}(h:ay w base d F A)(s:ByteArray)(hs:s.size≤maxLen):
 Calls Tryz.prog 29 #[.pointer (some ⟨d,0,none⟩), .string s] w fun e w'=>e= .returned (.int .i64 (A.sizeOf s.data.toList))∧w=w':=by
 obtain⟨ah,ms,hp⟩:=h;exact Dk.size_any hp s hs
theorem Qg:∀{l:List Nat} {x:Nat},x∈l→x≤l.sum
 |a::r,x,h=>by
  rcases List.mem_cons.1 h with rfl|h
  ·simp
  ·have:=Qg h;simp;omega
theorem BN{w:World}{base d:Nat}{F:List Nat}{A:DA}(h:ay w base d F A){nm:List UInt8}{f:Dk.FA}(hf:A.file nm=some f):f.bytes.length≤1048576:=by
 have hg:=h.good;have hm:f∈A.files:=List.mem_of_find?_eq_some hf;have h1:f.bytes.length≤Dk.bH A.files:=by
  unfold Dk.bH;exact Qg (List.mem_map_of_mem (f:=fun f:Dk.FA=>f.bytes.length) hm)
 have:=hg.used;have:=hg.room;omega
set_option maxHeartbeats 2000000 in
theorem DT(w:World)(base d:Nat)(F:List Nat)(A:DA)(h:ay w base d F A)(dir:ByteArray)(hd:dir.size≤1000)(n:Nat)(hn:n≤1099511627776)(hv:Sn.dA w)(hf:A.file (Sn.nameB dir n).data.toList=none):
 Calls Tryz.prog 174 #[.pointer (some ⟨d,0,none⟩), .string dir, .int .i64 n] w fun e w'=>e= .returned (.tuple #[.pointer none, .int .i64 0,dI 7])∧Turn [] w w':=by
 have H:=hide h;have HV:=hide hv;have HF:=hide hf;clear h hv hf;go_enter Tryz.func174,Tryz.ntmps174
 go_wp2_with fail
 refine(Sn.name_any dir n hn hd _ HV.out).mono ?_;rintro e w1 ⟨rfl,hb1⟩;have HT1:=hide (Turn.of_below hb1 []);clear hb1;go_wp2_with fail
 refine(N9 (H.out.kept HT1.out (by simp)) _ (lT hn hd)).mono ?_;rintro e w' ⟨rfl,rfl⟩;rw[Ic HF.out];go_wp2_with (go_at_call 173;refine(BM n hn _).mono ?_;rintro e w' ⟨rfl,rfl⟩)
 refine bodyPost_ret (v:= .tuple #[.pointer none, .int .i64 0,dI 7]) (by simp[results,Tryz.results174,dI]) rfl ⟨rfl,HT1.out⟩
def Opened(w w':World)(base d:Nat)(F:List Nat)(A:DA)(file:ByteArray)(b0:Int)(f:Dk.FA)(xs:List Bt.aX)(e:Ending):Prop:=
 (f.bytes.length=(flat xs).length∧∃sb sv,e= .returned (.tuple #[.pointer (some ⟨sb,0,none⟩), .int .i64 0, .nilIface])∧Both w' base d F A sb sv file b0 (kL 0 (-1) xs)∧Turn [] w w'∧∀k∈bJ sb sv,w.heap.size≤k)∨
 ((flat xs).length<f.bytes.length∧(A.cut file.data.toList (flat xs).length).1≠0∧e= .returned (.tuple #[.pointer none, .int .i64 0,aW (A.cut file.data.toList (flat xs).length).1])∧fE w w' base d F (A.cut file.data.toList (flat xs).length).2)∨
 ((flat xs).length<f.bytes.length∧(A.cut file.data.toList (flat xs).length).1=0∧∃F' sb sv,e= .returned (.tuple #[.pointer (some ⟨sb,0,none⟩), .int .i64 ((f.bytes.length-(flat xs).length:Nat):Int), .nilIface])∧
   Both w' base d F' (A.cut file.data.toList (flat xs).length).2 sb sv file b0 (kL 0 (-1) xs)∧Turn F w w'∧(∀k∈F',k∈F∨w.heap.size≤k)∧∀k∈bJ sb sv,w.heap.size≤k)
end Sg
end
section
open Go.RowKit Go.Maps
set_option maxRecDepth 100000
set_option linter.unusedSimpArgs false
set_option linter.unusedVariables false
attribute [local go_sem] Oper.semAt_some
namespace Sg
def Least(n:Nat)(f:Nat→Bool)(m:Nat):Prop:=m≤n∧(∀i,i<m→f i=false)∧∀i,m≤i→i<n→f i=true
set_option maxHeartbeats 4000000 in
theorem JX(w:World)(p1 p2:Nat)(n:Nat)(hn:n≤1000000)(f:Nat→Bool)(hm:∀i j,i≤j→f i=true→f j=true)
 (hc:∀wr,Turn [] w wr→∀k,k<n→Calls Tryz.prog 272 #[.int .i64 (k:Int), .pointer (some ⟨p1,0,none⟩), .pointer (some ⟨p2,0,none⟩)] wr fun e w'=>e= .returned (.bool (f k))∧Turn [] wr w'):
 Calls Tryz.prog 271 #[.int .i64 (n:Int), .func (.func 272) #[] #[.pointer (some ⟨p1,0,none⟩), .pointer (some ⟨p2,0,none⟩)]] w fun e w'=>(∃m:Nat,e= .returned (.int .i64 m)∧Least n f m)∧Turn [] w w':=by
 have HC:=hide hc;have HM:=hide hm;clear hc hm;go_enter Tryz.func271,Tryz.ntmps271
 go_wp2
 go_loopw [5,6] (fun a b wr=>∃i j:Nat,i≤j∧j≤n∧a= .int .i64 i∧b= .int .i64 j∧(∀x,x<i→f x=false)∧(∀x,j≤x→x<n→f x=true)∧Turn [] w wr) (fun a b _=>(intOf b).toNat-(intOf a).toNat)
 case atStart=>exact⟨0,n,Nat.zero_le _,Nat.le_refl _,rfl,rfl,fun x h=>absurd h (Nat.not_lt_zero _),fun x h1 h2=>absurd h2 (by omega),Turn.refl _ _⟩
 case round=>
  obtain⟨i,j,hij,hjn,rfl,rfl,h1,h2,ht⟩:=hrel;have H1:=hide h1;have H2:=hide h2;have HT:=hide ht;clear h1 h2 ht;by_cases hlt:i<j
  ·obtain⟨m,hm⟩:∃m,m=(i+j)/2:=⟨_,rfl⟩
   have hcast:((i:Int)+(j:Int))/2=(m:Int):=by omega
   have hm1:i≤m∧m<j:=by omega
   clear hm;go_wp2_with fail
   refine(HC.out wr HT.out m (by omega)).mono ?_;rintro e w1 ⟨rfl,ht1⟩;have HT1:=hide (HT.out.same ht1);clear ht1;cases hfm:f m with
   |true=>
    have HF:=hide hfm;clear hfm;go_wp2
    all_goals refine⟨⟨i,m,hm1.1,by omega,rfl,rfl,H1.out,fun x hx _=>HM.out m x hx HF.out,HT1.out⟩,?_⟩
    all_goals (simp only[intOf];omega)
   |false=>
    have HF:=hide hfm;clear hfm;go_wp2
    all_goals refine⟨⟨m+1,j,by omega,hjn,by go_num,rfl,fun x hx=>?_,H2.out,HT1.out⟩,?_⟩
    ·cases hx':f x with
     |false=>rfl
     |true=>have:=HM.out x m (by omega) hx';rw[HF.out]at this;cases this
    ·simp only[intOf];omega
  ·go_wp2
   go_ret
   obtain rfl:i=j:=by omega
   exact⟨⟨i,rfl,hjn,H1.out,H2.out⟩,HT.out⟩
set_option maxHeartbeats 2000000 in
theorem JY(w:World)(base d sb:Nat)(sv:Value)(file:ByteArray)(b0:Int)(ps:List Pl)(h:bu w base d sb sv file b0 ps)(hl:ps.length≤1000000)(p1 p2 g fb:Nat)(hg:∀args w,(callFunc g args).run Tryz.prog w= .ok (.enter g args) w)
 (h1:w.heap[p1]? =some (.cells #[.func (.func g) #[] #[.pointer (some ⟨fb,0,none⟩)]] 302 (0,0))) (h2:w.heap[p2]? =some (.cells #[.pointer (some ⟨sb,0,none⟩)] 174 (0,0)))
 (k:Nat) (hk:k<ps.length) (b:Bool) (hq:∀Z,Turn [] w Z→Calls Tryz.prog g #[xU ps[k], .pointer (some ⟨fb,0,none⟩)] Z fun e w'=>e= .returned (.bool b)∧Turn [] Z w'):
 Calls Tryz.prog 272 #[.int .i64 (k:Int), .pointer (some ⟨p1,0,none⟩), .pointer (some ⟨p2,0,none⟩)] w fun e w'=>e= .returned (.bool b)∧Turn [] w w':=by
 obtain⟨ga,cap,hsv, -⟩:=MF h.row hk;subst hsv;have HS:=hide h;have H1:=hide h1;have H2:=hide h2;have HQ:=hide hq;obtain⟨p,hp⟩:∃p,p=ps[k]:=⟨_,rfl⟩;rw[←hp]at HQ;have HP:=hide hp;clear h h1 h2 hq hp;go_enter Tryz.func272,Tryz.ntmps272
 go_wp2
 refine aB 8 (Turn []) (by kernel_rfl) (by kernel_rfl) (by kernel_rfl) (by kernel_rfl) (by kernel_rfl) (Nat.le_of_ble_eq_true rfl) rfl (Turn.refl _) (fun _ _ _ h k=>h.same k) ?_;apply Lo.ag 1 rfl rfl [] (by kernel_rfl) (Turn.refl _);apply Exists.intro;apply And.intro
 ·intro u w1 hR hF
  clear hF;refine⟨rfl,fun a ha K hK=>?_⟩;have e1:=ha 1;conv at e1=>rhs;whnf
  clear ha;have hb:=(((Turn.refl [] w).drew).same hR).heap H1.out (by simp);have c0:w1.cell? ⟨p1,0,none⟩=some (.func (.func g) #[] #[.pointer (some ⟨fb,0,none⟩)]):=by rw[cell_of hb];rfl
  have z1:=lt_of_heap hb;go_simp
  refine hK _ ?_;rfl
 apply Lo.ag 2 rfl rfl [] (by kernel_rfl) (Turn.refl _);apply Exists.intro;apply And.intro
 ·intro u w1 hR hF
  clear hF;refine⟨rfl,fun a ha K hK=>?_⟩;have e2:=ha 2;conv at e2=>rhs;whnf
  clear ha;have hb:=(((Turn.refl [] w).drew).same hR).heap H2.out (by simp);have c0:w1.cell? ⟨p2,0,none⟩=some (.pointer (some ⟨sb,0,none⟩)):=by rw[cell_of hb];rfl
  have z1:=lt_of_heap hb;go_simp
  refine hK _ ?_;rfl
 apply Lo.ag 3 rfl rfl [1] (by kernel_rfl) (Turn.refl _);apply Exists.intro;apply And.intro
 ·intro u w1 hR hF
  obtain⟨h1, -⟩:=hF;refine⟨rfl,fun a ha K hK=>?_⟩;have e6:=(ha 6).trans h1;clear ha h1;go_simp
  refine hK _ ?_;rfl
 apply Lo.ag 4 rfl rfl [2] (by kernel_rfl) (Turn.refl _);apply Exists.intro;apply And.intro
 ·intro u w1 hR hF
  obtain⟨h2, -⟩:=hF;refine⟨rfl,fun a ha K hK=>?_⟩;have e7:=(ha 7).trans h2;clear ha h2;go_simp
  refine hK _ ?_;rfl
 apply Lo.ag 5 rfl rfl [3] (by kernel_rfl) (Turn.refl _);apply Exists.intro;apply And.intro
 ·intro u w1 hR hF
  obtain⟨h3, -⟩:=hF;refine⟨rfl,fun a ha K hK=>?_⟩;have e8:=(ha 8).trans h3;clear ha h3;have hs:=HS.out.still (((Turn.refl [] w).drew).same hR);have c3:=hs.c3;have z1:=lt_of_heap hs.box;go_simp
  refine hK _ ?_;rfl
 apply Lo.ag 6 rfl rfl [] (by kernel_rfl) (Turn.refl _);apply Exists.intro;apply And.intro
 ·intro u w1 hR hF
  clear hF;refine⟨rfl,fun a ha K hK=>?_⟩;have e0:=ha 0;conv at e0=>rhs;whnf
  clear ha;go_simp
  refine hK _ ?_;rfl
 refine Lo.aJ 7 rfl rfl [4,5] (.pointer (some ⟨ga,k*5,none⟩)) (by kernel_rfl) (fun u w1 hR hF=>?_) (Turn.refl _) ?_
 ·obtain⟨h4,h5, -⟩:=hF
  refine⟨rfl,fun a ha K hK=>?_⟩;have e9:=(ha 9).trans h4;have e10:=(ha 10).trans h5;clear ha h4 h5;have h10:(k:Int)<ps.length:=by omega
  go_simp
  refine hK _ ?_;rfl
 refine Lo.aJ 8 rfl rfl [6] (xU p) (by kernel_rfl) (fun u w1 hR hF=>?_) (Turn.refl _) ?_
 ·obtain⟨h6, -⟩:=hF
  refine⟨rfl,fun a ha K hK=>?_⟩;have e11:=(ha 11).trans h6;clear ha h6;have hc:∀i,i<5→w1.cell? ⟨ga,k*5+i,none⟩=(BJ p)[i]? :=by
   obtain⟨g',cap',e,hc,_⟩:=(HS.out.still (((Turn.refl [] w).drew).same hR)).row.at uy hk;simp at e;obtain⟨rfl,rfl⟩:=e;rw[HP.out];exact hc
  have k0:w1.cell? ⟨ga,k*5,none⟩=some (.int .i64 p.at):=hc 0 (by omega);have k1:w1.cell? ⟨ga,k*5+1,none⟩=some (.int .i64 p.size):=hc 1 (by omega);have k2:w1.cell? ⟨ga,k*5+2,none⟩=some (.int .i64 p.sum):=hc 2 (by omega);have k3:w1.cell? ⟨ga,k*5+3,none⟩=some (.int .i64 p.fin):=hc 3 (by omega);have k4:w1.cell? ⟨ga,k*5+4,none⟩=some (.int .i64 p.latest):=hc 4 (by omega);clear hc;go_simp
  refine hK _ ?_;rfl
 refine Lo.done [0,7] (fun u w1 bP hSd hF=>?_);clear hSd;obtain⟨f0,f7, -⟩:=hF;have d0:u 0=_:=f0;have d7:u 7=_:=f7;clear f0 f7;simp only[List.take_succ_cons,List.take_zero,List.drop_succ_cons,List.drop_zero,ax,Act.put,List.setIfInBounds_toArray,List.set_cons_succ,List.set_cons_zero,Nat.zero_add,Nat.reduceAdd,d0,d7];have HT1:=hide (((Turn.refl [] w).drew).same bP);clear d0 d7 bP;go_wp2_with fail
 refine(HQ.out _ HT1.out).mono ?_;rintro e w2 ⟨rfl,ht2⟩;have HT2:=hide (HT1.out.same ht2);clear ht2;go_wp2
 go_ret
 exact⟨rfl,HT2.out⟩
set_option maxHeartbeats 2000000 in
theorem first_any(w:World)(base d sb:Nat)(sv:Value)(file:ByteArray)(b0:Int)(ps:List Pl)(h:bu w base d sb sv file b0 ps)(hl:ps.length≤1000000)(g fb:Nat)(hg:∀args w,(callFunc g args).run Tryz.prog w= .ok (.enter g args) w)(f:Nat→Bool)(hm:∀i j,i≤j→f i=true→f j=true)
 (hq:∀Z,Turn [] w Z→∀(k:Nat) (hk:k<ps.length),Calls Tryz.prog g #[xU ps[k], .pointer (some ⟨fb,0,none⟩)] Z fun e w'=>e= .returned (.bool (f k))∧Turn [] Z w'):
 Calls Tryz.prog 231 #[.pointer (some ⟨sb,0,none⟩), .func (.func g) #[] #[.pointer (some ⟨fb,0,none⟩)]] w fun e w'=>(∃m:Nat,e= .returned (.int .i64 m)∧Least ps.length f m)∧Turn [] w w':=by
 obtain⟨xa,xc,hsv,hxl,hxm⟩:=h.row.form;subst hsv;have HS:=hide h;have HQ:=hide hq;have HM:=hide hm;have c3:=h.c3;have hsb:=lt_of_heap h.box;clear h hq hm;have hmf:∀(fn:Fn) (first cap:Array Value) (w:World),(Instr.makeFunc fn first cap).run Tryz.prog w= .ok (.func fn first cap) w:=fun _ _ _ _=>rfl
 go_enter Tryz.func231,Tryz.ntmps231
 go_wp2_with fail
 have hw2:Turn [] w ((w.alloc (.cells #[.pointer (some ⟨sb,0,none⟩)] 174)).alloc (.cells #[.func (.func g) #[] #[.pointer (some ⟨fb,0,none⟩)]] 302)):=((Turn.refl [] w).alloc _).alloc _;have b1:=ae (w.alloc (.cells #[.pointer (some ⟨sb,0,none⟩)] 174)) (.cells #[.func (.func g) #[] #[.pointer (some ⟨fb,0,none⟩)]] 302);have b2:=((Turn.refl [] _).alloc (.cells #[.func (.func g) #[] #[.pointer (some ⟨fb,0,none⟩)]] 302)).heap (ae w (.cells #[.pointer (some ⟨sb,0,none⟩)] 174)) (by simp);rw[World.size_alloc]at b1;refine(JX _ (w.heap.size+1) w.heap.size ps.length hl f HM.out (fun wr ht k hk=>?_)).mono ?_
 ·exact JY wr base d sb _ file b0 ps (HS.out.still (hw2.same ht)) hl (w.heap.size+1) w.heap.size g fb hg (ht.heap b1 (by simp)) (ht.heap b2 (by simp)) k hk (f k) (fun Z hZ=>HQ.out Z (hw2.same (ht.same hZ)) k hk)
 rintro e w3 ⟨⟨m,rfl,hmm⟩,ht3⟩;have HT3:=hide (hw2.same ht3);have XI:=hide hmm;clear ht3 hmm hw2 b1 b2;go_wp2
 go_ret
 exact⟨⟨m,rfl,XI.out⟩,HT3.out⟩
end Sg
end
section
open Go.RowKit Go.Maps
set_option maxRecDepth 100000
set_option linter.unusedSimpArgs false
set_option linter.unusedVariables false
attribute [local go_sem] Oper.semAt_some
open Dk (DA ay Parts fE aW dI)
namespace Sg
theorem Oa(w:World)(p:Pl)(fb:Nat)(from':Int)(hb:w.heap[fb]? =some (.cells #[.int .i64 from'] 3 (0,0))):
 Calls Tryz.prog 232 #[xU p, .pointer (some ⟨fb,0,none⟩)] w fun e w'=>e= .returned (.bool (decide (from'<p.fin)))∧Turn [] w w':=by
 have c0:w.cell? ⟨fb,0,none⟩=some (.int .i64 from'):=by rw[cell_of hb];rfl
 have hl:=lt_of_heap hb;rw[show xU p= .agg #[.int .i64 p.at, .int .i64 p.size, .int .i64 p.sum, .int .i64 p.fin, .int .i64 p.latest]from rfl];clear hb;go_enter Tryz.func232,Tryz.ntmps232
 go_wp2
 go_ret
 exact⟨rfl,(Turn.refl [] w).alloc _⟩
theorem Qh{P:Program}{f:FuncId}{fn:Func}(hf:P.funcs[f]? =some fn) (hname:(fn.name== "runtime.NumGoroutine")=false) (hb:fn.body.isSome=true) (args:Array Value) (w:World):(callFunc f args).run P w= .ok (.enter f args) w:=by
 have h1:fn.name≠ "runtime.NumGoroutine" :=by simpa using hname
 obtain⟨c,hc⟩:=Option.isSome_iff_exists.1 hb;simp[callFunc,hf,h1,hc]
theorem Ie(args:Array Value)(w:World):(callFunc 232 args).run Tryz.prog w= .ok (.enter 232 args) w:=
 Qh Tryz.func232 (by kernel_rfl) (by kernel_rfl) args w
set_option maxHeartbeats 4000000 in
theorem Ob(w:World)(base d:Nat)(F:List Nat)(A:DA)(sb:Nat)(sv:Value)(file:ByteArray)(b0:Int)(ps:List Pl)(h:Both w base d F A sb sv file b0 ps)(hfs:file.size≤maxLen)(f:Dk.FA)(hf:A.file file.data.toList=some f)
 (p:Pl)(x:Bt.aX)(hx:Bt.aO x=0)(hrd:Dk.uf f.bytes p.at p.size=Bt.aj x)(hsm:p.sum=Cr.sum (Bt.aj x))(hps:p.size≤1099511627776):
 Calls Tryz.prog 233 #[.pointer (some ⟨sb,0,none⟩),xU p] w fun e w'=>∃rv,e= .returned (.tuple #[.agg #[.int .i64 x.base, .int .i64 x.fin,rv], .nilIface])∧aH 47 6 recC w' w.heap.size rv x.recs∧(∀r∈x.recs,jD r)∧Turn [] w w':=by
 have HB:=hide h;have HF:=hide hf;have HX:=hide hx;have LJ:=hide hrd;have HSM:=hide hsm;have hen:(Bt.aj x).length≤6000:=by have:=(Bt.eY hx).2;rw[Bt.gK];exact this
 have hsb:=lt_of_heap h.qg.box;rw[show xU p= .agg #[.int .i64 p.at, .int .i64 p.size, .int .i64 p.sum, .int .i64 p.fin, .int .i64 p.latest]from rfl];clear h hf hx hrd hsm;go_enter Tryz.func233,Tryz.ntmps233
 go_wp2
 obtain⟨w0,hw0⟩:∃w0,w0=(w.alloc (.cells #[.int .i64 p.at, .int .i64 p.size, .int .i64 p.sum, .int .i64 p.fin, .int .i64 p.latest] 253)).alloc (.cells #[.int .i64 0, .int .i64 0, .slice none 0 0] 215):=⟨_,rfl⟩;rw[←hw0];have hP:w0.heap[w.heap.size]? =some (.cells #[.int .i64 p.at, .int .i64 p.size, .int .i64 p.sum, .int .i64 p.fin, .int .i64 p.latest] 253 (0,0)):=by
  rw[hw0];exact((Turn.refl [] _).alloc _).heap (ae w _) (by simp)
 have hR0:w0.heap[w.heap.size+1]? =some (.cells #[.int .i64 0, .int .i64 0, .slice none 0 0] 215 (0,0)):=by
  rw[hw0];have:=ae (w.alloc (.cells #[.int .i64 p.at, .int .i64 p.size, .int .i64 p.sum, .int .i64 p.fin, .int .i64 p.latest] 253)) (.cells #[.int .i64 0, .int .i64 0, .slice none 0 0] 215);rwa [World.size_alloc]at this
 have HT0:Hid (Turn [] w w0):=by show Turn _ _ _;rw[hw0];exact((Turn.refl [] w).alloc _).alloc _
 have HP:=hide hP;have HR0:=hide hR0;clear hw0 hP hR0;refine aB 12 (Turn []) (by kernel_rfl) (by kernel_rfl) (by kernel_rfl) (by kernel_rfl) (by kernel_rfl) (Nat.le_of_ble_eq_true rfl) rfl (Turn.refl _) (fun _ _ _ h k=>h.same k) ?_;apply Lo.ag 1 rfl rfl [] (by kernel_rfl) (Turn.refl _);apply Exists.intro;apply And.intro
 ·intro u w1 hR hF
  clear hF;refine⟨rfl,fun a ha K hK=>?_⟩;have e0:=ha 0;conv at e0=>rhs;whnf
  clear ha;go_simp
  refine hK _ ?_;rfl
 apply Lo.ag 2 rfl rfl [0] (by kernel_rfl) (Turn.refl _);apply Exists.intro;apply And.intro
 ·intro u w1 hR hF
  obtain⟨h0, -⟩:=hF;refine⟨rfl,fun a ha K hK=>?_⟩;have e10:=(ha 10).trans h0;clear ha h0;go_simp
  refine hK _ ?_;rfl
 apply Lo.ag 3 rfl rfl [1] (by kernel_rfl) (Turn.refl _);apply Exists.intro;apply And.intro
 ·intro u w1 hR hF
  obtain⟨h1, -⟩:=hF;refine⟨rfl,fun a ha K hK=>?_⟩;have e11:=(ha 11).trans h1;clear ha h1;go_simp
  refine hK _ ?_;rfl
 apply Lo.ag 4 rfl rfl [2] (by kernel_rfl) (Turn.refl _);apply Exists.intro;apply And.intro
 ·intro u w1 hR hF
  obtain⟨h2, -⟩:=hF;refine⟨rfl,fun a ha K hK=>?_⟩;have e12:=(ha 12).trans h2;clear ha h2;have hS:=HB.out.qg.still (HT0.out.same (((Turn.refl [] _).drew).same hR));have c0:=hS.c0;have z1:=lt_of_heap hS.box;go_simp
  refine hK _ ?_;rfl
 apply Lo.ag 5 rfl rfl [] (by kernel_rfl) (Turn.refl _);apply Exists.intro;apply And.intro
 ·intro u w1 hR hF
  clear hF;refine⟨rfl,fun a ha K hK=>?_⟩;have e0:=ha 0;conv at e0=>rhs;whnf
  clear ha;go_simp
  refine hK _ ?_;rfl
 apply Lo.ag 6 rfl rfl [4] (by kernel_rfl) (Turn.refl _);apply Exists.intro;apply And.intro
 ·intro u w1 hR hF
  obtain⟨h4, -⟩:=hF;refine⟨rfl,fun a ha K hK=>?_⟩;have e14:=(ha 14).trans h4;clear ha h4;go_simp
  refine hK _ ?_;rfl
 apply Lo.ag 7 rfl rfl [5] (by kernel_rfl) (Turn.refl _);apply Exists.intro;apply And.intro
 ·intro u w1 hR hF
  obtain⟨h5, -⟩:=hF;refine⟨rfl,fun a ha K hK=>?_⟩;have e15:=(ha 15).trans h5;clear ha h5;go_simp
  refine hK _ ?_;rfl
 apply Lo.ag 8 rfl rfl [6] (by kernel_rfl) (Turn.refl _);apply Exists.intro;apply And.intro
 ·intro u w1 hR hF
  obtain⟨h6, -⟩:=hF;refine⟨rfl,fun a ha K hK=>?_⟩;have e16:=(ha 16).trans h6;clear ha h6;have hS:=HB.out.qg.still (HT0.out.same (((Turn.refl [] _).drew).same hR));have c1:=hS.c1;have z1:=lt_of_heap hS.box;go_simp
  refine hK _ ?_;rfl
 apply Lo.ag 9 rfl rfl [] (by kernel_rfl) (Turn.refl _);apply Exists.intro;apply And.intro
 ·intro u w1 hR hF
  clear hF;refine⟨rfl,fun a ha K hK=>?_⟩;have e3:=ha 3;conv at e3=>rhs;whnf
  clear ha;go_simp
  refine hK _ ?_;rfl
 apply Lo.ag 10 rfl rfl [8] (by kernel_rfl) (Turn.refl _);apply Exists.intro;apply And.intro
 ·intro u w1 hR hF
  obtain⟨h8, -⟩:=hF;refine⟨rfl,fun a ha K hK=>?_⟩;have e18:=(ha 18).trans h8;clear ha h8;have hb:=(((Turn.refl [] _).drew).same hR).heap HP.out (by simp);have c0:w1.cell? ⟨w.heap.size,0,none⟩=some (.int .i64 p.at):=by rw[cell_of hb];rfl
  have z1:=lt_of_heap hb;go_simp
  refine hK _ ?_;rfl
 apply Lo.ag 11 rfl rfl [] (by kernel_rfl) (Turn.refl _);apply Exists.intro;apply And.intro
 ·intro u w1 hR hF
  clear hF;refine⟨rfl,fun a ha K hK=>?_⟩;have e3:=ha 3;conv at e3=>rhs;whnf
  clear ha;go_simp
  refine hK _ ?_;rfl
 apply Lo.ag 12 rfl rfl [10] (by kernel_rfl) (Turn.refl _);apply Exists.intro;apply And.intro
 ·intro u w1 hR hF
  obtain⟨h10, -⟩:=hF;refine⟨rfl,fun a ha K hK=>?_⟩;have e20:=(ha 20).trans h10;clear ha h10;have hb:=(((Turn.refl [] _).drew).same hR).heap HP.out (by simp);have c0:w1.cell? ⟨w.heap.size,1,none⟩=some (.int .i64 p.size):=by rw[cell_of hb];rfl
  have z1:=lt_of_heap hb;go_simp
  refine hK _ ?_;rfl
 refine Lo.done [3,7,9,11] (fun u w1 bP hSd hF=>?_);clear hSd;obtain⟨f3,f7,f9,f11, -⟩:=hF;have d3:u 3=_:=f3;have d7:u 7=_:=f7;have d9:u 9=_:=f9;have d11:u 11=_:=f11;clear f3 f7 f9 f11;simp only[List.take_succ_cons,List.take_zero,List.drop_succ_cons,List.drop_zero,ax,Act.put,List.setIfInBounds_toArray,List.set_cons_succ,List.set_cons_zero,Nat.zero_add,Nat.reduceAdd,d3,d7,d9,d11];have HT1:=hide (HT0.out.same (((Turn.refl [] _).drew).same bP));have HP1:=hide ((((Turn.refl [] _).drew).same bP).heap HP.out (by simp));have HR1:=hide ((((Turn.refl [] _).drew).same bP).heap HR0.out (by simp));clear d3 d7 d9 d11 bP;go_wp2_with fail
 refine(N8 (HB.out.disk.kept HT1.out (by simp)) file hfs HF.out p.at p.size (by omega)).mono ?_;rintro e w2 ⟨v,rfl,hrow,ht2⟩;rw[LJ.out]at hrow;obtain⟨ba,bc,hbv,NY,JS⟩:=hrow.form;subst hbv;have bQ:=hide hrow;have HT2:=hide (HT1.out.same ht2);have HP2:=hide (ht2.heap HP1.out (by simp));have HR2:=hide (ht2.heap HR1.out (by simp));clear hrow ht2 NY JS;have hdec:=TC w2 _ (Bt.aj x) bQ.out.bytes (by omega);have hde:=Md HX.out [];rw[List.append_nil]at hde;rw[hde]at hdec;have Yj:=hide hdec;clear hdec hde;go_wp2_with fail
 refine Yj.out.mono ?_;rintro e w3 ⟨rv,rfl,hrec0,hfr,ht3⟩;have hrec:aH 47 6 recC w3 w2.heap.size rv x.recs:=hrec0;clear hrec0;obtain⟨ra,rc,He, -⟩:=hrec.form;subst He;have U5:=hide hfr;clear hfr;have hen0:As.pG 0= .nilIface:=rfl;rw[hen0];have vF:=hide hrec;have HT3:=hide (HT2.out.same ht3);have HP3:=hide (ht3.heap HP2.out (by simp));have HR3:=hide (ht3.heap HR2.out (by simp));have Ht:=hide (bQ.out.kept ht3 (by simp));clear Yj hrec ht3 hen0;go_wp2
 obtain⟨w4,hw4⟩:∃w4,w4=w3.alloc (.cells #[.int .i64 x.base, .int .i64 x.fin, .slice ra x.recs.length rc] 215):=⟨_,rfl⟩;rw[←hw4];have h34:Turn [] w3 w4:=by rw[hw4];exact(Turn.refl [] w3).alloc _
 have HX4:Hid (w4.heap[w3.heap.size]? =some (.cells #[.int .i64 x.base, .int .i64 x.fin, .slice ra x.recs.length rc] 215 (0,0))):=by show _=_;rw[hw4];exact ae w3 _
 have Yk:=hide (vF.out.still h34);have HT4:=hide (HT3.out.same h34);have HP4:=hide (h34.heap HP3.out (by simp));have HR4:=hide (h34.heap HR3.out (by simp));have Qi:=hide (Ht.out.kept h34 (by simp));clear h34 hw4;refine aF (Turn []) (by kernel_rfl) (by kernel_rfl) (by kernel_rfl) (by kernel_rfl) rfl (Turn.refl _) (fun _ _ _ h k=>h.same k) ?_;apply Lo.ag 1 rfl rfl [] (by kernel_rfl) (Turn.refl _);apply Exists.intro;apply And.intro
 ·intro u w1 hR hF
  clear hF;refine⟨rfl,fun a ha K hK=>?_⟩;have e9:=ha 9;conv at e9=>rhs;whnf
  clear ha;go_simp
  refine hK _ ?_;rfl
 apply Lo.ag 2 rfl rfl [0] (by kernel_rfl) (Turn.refl _);apply Exists.intro;apply And.intro
 ·intro u w1 hR hF
  obtain⟨h0, -⟩:=hF;refine⟨rfl,fun a ha K hK=>?_⟩;have e29:=(ha 29).trans h0;clear ha h0;go_simp
  refine hK _ ?_;rfl
 apply Lo.ag 3 rfl rfl [1] (by kernel_rfl) (Turn.refl _);apply Exists.intro;apply And.intro
 ·intro u w1 hR hF
  obtain⟨h1, -⟩:=hF;refine⟨rfl,fun a ha K hK=>?_⟩;have e30:=(ha 30).trans h1;clear ha h1;go_simp
  refine hK _ ?_;rfl
 apply Lo.ag 4 rfl rfl [2] (by kernel_rfl) (Turn.refl _);apply Exists.intro;apply And.intro
 ·intro u w1 hR hF
  obtain⟨h2, -⟩:=hF;refine⟨.inl ⟨false,h2,rfl⟩,fun a ha K hK=>?_⟩;have e6:=ha 6;conv at e6=>rhs;whnf
  clear ha h2;go_simp
  refine hK _ ?_;rfl
 refine Lo.run 5 rfl rfl [2,3] (fun y _=>y= .int .i64 (Cr.sum (Bt.aj x):Nat)) (by kernel_rfl) (fun x w w' h hR=>?_) (fun _ _ h=>h) (fun u w1 hR hF=>?_) ?_
 ·exact h
 ·obtain⟨h2,h3, -⟩:=hF
  refine⟨.inl ⟨false,h2,rfl⟩,fun a ha K hK=>?_⟩;have e32:=(ha 32).trans h3;clear ha h2 h3;go_simp
  refine(sum_any _ _ (Bt.aj x) (Qi.out.kept (((Turn.refl [] _).drew).same hR) (by simp)).cells (by omega)).mono ?_;rintro e w5 ⟨rfl,rfl⟩;exact hK _ _ rfl (Turn.refl _ _)
 apply Lo.ag 6 rfl rfl [2] (by kernel_rfl) (Turn.refl _);apply Exists.intro;apply And.intro
 ·intro u w1 hR hF
  obtain⟨h2, -⟩:=hF;refine⟨.inl ⟨false,h2,rfl⟩,fun a ha K hK=>?_⟩;have e3:=ha 3;conv at e3=>rhs;whnf
  clear ha h2;go_simp
  refine hK _ ?_;rfl
 apply Lo.ag 7 rfl rfl [2,5] (by kernel_rfl) (Turn.refl _);apply Exists.intro;apply And.intro
 ·intro u w1 hR hF
  obtain⟨h2,h5, -⟩:=hF;refine⟨.inl ⟨false,h2,rfl⟩,fun a ha K hK=>?_⟩;have e34:=(ha 34).trans h5;clear ha h2 h5;have hb:=(((Turn.refl [] _).drew).same hR).heap HP4.out (by simp);have c0:w1.cell? ⟨w.heap.size,2,none⟩=some (.int .i64 p.sum):=by rw[cell_of hb];rfl
  have z1:=lt_of_heap hb;go_simp
  refine hK _ ?_;rfl
 refine Lo.aJ 8 rfl rfl [2,4,6] (.bool false) (by kernel_rfl) (fun u w1 hR hF=>?_) (Turn.refl _) ?_
 ·obtain⟨h2,h4,h6, -⟩:=hF
  refine⟨.inl ⟨false,h2,rfl⟩,fun a ha K hK=>?_⟩;have e33:a.tmps.getD 33 undef=u 4:=ha 33;have e35:=(ha 35).trans h6;have h4:=(show(fun y _=>y= .int .i64 (Cr.sum (Bt.aj x):Nat)) (u 4) w1 from h4);dsimp only at h4;clear ha h2 h6;rw[h4]at e33;have hsm:(p.sum:Int)=(Cr.sum (Bt.aj x):Nat):=by rw[HSM.out]
  go_simp
  refine hK _ ?_;rfl
 refine Lo.aJ 9 rfl rfl [2,7] (.bool false) (by kernel_rfl) (fun u w1 hR hF=>?_) (Turn.refl _) ?_
 ·obtain⟨h2,h7, -⟩:=hF
  refine⟨rfl,fun a ha K hK=>?_⟩;have e31:=(ha 31).trans h2;have e36:=(ha 36).trans h7;clear ha h2 h7;go_simp
  refine hK _ ?_;rfl
 refine Lo.done [8] (fun u w1 bP hSd hF=>?_);clear hSd;obtain⟨f8, -⟩:=hF;have d8:u 8=_:=f8;clear f8;simp only[ax,Act.put,List.setIfInBounds_toArray,List.set_cons_succ,List.set_cons_zero,Nat.zero_add,Nat.reduceAdd,d8];have HT5:=hide (HT4.out.same (((Turn.refl [] _).drew).same bP));have HX5:=hide ((((Turn.refl [] _).drew).same bP).heap HX4.out (by simp));have HR5:=hide ((((Turn.refl [] _).drew).same bP).heap HR4.out (by simp));have U6:=hide (Yk.out.still (((Turn.refl [] _).drew).same bP));clear d8 bP;have y0:w1.cell? ⟨w.heap.size+1,0,none⟩=some (.int .i64 0):=by simpa using cell_of HR5.out 0
 have y1:w1.cell? ⟨w.heap.size+1,1,none⟩=some (.int .i64 0):=by simpa using cell_of HR5.out 1
 have y2:w1.cell? ⟨w.heap.size+1,2,none⟩=some (.slice none 0 0):=by simpa using cell_of HR5.out 2
 have q0:w1.frozen? ⟨w.heap.size+1,0,none⟩=false:=af HR5.out 0;have q1:w1.frozen? ⟨w.heap.size+1,1,none⟩=false:=af HR5.out 1;have q2:w1.frozen? ⟨w.heap.size+1,2,none⟩=false:=af HR5.out 2;have k0:w1.cell? ⟨w3.heap.size,0,none⟩=some (.int .i64 x.base):=by simpa using cell_of HX5.out 0
 have k1:w1.cell? ⟨w3.heap.size,1,none⟩=some (.int .i64 x.fin):=by simpa using cell_of HX5.out 1
 have k2:w1.cell? ⟨w3.heap.size,2,none⟩=some (.slice ra x.recs.length rc):=by simpa using cell_of HX5.out 2
 have z3:=lt_of_heap HX5.out;have z4:=lt_of_heap HR5.out;go_wp2
 have hy:=heap_set (heap_set (heap_set HR5.out 0 (.int .i64 x.base)) 1 (.int .i64 x.fin)) 2 (.slice ra x.recs.length rc);have hld:=iI (by simpa using hy);have ht:Turn [w.heap.size+1] w1 (((w1.setCell ⟨w.heap.size+1,0,none⟩ (.int .i64 x.base)).setCell ⟨w.heap.size+1,1,none⟩ (.int .i64 x.fin)).setCell ⟨w.heap.size+1,2,none⟩ (.slice ra x.recs.length rc)):=
  (((Turn.refl _ _).setCell (.inl (by simp)) _).setCell (.inl (by simp)) _).setCell (.inl (by simp)) _
 refine bodyPost_ret (v:= .tuple #[.agg #[.int .i64 x.base, .int .i64 x.fin, .slice ra x.recs.length rc], .nilIface]) (by simp[results,Tryz.results233,asAddr,hld,Result.andThen]) rfl ⟨_,rfl,?_,U5.out,HT5.out.trans ht (fun k hk=> .inr (by simp at hk;omega))⟩;have hb2:=lt_of_heap HR2.out;refine(U6.out.kept ht (fun k hk hm=>?_)).aZ HT2.out.size;simp only[List.mem_singleton]at hm;subst hm;have:=(U6.out.lt _ hk).1;omega
structure BV where
 x:Bt.aX
 a:Option Addr
 n:Nat
 c:Nat
def BV.sl(y:BV):Value:= .slice y.a y.n y.c
def rM(y:BV):List Value:=[.int .i64 y.x.base, .int .i64 y.x.fin, .slice y.a y.n y.c]
theorem mf:∀y,(rM y).length=3:=fun _=>rfl
structure BO(w:World)(base:Nat)(lv:Value)(ys:List BV):Prop where
 row:aH 215 3 rM w base lv ys
 recs:∀y∈ys,bn w y.sl y.x.recs
 own:∀y∈ys,y.x.recs≠[]→∀k∈y.sl.ownBlock,base≤k
 sep:∀y∈ys,y.x.recs≠[]→∀k∈y.sl.ownBlock,k∉lv.ownBlock
theorem BO.nil(w:World)(base:Nat):BO w base (.slice none 0 0) []:=⟨.inl ⟨rfl,rfl⟩,by simp,by simp,by simp⟩
theorem BO.still{w w':World}{base:Nat}{lv:Value}{ys:List BV}(h:BO w base lv ys)(ht:Turn [] w w'):BO w' base lv ys:=⟨h.row.still ht,fun y hy=>(h.recs y hy).still ht,h.own,h.sep⟩
theorem Tryz.V6:(Tryz.prog.info? 215).map (fun i=>(i.zero,i.size,i.bytes))=some (some (.agg #[.int .i64 0, .int .i64 0, .slice none 0 0]),3,40):=by kernel_rfl
theorem TI(w:World)(base:Nat)(v:Value)(xs:List BV)(x:BV)(k:Nat)(hrow:aH 215 3 rM w base v xs)(hk:w.heap[k]? =some (.cells (rM x).toArray 215 (0,0))) (hlen:xs.length≤1000000) (hbase:base≤w.heap.size):
 ∃v' w',(Builtin.append_ #[263,263] 263 #[v, .slice (some ⟨k,0,none⟩) 1 1]).run Tryz.prog w= .ok v' w'∧aH 215 3 rM w' base v' (xs++[x])∧Turn v.ownBlock.toList w w'∧(∀j∈v'.ownBlock,j∈v.ownBlock∨w.heap.size≤j):=by
 obtain⟨i,hi,e⟩:=Option.map_eq_some_iff.1 Tryz.V6;simp only[Prod.mk.injEq]at e;exact dS (P:=Tryz.prog) 263 263 Tryz.underlying263 i _ hi e.1 (by rfl) e.2.1 (by omega) mf (fun x u hu=>by simp[rM]at hu;rcases hu with rfl|rfl|rfl<;>rfl) w base v xs x k hrow hk hlen hbase
def JZ(most:Int)(zs:List Bt.aX)(k:Nat):Prop:=k≤zs.length∧(∀j,1≤j→j<k→((flat (zs.take (j+1))).length:Int)≤most)∧(k<zs.length→0<k∧most<((flat (zs.take (k+1))).length:Int))
def aQ(xs:List Bt.aX)(from':Int)(k:Nat):Bool:=match xs[k]? with
 |some x=>decide (from'<x.fin)
 |none=>true
theorem lU:∀{xs:List Bt.aX} {b:Int},Chain b xs→∀x∈xs,b<x.fin
 |x::r,b,h,y,hy=>by
  have h1:=Bt.l7 (Bt.eY h.1).1;have h2:=h.2.1;rcases List.mem_cons.1 hy with rfl|hy
  ·omega
  ·have:=lU h.2.2 y hy;omega
theorem BP:∀{xs:List Bt.aX} {b:Int},Chain b xs→∀(from':Int) (i j:Nat),i≤j→aQ xs from' i=true→aQ xs from' j=true
 |[],b,h,fr,i,j,hij,hi=>by simp[aQ]
 |x::r,b,h,fr,i,j,hij,hi=>by
  cases j with
  |zero=>obtain rfl:i=0:=by omega
         exact hi
  |succ j=>
   cases i with
   |succ i=>
    have:=BP h.2.2 fr i j (by omega) (by simpa[aQ]using hi);simpa[aQ]using this
   |zero=>
    simp only[aQ,List.getElem?_cons_zero,decide_eq_true_eq]at hi;simp only[aQ,List.getElem?_cons_succ];cases hr:r[j]? with
    |none=>rfl
    |some y=>have:=lU h.2.2 y (List.mem_of_getElem? hr);simp;omega
theorem uA(f:Nat→Bool)(hm:∀i j,i≤j→f i=true→f j=true):∀n,∃m,Least n f m
 |0=>⟨0,Nat.le_refl _,fun i h=>absurd h (Nat.not_lt_zero _),fun i _ h=>absurd h (Nat.not_lt_zero _)⟩
 |n+1=>by
  obtain⟨m,h1,h2,h3⟩:=uA f hm n;cases hf:f n with
  |true=>exact⟨m,by omega,h2,fun i hi hn=>by
    by_cases h:i<n
    ·exact h3 i hi h
    ·obtain rfl:i=n:=by omega
     exact hf⟩
  |false=>
   refine⟨n+1,Nat.le_refl _,fun i hi=>?_,fun i hi hn=>absurd hi (by omega)⟩;cases hfi:f i with
   |false=>rfl
   |true=>have:=hm i n (by omega) hfi;rw[hf]at this;cases this
theorem Ff{n:Nat}{f:Nat→Bool}{m m':Nat}(h:Least n f m)(h':Least n f m'):m=m':=by
 rcases Nat.lt_trichotomy m m' with h1|h1|h1
 ·have a:=h'.2.1 m h1
  have b:=h.2.2 m (Nat.le_refl _) (by have:=h'.1;omega);rw[a]at b;cases b
 ·exact h1
 ·have a:=h.2.1 m' h1
  have b:=h'.2.2 m' (Nat.le_refl _) (by have:=h.1;omega);rw[a]at b;cases b
theorem Qj{xs:List Bt.aX}{k:Nat}(hk:k<xs.length):Dk.uf (flat xs) (flat (xs.take k)).length (Bt.aj xs[k]).length=Bt.aj xs[k]:=by
 have e:flat xs=flat (xs.take k)++(Bt.aj xs[k]++flat (xs.drop (k+1))):=by
  have e:flat xs=flat (xs.take k)++flat (xs.drop k):=by rw[←bZ,List.take_append_drop]
  rw[e,List.drop_eq_getElem_cons hk];rfl
 have hp:=nR xs[k];have hl:=congrArg List.length e;rw[List.length_append,List.length_append]at hl;unfold Dk.uf;rw[if_neg (by omega)];conv=>lhs;rw[e]
 simp
def Oc(a:Option Addr)(n c:Nat):Option Addr:=if c=n then a else a.map (·.add (n*5))
theorem Oe(a:Option Addr)(l c n:Nat)(hn:n≤l)(w:World):(Instr.slice 207 (.slice a l c) (some (.int .i64 (n:Int))) none none).run Tryz.prog w= .ok (.slice (Oc a n c) (l-n) (c-n)) w:=by
 have h:=P6 w;simp[Instr.slice,run_underlying Tryz.underlying207,Instr.sliceBounds,run_sliceBound,h,Result.andThen,hn,Oc]
structure qy(w:World)(base:Nat)(lv:Value)(ys:List BV):Prop where
 row:aH 215 3 rM w base lv ys
 recs:∀y∈ys,aH 47 6 recC w base y.sl y.x.recs
 ok:∀y∈ys,∀r∈y.x.recs,jD r
 apart:ys.Pairwise (fun a b=>∀k∈a.sl.ownBlock,k∉b.sl.ownBlock)
theorem U7{α:Type}{T:TypeId}{n:Nat}{enc:α→List Value}{w:World}{base:Nat}{sv:Value}{xs:List α}(h:aH T n enc w base sv xs):∀k∈sv.ownBlock,∃cs,w.heap[k]? =some (.cells cs T (0,0)):=by
 intro k hk;rcases h with⟨rfl, -⟩|⟨g,cap,cur,rfl, -,hg, -⟩
 ·simp[Value.ownBlock]at hk
 ·simp[Value.ownBlock]at hk;subst hk;exact⟨_,hg⟩
theorem Yl{w:World}{base base':Nat}{lv sv:Value}{ys:List BV}{rs:List Bt.Rec}(h:aH 215 3 rM w base lv ys)(hr:aH 47 6 recC w base' sv rs):∀k∈sv.ownBlock,k∉lv.ownBlock:=by
 intro k hk hm;obtain⟨c1,e1⟩:=U7 h k hm;obtain⟨c2,e2⟩:=U7 hr k hk;rw[e1]at e2;simp at e2
theorem qy.toB{w:World}{base:Nat}{lv:Value}{ys:List BV}(h:qy w base lv ys):BO w base lv ys:=
 ⟨h.row,fun y hy=>fB.recs (base:=base) (h.recs y hy) (h.ok y hy),fun y hy _ k hk=>((h.recs y hy).lt k hk).1,fun y hy _ k hk=>Yl h.row (h.recs y hy) k hk⟩
theorem qy.nil(w:World)(base:Nat):qy w base (.slice none 0 0) []:=⟨.inl ⟨rfl,rfl⟩,by simp,by simp,List.Pairwise.nil⟩
theorem qy.still{w w':World}{base:Nat}{lv:Value}{ys:List BV}(h:qy w base lv ys)(ht:Turn [] w w'):qy w' base lv ys:=⟨h.row.still ht,fun y hy=>(h.recs y hy).still ht,h.ok,h.apart⟩
set_option maxHeartbeats 8000000 in
theorem Qk(w:World)(base d:Nat)(F:List Nat)(A:DA)(sb:Nat)(sv:Value)(file:ByteArray)(b0:Int)(xs:List Bt.aX)(h:Both w base d F A sb sv file b0 (kL 0 (-1) xs))(hfs:file.size≤maxLen)(f:Dk.FA)(hf:A.file file.data.toList=some f)(hfb:f.bytes=flat xs)(hch:Chain b0 xs)
 (from' most:Int)(hmo: -9223372036854775808≤most∧most≤9223372036854775807):
 Calls Tryz.prog 189 #[.pointer (some ⟨sb,0,none⟩), .int .i64 from', .int .i64 most] w fun e w'=>∃lv ys m k,e= .returned (.tuple #[lv, .nilIface])∧Least xs.length (aQ xs from') m∧qy w' w.heap.size lv ys∧ys.map (·.x)=(xs.drop m).take k∧JZ most (xs.drop m) k∧Turn [] w w':=by
 obtain⟨m0,hm0⟩:=uA (aQ xs from') (fun i j=>BP hch from' i j) xs.length;have hfl:=gU xs;have hfsh:=BN h.disk hf;rw[hfb]at hfsh;obtain⟨xa,xc,hsv,hxl,hxm⟩:=h.qg.row.form;rw[qU]at hsv hxl;have hpl:=qU xs 0 (-1);subst hsv;have HB:=hide h;have HF:=hide hf;have Ym:=hide hfb;have J3:=hide hch;have HM0:=hide hm0;have hsb:=lt_of_heap h.qg.box;have hm0l:=hm0.1;have hmf:∀(fn:Fn) (first cap:Array Value) (w:World),(Instr.makeFunc fn first cap).run Tryz.prog w= .ok (.func fn first cap) w:=fun _ _ _ _=>rfl
 clear h hf hfb hch hm0;go_enter Tryz.func189,Tryz.ntmps189
 go_wp2
 obtain⟨w0,hw0⟩:∃w0,w0=w.alloc (.cells #[.int .i64 from'] 3):=⟨_,rfl⟩;rw[←hw0];have U5:Hid (w0.heap[w.heap.size]? =some (.cells #[.int .i64 from'] 3 (0,0))):=by show _=_;rw[hw0];exact ae w _
 have HT0:Hid (Turn [] w w0):=by show Turn _ _ _;rw[hw0];exact(Turn.refl [] w).alloc _
 clear hw0;refine aF (Turn []) (by kernel_rfl) (by kernel_rfl) (by kernel_rfl) (by kernel_rfl) rfl (Turn.refl _) (fun _ _ _ h k=>h.same k) ?_;apply Lo.ag 1 rfl rfl [] (by kernel_rfl) (Turn.refl _);apply Exists.intro;apply And.intro
 ·intro u w1 hR hF
  clear hF;refine⟨rfl,fun a ha K hK=>?_⟩;have e0:=ha 0;conv at e0=>rhs;whnf
  clear ha;go_simp
  refine hK _ ?_;rfl
 apply Lo.ag 2 rfl rfl [0] (by kernel_rfl) (Turn.refl _);apply Exists.intro;apply And.intro
 ·intro u w1 hR hF
  obtain⟨h0, -⟩:=hF;refine⟨rfl,fun a ha K hK=>?_⟩;have e14:=(ha 14).trans h0;clear ha h0;go_simp
  refine hK _ ?_;rfl
 apply Lo.ag 3 rfl rfl [1] (by kernel_rfl) (Turn.refl _);apply Exists.intro;apply And.intro
 ·intro u w1 hR hF
  obtain⟨h1, -⟩:=hF;refine⟨rfl,fun a ha K hK=>?_⟩;have e15:=(ha 15).trans h1;clear ha h1;go_simp
  refine hK _ ?_;rfl
 apply Lo.ag 4 rfl rfl [2] (by kernel_rfl) (Turn.refl _);apply Exists.intro;apply And.intro
 ·intro u w1 hR hF
  obtain⟨h2, -⟩:=hF;refine⟨rfl,fun a ha K hK=>?_⟩;have e16:=(ha 16).trans h2;clear ha h2;have hS:=HB.out.qg.still (HT0.out.same (((Turn.refl [] _).drew).same hR));have c3:=hS.c3;have z1:=lt_of_heap hS.box;go_simp
  refine hK _ ?_;rfl
 apply Lo.ag 5 rfl rfl [] (by kernel_rfl) (Turn.refl _);apply Exists.intro;apply And.intro
 ·intro u w1 hR hF
  clear hF;refine⟨rfl,fun a ha K hK=>?_⟩;have e0:=ha 0;conv at e0=>rhs;whnf
  clear ha;go_simp
  refine hK _ ?_;rfl
 refine Lo.aJ 6 rfl rfl [] (.func (.func 232) #[] #[.pointer (some ⟨w.heap.size,0,none⟩)]) (by kernel_rfl) (fun u w1 hR hF=>?_) (Turn.refl _) ?_
 ·clear hF
  refine⟨rfl,fun a ha K hK=>?_⟩;have e4:=ha 4;conv at e4=>rhs;whnf
  clear ha;go_simp
  refine hK _ ?_;rfl
 refine Lo.run 7 rfl rfl [4,5] (fun y _=>y= .int .i64 (m0:Nat)) (by kernel_rfl) (fun x w w' h hR=>?_) (fun _ _ h=>h) (fun u w1 hR hF=>?_) ?_
 ·exact h
 ·obtain⟨h4,h5, -⟩:=hF
  refine⟨rfl,fun a ha K hK=>?_⟩;have e18:=(ha 18).trans h4;have e19:=(ha 19).trans h5;clear ha h4 h5;go_simp
  have hw1:=(((Turn.refl [] w0).drew).same hR);refine(first_any _ base d sb _ file b0 _ (HB.out.qg.still (HT0.out.same hw1)) (by omega) 232 w.heap.size Ie (aQ xs from') (fun i j=>BP J3.out from' i j) (fun Z hZ k hk=>?_)).mono ?_
  ·have hk':k<xs.length:=by rwa [hpl]at hk
   have e1:=PZ xs hk';rw[List.getElem?_eq_getElem hk]at e1;have e2:=Option.some.inj e1;rw[e2];have e3:aQ xs from' k=decide (from'<xs[k].fin):=by simp[aQ,List.getElem?_eq_getElem hk']
   rw[e3];exact Oa Z _ w.heap.size from' (hZ.heap (hw1.heap U5.out (by simp)) (by simp))
  rintro e w2 ⟨⟨m,rfl,hm⟩,ht2⟩;rw[hpl]at hm;exact hK _ _ (by rw[Ff hm HM0.out]) ht2
 refine Lo.aJ 8 rfl rfl [3,6] (.slice (Oc xa m0 xc) (xs.length-m0) (xc-m0)) (by kernel_rfl) (fun u w1 hR hF=>?_) (Turn.refl _) ?_
 ·obtain⟨h3,h6, -⟩:=hF
  refine⟨rfl,fun a ha K hK=>?_⟩;have e17:=(ha 17).trans h3;have e20:a.tmps.getD 20 undef=u 6:=ha 20;have h6:=(show(fun y _=>y= .int .i64 (m0:Nat)) (u 6) w1 from h6);dsimp only at h6;clear ha h3;rw[h6]at e20;have hsl:∀w,(Instr.slice 207 (.slice xa xs.length xc) (some (.int .i64 (m0:Int))) none none).run Tryz.prog w= .ok (.slice (Oc xa m0 xc) (xs.length-m0) (xc-m0)) w:=fun w=>Oe xa xs.length xc m0 hm0l w
  go_simp
  refine hK _ ?_;rfl
 refine Lo.aJ 9 rfl rfl [7] (.int .i64 ((xs.length-m0:Nat):Int)) (by kernel_rfl) (fun u w1 hR hF=>?_) (Turn.refl _) ?_
 ·obtain⟨h7, -⟩:=hF
  refine⟨rfl,fun a ha K hK=>?_⟩;have e21:=(ha 21).trans h7;clear ha h7;go_simp
  refine hK _ ?_;rfl
 apply Lo.ag 10 rfl rfl [] (by kernel_rfl) (Turn.refl _);apply Exists.intro;apply And.intro
 ·intro u w1 hR hF
  clear hF;refine⟨rfl,fun a ha K hK=>?_⟩;clear ha;go_simp
  refine hK _ ?_;rfl
 refine Lo.done [7,8,9] (fun u w1 bP hSd hF=>?_);clear hSd;obtain⟨f7,f8,f9, -⟩:=hF;have d7:u 7=_:=f7;have d8:u 8=_:=f8;have d9:u 9=_:=f9;clear f7 f8 f9;simp only[ax,Act.put,List.setIfInBounds_toArray,List.set_cons_succ,List.set_cons_zero,Nat.zero_add,Nat.reduceAdd,d7,d8,d9];have HT1:=hide (HT0.out.same (((Turn.refl [] w0).drew).same bP));obtain⟨nz,hnz⟩:∃nz,nz=xs.length-m0:=⟨_,rfl⟩;rw[←hnz];have HNZ:=hide hnz;obtain⟨zs,hzs⟩:∃zs,zs=xs.drop m0:=⟨_,rfl⟩;have Yn:=hide hzs;have hzl:zs.length=nz:=by rw[hzs,List.length_drop,hnz]
 have hzf:(flat zs).length≤(flat xs).length:=by
  have e:flat xs=flat (xs.take m0)++flat zs:=by rw[hzs,←bZ,List.take_append_drop]
  have:=congrArg List.length e;rw[List.length_append]at this;omega
 have htf:∀k,(flat (zs.take k)).length≤(flat zs).length:=fun k=>by
  have e:flat zs=flat (zs.take k)++flat (zs.drop k):=by rw[←bZ,List.take_append_drop]
  have:=congrArg List.length e;rw[List.length_append]at this;omega
 have HTF:=hide htf;have hwl:=HT1.out.size;clear d7 d8 d9 bP hnz hzs htf;go_wp2
 go_loopw [8,9,23] (fun lv s i wr=>∃(k:Nat) (ys:List BV),k≤nz∧i= .int .i64 k∧s= .int .i64 ((flat (zs.take k)).length:Nat)∧qy wr w.heap.size lv ys∧ys.map (·.x)=zs.take k∧(∀j,1≤j→j<k→((flat (zs.take (j+1))).length:Int)≤most)∧Turn [] w wr) (fun _ _ i _=>nz-(intOf i).toNat)
 case atStart=>exact⟨0,[],Nat.zero_le _,rfl,rfl,qy.nil _ _,rfl,fun j h1 h2=>absurd h2 (by omega),HT1.out⟩
 case round=>
  obtain⟨k,ys,hk,rfl,rfl,hbr,hym,hjs,ht⟩:=hrel;obtain⟨la,lc,hlv,hll,hlm⟩:=hbr.row.form;subst hlv;have hyl:ys.length=k:=by have:=congrArg List.length hym;rw[List.length_map,List.length_take]at this;omega
  have Ql:=hide hbr;have HYM:=hide hym;have HJS:=hide hjs;have HT:=hide ht;have hkf:=HTF.out k;clear hbr hym hjs ht;by_cases hlt:k<nz
  ·have hj:m0+k<xs.length:=by have:=HNZ.out;omega
   obtain⟨x,hx⟩:∃x,x=xs[m0+k]:=⟨_,rfl⟩;have hkz:k<zs.length:=by rw[hzl];exact hlt
   have hzk:zs[k]'hkz=x:=by rw[hx];simp[Yn.out]
   have V7:(flat (zs.take (k+1))).length=(flat (zs.take k)).length+(Bt.aj x).length:=by
    rw[List.take_succ_eq_append_getElem hkz,bZ,List.length_append,kK,hzk]
   have hps:(kL 0 (-1) xs)[m0+k]? =some ⟨(flat (xs.take (m0+k))).length,(Bt.aj x).length,Cr.sum (Bt.aj x),x.fin,nS (-1) (xs.take (m0+k+1))⟩:=by rw[hx];exact PZ xs hj
   have hj':m0+k<(kL 0 (-1) xs).length:=by omega
   rw[List.getElem?_eq_getElem hj']at hps;obtain⟨p,hp⟩:∃p:Pl,p=⟨(flat (xs.take (m0+k))).length,(Bt.aj x).length,Cr.sum (Bt.aj x),x.fin,nS (-1) (xs.take (m0+k+1))⟩:=⟨_,rfl⟩;rw[←hp]at hps;have hps2:=Option.some.inj hps;obtain⟨g,cap,e,hc,_⟩:=(HB.out.qg.still HT.out).row.at uy hj';rw[hps2,hpl]at*;simp only[Value.slice.injEq,true_and]at e;obtain⟨rfl,rfl⟩:=e;have Fg:Oc (some ⟨g,0,none⟩) m0 xc=some ⟨g,m0*5,none⟩:=by
    unfold Oc;rw[if_neg (by omega)];simp[addr_add]
   rw[Fg];have hml:(m0+k)*5=m0*5+k*5:=Nat.add_mul _ _ _;rw[hml]at hc;have k0:wr.cell? ⟨g,m0*5+k*5,none⟩=some (.int .i64 p.at):=hc 0 (by omega);have k1:wr.cell? ⟨g,m0*5+k*5+1,none⟩=some (.int .i64 p.size):=hc 1 (by omega);have k2:wr.cell? ⟨g,m0*5+k*5+2,none⟩=some (.int .i64 p.sum):=hc 2 (by omega);have k3:wr.cell? ⟨g,m0*5+k*5+3,none⟩=some (.int .i64 p.fin):=hc 3 (by omega);have k4:wr.cell? ⟨g,m0*5+k*5+4,none⟩=some (.int .i64 p.latest):=hc 4 (by omega);have V8:p.size=(Bt.aj x).length:=by rw[hp]
   have hsum:((flat (zs.take k)).length:Int)+(p.size:Int)=((flat (zs.take (k+1))).length:Nat):=by rw[V8,V7];omega
   have hkf1:=HTF.out (k+1);have hkl:(k:Int)<nz:=by omega
   have HP:=hide hp;have HX:=hide hx;have HZK:=hide hzk;have HSUM:=hide hsum;have HFLK:=hide V7;have TJ:=hide V8;clear hp hx hzk hc Fg hml hps hps2 hj' V7 V8;by_cases TK:0<k∧most<((flat (zs.take (k+1))).length:Int)
   ·obtain⟨hb1,hb2⟩:=TK
    have hb1':(0:Int)<(ys.length:Int):=by omega
    have MH:=hide hyl;have HB1:=hide hb1;have HB2:=hide hb2;clear hyl hpl hb1;go_wp2
    refine bodyPost_ret (v:= .tuple #[.slice la ys.length lc, .nilIface]) (by simp[results,Tryz.results189]) rfl ⟨_,ys,m0,k,rfl,HM0.out,Ql.out.still ((Turn.refl [] wr).alloc _),?_,?_,HT.out.alloc _⟩
    ·rw[HYM.out,←Yn.out]
    ·rw[←Yn.out]
     exact⟨by omega,HJS.out,fun _=>⟨HB1.out,HB2.out⟩⟩
   ·have hcases:(¬(0:Int)<(ys.length:Int))∨((0:Int)<(ys.length:Int)∧¬most<((flat (zs.take (k+1))).length:Int)):=by
     by_cases h0:0<k
     ·exact .inr ⟨by omega,fun h=>TK ⟨h0,h⟩⟩
     ·exact .inl (by omega)
    have MH:=hide hyl;have HBRK:=hide TK;clear hyl hpl TK;rcases hcases with hcs|⟨hcs,hcs2⟩
    all_goals
     have hta:Turn [] w (wr.alloc (.cells #[.int .i64 p.at, .int .i64 p.size, .int .i64 p.sum, .int .i64 p.fin, .int .i64 p.latest] 253)):=HT.out.alloc _;have hba:=Ob _ base d F A sb _ file b0 _ (HB.out.still hta) hfs f HF.out p x (by rw[HX.out];exact J3.out.mem _ (List.getElem_mem _)) (by rw[Ym.out,HP.out,HX.out];exact Qj hj) (by rw[HP.out]) (by rw[TJ.out];have:=HFLK.out;omega);rw[show xU p= .agg #[.int .i64 p.at, .int .i64 p.size, .int .i64 p.sum, .int .i64 p.fin, .int .i64 p.latest]from rfl]at hba;have Yo:=hide hba;have Fh:=hide hta;clear hba hta;go_wp2_with fail
     refine Yo.out.mono ?_;rintro e w4 ⟨rv,rfl,hrec,hfr,ht4⟩;obtain⟨ra,rc,He, -⟩:=hrec.form;subst He;have h46:Turn [] w4 ((w4.alloc (.cells #[.int .i64 x.base, .int .i64 x.fin, .slice ra x.recs.length rc] 215)).alloc (.cells #[.int .i64 x.base, .int .i64 x.fin, .slice ra x.recs.length rc] 215)):=((Turn.refl [] w4).alloc _).alloc _;have hr4:Turn [] wr w4:=((Turn.refl [] wr).alloc _).same ht4;have hk6:((w4.alloc (.cells #[.int .i64 x.base, .int .i64 x.fin, .slice ra x.recs.length rc] 215)).alloc (.cells #[.int .i64 x.base, .int .i64 x.fin, .slice ra x.recs.length rc] 215)).heap[w4.heap.size+1]? =some (.cells (rM ⟨x,ra,x.recs.length,rc⟩).toArray 215 (0,0)):=by
      have:=ae (w4.alloc (.cells #[.int .i64 x.base, .int .i64 x.fin, .slice ra x.recs.length rc] 215)) (.cells #[.int .i64 x.base, .int .i64 x.fin, .slice ra x.recs.length rc] 215);rwa [World.size_alloc]at this
     obtain⟨v7,w7,hr7,hrow7,ht7,hown7⟩:=TI _ w.heap.size (.slice la ys.length lc) ys ⟨x,ra,x.recs.length,rc⟩ (w4.heap.size+1) ((Ql.out.row.still hr4).still h46) hk6 (by have:=MH.out;omega) (by have:=Fh.out.size;have:=ht4.size;have:=HT.out.size;simp at*;omega);have vF:=hide (hrec.still h46);have HLT4:=hide hrec.lt;have U5:=hide hfr;have HOWN7:=hide hown7;have HS6:=hide h46.size;have HR7:=hide hr7;have iZ:=hide hrow7;have HT7:=hide ht7;have HW6:=hide (hr4.same h46);have HTA':=hide ((HT.out.same (hr4.same h46)).trans ht7 (fun k hk=> .inr (by have:=(Ql.out.row.lt k (by simpa using hk)).1;omega)));clear Yo hrec ht4 h46 hr4 hk6 hr7 hrow7 ht7 hown7 hfr;go_wp2_with (at_builtin;go_must (refine fA rfl rfl rfl rfl HR7.out ?_))
     have hwr:=HT.out.size;have hw46:=HS6.out;have hbl:=Ql.out.row.lt;have hta2:=Fh.out.size;have hnb:∀k∈(Value.slice la ys.length lc).ownBlock,k<wr.heap.size:=fun k hk=>(hbl k hk).2
     have hrw:=vF.out.lt;refine⟨⟨k+1,ys++[⟨x,ra,x.recs.length,rc⟩],hlt,by go_num,rfl,⟨iZ.out,fun y hy=>?_,fun y hy=>?_,?_⟩,?_,fun j h1 h2=>?_,HTA'.out⟩,?_⟩
     ·rcases List.mem_append.1 hy with hy|hy
      ·exact((Ql.out.recs y hy).still HW6.out).kept HT7.out (fun k hk hm=>Yl Ql.out.row (Ql.out.recs y hy) k hk (by simpa using hm))
      ·obtain rfl:=List.mem_singleton.1 hy
       refine(vF.out.kept HT7.out (fun k hk hm=>?_)).aZ (by simp;omega);have h1:=(hrw k hk).1;have h2:=hnb k (by simpa using hm);simp at h1;omega
     ·rcases List.mem_append.1 hy with hy|hy
      ·exact Ql.out.ok y hy
      ·obtain rfl:=List.mem_singleton.1 hy
       exact U5.out
     ·rw[List.pairwise_append]
      refine⟨Ql.out.apart,by simp,fun y hy z hz k hk hm=>?_⟩;obtain rfl:=List.mem_singleton.1 hz;have h1:=((Ql.out.recs y hy).lt k hk).2;have h2:=(hrw k hm).1;simp at h2;omega
     ·rw[List.map_append,HYM.out,List.take_succ_eq_append_getElem hkz,HZK.out];rfl
     ·by_cases hjk:j<k
      ·exact HJS.out j h1 hjk
      ·obtain rfl:j=k:=by omega
       first
       |exact hcs2
       |exact absurd MH.out (by omega)
     ·simp only[intOf];omega
  ·obtain rfl:k=nz:=by omega
   go_wp2
   refine bodyPost_ret (v:= .tuple #[.slice la ys.length lc, .nilIface]) (by simp[results,Tryz.results189]) rfl ⟨_,ys,m0,zs.length,rfl,HM0.out,Ql.out,?_,?_,HT.out⟩
   ·rw[HYM.out,←Yn.out,hzl]
   ·rw[←Yn.out]
    exact⟨Nat.le_refl _,fun j h1 h2=>HJS.out j h1 (by omega),fun h=>absurd h (by omega)⟩
theorem BQ(w:World)(base d:Nat)(F:List Nat)(A:DA)(sb:Nat)(sv:Value)(file:ByteArray)(b0:Int)(xs:List Bt.aX)(h:Both w base d F A sb sv file b0 (kL 0 (-1) xs))(hfs:file.size≤maxLen)(f:Dk.FA)(hf:A.file file.data.toList=some f)(hfb:f.bytes=flat xs)(hch:Chain b0 xs)
 (from' most:Int)(hmo: -9223372036854775808≤most∧most≤9223372036854775807):
 Calls Tryz.prog 189 #[.pointer (some ⟨sb,0,none⟩), .int .i64 from', .int .i64 most] w fun e w'=>∃lv ys m k,e= .returned (.tuple #[lv, .nilIface])∧Least xs.length (aQ xs from') m∧BO w' w.heap.size lv ys∧ys.map (·.x)=(xs.drop m).take k∧JZ most (xs.drop m) k∧Turn [] w w':=
 (Qk w base d F A sb sv file b0 xs h hfs f hf hfb hch from' most hmo).mono fun e w' ⟨lv,ys,m,k,h1,h2,h3,h4,h5,h6⟩=>⟨lv,ys,m,k,h1,h2,h3.toB,h4,h5,h6⟩
end Sg
end
section
open Go.RowKit Go.Maps
set_option maxRecDepth 100000
set_option linter.unusedSimpArgs false
set_option linter.unusedVariables false
attribute [local go_sem] Oper.semAt_some
open Sg (BO BV rM mf)
namespace Lg
def dK(fr:Int)(rs:List Bt.Rec):List Bt.Rec:=rs.filter (fun r=>decide (fr≤r.off))
def aV(fr:Int)(xs:List Bt.aX):List Bt.Rec:=xs.flatMap (fun x=>dK fr x.recs)
theorem Ig(fr:Int)(xs:List Bt.aX){k:Nat}(hk:k<xs.length):aV fr (xs.take (k+1))=aV fr (xs.take k)++dK fr xs[k].recs:=by
 unfold aV;rw[List.take_succ_eq_append_getElem hk,List.flatMap_append];simp
theorem J4(fr:Int)(rs:List Bt.Rec){k:Nat}(hk:k<rs.length):dK fr (rs.take (k+1))=dK fr (rs.take k)++(if fr≤rs[k].off then [rs[k]]else []):=by
 unfold dK;rw[List.take_succ_eq_append_getElem hk,List.filter_append];simp only[List.filter_cons,List.filter_nil,decide_eq_true_eq]
theorem qX(fr:Int):∀xs:List Bt.aX,(aV fr xs).length≤(xs.flatMap (·.recs)).length
 |[]=>by simp[aV]
 |x::r=>by
  have h:=qX fr r;unfold aV at h⊢;rw[List.flatMap_cons,List.flatMap_cons,List.length_append,List.length_append];have:=List.length_filter_le (fun r:Bt.Rec=>decide (fr≤r.off)) x.recs;unfold dK at*;omega
theorem TL(xs:List Bt.aX)(k:Nat)(hk:k<xs.length):((xs.take k).flatMap (·.recs)).length+xs[k].recs.length≤(xs.flatMap (·.recs)).length:=by
 have e:xs=xs.take k++xs[k]::xs.drop (k+1):=by rw[←List.drop_eq_getElem_cons hk,List.take_append_drop]
 have h:(xs.flatMap (·.recs)).length=((xs.take k++xs[k]::xs.drop (k+1)).flatMap (·.recs)).length:=congrArg (fun l:List Bt.aX=>(l.flatMap (·.recs)).length) e;rw[h,List.flatMap_append,List.flatMap_cons,List.length_append,List.length_append];omega
set_option maxHeartbeats 8000000 in
theorem Es(w:World)(base:Nat)(lv:Value)(ys:List BV)(h:BO w base lv ys)(fr:Int)(hyl:ys.length≤1000000)(hT:((ys.map (·.x)).flatMap (·.recs)).length≤900000):
 Calls Tryz.prog 190 #[lv, .int .i64 fr] w fun e w'=>∃ov,e= .returned ov∧aH 47 6 recC w' w.heap.size ov (aV fr (ys.map (·.x)))∧Turn [] w w':=by
 obtain⟨la,lc,hlv,Qm,Qn⟩:=h.row.form;subst hlv;have hmx:maxLen=9223372036854775807:=by simp[maxLen]
 rw[hmx]at Qn;have H:=hide h;obtain⟨xs,hxs⟩:∃xs,xs=ys.map (fun y:BV=>y.x):=⟨_,rfl⟩;have hT':(xs.flatMap (·.recs)).length≤900000:=by rw[hxs];exact hT
 have HTT:=hide hT';have MG:=hide hxs;obtain⟨N,hN⟩:∃N,N=ys.length:=⟨_,rfl⟩;rw[←hN]at Qm hyl;have HN:=hide hN;clear h hT hT';rw[←hN,←hxs];clear hxs;clear hN;go_enter Tryz.func190,Tryz.ntmps190
 go_wp2
 go_loopw [5,12] (fun ov kv wr=>∃k:Nat,k≤N∧kv= .int .i64 k∧aH 47 6 recC wr w.heap.size ov (aV fr (xs.take k))∧Turn [] w wr) (fun _ kv _=>N-(intOf kv).toNat)
 case atStart=>exact⟨0,Nat.zero_le _,rfl, .inl ⟨rfl,by simp[aV]⟩,Turn.refl _ _⟩
 case round=>
  obtain⟨k,hk,rfl,hrow,htw⟩:=hrel;have bQ:=hide hrow;have dJ:=hide htw;obtain⟨oa,oc,hov, -, -⟩:=hrow.form;subst hov;clear hrow htw;by_cases hlt:k<N
  ·have hky:k<ys.length:=by rw[←HN.out];exact hlt
   obtain⟨g,cap,e,hc, -⟩:=(H.out.still dJ.out).row.at mf (j:=k) hky;rw[←HN.out]at e;simp only[Value.slice.injEq,true_and]at e;obtain⟨rfl,rfl⟩:=e;obtain⟨y,hy⟩:∃y,y=ys[k]:=⟨_,rfl⟩;rw[←hy]at hc;have c0:wr.cell? ⟨g,k*3,none⟩=some (.int .i64 y.x.base):=hc 0 (by omega);have c1:wr.cell? ⟨g,k*3+1,none⟩=some (.int .i64 y.x.fin):=hc 1 (by omega);have c2:wr.cell? ⟨g,k*3+2,none⟩=some (.slice y.a y.n y.c):=hc 2 (by omega);have hrec:bn w y.sl y.x.recs:=H.out.recs y (by rw[hy];exact List.getElem_mem _);obtain⟨ra,rc,hyv,Ye,VV, -⟩:=hrec.form;obtain⟨rs,hrs⟩:∃rs,rs=y.x.recs:=⟨_,rfl⟩;have hsl:y.a=ra∧y.n=rs.length∧y.c=rc:=by
    unfold BV.sl at hyv;simp only[Value.slice.injEq]at hyv;rw[hrs];exact hyv
   have hkx:k<xs.length:=by rw[MG.out,List.length_map];exact hky
   have hxk:xs[k].recs=rs:=by
    have e1:xs[k]? =some y.x:=by rw[MG.out,List.getElem?_map,List.getElem?_eq_getElem hky,←hy];rfl
    rw[List.getElem?_eq_getElem hkx]at e1;rw[Option.some.inj e1,hrs]
   have hsn:=Ig fr xs (k:=k) hkx;have htl:=TL xs k hkx;rw[hxk]at hsn htl;rw[hsl.1,hsl.2.1,hsl.2.2]at c2;rw[hyv,←hrs]at hrec;rw[←hrs]at Ye;rw[hmx]at VV;have hsL:=qX fr (xs.take k);have Jp:=hide hsn;have vF:=hide hrec;have hrt:rs.length≤900000:=by have:=HTT.out;omega
   have hacc:(aV fr (xs.take k)).length+rs.length≤900000:=by have:=HTT.out;omega
   obtain⟨acc,hac⟩:∃acc,acc=aV fr (xs.take k):=⟨_,rfl⟩;rw[←hac]at bQ hacc Jp⊢;have HAC:=hide hac;clear hkx hc hsn htl hsL hac hxk hsl hyv hrs hy hrec;go_wp2
   go_loopw [5,19] (fun ov jv wi=>∃j:Nat,j≤rs.length∧jv= .int .i64 j∧aH 47 6 recC wi w.heap.size ov (acc++dK fr (rs.take j))∧Turn [] w wi) (fun _ jv _=>rs.length-(intOf jv).toNat)
   case atStart=>exact⟨0,Nat.zero_le _,rfl,by simpa[dK]using bQ.out.still ((Turn.refl [] wr).alloc _),dJ.out.alloc _⟩
   case round=>
    obtain⟨j,hj,rfl,hrow,hti⟩:=hrel;have Qo:=hide hrow;have Yp:=hide hti;obtain⟨oa2,oc2,hov2, -, -⟩:=hrow.form;subst hov2;clear hrow hti;by_cases hjl:j<rs.length
    ·obtain⟨p,rfl⟩:∃p,ra=some p:=by
      obtain⟨a',c',e, -, -, -,h4⟩:=vF.out;simp only[Value.slice.injEq]at e;obtain⟨-,p,hp, -⟩:=h4 j hjl;exact⟨p,e.1.trans hp⟩
     obtain⟨g0,g1,g2,g3,g4,g5⟩:=(vF.out.still Yp.out).six hjl;obtain⟨r,hr⟩:∃r,r=rs[j]:=⟨_,rfl⟩;have hfs:=J4 fr rs hjl;have hfl:(dK fr (rs.take j)).length≤j:=by
      have:=List.length_filter_le (fun r:Bt.Rec=>decide (fr≤r.off)) (rs.take j);rw[List.length_take]at this;unfold dK;omega
     rw[←hr]at g0 g1 g2 g3 g4 g5 hfs;have pI:=hide hfs;clear hr hfs;by_cases hge:fr≤r.off
     ·have hw7:Turn [] wr ((wr.alloc (.cells #[.int .i64 r.off, .int .i64 r.time, .bool r.keyed, .string ⟨r.key.toArray⟩, .bool r.gone, .string ⟨r.value.toArray⟩] 47)).alloc (.cells #[.int .i64 r.off, .int .i64 r.time, .bool r.keyed, .string ⟨r.key.toArray⟩, .bool r.gone, .string ⟨r.value.toArray⟩] 47)):=((Turn.refl [] wr).alloc _).alloc _
      have hk7:((wr.alloc (.cells #[.int .i64 r.off, .int .i64 r.time, .bool r.keyed, .string ⟨r.key.toArray⟩, .bool r.gone, .string ⟨r.value.toArray⟩] 47)).alloc (.cells #[.int .i64 r.off, .int .i64 r.time, .bool r.keyed, .string ⟨r.key.toArray⟩, .bool r.gone, .string ⟨r.value.toArray⟩] 47)).heap[wr.heap.size+1]? =some (.cells (recC r).toArray 47 (0,0)):=by
       have:=ae (wr.alloc (.cells #[.int .i64 r.off, .int .i64 r.time, .bool r.keyed, .string ⟨r.key.toArray⟩, .bool r.gone, .string ⟨r.value.toArray⟩] 47)) (.cells #[.int .i64 r.off, .int .i64 r.time, .bool r.keyed, .string ⟨r.key.toArray⟩, .bool r.gone, .string ⟨r.value.toArray⟩] 47);rwa [World.size_alloc]at this
      obtain⟨v7,w7,hr7,hrow7,ht7, -⟩:=ql _ w.heap.size (.slice oa2 (acc++dK fr (rs.take j)).length oc2) (acc++dK fr (rs.take j)) r (wr.heap.size+1) (Qo.out.still hw7) hk7 (by rw[List.length_append];omega) (by have:=(Yp.out.same hw7).size;exact this);have iZ:=hide hrow7;have hown:∀q∈(Value.slice oa2 (acc++dK fr (rs.take j)).length oc2).ownBlock.toList,w.heap.size≤q:=fun q hq=>(Qo.out.lt q (by simpa using hq)).1
      have HT7:=hide ((Yp.out.same hw7).trans ht7 (fun q hq=> .inr (hown q hq)));have HR7:=hide hr7;clear hw7 hk7 hr7 hrow7 ht7 hown hfl;go_wp2_with (at_builtin;go_must (refine fA rfl rfl rfl rfl HR7.out ?_))
      all_goals refine⟨⟨j+1,by omega,by go_num,?_,HT7.out⟩,?_⟩
      all_goals first|(simp only[intOf];omega)|(rw[pI.out,if_pos hge,←List.append_assoc];exact iZ.out)
     ·have ZH:=hide hge
      clear hfl;go_wp2
      all_goals refine⟨⟨j+1,by omega,by go_num,?_,Yp.out.alloc _⟩,?_⟩
      all_goals first|(simp only[intOf];omega)|(rw[pI.out,if_neg ZH.out,List.append_nil];exact Qo.out.still ((Turn.refl [] wr).alloc _))
    ·obtain rfl:j=rs.length:=by omega
     rw[List.take_length]at Qo⊢;go_wp2
     all_goals refine⟨⟨k+1,by omega,by go_num,?_,Yp.out⟩,?_⟩
     all_goals first|(simp only[intOf];omega)|(rw[Jp.out];exact Qo.out)
  ·obtain rfl:k=N:=by omega
   have htk:xs.take k=xs:=List.take_of_length_le (by rw[MG.out,List.length_map,HN.out];exact Nat.le_refl _);rw[htk]at bQ⊢;clear htk;go_wp2
   go_ret
   exact⟨_,rfl,bQ.out,dJ.out⟩
end Lg
end
end Go.Proofs.YtmjpdhpmjmgmaaaGreatDoor
