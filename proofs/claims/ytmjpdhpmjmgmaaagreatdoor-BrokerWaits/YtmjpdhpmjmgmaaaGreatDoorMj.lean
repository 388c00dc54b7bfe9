/- Lemmas of the claim, part j of 14. -/
import Derived.Test.YtmjpdhpmjmgmaaaGreatDoorMi
import Derived.Test.YtmjpdhpmjmgmaaaGreatDoorMb
import Derived.Shelf.Abstract
namespace Go.Proofs.YtmjpdhpmjmgmaaaGreatDoor
set_option maxRecDepth 100000
set_option linter.unusedSimpArgs false
set_option linter.unusedVariables false
attribute [local go_sem] Oper.semAt_some
section
open Go.RowKit Go.Maps
namespace Wh
def cu(k t:Nat):Nat:=t/64^(k+1)
def bz(k t:Nat):Nat:=t/64^k%64
theorem lW(k t:Nat):bz k t<64:=Nat.mod_lt _ (by omega)
theorem Y1(k:Nat):(64:Nat)^k=2^(6*k):=by rw[Nat.pow_mul]
theorem uM(k t:Nat)(hk:k≤6)(ht:t≤1099511627776)(w:World):Calls Tryz.prog 39 #[.int .i64 k, .int .i64 t] w fun e w'=>e= .returned (.int .i64 (cu k t:Nat))∧w'=w:=by
 unfold cu;rw[Y1];go_enter Tryz.func39,Tryz.ntmps39
 go_wp2
 go_ret
 refine⟨?_,rfl⟩;refine congrArg Ending.returned ?_;show Value.int IntKind.i64 _=_;congr 1
theorem rD(k t:Nat)(hk:k≤6)(ht:t≤1099511627776)(w:World):Calls Tryz.prog 40 #[.int .i64 k, .int .i64 t] w fun e w'=>e= .returned (.int .i64 (bz k t:Nat))∧w'=w:=by
 unfold bz;rw[Y1];go_enter Tryz.func40,Tryz.ntmps40
 go_wp2
 go_ret
 refine⟨?_,rfl⟩;refine congrArg Ending.returned ?_;show Value.int IntKind.i64 _=_;congr 1
def Oz(now t:Nat):Nat→Nat→Nat
 |0,k=>k
 |f+1,k=>if cu k t=cu k now then k else Oz now t f (k+1)
def MR(now t:Nat):Nat:=Oz now t 6 0
theorem Rh{now t K:Nat}(h1:∀k,k<K→cu k t≠cu k now)(h2:cu K t=cu K now):∀f k,k≤K→K≤k+f→Oz now t f k=K
 |0,k,hk,hf=>by unfold Oz;omega
 |f+1,k,hk,hf=>by
  unfold Oz;by_cases e:k=K
  ·subst e;rw[if_pos h2]
  ·rw[if_neg (h1 k (by omega))]
   exact Rh h1 h2 f (k+1) (by omega) (by omega)
theorem Ri{now t K:Nat}(h1:∀k,k<K→cu k t≠cu k now)(h2:cu K t=cu K now)(hK:K≤6):MR now t=K:=Rh h1 h2 6 0 (Nat.zero_le _) (by omega)
theorem IM(now t:Nat):∀f k,(∀j,j<k→cu j t≠cu j now)→(∀j,j<Oz now t f k→cu j t≠cu j now)∧Oz now t f k≤k+f∧(cu (Oz now t f k) t=cu (Oz now t f k) now∨Oz now t f k=k+f)
 |0,k,h=>by unfold Oz;exact⟨h,Nat.le_refl _, .inr rfl⟩
 |f+1,k,h=>by
  unfold Oz;by_cases e:cu k t=cu k now
  ·rw[if_pos e]
   exact⟨h,by omega, .inl e⟩
  ·rw[if_neg e]
   obtain⟨a,b,c⟩:=IM now t f (k+1) (fun j hj=>by
    by_cases e2:j=k
    ·subst e2;exact e
    ·exact h j (by omega))
   exact⟨a,by omega,by rcases c with c|c;exact .inl c;exact .inr (by omega)⟩
theorem MS{t:Nat}(ht:t≤1099511627776):cu 6 t=0:=by
 unfold cu;exact Nat.div_eq_of_lt (by omega)
theorem IP{now t:Nat}(hn:now≤1099511627776)(ht:t≤1099511627776):(∀j,j<MR now t→cu j t≠cu j now)∧MR now t≤6∧cu (MR now t) t=cu (MR now t) now:=by
 obtain⟨a,b,c⟩:=IM now t 6 0 (fun j hj=>absurd hj (by omega));refine⟨a,by show Oz now t 6 0≤6;omega,?_⟩;rcases c with c|c
 ·exact c
 ·unfold MR
  rw[c,MS hn,MS ht]
def aG(now t:Nat):Nat:=64*MR now (max t now)+bz (MR now (max t now)) (max t now)
theorem ig{now t:Nat}(hn:now≤1099511627776)(ht:t≤1099511627776):aG now t<448:=by
 have h1:=(IP hn (t:=max t now) (by omega)).2.1;have h2:=lW (MR now (max t now)) (max t now);unfold aG;omega
theorem IQ{now t:Nat}(h:t≤now):aG now t=aG now now:=by
 unfold aG;rw[show max t now=max now now by omega]
def pg(now tO_ k:Nat):Nat:=if cu k tO_=cu k now then bz k tO_ else 63
def visited(now tO_ j:Nat):Bool:=decide (bz (j/64) now≤j%64)&&decide (j%64≤pg now tO_ (j/64))
theorem KQ{now tO_ t:Nat}(hn:now≤tO_)(hto:tO_≤1099511627776)(ht:t≤1099511627776)(hv:visited now tO_ (aG now t)=false):aG tO_ t=aG now t:=by
 have hn0:now≤1099511627776:=by omega
 obtain⟨t',ht'⟩:∃t',t'=max t now:=⟨_,rfl⟩;obtain⟨K,hK⟩:∃K,K=MR now t':=⟨_,rfl⟩;have hj:aG now t=64*K+bz K t':=by unfold aG;rw[←ht',←hK]
 have hp:=lW K t';have hd:(64*K+bz K t')/64=K:=by omega
 have hmd:(64*K+bz K t')%64=bz K t':=by omega
 obtain⟨s1,s2,s3⟩:=IP hn0 (t:=t') (by omega);rw[←hK]at s1 s2 s3;unfold visited at hv;rw[hj,hd,hmd]at hv;have hlow:bz K now≤bz K t':=by
  have h1:now/64^K≤t'/64^K:=Nat.div_le_div_right (by omega);unfold cu at s3;rw[Nat.pow_succ,←Nat.div_div_eq_div_mul,←Nat.div_div_eq_div_mul]at s3;unfold bz;have e1:=Nat.div_add_mod (t'/64^K) 64;have e2:=Nat.div_add_mod (now/64^K) 64;omega
 have hgt:pg now tO_ K<bz K t':=by
  simp only[hlow,decide_true,Bool.true_and,decide_eq_false_iff_not]at hv;omega
 unfold pg at hgt;by_cases htn:cu K tO_=cu K now
 ·rw[if_pos htn]at hgt
  have htt:cu K t'=cu K tO_:=by rw[s3,htn]
  have hlt:tO_/64^K<t'/64^K:=by
   have h1:=htt;unfold cu at h1;rw[Nat.pow_succ,←Nat.div_div_eq_div_mul,←Nat.div_div_eq_div_mul]at h1;unfold bz at hgt;have e1:=Nat.div_add_mod (t'/64^K) 64;have e2:=Nat.div_add_mod (tO_/64^K) 64;omega
  have hto':tO_<t':=by
   rcases Nat.lt_or_ge tO_ t' with h|h
   ·exact h
   ·exact absurd (Nat.div_le_div_right (c:=64^K) h) (by omega)
  have Ve:t'=t:=by omega
  subst Ve;have hkt:MR tO_ t'=K:=by
   refine Ri (fun k hk e=>?_) htt s2;have h2:tO_/64^K=t'/64^K:=by
    unfold cu at e;have h3:K=(k+1)+(K-(k+1)):=by omega
    rw[h3,Nat.pow_add,←Nat.div_div_eq_div_mul,←Nat.div_div_eq_div_mul,e]
   omega
  rw[hj];unfold aG;rw[show max t' tO_=t' by omega,hkt]
 ·rw[if_neg htn]at hgt
  omega
abbrev Xt:Type:=Value×Value×Value
structure bI(w:World)(b:Nat)(xt:Xt)(now:Nat)(ah:Option Nat)(sv:Nat→Value):Prop where
 cur:∃cur:Array Value,w.heap[b]? =some (.cells cur 64 (0,0))∧cur.size=453∧cur[1]? =some (.int .i64 now)∧cur[2]? =some (.map ah)∧(∀j,j<448→cur[3+j]? =some (sv j))∧(cur[0]? =some xt.1∧cur[451]? =some xt.2.1∧cur[452]? =some xt.2.2)
structure jX(w:World)(base b:Nat)(xt:Xt)(now:Nat)(ah:Option Nat)(all:List Tm)(sv:Nat→Value)(sl:Nat→List Tm):Prop where
 cells:bI w b xt now ah sv
 lo:base≤b
 map:je w ah all
 WX:∀k∈ah,base≤k
 rows:∀j,j<448→TR w base (sv j) (sl j)
 apart:∀i j,i<448→j<448→i≠j→∀k∈(sv i).ownBlock,k∉(sv j).ownBlock
def IU(sv:Nat→Value):List Nat:=(List.range 448).flatMap (fun j=>(sv j).ownBlock.toList)
def eH(b:Nat)(ah:Option Nat)(sv:Nat→Value):List Nat:=b::(ah.toList++IU sv)
theorem vV{sv:Nat→Value}{k:Nat}:k∈IU sv↔ ∃j,j<448∧k∈(sv j).ownBlock:=by
 unfold IU;simp[List.mem_flatMap]
theorem ak{b:Nat}{ah:Option Nat}{sv:Nat→Value}{k:Nat}:k∈eH b ah sv↔k=b∨k∈ah∨∃j,j<448∧k∈(sv j).ownBlock:=by
 unfold eH;rw[List.mem_cons,List.mem_append,vV];simp
section
variable {w w':World} {base b:Nat} {xt:Xt} {now:Nat} {ah:Option Nat} {all:List Tm} {sv:Nat→Value} {sl:Nat→List Tm}
theorem bI.kept{S:List Nat}(h:bI w b xt now ah sv)(ht:Turn S w w')(hn:b∉S):bI w' b xt now ah sv:=by
 obtain⟨cur,h1,r⟩:=h.cur;exact⟨cur,ht.heap h1 hn,r⟩
theorem jX.kept{S:List Nat}(h:jX w base b xt now ah all sv sl)(ht:Turn S w w')(hn:∀k∈eH b ah sv,k∉S):jX w' base b xt now ah all sv sl:=
 ⟨h.cells.kept ht (hn b (ak.2 (.inl rfl))),h.lo,h.map.kept ht (fun k hk=>hn k (ak.2 (.inr (.inl hk)))),h.WX,fun j hj=>(h.rows j hj).kept ht (fun k hk=>hn k (ak.2 (.inr (.inr ⟨j,hj,hk⟩)))),h.apart⟩
theorem jX.still(h:jX w base b xt now ah all sv sl)(ht:Turn [] w w'):jX w' base b xt now ah all sv sl:=h.kept ht (by simp)
theorem jX.blt(h:jX w base b xt now ah all sv sl):b<w.heap.size:=by
 obtain⟨cur,h1, -⟩:=h.cells.cur;exact lt_of_heap h1
theorem jX.FX(h:jX w base b xt now ah all sv sl):∀k∈eH b ah sv,base≤k∧k<w.heap.size:=by
 intro k hk;rcases ak.1 hk with rfl|hk|⟨j,hj,hk⟩
 ·exact⟨h.lo,h.blt⟩
 ·exact⟨h.WX k hk,h.map.lt k hk⟩
 ·exact(h.rows j hj).lt k hk
theorem jX.rZ(h:jX w base b xt now ah all sv sl){j:Nat}(hj:j<448):b∉(sv j).ownBlock:=by
 intro hk;obtain⟨cur,h1, -⟩:=h.cells.cur;rcases h.rows j hj with⟨e, -⟩|⟨g,cap,c2,e, -,hg, -⟩
 ·rw[e]at hk;simp[Value.ownBlock]at hk
 ·rw[e]at hk
  simp[Value.ownBlock]at hk;subst hk;rw[h1]at hg;simp at hg
theorem jX.MV(h:jX w base b xt now ah all sv sl){j:Nat}(hj:j<448):∀k∈(sv j).ownBlock,k∉ah:=by
 intro k hk;rcases h.rows j hj with⟨e, -⟩|⟨g,cap,c2,e, -,hg, -⟩
 ·rw[e]at hk;simp[Value.ownBlock]at hk
 ·rw[e]at hk
  simp[Value.ownBlock]at hk;subst hk;exact h.map.ne hg
theorem jX.EH(h:jX w base b xt now ah all sv sl):b∉ah:=by
 obtain⟨cur,h1, -⟩:=h.cells.cur;exact h.map.ne h1
theorem bI.head(h:bI w b xt now ah sv):w.cell? ⟨b,1,none⟩=some (.int .i64 now)∧w.cell? ⟨b,2,none⟩=some (.map ah)∧(∀i,w.frozen? ⟨b,i,none⟩=false)∧b<w.heap.size:=by
 obtain⟨cur,h1,h2,h3,h4,h5,h6⟩:=h.cur;exact⟨by rw[cell_of h1,h3],by rw[cell_of h1,h4],fun i=>af h1 i,lt_of_heap h1⟩
theorem bI.slot(h:bI w b xt now ah sv){j:Nat}(hj:j<448):w.cell? ⟨b,3+j,none⟩=some (sv j):=by
 obtain⟨cur,h1,h2,h3,h4,h5,h6⟩:=h.cur;rw[cell_of h1,h5 j hj]
def dR{α:Type}(sv:Nat→α)(j:Nat)(v:α):Nat→α:=fun i=>if i=j then v else sv i
theorem cO{α:Type}(sv:Nat→α)(j:Nat)(v:α):dR sv j v j=v:=by simp[dR]
theorem bF{α:Type}(sv:Nat→α){j i:Nat}(v:α)(h:i≠j):dR sv j v i=sv i:=by simp[dR,h]
theorem dC{cur:Array Value}{i j:Nat}{v u:Value}(h:cur[j]? =some u) (hij:i≠j):(cur.setIfInBounds i v)[j]? =some u:=by rw[Array.getElem?_setIfInBounds_ne hij];exact h
theorem vW{cur:Array Value}{i:Nat}{v:Value}(h:i<cur.size):(cur.setIfInBounds i v)[i]? =some v:=by rw[Array.getElem?_setIfInBounds_self_of_lt h]
theorem bI.setSlot(h:bI w b xt now ah sv){j:Nat}(hj:j<448)(v:Value):bI (w.setCell ⟨b,3+j,none⟩ v) b xt now ah (dR sv j v):=by
 obtain⟨cur,h1,h2,h3,h4,h5,h6,h7,h8⟩:=h.cur;refine⟨_,heap_set h1 (3+j) v,by rw[Array.size_setIfInBounds];exact h2,dC h3 (by omega),dC h4 (by omega),fun i hi=>?_,dC h6 (by omega),dC h7 (by omega),dC h8 (by omega)⟩;by_cases e:i=j
 ·subst e
  rw[cO];exact vW (by omega)
 ·rw[bF _ _ e]
  exact dC (h5 i hi) (by omega)
theorem bI.FY(h:bI w b xt now ah sv)(tO_:Nat):bI (w.setCell ⟨b,1,none⟩ (.int .i64 tO_)) b xt tO_ ah sv:=by
 obtain⟨cur,h1,h2,h3,h4,h5,h6,h7,h8⟩:=h.cur;exact⟨_,heap_set h1 1 _,by rw[Array.size_setIfInBounds];exact h2,vW (by omega),dC h4 (by omega),fun i hi=>dC (h5 i hi) (by omega),dC h6 (by omega),dC h7 (by omega),dC h8 (by omega)⟩
theorem bI.sW(h:bI w b xt now ah sv)(m:Option Nat):bI (w.setCell ⟨b,2,none⟩ (.map m)) b xt now m sv:=by
 obtain⟨cur,h1,h2,h3,h4,h5,h6,h7,h8⟩:=h.cur;exact⟨_,heap_set h1 2 _,by rw[Array.size_setIfInBounds];exact h2,dC h3 (by omega),vW (by omega),fun i hi=>dC (h5 i hi) (by omega),dC h6 (by omega),dC h7 (by omega),dC h8 (by omega)⟩
theorem bI.setX(h:bI w b xt now ah sv)(i:Nat)(v:Value)(xt':Xt)(hi:(i=0∧xt'=(v,xt.2.1,xt.2.2))∨(i=451∧xt'=(xt.1,v,xt.2.2))∨(i=452∧xt'=(xt.1,xt.2.1,v))):bI (w.setCell ⟨b,i,none⟩ v) b xt' now ah sv:=by
 obtain⟨cur,h1,h2,h3,h4,h5,h6,h7,h8⟩:=h.cur;rcases hi with⟨rfl,rfl⟩|⟨rfl,rfl⟩|⟨rfl,rfl⟩
 ·exact⟨_,heap_set h1 0 _,by rw[Array.size_setIfInBounds];exact h2,dC h3 (by omega),dC h4 (by omega),fun i hi=>dC (h5 i hi) (by omega),vW (by omega),dC h7 (by omega),dC h8 (by omega)⟩
 ·exact⟨_,heap_set h1 451 _,by rw[Array.size_setIfInBounds];exact h2,dC h3 (by omega),dC h4 (by omega),fun i hi=>dC (h5 i hi) (by omega),dC h6 (by omega),vW (by omega),dC h8 (by omega)⟩
 ·exact⟨_,heap_set h1 452 _,by rw[Array.size_setIfInBounds];exact h2,dC h3 (by omega),dC h4 (by omega),fun i hi=>dC (h5 i hi) (by omega),dC h6 (by omega),dC h7 (by omega),vW (by omega)⟩
theorem bI.xs(h:bI w b xt now ah sv):w.cell? ⟨b,0,none⟩=some xt.1∧w.cell? ⟨b,451,none⟩=some xt.2.1∧w.cell? ⟨b,452,none⟩=some xt.2.2∧b<w.heap.size∧∀i,w.frozen? ⟨b,i,none⟩=false:=by
 obtain⟨cur,h1,h2,h3,h4,h5,h6,h7,h8⟩:=h.cur;exact⟨by rw[cell_of h1,h6],by rw[cell_of h1,h7],by rw[cell_of h1,h8],lt_of_heap h1,fun i=>af h1 i⟩
end
set_option maxHeartbeats 1000000 in
theorem IV(w:World)(b:Nat)(xt:Xt)(now:Nat)(ah:Option Nat)(sv:Nat→Value)(h:bI w b xt now ah sv)(hn:now≤1099511627776)(t:Nat)(ht:t≤1099511627776):
 Calls Tryz.prog 42 #[.pointer (some ⟨b,1,none⟩), .int .i64 t] w fun e w'=>e= .returned (.pointer (some ⟨b,3+aG now t,none⟩))∧Turn [] w w':=by
 have H:=hide h;obtain⟨t',ht'⟩:∃t',t'=max t now:=⟨_,rfl⟩;have hmx:max (t:Int) (now:Int)=(t':Int):=by omega
 have htl:t'≤1099511627776:=by omega
 have HJ:Hid (aG now t=64*MR now t'+bz (MR now t') t'):=by show _=_;unfold aG;rw[ht']
 have hce:∀Z,Turn [] w Z→Z.cell? ⟨b,1,none⟩=some (.int .i64 now)∧b<Z.heap.size:=fun Z hZ=>⟨((H.out.kept hZ (by simp)).head).1,((H.out.kept hZ (by simp)).head).2.2.2⟩
 have HC:=hide hce;obtain⟨c0,z0⟩:=hce w (Turn.refl _ _);clear h hce ht';have hmaxr:∀ts ty w,(Builtin.max_ ts ty #[.int .i64 (t:Int), .int .i64 (now:Int)]).run Tryz.prog w= .ok (.int .i64 (t':Int)) w:=by
  intro ts ty w;rw[←hmx];simp[Builtin.max_,Builtin.max2];split<;>congr 1<;>congr 1<;>omega
 clear hmx;go_enter Tryz.func42,Tryz.ntmps42
 go_wp2
 go_loopw [5] (fun kv wr=>∃k:Nat,kv= .int .i64 (k:Int)∧k≤6∧(∀j,j<k→cu j t'≠cu j now)∧Turn [] w wr) (fun kv _=>7-(intOf kv).toNat)
 case atStart=>exact⟨0,rfl,by omega,fun j hj=>absurd hj (by omega),Turn.refl _ _⟩
 case round=>
  obtain⟨k,rfl,hk6,hne,htw⟩:=hrel;have dJ:=hide htw;have SE:=hide hne;clear htw hne;obtain⟨X,hX⟩:∃X,X=cu k t':=⟨_,rfl⟩;obtain⟨Y,hY⟩:∃Y,Y=cu k now:=⟨_,rfl⟩;have HX:=hide hX;have HY:=hide hY;clear hX hY;go_wp2
  refine aF (Turn []) (by kernel_rfl) (by kernel_rfl) (by kernel_rfl) (by kernel_rfl) rfl (Turn.refl _) (fun _ _ _ h k=>h.same k) ?_;apply Lo.ag 1 rfl rfl [] (by kernel_rfl) (Turn.refl _);apply Exists.intro;apply And.intro
  ·intro u w1 hR hF
   clear hF;refine⟨rfl,fun a ha K hK=>?_⟩;have e5:=ha 5;conv at e5=>rhs;whnf
   clear ha;go_simp
   refine hK _ ?_;rfl
  apply Lo.ag 2 rfl rfl [] (by kernel_rfl) (Turn.refl _);apply Exists.intro;apply And.intro
  ·intro u w1 hR hF
   clear hF;refine⟨rfl,fun a ha K hK=>?_⟩;have e1:=ha 1;conv at e1=>rhs;whnf
   clear ha;go_simp
   refine hK _ ?_;rfl
  refine Lo.run 3 rfl rfl [0,1] (fun v w'=>v= .int .i64 (X:Int)) (by kernel_rfl) (fun x w w' h hR=>?_) (fun _ _ h=>h) (fun u w1 hR hF=>?_) ?_
  ·exact h
  ·obtain⟨h0,h1, -⟩:=hF
   refine⟨rfl,fun a ha K hK=>?_⟩;have e12:=(ha 12).trans h0;have e13:=(ha 13).trans h1;clear ha h0 h1;go_simp
   refine(uM k t' hk6 htl w1).mono ?_;rintro e w5 ⟨rfl,rfl⟩;rw[←HX.out];exact hK _ _ rfl (Turn.refl _ _)
  apply Lo.ag 4 rfl rfl [] (by kernel_rfl) (Turn.refl _);apply Exists.intro;apply And.intro
  ·intro u w1 hR hF
   clear hF;refine⟨rfl,fun a ha K hK=>?_⟩;have e5:=ha 5;conv at e5=>rhs;whnf
   clear ha;go_simp
   refine hK _ ?_;rfl
  apply Lo.ag 5 rfl rfl [] (by kernel_rfl) (Turn.refl _);apply Exists.intro;apply And.intro
  ·intro u w1 hR hF
   clear hF;refine⟨rfl,fun a ha K hK=>?_⟩;have e0:=ha 0;conv at e0=>rhs;whnf
   clear ha;go_simp
   refine hK _ ?_;rfl
  apply Lo.ag 6 rfl rfl [4] (by kernel_rfl) (Turn.refl _);apply Exists.intro;apply And.intro
  ·intro u w1 hR hF
   obtain⟨h4, -⟩:=hF;refine⟨rfl,fun a ha K hK=>?_⟩;have e16:=(ha 16).trans h4;clear ha h4;obtain⟨c0,z0⟩:=HC.out w1 (dJ.out.same (((Turn.refl [] _).drew).same hR));go_simp
   refine hK _ ?_;rfl
  apply Lo.ag 7 rfl rfl [5] (by kernel_rfl) (Turn.refl _);apply Exists.intro;apply And.intro
  ·intro u w1 hR hF
   obtain⟨h5, -⟩:=hF;refine⟨rfl,fun a ha K hK=>?_⟩;have e17:=(ha 17).trans h5;clear ha h5;go_simp
   refine hK _ ?_;rfl
  refine Lo.aJ 8 rfl rfl [6] (.int .i64 (now:Int)) (by kernel_rfl) (fun u w1 hR hF=>?_) (Turn.refl _) ?_
  ·obtain⟨h6, -⟩:=hF
   refine⟨rfl,fun a ha K hK=>?_⟩;have e18:=(ha 18).trans h6;clear ha h6;obtain⟨c0,z0⟩:=HC.out w1 (dJ.out.same (((Turn.refl [] _).drew).same hR));go_simp
   refine hK _ ?_;rfl
  refine Lo.run 9 rfl rfl [3,7] (fun v w'=>v= .int .i64 (Y:Int)) (by kernel_rfl) (fun x w w' h hR=>?_) (fun _ _ h=>h) (fun u w1 hR hF=>?_) ?_
  ·exact h
  ·obtain⟨h3,h7, -⟩:=hF
   refine⟨rfl,fun a ha K hK=>?_⟩;have e15:=(ha 15).trans h3;have e19:=(ha 19).trans h7;clear ha h3 h7;go_simp
   refine(uM k now hk6 hn w1).mono ?_;rintro e w5 ⟨rfl,rfl⟩;rw[←HY.out];exact hK _ _ rfl (Turn.refl _ _)
  refine Lo.aJ 10 rfl rfl [2,8] (.bool (decide (X≠Y))) (by kernel_rfl) (fun u w1 hR hF=>?_) (Turn.refl _) ?_
  ·obtain⟨h2,h8, -⟩:=hF
   refine⟨rfl,fun a ha K hK=>?_⟩;have e14:a.tmps.getD 14 undef=u 2:=ha 14;have e20:a.tmps.getD 20 undef=u 8:=ha 20;have h2:=(show(fun v w'=>v= .int .i64 (X:Int)) (u 2) w1 from h2);dsimp only at h2;have h8:=(show(fun v w'=>v= .int .i64 (Y:Int)) (u 8) w1 from h8);dsimp only at h8;clear ha;go_simp
   refine hK _ ?_;by_cases e:X=Y
   ·simp[e]
   ·have:¬(X:Int)=Y:=by omega
    simp[e,this]
  refine Lo.done [9] (fun u w1 bP hSd hF=>?_);clear hSd;obtain⟨f9, -⟩:=hF;have d9:u 9=_:=f9;clear f9;simp only[ax,Act.put,List.setIfInBounds_toArray,List.set_cons_succ,List.set_cons_zero,Nat.zero_add,Nat.reduceAdd,d9];have HT1:=hide (dJ.out.same (((Turn.refl [] wr).drew).same bP));clear d9 bP;obtain⟨wa,rfl⟩:∃wa,wa=w1:=⟨_,rfl⟩;by_cases SQ:X=Y
  ·have hd:decide (X≠Y)=false:=by simp[SQ]
   rw[hd];clear hd;have hkk:MR now t'=k:=Ri SE.out (by rw[←HX.out,←HY.out];exact SQ) hk6;have HKK:=hide hkk;clear hkk;obtain⟨p,hp⟩:∃p,p=bz k t':=⟨_,rfl⟩;have hp64:=lW k t';rw[←hp]at hp64;have HP:=hide hp;clear hp;have hk7:(k:Int)<7:=by omega
   have hp7:(p:Int)<64:=by omega
   go_wp2
   refine aB 9 (Turn []) (by kernel_rfl) (by kernel_rfl) (by kernel_rfl) (by kernel_rfl) (by kernel_rfl) (Nat.le_of_ble_eq_true rfl) rfl (Turn.refl _) (fun _ _ _ h k=>h.same k) ?_;apply Lo.ag 1 rfl rfl [] (by kernel_rfl) (Turn.refl _);apply Exists.intro;apply And.intro
   ·intro u w1 hR hF
    clear hF;refine⟨rfl,fun a ha K hK=>?_⟩;have e0:=ha 0;conv at e0=>rhs;whnf
    clear ha;go_simp
    refine hK _ ?_;rfl
   apply Lo.ag 2 rfl rfl [] (by kernel_rfl) (Turn.refl _);apply Exists.intro;apply And.intro
   ·intro u w1 hR hF
    clear hF;refine⟨rfl,fun a ha K hK=>?_⟩;have e5:=ha 5;conv at e5=>rhs;whnf
    clear ha;go_simp
    refine hK _ ?_;rfl
   apply Lo.ag 3 rfl rfl [] (by kernel_rfl) (Turn.refl _);apply Exists.intro;apply And.intro
   ·intro u w1 hR hF
    clear hF;refine⟨rfl,fun a ha K hK=>?_⟩;have e5:=ha 5;conv at e5=>rhs;whnf
    clear ha;go_simp
    refine hK _ ?_;rfl
   apply Lo.ag 4 rfl rfl [] (by kernel_rfl) (Turn.refl _);apply Exists.intro;apply And.intro
   ·intro u w1 hR hF
    clear hF;refine⟨rfl,fun a ha K hK=>?_⟩;have e1:=ha 1;conv at e1=>rhs;whnf
    clear ha;go_simp
    refine hK _ ?_;rfl
   refine Lo.run 5 rfl rfl [2,3] (fun v w'=>v= .int .i64 (p:Int)) (by kernel_rfl) (fun x w w' h hR=>?_) (fun _ _ h=>h) (fun u w1 hR hF=>?_) ?_
   ·exact h
   ·obtain⟨h2,h3, -⟩:=hF
    refine⟨rfl,fun a ha K hK=>?_⟩;have e26:=(ha 26).trans h2;have e27:=(ha 27).trans h3;clear ha h2 h3;go_simp
    refine(rD k t' hk6 htl w1).mono ?_;rintro e w5 ⟨rfl,rfl⟩;rw[←HP.out];exact hK _ _ rfl (Turn.refl _ _)
   apply Lo.ag 6 rfl rfl [0] (by kernel_rfl) (Turn.refl _);apply Exists.intro;apply And.intro
   ·intro u w1 hR hF
    obtain⟨h0, -⟩:=hF;refine⟨rfl,fun a ha K hK=>?_⟩;have e24:=(ha 24).trans h0;clear ha h0;obtain⟨c0,z0⟩:=HC.out w1 (HT1.out.same (((Turn.refl [] _).drew).same hR));go_simp
    refine hK _ ?_;rfl
   apply Lo.ag 7 rfl rfl [5] (by kernel_rfl) (Turn.refl _);apply Exists.intro;apply And.intro
   ·intro u w1 hR hF
    obtain⟨h5, -⟩:=hF;refine⟨rfl,fun a ha K hK=>?_⟩;have e29:=(ha 29).trans h5;clear ha h5;go_simp
    refine hK _ ?_;rfl
   apply Lo.ag 8 rfl rfl [6,1] (by kernel_rfl) (Turn.refl _);apply Exists.intro;apply And.intro
   ·intro u w1 hR hF
    obtain⟨h6,h1, -⟩:=hF;refine⟨rfl,fun a ha K hK=>?_⟩;have e30:=(ha 30).trans h6;have e25:=(ha 25).trans h1;clear ha h6 h1;go_simp
    refine hK _ ?_;rfl
   apply Lo.ag 9 rfl rfl [7,4] (by kernel_rfl) (Turn.refl _);apply Exists.intro;apply And.intro
   ·intro u w1 hR hF
    obtain⟨h7,h4, -⟩:=hF;refine⟨rfl,fun a ha K hK=>?_⟩;have e31:=(ha 31).trans h7;have e28:a.tmps.getD 28 undef=u 4:=ha 28;have h4:=(show(fun v w'=>v= .int .i64 (p:Int)) (u 4) w1 from h4);dsimp only at h4;clear ha h7;go_simp
    refine hK _ ?_;rfl
   refine Lo.done [8] (fun u w1 bP hSd hF=>?_);clear hSd;obtain⟨f8, -⟩:=hF;have d8:u 8=_:=f8;clear f8;simp only[List.take_succ_cons,List.take_zero,List.drop_succ_cons,List.drop_zero,ax,Act.put,List.setIfInBounds_toArray,List.set_cons_succ,List.set_cons_zero,Nat.zero_add,Nat.reduceAdd,d8];have HT2:=hide (HT1.out.same (((Turn.refl [] wa).drew).same bP));clear d8 bP;have he:3+k*64+p=3+aG now t:=by rw[HJ.out,HKK.out,←HP.out];omega
   rw[he];go_wp2
   go_ret
   exact⟨rfl,HT2.out⟩
  ·have hd:decide (X≠Y)=true:=by simp[SQ]
   rw[hd];clear hd;have hk5:k+1≤6:=by
    have:k≠6:=by
     intro e;subst e;apply SQ;rw[HX.out,HY.out,MS htl,MS hn]
    omega
   go_wp2
   refine⟨⟨k+1,by go_num,hk5,fun j hj=>?_,HT1.out⟩,by simp only[intOf];omega⟩;by_cases e:j=k
   ·subst e
    rw[←HX.out,←HY.out];exact SQ
   ·exact SE.out j (by omega)
theorem WY:(Tryz.prog.info? 87).map (fun i=>(i.zero.map (fun z=>z.cells.size),i.size,i.bytes))=some (some 2,2,16):=by kernel_rfl
theorem o6:∃i z,Tryz.prog.info? 87=some i∧i.zero=some z∧z.cells.size=2∧i.size=2∧i.bytes≤1000:=by
 have h:=WY;cases hi:Tryz.prog.info? 87 with
 |none=>rw[hi]at h;cases h
 |some i=>
  rw[hi]at h;simp only[Option.map_some,Option.some.injEq,Prod.mk.injEq,Option.map_eq_some_iff]at h;obtain⟨⟨z,hz,hz2⟩,h2,h3⟩:=h;exact⟨i,z,rfl,hz,hz2,h2,by omega⟩
theorem FZ:∀x,∀u∈o9 x,u.oneCell'=true:=by
 intro x u hu;simp[o9]at hu;rcases hu with rfl|rfl<;>rfl
theorem Rj(w:World)(base:Nat)(v:Value)(xs:List Tm)(x:Tm)(k:Nat)(hrow:TR w base v xs)(hk:w.heap[k]? =some (.cells (o9 x).toArray 87 (0,0))) (hlen:xs.length≤1000000) (hbase:base≤w.heap.size):
 ∃v' w',(Builtin.append_ #[58,58] 58 #[v, .slice (some ⟨k,0,none⟩) 1 1]).run Tryz.prog w= .ok v' w'∧TR w' base v' (xs++[x])∧Turn v.ownBlock.toList w w'∧(∀j∈v'.ownBlock,j∈v.ownBlock∨w.heap.size≤j):=by
 obtain⟨i,z,hi,hz,hzs,hs,hb⟩:=o6;exact dS (P:=Tryz.prog) 58 58 Tryz.underlying58 i z hi hz hzs hs hb eQ FZ w base v xs x k hrow hk hlen hbase
theorem EI{P:Program}{o:Oper}{a:Act}{K:Act→World→Prop}{Q:Exit→Act→World→Prop}{w w':World}{s x:Operand}{t tx:TypeId}{v xv v':Value}
 (ho:o.op= .call {callee:= .builtin .append,args:= #[s,x],argTypes:= #[t,tx]})(hs:a.eval s=v)(hx:a.eval x=xv)
 (hr:(Builtin.append_ #[t,tx] o.type #[v,xv]).run P w= .ok v' w')(h:K (a.put o.dst v') w'):o.wp P a w K Q:=by
 unfold Oper.wp execOp;simp only[ho,resolve,invoke,builtin,Sem.run_bind,Sem.run_pure,Result.andThen_ok,List.map_toArray,List.map_cons,List.map_nil,hs,hx,hr];exact h
section
variable {w w':World} {base b:Nat} {xt:Xt} {now:Nat} {ah:Option Nat} {all:List Tm} {sv:Nat→Value} {sl:Nat→List Tm}
theorem jX.setRow(h:jX w base b xt now ah all sv sl){j:Nat}(hj:j<448){v':Value}{l':List Tm}(ht:Turn (b::(sv j).ownBlock.toList) w w')(hc:bI w' b xt now ah (dR sv j v'))(hr:TR w' base v' l')(hv:∀k∈v'.ownBlock,k∈(sv j).ownBlock∨w.heap.size≤k):
 jX w' base b xt now ah all (dR sv j v') (dR sl j l'):=by
 have hother:∀i,i<448→i≠j→∀k∈(sv i).ownBlock,k∉b::(sv j).ownBlock.toList:=fun i hi hij k hk hm=>by
  rcases List.mem_cons.1 hm with rfl|hm
  ·exact h.rZ hi hk
  ·exact h.apart i j hi hj hij k hk (by simpa using hm)
 refine⟨hc,h.lo,h.map.kept ht (fun k hk hm=>?_),h.WX,fun i hi=>?_,fun i q hi hq Uk k hk hm=>?_⟩
 ·rcases List.mem_cons.1 hm with rfl|hm
  ·exact h.EH hk
  ·exact h.MV hj k (by simpa using hm) hk
 ·by_cases e:i=j
  ·subst e
   rw[cO,cO];exact hr
  ·rw[bF _ _ e,bF _ _ e]
   exact(h.rows i hi).kept ht (hother i hi e)
 ·by_cases e1:i=j
  ·subst e1
   rw[cO]at hk;rw[bF _ _ (fun e=>Uk e.symm)]at hm;rcases hv k hk with h1|h1
   ·exact h.apart i q hi hq Uk k h1 hm
   ·have:=((h.rows q hq).lt k hm).2
    omega
  ·rw[bF _ _ e1]at hk
   by_cases e2:q=j
   ·subst e2
    rw[cO]at hm;rcases hv k hm with h1|h1
    ·exact h.apart i q hi hq Uk k hk h1
    ·have:=((h.rows i hi).lt k hk).2
     omega
   ·rw[bF _ _ e2]at hm
    exact h.apart i q hi hq Uk k hk hm
end
set_option maxHeartbeats 1000000 in
theorem put_any(w:World)(base b:Nat)(xt:Xt)(now:Nat)(ah:Option Nat)(all:List Tm)(sv:Nat→Value)(sl:Nat→List Tm)(h:jX w base b xt now ah all sv sl)(hn:now≤1099511627776)(t:Nat)(ht:t≤1099511627776)(id:Int)(j:Nat)(hj:j=aG now t)(hl:(sl j).length≤1000000):
 Calls Tryz.prog 41 #[.pointer (some ⟨b,1,none⟩),zh ((t:Int),id)] w fun e w'=>e= .returned (.tuple #[])∧∃v',jX w' base b xt now ah all (dR sv j v') (dR sl j (sl j++[((t:Int),id)]))∧Turn (b::(sv j).ownBlock.toList) w w'∧∀k∈v'.ownBlock,k∈(sv j).ownBlock∨w.heap.size≤k:=by
 have hj448:j<448:=by rw[hj];exact ig hn ht
 have H:=hide h;have HJ:=hide hj;obtain⟨ga,gc,hsv,hlc,hcm⟩:=(h.rows j hj448).form;have hbase:base≤w.heap.size:=by have:=h.lo;have:=h.blt;omega
 obtain⟨x,hx⟩:∃x:Tm,x=((t:Int),id):=⟨_,rfl⟩;have hce:∀Z,Turn (sv j).ownBlock.toList w Z→Z.cell? ⟨b,3+j,none⟩=some (.slice ga (sl j).length gc)∧b<Z.heap.size∧Z.frozen? ⟨b,3+j,none⟩=false:=fun Z hZ=>by
  have hk:=h.cells.kept hZ (fun hm=>h.rZ hj448 (by simpa using hm));exact⟨by rw[hk.slot hj448,hsv],hk.head.2.2.2,hk.head.2.2.1 _⟩
 have Ec:=hide hce;have hrow:TR w base (.slice ga (sl j).length gc) (sl j):=by rw[←hsv];exact h.rows j hj448
 have bQ:=hide hrow;have Ul:=hide hsv;have MI:=hide hl;have HB:=hide hbase;have CP:=IV (w.alloc (.cells #[.int .i64 t, .int .i64 id] 87)) b xt now ah sv (h.cells.kept ((Turn.refl [] w).alloc _) (by simp)) hn t ht;rw[←hj]at CP;have XH:=hide CP;clear h hj hsv hlc hcm hce hrow hl hbase CP;unfold zh;go_enter Tryz.func41,Tryz.ntmps41
 go_wp2_with fail
 refine XH.out.mono ?_;rintro e w2 ⟨rfl,ht2⟩;have hT2:Turn [] w w2:=((Turn.refl [] w).alloc _).same ht2;have hbox:w2.heap[w.heap.size]? =some (.cells #[.int .i64 t, .int .i64 id] 87 (0,0)):=ht2.heap (ae w _) (by simp)
 have HT2:=hide hT2;have Gs:=hide hbox;have hown:∀k∈(Value.slice ga (sl j).length gc).ownBlock.toList,k<w.heap.size:=fun k hk=>(bQ.out.lt k (by simpa using hk)).2
 have HOWN:=hide hown;clear ht2 hT2 hbox hown;obtain⟨S,hS⟩:∃S,S=(Value.slice ga (sl j).length gc).ownBlock.toList:=⟨_,rfl⟩;have HS:=hide hS;clear hS;go_wp2
 refine cZ 8 (Turn S) (Turn []) (fun k w=>match k with|0=>(fun w=>TR w base (.slice ga (sl j).length gc) (sl j)) w|_=>(fun w=>Turn S w2 w) w) [6] (by kernel_rfl) (by kernel_rfl) (by kernel_rfl) (by kernel_rfl) (by kernel_rfl) (by kernel_rfl) (Nat.le_of_ble_eq_true rfl) (by decide) rfl (Turn.refl _) (fun _ _ _ h k=>h.same k) (fun _ _ h=>h.mono (by simp)) ?_ ?_ ?_
 ·intro k a b hk hR
  match k,hk with
  |0,hk=>
   have hk:=(show(fun w=>TR w base (.slice ga (sl j).length gc) (sl j)) a from hk);dsimp only at hk;show(fun w=>TR w base (.slice ga (sl j).length gc) (sl j)) b;dsimp only;first|exact hk.still hR|exact hk.same (hR.mono (by simp))
  |_+1,hk=>
   have hk:=(show(fun w=>Turn S w2 w) a from hk);dsimp only at hk;show(fun w=>Turn S w2 w) b;dsimp only;first|exact hk.still hR|exact hk.same (hR.mono (by simp))
 ·show(fun w=>TR w base (.slice ga (sl j).length gc) (sl j)) _
  dsimp only;exact(bQ.out.still HT2.out).still ((Turn.refl [] _).drew)
 apply Lo.ag 1 rfl rfl [] (by kernel_rfl) (Turn.refl _);apply Exists.intro;apply And.intro
 ·intro u w1 hR hF
  clear hF;refine⟨rfl,fun a ha K hK=>?_⟩;have e4:=ha 4;conv at e4=>rhs;whnf
  clear ha;go_simp
  refine hK _ ?_;rfl
 apply Lo.ag 2 rfl rfl [] (by kernel_rfl) (Turn.refl _);apply Exists.intro;apply And.intro
 ·intro u w1 hR hF
  clear hF;refine⟨rfl,fun a ha K hK=>?_⟩;have e4:=ha 4;conv at e4=>rhs;whnf
  clear ha;go_simp
  refine hK _ ?_;rfl
 apply Lo.ag 3 rfl rfl [1] (by kernel_rfl) (Turn.refl _);apply Exists.intro;apply And.intro
 ·intro u w1 hR hF
  obtain⟨h1, -⟩:=hF;refine⟨rfl,fun a ha K hK=>?_⟩;have e10:=(ha 10).trans h1;clear ha h1;go_simp
  refine hK _ ?_;rfl
 apply Lo.ag 4 rfl rfl [2] (by kernel_rfl) (Turn.refl _);apply Exists.intro;apply And.intro
 ·intro u w1 hR hF
  obtain⟨h2, -⟩:=hF;refine⟨rfl,fun a ha K hK=>?_⟩;have e11:=(ha 11).trans h2;clear ha h2;obtain⟨c0,z0,f0⟩:=Ec.out w1 (by have:=Ul.out;rw[this,←HS.out];exact(HT2.out.mono (by simp)).same (((Turn.refl _ _).drew).same hR));go_simp
  refine hK _ ?_;rfl
 refine Lo.aJ 5 rfl rfl [] (.agg #[.int .i64 t, .int .i64 id]) (by kernel_rfl) (fun u w1 hR hF=>?_) (Turn.refl _) ?_
 ·clear hF
  refine⟨rfl,fun a ha K hK=>?_⟩;have e3:=ha 3;conv at e3=>rhs;whnf
  clear ha;have hbb:=(((Turn.refl S w2).drew).same hR).heap Gs.out (fun hm=>by rw[HS.out]at hm;have:=HOWN.out _ hm;omega);have d0:w1.cell? ⟨w.heap.size,0,none⟩=some (.int .i64 t):=by rw[cell_of hbb];rfl
  have d1:w1.cell? ⟨w.heap.size,1,none⟩=some (.int .i64 id):=by rw[cell_of hbb];rfl
  have zb:=lt_of_heap hbb;go_simp
  refine hK _ ?_;rfl
 refine Lo.run 6 rfl rfl [4] (fun x w'=>∃k,x= .slice (some ⟨k,0,none⟩) 1 1∧w'.heap[k]? =some (.cells (o9 ((t:Int),id)).toArray 87 (0,0))∧w2.heap.size≤k) (by kernel_rfl) (fun x w w' h hR=>?_) (fun _ _ h=>h.mono (by simp)) (fun u w1 hR hF=>?_) ?_
 ·obtain⟨k,h1,h2,h3⟩:=h;exact⟨k,h1,hR.heap h2 (fun hm=>by rw[HS.out]at hm;have:=HOWN.out _ hm;have:=HT2.out.size;omega),h3⟩
 ·obtain⟨h4, -⟩:=hF
  refine⟨rfl,fun a ha K hK=>?_⟩;have e13:=(ha 13).trans h4;clear ha h4;have e13':a.tmps[13]?.getD undef= .agg #[.int .i64 t, .int .i64 id]:=by rw[←Array.getD_eq_getD_getElem?,e13]
  go_simp
  exact hK _ _ ⟨w1.heap.size,rfl,ae w1 _,hR.size⟩ ((Turn.refl [] _).alloc _)
 refine Lo.rX 7 rfl 0 rfl [3,5] (fun x w'=>TR w' base x (sl j++[((t:Int),id)])∧∀k∈x.ownBlock,k∈(Value.slice ga (sl j).length gc).ownBlock∨w2.heap.size≤k) (by kernel_rfl) (fun x w w' h hR=>?_) (.inl (by kernel_rfl)) (fun u w1 hR hS hF=>?_) ?_
 ·exact⟨h.1.still hR,h.2⟩
 ·obtain⟨h3,h5, -⟩:=hF
  have hS:=(show(fun w=>TR w base (.slice ga (sl j).length gc) (sl j)) w1 from hS);dsimp only at hS;refine⟨rfl,fun a ha K hK=>?_⟩;have e12:=(ha 12).trans h3;have e14:a.tmps.getD 14 undef=u 5:=ha 14;have h5:=(show(fun x w'=>∃k,x= .slice (some ⟨k,0,none⟩) 1 1∧w'.heap[k]? =some (.cells (o9 ((t:Int),id)).toArray 87 (0,0))∧w2.heap.size≤k) (u 5) w1 from h5)
  dsimp only at h5;clear ha h3;obtain⟨kk,hx6,hc6,hk6⟩:=h5;rw[hx6]at e14;obtain⟨v7,w7,hr7,hrow7,ht7,hown7⟩:=Rj w1 base (.slice ga (sl j).length gc) (sl j) ((t:Int),id) kk hS hc6 MI.out (by have:=hR.size;have:=HT2.out.size;have:=HB.out;simp at*;omega);have hsz7:=hR.size;clear hx6 hc6;exact EI rfl e12 e14 hr7 (hK _ _ ⟨hrow7,fun k hk=>(hown7 k hk).elim .inl (fun h=> .inr (Nat.le_trans hsz7 h))⟩ (by rw[HS.out];exact ht7) ((((Turn.refl S w2).drew).same hR).same (by rw[HS.out];exact ht7)))
 apply Lo.ag 8 rfl rfl [0] (by kernel_rfl) (Turn.refl _);apply Exists.intro;apply And.intro
 ·intro u w1 hR hF
  obtain⟨h0, -⟩:=hF;refine⟨rfl,fun a ha K hK=>?_⟩;have e9:=(ha 9).trans h0;clear ha h0;go_simp
  refine hK _ ?_;rfl
 refine Lo.done [6,7] (fun u w1 bP hSd hF=>?_);have hSd:=(show(fun w=>Turn S w2 w) w1 from hSd);dsimp only at hSd;obtain⟨f6,f7, -⟩:=hF;have d6:=(show(fun x w'=>TR w' base x (sl j++[((t:Int),id)])∧∀k∈x.ownBlock,k∈(Value.slice ga (sl j).length gc).ownBlock∨w2.heap.size≤k) (u 6) w1 from f6);dsimp only at d6;have d7:u 7=_:=f7;clear f6 f7;simp only[List.take_succ_cons,List.take_zero,List.drop_succ_cons,List.drop_zero,ax,Act.put,List.setIfInBounds_toArray,List.set_cons_succ,List.set_cons_zero,Nat.zero_add,Nat.reduceAdd,d7];obtain⟨hrow7,hown7⟩:=d6;obtain⟨v',hv'⟩:∃v',v'=u 6:=⟨_,rfl⟩;rw[←hv']at hrow7 hown7⊢;clear d7 hv';obtain⟨va,vc,MN, -, -⟩:=hrow7.form;rw[List.length_append,List.length_singleton]at MN;have hbS:b∉S:=fun hm=>by rw[HS.out]at hm;exact H.out.rZ (j:=j) (by rw[HJ.out];exact ig hn ht) (by rw[Ul.out];simpa using hm)
 have TZ:Turn S w w1:=(HT2.out.mono (by simp)).same hSd;obtain⟨c0,z0,f0⟩:=Ec.out w1 (by rw[Ul.out,←HS.out];exact TZ);have hcw:=(H.out.cells.kept TZ hbS).setSlot (j:=j) (by rw[HJ.out];exact ig hn ht) v';have hsub:∀k∈S,k∈b::(sv j).ownBlock.toList:=fun k hk=>by rw[Ul.out,←HS.out];exact List.mem_cons_of_mem _ hk
 have hT:Turn (b::(sv j).ownBlock.toList) w (w1.setCell ⟨b,3+j,none⟩ v'):=(TZ.mono (fun k hk=> .inl (hsub k hk))).setCell (.inl (by simp)) v';have hown:∀k∈v'.ownBlock,k∈(sv j).ownBlock∨w.heap.size≤k:=fun k hk=>by
  rw[Ul.out];exact(hown7 k hk).imp (fun h=>h) (fun h=>by have:=HT2.out.size;omega)
 have hbv:b∉v'.ownBlock:=fun hm=>by
  rcases hown b hm with h1|h1
  ·exact H.out.rZ (j:=j) (by rw[HJ.out];exact ig hn ht) h1
  ·have:=H.out.blt;omega
 have hr':TR (w1.setCell ⟨b,3+j,none⟩ v') base v' (sl j++[((t:Int),id)]):=hrow7.kept (S:=[b]) ((Turn.refl [b] w1).setCell (.inl (by simp)) v') (fun k hk hm=>by obtain rfl:=List.mem_singleton.1 hm;exact hbv hk);have hfin:=H.out.setRow (j:=j) (by rw[HJ.out];exact ig hn ht) hT hcw hr' hown;have lK:=hide hfin;have HT:=hide hT;have HOW:=hide hown;clear hrow7 hown7 hbS TZ hcw hsub hT hown hbv hr' hfin bP hSd;rw[MN]at*;clear MN;go_wp2
 go_end0
 exact⟨rfl,_,lK.out,HT.out,HOW.out⟩
theorem Um{l:List Value}{a:Nat}(h:a+1<l.length)(u v:Value):l.take a++[u,v]++l.drop (a+2)=(l.set a u).set (a+1) v:=by
 have e1:l.drop a=l[a]::l[a+1]::l.drop (a+2):=by
  rw[List.drop_eq_getElem_cons (by omega),List.drop_eq_getElem_cons h]
 have e2:l=l.take a++(l[a]::l[a+1]::l.drop (a+2)):=by rw[←e1,List.take_append_drop]
 have hl:(l.take a).length=a:=by rw[List.length_take];omega
 conv=>rhs;rw[e2]
 rw[List.set_append_right _ _ (by omega),hl,Nat.sub_self,List.set_cons_zero,List.set_append_right _ _ (by omega),hl,show a+1-a=1 by omega,List.set_cons_succ,List.set_cons_zero];simp
theorem kM{P:Program}{ops:Array Oper}{rest:List Oper}{o:Oper}{a:Act}{Q:Exit→Act→World→Prop}{w w':World}(hgd:o.guard=none){s x:Operand}{t tx:TypeId}{v xv v':Value}
 (ho:o.op= .call {callee:= .builtin .append,args:= #[s,x],argTypes:= #[t,tx]})(hs:a.eval s=v)(hx:a.eval x=xv)(hr:(Builtin.append_ #[t,tx] o.type #[v,xv]).run P w= .ok v' w')(h:wpList P ops Q rest (a.put o.dst v') w'):wpList P ops Q (o::rest) a w:=
 wpList_plain hgd fun _ hK=>EI ho hs hx hr (hK _ _ h)
theorem Rk(w:World)(base g n c:Nat)(M:List Tm)(i:Nat)(x:Tm)(k:Nat)(hrow:TR w base (.slice (some ⟨g,0,none⟩) n c) M)(hi:i<M.length)(hk:w.heap[k]? =some (.cells (o9 x).toArray 87 (0,0))):
 ∃w',(Builtin.append_ #[58,58] 58 #[.slice (some ⟨g,0,none⟩) i c, .slice (some ⟨k,0,none⟩) 1 1]).run Tryz.prog w= .ok (.slice (some ⟨g,0,none⟩) (i+1) c) w'∧TR w' base (.slice (some ⟨g,0,none⟩) n c) (M.set i x)∧Turn [g] w w':=by
 obtain⟨ti,z,hti,hz,hzs,hsz,hb⟩:=o6;have hl:(o9 x).length=1*ti.size:=by rw[hsz,eQ]
 have hnews:∀j u,(o9 x)[j]? =some u→w.cell? ((⟨k,0,none⟩:Addr).add j)=some u:=fun j u hu=>by
  rw[addr_add,cell_of hk];simpa using hu
 rcases hrow with⟨e, -⟩|⟨g',cap,cur,e,hbb,hg,h1,h2,h3,h4⟩
 ·simp at e
 ·simp only[Value.slice.injEq,Option.some.injEq,Addr.mk.injEq,true_and]at e
  obtain⟨⟨rfl, -⟩,e2,rfl⟩:=e;have hr:=run_append_room (P:=Tryz.prog) w 58 58 87 ti Tryz.underlying58 hti g i c cur hg ⟨k,0,none⟩ 1 1 (o9 x) hl hnews (FZ x) (by omega) (by rw[hsz,eQ];omega);rw[hsz]at hr;refine⟨_,hr, .inr ⟨g,c,_,by rw[List.length_set,←e2],hbb,setRow_heap w g cur _ 87 _ hg,by rw[List.length_set];exact h1,?_,h3,?_⟩,⟨rfl,rfl,rfl,by simp,fun k _ hk=>setRow_other w g k _ (fun e=>hk (by simp[e]))⟩⟩
  ·simp[eQ];omega
  ·rw[List.length_set]
   have hcs:(M.length)*2≤cur.toList.length:=by have:=Array.length_toList (xs:=cur);omega
   have e:(cur.toList.take (i*2)++o9 x++cur.toList.drop (i*2+(o9 x).length))=(cur.toList.set (i*2) (.int .i64 x.1)).set (i*2+1) (.int .i64 x.2):=Um (by omega) _ _;rw[e,List.take_set,List.take_set,h4];have g1:=qL eQ M i 0 hi (.int .i64 x.1) (x.1,M[i].2) (by omega) rfl;have g2:=qL eQ (M.set i (x.1,M[i].2)) i 1 (by simpa using hi) (.int .i64 x.2) x (by omega) (by simp[o9]);rw[List.set_set]at g2;rw[←g2,←g1];rfl
theorem TR.pre{w:World}{base n c:Nat}{a:Option Addr}{S R:List Tm}(h:TR w base (.slice a n c) (S++R))(hS:0<S.length):TR w base (.slice a S.length c) S:=by
 rcases h with⟨e,e2⟩|⟨g,cap,cur,e,hb,hg,h1,h2,h3,h4⟩
 ·have:S=[]:=(List.append_eq_nil_iff.1 e2).1
  rw[this]at hS;simp at hS
 ·simp only[Value.slice.injEq]at e
  obtain⟨rfl, -,rfl⟩:=e;rw[List.length_append]at h1 h4;refine .inr ⟨g,c,cur,rfl,hb,hg,by omega,h2,h3,?_⟩;have e1:((S++R).flatMap o9).take (S.length*2)=S.flatMap o9:=by
   rw[List.flatMap_append,List.take_append_of_le_length (by rw[bV eQ];exact Nat.le_refl _),List.take_of_length_le (by rw[bV eQ];exact Nat.le_refl _)]
  rw[←e1,←h4,List.take_take,Nat.min_eq_left (by omega)]
theorem jX.KR{w w':World}{base b:Nat}{xt:Xt}{now:Nat}{ah:Option Nat}{all all':List Tm}{sv:Nat→Value}{sl:Nat→List Tm}(h:jX w base b xt now ah all sv sl){j:Nat}(hj:j<448){v':Value}{l':List Tm}(ht:Turn (b::(ah.toList++(sv j).ownBlock.toList)) w w')(hc:bI w' b xt now ah (dR sv j v'))(hm:je w' ah all')(hr:TR w' base v' l')(hv:∀k∈v'.ownBlock,k∈(sv j).ownBlock∨w.heap.size≤k):
 jX w' base b xt now ah all' (dR sv j v') (dR sl j l'):=by
 have hother:∀i,i<448→i≠j→∀k∈(sv i).ownBlock,k∉b::(ah.toList++(sv j).ownBlock.toList):=fun i hi hij k hk hm=>by
  rcases List.mem_cons.1 hm with rfl|hm
  ·exact h.rZ hi hk
  ·rcases List.mem_append.1 hm with hm|hm
   ·exact h.MV hi k hk (by simpa using hm)
   ·exact h.apart i j hi hj hij k hk (by simpa using hm)
 refine⟨hc,h.lo,hm,h.WX,fun i hi=>?_,fun i q hi hq Uk k hk hm=>?_⟩
 ·by_cases e:i=j
  ·subst e
   rw[cO,cO];exact hr
  ·rw[bF _ _ e,bF _ _ e]
   exact(h.rows i hi).kept ht (hother i hi e)
 ·by_cases e1:i=j
  ·subst e1
   rw[cO]at hk;rw[bF _ _ (fun e=>Uk e.symm)]at hm;rcases hv k hk with h1|h1
   ·exact h.apart i q hi hq Uk k h1 hm
   ·have:=((h.rows q hq).lt k hm).2
    omega
  ·rw[bF _ _ e1]at hk
   by_cases e2:q=j
   ·subst e2
    rw[cO]at hm;rcases hv k hm with h1|h1
    ·exact h.apart i q hi hq Uk k hk h1
    ·have:=((h.rows i hi).lt k hk).2
     omega
   ·rw[bF _ _ e2]at hm
    exact h.apart i q hi hq Uk k hk hm
def gB(all l:List Tm):List Tm:=l.foldl (fun a x=>dQ a x.2) all
theorem F6(all l:List Tm)(x:Tm):gB all (l++[x])=dQ (gB all l) x.2:=by simp[gB]
theorem rE(l:List Tm)(id:Int):(dQ l id).Sublist l:=List.filter_sublist
theorem xN:∀(l all:List Tm),(gB all l).Sublist all
 |[],all=>List.Sublist.refl _
 |x::l,all=>(xN l (dQ all x.2)).trans (rE all x.2)
theorem vX{l m:List Tm}(h:l.Sublist m)(hn:(m.map (·.2)).Nodup):(l.map (·.2)).Nodup:=(h.map _).nodup hn
def iD(goes:Tm→Bool)(l:List Tm):List Tm:=l.filter goes
def jA(goes:Tm→Bool)(l:List Tm):List Tm:=l.filter (fun x=> !goes x)
theorem OA(goes:Tm→Bool)(l:List Tm){k:Nat}(h:k<l.length):iD goes (l.take (k+1))=if goes l[k]then iD goes (l.take k)++[l[k]]else iD goes (l.take k):=by
 unfold iD;rw[List.take_succ_eq_append_getElem h,List.filter_append];cases hg:goes l[k]<;>simp[hg]
theorem KT(goes:Tm→Bool)(l:List Tm){k:Nat}(h:k<l.length):jA goes (l.take (k+1))=if goes l[k]then jA goes (l.take k)else jA goes (l.take k)++[l[k]]:=by
 unfold jA;rw[List.take_succ_eq_append_getElem h,List.filter_append];cases hg:goes l[k]<;>simp[hg]
theorem Un(goes:Tm→Bool)(l:List Tm)(k:Nat):(iD goes (l.take k)).length≤k:=by
 unfold iD;have h1:=List.length_filter_le goes (l.take k);rw[List.length_take]at h1;omega
set_option maxHeartbeats 2000000 in
theorem take_any(w:World)(base b:Nat)(xt:Xt)(now:Nat)(ah:Option Nat)(all:List Tm)(sv:Nat→Value)(sl:Nat→List Tm)(h:jX w base b xt now ah all sv sl)(hn:now≤1099511627776)(t:Nat)(ht:t≤1099511627776)(j:Nat)(hj:j=aG now t)(hl:(sl j).length≤1000000)
 (hnd:(all.map (·.2)).Nodup)(hwf:∀x∈sl j,(Lit.int .i64 x.1).wf=true∧(Lit.int .i64 x.2).wf=true)(hmm:sl j≠[]→∃mb,ah=some mb)
 (G:Nat)(bv:Value)(goes:Tm→Bool)(eg:∀args w,(callFunc G args).run Tryz.prog w= .ok (.enter G args) w)
 (hG:∀Z,Turn (b::(ah.toList++(sv j).ownBlock.toList)) w Z→∀x∈sl j,Calls Tryz.prog G #[zh x,bv] Z fun e w'=>e= .returned (.bool (goes x))∧Turn [] Z w'):
 Calls Tryz.prog 22 #[.pointer (some ⟨b,1,none⟩), .int .i64 t, .func (.func G) #[] #[bv]] w fun e w'=>∃ga gc v',e= .returned (.slice ga (iD goes (sl j)).length gc)∧TR w' base (.slice ga (iD goes (sl j)).length gc) (iD goes (sl j))∧(∀k∈(Value.slice ga (iD goes (sl j)).length gc).ownBlock,w.heap.size≤k)∧
  jX w' base b xt now ah (gB all (iD goes (sl j))) (dR sv j v') (dR sl j (jA goes (sl j)))∧Turn (b::(ah.toList++(sv j).ownBlock.toList)) w w'∧(∀k∈v'.ownBlock,k∈(sv j).ownBlock):=by
 have hj448:j<448:=by rw[hj];exact ig hn ht
 have H:=hide h;obtain⟨sa,sc,hsv,hlc,hcm⟩:=(h.rows j hj448).form;have hmx:maxLen=9223372036854775807:=by simp[maxLen]
 rw[hmx]at hcm;have hbase:base≤w.heap.size:=by have:=h.lo;have:=h.blt;omega
 obtain⟨L,hL⟩:∃L,L=sl j:=⟨_,rfl⟩;have hrow:TR w base (.slice sa L.length sc) L:=by rw[hL,←hsv];exact h.rows j hj448
 rw[←hL]at hsv hl hlc hwf hmm hG;have CP:=IV w b xt now ah sv h.cells hn t ht;rw[←hj]at CP;obtain⟨F,hF⟩:∃F,F=ah.toList++(sv j).ownBlock.toList:=⟨_,rfl⟩;rw[←hF]at hG;have hbF:b∉F:=by
  rw[hF];intro hm;rcases List.mem_append.1 hm with hm|hm
  ·exact h.EH (by simpa using hm)
  ·exact h.rZ hj448 (by simpa using hm)
 have hce:∀Z,Turn F w Z→Z.cell? ⟨b,3+j,none⟩=some (.slice sa L.length sc)∧Z.cell? ⟨b,2,none⟩=some (.map ah)∧b<Z.heap.size∧Z.frozen? ⟨b,3+j,none⟩=false:=fun Z hZ=>by
  have hk:=h.cells.kept hZ hbF;exact⟨by rw[hk.slot hj448,hsv],hk.head.2.1,hk.head.2.2.2,hk.head.2.2.1 _⟩
 have Ec:=hide hce;have bQ:=hide hrow;have Ul:=hide hsv;have MI:=hide hl;have HB:=hide hbase;have XH:=hide CP;have HL:=hide hL;have HWF:=hide hwf;have XI:=hide hmm;have HG:=hide hG;have HF:=hide hF;have HBF:=hide hbF;have HJ:=hide hj448;have HND:=hide hnd;have hn2:L.length≤1000000:=hl;clear h hj hsv hcm hce hrow hl hbase CP hL hwf hmm hG hF hbF hj448 hnd hmx;go_enter Tryz.func22,Tryz.ntmps22
 go_wp2_with fail
 refine XH.out.mono ?_;rintro e w1 ⟨rfl,ht1⟩;have HT1:=hide (ht1.mono (T:=F) (by simp));have HR1:=hide (bQ.out.still ht1);have HM1:=hide (H.out.map.still ht1);obtain⟨c0,c1,z0,f0⟩:=Ec.out w1 HT1.out;clear ht1 XH;go_wp2
 go_loopw [8,9,23] (fun gv sv9 iv wr=>∃(k:Nat) (ga:Option Addr) (gc:Nat) (mid:List Tm),k≤L.length∧iv= .int .i64 (k:Int)∧gv= .slice ga (iD goes (L.take k)).length gc∧TR wr base (.slice ga (iD goes (L.take k)).length gc) (iD goes (L.take k))∧(∀q∈(Value.slice ga (iD goes (L.take k)).length gc).ownBlock,w.heap.size≤q)∧
  sv9= .slice sa (jA goes (L.take k)).length sc∧(jA goes (L.take k)).length+mid.length=k∧TR wr base (.slice sa L.length sc) (jA goes (L.take k)++mid++L.drop k)∧je wr ah (gB all (iD goes (L.take k)))∧Turn F w wr) (fun _ _ iv _=>L.length-(intOf iv).toNat)
 case atStart=>exact⟨0,none,0,[],Nat.zero_le _,rfl,rfl, .inl ⟨rfl,rfl⟩,by simp[Value.ownBlock,iD],rfl,rfl,by simpa[jA]using HR1.out,by simpa[iD,gB]using HM1.out,HT1.out⟩
 case round=>
  obtain⟨k,ga,gc,mid,hk,rfl,rfl,hgr,hgo,rfl,hlen,hrow,hmap,htw⟩:=hrel;obtain⟨gs,hgs⟩:∃gs,gs=iD goes (L.take k):=⟨_,rfl⟩;obtain⟨ss,hss⟩:∃ss,ss=jA goes (L.take k):=⟨_,rfl⟩;rw[←hgs]at hgr hgo hmap⊢;rw[←hss]at hlen hrow⊢;have ZP:=hide hgs;have Wv:=hide hss;have SH:=hide hgr;have MW:=hide hgo;have OZ:=hide hlen;have HRW:=hide hrow;have HMP:=hide hmap;have dJ:=hide htw;clear hgs hss hgr hgo hlen hrow hmap htw;by_cases hlt:k<L.length
  ·have hlt1:(k:Int)<L.length:=by omega
   obtain⟨x,hx⟩:∃x,x=L[k]:=⟨_,rfl⟩;have hxm:x∈L:=by rw[hx];exact List.getElem_mem _
   obtain⟨M,hM⟩:∃M,M=ss++mid++L.drop k:=⟨_,rfl⟩;have hrow:=HRW.out;rw[←hM]at hrow;have hkM:k<M.length:=by rw[←hrow.len];exact hlt
   have hMx:M[k]=x:=by
    refine fP (P:=ss++mid) (R:=L.drop (k+1)) (by rw[hM,List.drop_eq_getElem_cons hlt,hx]) ?_ _;rw[List.length_append];exact OZ.out.symm
   obtain⟨g,cap,e, -, -⟩:=hrow.at eQ hkM;simp only[Value.slice.injEq]at e;obtain⟨rfl, -,rfl⟩:=e;obtain⟨q0,q1, -, -,zg⟩:=TR.two hrow hkM hMx;obtain⟨mb,rfl⟩:=XI.out (by intro e;rw[e]at hlt;exact absurd hlt (by simp));have HX:=hide hx;have HM:=hide hM;have Rl:=hide hrow;clear hx hM hrow hMx hkM;obtain⟨wx,hwx⟩:∃wx,wx=wr.alloc (.cells (o9 x).toArray 87):=⟨_,rfl⟩;have htx:Turn [] wr wx:=by rw[hwx];exact(Turn.refl [] wr).alloc _
   have hbx:wx.heap[wr.heap.size]? =some (.cells (o9 x).toArray 87 (0,0)):=by rw[hwx];exact ae wr _
   have HWX:=hide hwx;have SN:=hide htx;have hcall:=HG.out wx ((dJ.out.mono (T:=b::F) (fun k hk=> .inl (List.mem_cons_of_mem _ hk))).same (htx.mono (by simp))) x hxm;have Vl:=hide hcall;clear htx hcall;have hgF:g∈F:=by rw[HF.out,Ul.out];exact List.mem_append.2 (.inr (by simp[Value.ownBlock]))
   have NC:mb∈F:=by rw[HF.out];exact List.mem_append.2 (.inl (by simp))
   have hglt:g<w.heap.size:=(bQ.out.lt g (by simp[Value.ownBlock])).2;have hmlt:mb<w.heap.size:=H.out.map.lt mb (by simp);have hgm:g≠mb:=fun e=>H.out.MV HJ.out g (by rw[Ul.out];simp[Value.ownBlock]) (by rw[e];simp)
   have HGF:=hide hgF;have HMF:=hide NC;have HGM:=hide hgm;have wfx:=HWF.out x hxm;have HWFX:=hide wfx;clear hgF NC hgm hxm wfx;unfold zh at*;go_wp2_with fail
   rw[show wr.alloc (.cells #[.int .i64 x.1, .int .i64 x.2] 87)=wx from HWX.out.symm];refine Vl.out.mono ?_;rintro e w2 ⟨rfl,ht2⟩;have hbx2:=ht2.heap hbx (by simp);have hT2:Turn [] wr w2:=SN.out.same ht2;have Gs:=hide hbx2;have HT2:=hide hT2;clear ht2 hbx hbx2 hT2 q0 q1 zg c0 c1 z0 f0 HWX SN Vl;have r0:w2.cell? ⟨wr.heap.size,0,none⟩=some (.int .i64 x.1):=by rw[cell_of Gs.out];rfl
   have r1:w2.cell? ⟨wr.heap.size,1,none⟩=some (.int .i64 x.2):=by rw[cell_of Gs.out];rfl
   have zb:=lt_of_heap Gs.out;have hws:=dJ.out.size;have hws2:=HT2.out.size;have hal:Turn [] w2 (w2.alloc (.cells (o9 x).toArray 87)):=(Turn.refl [] w2).alloc _;have KU:=OA goes L hlt;have KW:=KT goes L hlt;rw[←HX.out,←ZP.out]at KU;rw[←HX.out,←Wv.out]at KW;have hgl:=Un goes L k;rw[←ZP.out]at hgl;have hdr:L.drop k=x::L.drop (k+1):=by rw[HX.out];exact List.drop_eq_getElem_cons hlt
   cases hgx:goes x
   ·rw[hgx,if_neg (by simp)]at KU KW
    have hrw:=Rl.out.still (HT2.out.same hal);have hML:M.length=L.length:=(Rl.out.len).symm;obtain⟨w7,hr7,hrow7,ht7⟩:=Rk _ base g L.length sc M ss.length x w2.heap.size hrw (by rw[hML];have:=OZ.out;omega) (ae w2 _);obtain⟨y,mid',hym,hml⟩:∃y mid',mid++[x]=y::mid'∧mid'.length=mid.length:=by
     cases mid with
     |nil=>exact⟨x,[],rfl,rfl⟩
     |cons m0 mt=>exact⟨m0,mt++[x],rfl,by simp⟩
    have hset:M.set ss.length x=(ss++[x])++mid'++L.drop (k+1):=by
     have:M=ss++y::(mid'++L.drop (k+1)):=by
      rw[HM.out,hdr,show ss++mid++x::L.drop (k+1)=ss++((mid++[x])++L.drop (k+1))by simp,hym];rfl
     rw[this,List.set_append_right _ _ (Nat.le_refl _),Nat.sub_self,List.set_cons_zero];simp
    rw[hset]at hrow7;have hT7:Turn [g] wr w7:=((HT2.out.same hal).mono (by simp)).same ht7;have p1:TR w7 base (.slice ga gs.length gc) gs:=SH.out.kept hT7 (fun q hq hm=>by
     obtain rfl:=List.mem_singleton.1 hm;have:=MW.out q hq;omega)
    have p2:je w7 (some mb) (gB all gs):=HMP.out.kept hT7 (fun q hq hm=>by
     obtain rfl:=List.mem_singleton.1 hm;simp at hq;exact HGM.out hq.symm)
    have p3:Turn F w w7:=dJ.out.same (hT7.mono (fun q hq=>by obtain rfl:=List.mem_singleton.1 hq;exact .inl HGF.out));have HR7:=hide hr7;have iZ:=hide hrow7;have P1:=hide p1;have P2:=hide p2;have P3:=hide p3;have L9:=hide KU;have Jp:=hide KW;have HMLN:=hide hml;clear hal KU KW hgl hdr hgx hrw hML hr7 hrow7 ht7 hym hml hset hT7 p1 p2 p3;go_wp2_with (at_builtin;go_must (refine kM rfl rfl rfl rfl HR7.out ?_))
    have pl:(ss++[x]).length=ss.length+1:=by simp
    refine⟨⟨k+1,ga,gc,mid',by omega,by go_num,?_,?_,?_,?_,?_,?_,?_,P3.out⟩,by simp only[intOf];omega⟩
    ·rw[L9.out]
    ·rw[L9.out];exact P1.out
    ·rw[L9.out];exact MW.out
    ·rw[Jp.out,pl]
    ·rw[Jp.out,pl,HMLN.out];have:=OZ.out;omega
    ·rw[Jp.out];exact iZ.out
    ·rw[L9.out];exact P2.out
   ·rw[hgx,if_pos rfl]at KU KW
    have hgw:=SH.out.still (HT2.out.same hal);obtain⟨v7,w7,hr7,hrow7,ht7,hown7⟩:=Rj _ base (.slice ga gs.length gc) gs x w2.heap.size hgw (ae w2 _) (by omega) (by have:=hal.size;have:=HB.out;omega);obtain⟨va,vc,WZ, -, -⟩:=hrow7.form;rw[List.length_append,List.length_singleton]at WZ;subst WZ;have Rn:∀q∈(Value.slice ga gs.length gc).ownBlock.toList,w.heap.size≤q∧q<wr.heap.size:=fun q hq=>⟨MW.out q (by simpa using hq),(SH.out.lt q (by simpa using hq)).2⟩
    have hvo:∀q∈(Value.slice va (gs.length+1) vc).ownBlock,w.heap.size≤q:=fun q hq=>by
     rcases hown7 q hq with h1|h1
     ·exact MW.out q h1
     ·have:=hal.size;omega
    have hT7:Turn (Value.slice ga gs.length gc).ownBlock.toList wr w7:=((HT2.out.same hal).mono (by simp)).same ht7;have p3:Turn F w w7:=dJ.out.trans hT7 (fun q hq=> .inr (Rn q hq).1);have p1:TR w7 base (.slice (some ⟨g,0,none⟩) L.length sc) M:=Rl.out.kept hT7 (fun q hq hm=>by
     simp[Value.ownBlock]at hq;subst hq;have:=(Rn g hm).1;omega)
    have p2:je w7 (some mb) (gB all gs):=HMP.out.kept hT7 (fun q hq hm=>by
     simp at hq;subst hq;have:=(Rn mb hm).1;omega)
    have p4:w7.heap[wr.heap.size]? =some (.cells (o9 x).toArray 87 (0,0)):=ht7.heap (hal.heap Gs.out (by simp)) (fun hm=>by have:=(Rn _ hm).2;omega)
    have HR7:=hide hr7;have iZ:=hide hrow7;have P1:=hide p1;have P2:=hide p2;have P3:=hide p3;have P4:=hide p4;have HVO:=hide hvo;have L9:=hide KU;have Jp:=hide KW;have HDR:=hide hdr;clear hal KU KW hgl hdr hgx hgw hr7 hrow7 ht7 hown7 hT7 p1 p2 p3 p4 Rn hvo;go_wp2_with (at_builtin;go_must (refine kM rfl rfl rfl rfl HR7.out ?_))
    refine aB 6 (Turn []) (by kernel_rfl) (by kernel_rfl) (by kernel_rfl) (by kernel_rfl) (by kernel_rfl) (Nat.le_of_ble_eq_true rfl) rfl (Turn.refl _) (fun _ _ _ h k=>h.same k) ?_;apply Lo.ag 1 rfl rfl [] (by kernel_rfl) (Turn.refl _);apply Exists.intro;apply And.intro
    ·intro u w1 hR hF
     clear hF;refine⟨rfl,fun a ha K hK=>?_⟩;have e0:=ha 0;conv at e0=>rhs;whnf
     clear ha;go_simp
     refine hK _ ?_;rfl
    apply Lo.ag 2 rfl rfl [0] (by kernel_rfl) (Turn.refl _);apply Exists.intro;apply And.intro
    ·intro u w1 hR hF
     obtain⟨h0, -⟩:=hF;refine⟨rfl,fun a ha K hK=>?_⟩;have e34:=(ha 34).trans h0;clear ha h0;go_simp
     refine hK _ ?_;rfl
    apply Lo.ag 3 rfl rfl [1] (by kernel_rfl) (Turn.refl _);apply Exists.intro;apply And.intro
    ·intro u w1 hR hF
     obtain⟨h1, -⟩:=hF;refine⟨rfl,fun a ha K hK=>?_⟩;have e35:=(ha 35).trans h1;clear ha h1;go_simp
     refine hK _ ?_;rfl
    apply Lo.ag 4 rfl rfl [2] (by kernel_rfl) (Turn.refl _);apply Exists.intro;apply And.intro
    ·intro u w1 hR hF
     obtain⟨h2, -⟩:=hF;refine⟨rfl,fun a ha K hK=>?_⟩;have e36:=(ha 36).trans h2;clear ha h2;obtain⟨c0,c1,z0,f0⟩:=Ec.out w1 (P3.out.same (((Turn.refl F w7).drew).same (hR.mono (by simp))));go_simp
     refine hK _ ?_;rfl
    apply Lo.ag 5 rfl rfl [] (by kernel_rfl) (Turn.refl _);apply Exists.intro;apply And.intro
    ·intro u w1 hR hF
     clear hF;refine⟨rfl,fun a ha K hK=>?_⟩;have e11:=ha 11;conv at e11=>rhs;whnf
     clear ha;go_simp
     refine hK _ ?_;rfl
    refine Lo.aJ 6 rfl rfl [4] (.int .i64 x.2) (by kernel_rfl) (fun u w1 hR hF=>?_) (Turn.refl _) ?_
    ·obtain⟨h4, -⟩:=hF
     refine⟨rfl,fun a ha K hK=>?_⟩;have e38:=(ha 38).trans h4;clear ha h4;have hbb:=(((Turn.refl [] w7).drew).same hR).heap P4.out (by simp);have d1:w1.cell? ⟨wr.heap.size,1,none⟩=some (.int .i64 x.2):=by rw[cell_of hbb];rfl
     have zb:=lt_of_heap hbb;go_simp
     refine hK _ ?_;rfl
    refine Lo.done [3,5] (fun u w1 bP hSd hF=>?_);clear hSd;obtain⟨f3,f5, -⟩:=hF;have d3:u 3=_:=f3;have d5:u 5=_:=f5;clear f3 f5;simp only[List.take_succ_cons,List.take_zero,List.drop_succ_cons,List.drop_zero,ax,Act.put,List.setIfInBounds_toArray,List.set_cons_succ,List.set_cons_zero,Nat.zero_add,Nat.reduceAdd,d3,d5];have hT8:Turn [] w7 w1:=((Turn.refl [] w7).drew).same bP;obtain⟨wy,rfl⟩:∃wy,wy=w1:=⟨_,rfl⟩;obtain⟨w8,hr8,hm8,ht8⟩:=je.del (P2.out.still hT8) (vX (xN gs all) HND.out) HWFX.out.2 0;rw[←F6]at hm8;have hT9:Turn [mb] w7 w8:=(hT8.mono (by simp)).same ht8;have p1:TR w8 base (.slice va (gs.length+1) vc) (gs++[x]):=iZ.out.kept hT9 (fun q hq hm=>by
     obtain rfl:=List.mem_singleton.1 hm;have:=HVO.out q hq;omega)
    have p2:TR w8 base (.slice (some ⟨g,0,none⟩) L.length sc) M:=P1.out.kept hT9 (fun q hq hm=>by
     obtain rfl:=List.mem_singleton.1 hm;simp[Value.ownBlock]at hq;exact HGM.out hq)
    have p3:Turn F w w8:=P3.out.same (hT9.mono (fun q hq=>by obtain rfl:=List.mem_singleton.1 hq;exact .inl HMF.out));have HR8:=hide hr8;have HM8:=hide hm8;have Q1:=hide p1;have Q2:=hide p2;have Q3:=hide p3;have pl:(gs++[x]).length=gs.length+1:=by simp
    have hME:M=ss++(mid++[x])++L.drop (k+1):=by rw[HM.out,HDR.out];simp
    have HME:=hide hME;have HR8':=hr8;clear hr8 hm8 ht8 hT8 hT9 p1 p2 p3 bP d3 d5 hME;go_wp2
    refine⟨⟨k+1,va,vc,mid++[x],by omega,by go_num,?_,?_,?_,?_,?_,?_,?_,Q3.out⟩,by simp only[intOf];omega⟩
    ·rw[L9.out,pl]
    ·rw[L9.out,pl];exact Q1.out
    ·rw[L9.out,pl];exact HVO.out
    ·rw[Jp.out]
    ·rw[Jp.out,List.length_append,List.length_singleton];have:=OZ.out;omega
    ·rw[Jp.out,←HME.out];exact Q2.out
    ·rw[L9.out];exact HM8.out
  ·obtain rfl:k=L.length:=by omega
   have hlt1:¬(L.length:Int)<L.length:=by omega
   rw[List.take_length]at ZP Wv;rw[List.drop_length,List.append_nil]at HRW;obtain⟨c0,c1,z0,f0⟩:=Ec.out wr dJ.out;have hsle:ss.length≤L.length:=by have:=OZ.out;omega
   have hfin:∀v',TR wr base v' ss→(∀q∈v'.ownBlock,q∈(sv j).ownBlock)→TR (wr.setCell ⟨b,3+j,none⟩ v') base (.slice ga gs.length gc) gs∧jX (wr.setCell ⟨b,3+j,none⟩ v') base b xt now ah (gB all gs) (dR sv j v') (dR sl j ss)∧Turn (b::(ah.toList++(sv j).ownBlock.toList)) w (wr.setCell ⟨b,3+j,none⟩ v'):=fun v' hr hv=>by
    have hset:Turn [b] wr (wr.setCell ⟨b,3+j,none⟩ v'):=(Turn.refl [b] wr).setCell (.inl (by simp)) v';have hT:Turn (b::(ah.toList++(sv j).ownBlock.toList)) w (wr.setCell ⟨b,3+j,none⟩ v'):=by
     rw[←HF.out];exact(dJ.out.mono (fun q hq=> .inl (List.mem_cons_of_mem _ hq))).setCell (.inl (by simp)) v'
    refine⟨SH.out.kept hset (fun q hq hm=>?_),H.out.KR HJ.out hT ((H.out.cells.kept dJ.out HBF.out).setSlot HJ.out v') (HMP.out.kept hset (fun q hq hm=>?_)) (hr.kept hset (fun q hq hm=>?_)) (fun q hq=> .inl (hv q hq)),hT⟩
    ·obtain rfl:=List.mem_singleton.1 hm
     have h1:=MW.out q hq;have h2:=H.out.blt;omega
    ·obtain rfl:=List.mem_singleton.1 hm
     exact H.out.EH hq
    ·obtain rfl:=List.mem_singleton.1 hm
     exact H.out.rZ HJ.out (hv q hq)
   have lK:=hide hfin;clear hfin;have Y2:iD goes (sl j)=gs:=by rw[←HL.out];exact ZP.out.symm
   have Y3:jA goes (sl j)=ss:=by rw[←HL.out];exact Wv.out.symm
   have HGJ:=hide Y2;have HSJ:=hide Y3;clear Y2 Y3;by_cases hs0:ss.length=0
   ·have hs1:(ss.length:Int)=0:=by omega
    have hss0:ss=[]:=List.eq_nil_of_length_eq_zero hs0;obtain⟨f1,f2,f3⟩:=lK.out (.slice none 0 0) (.inl ⟨rfl,hss0⟩) (by simp[Value.ownBlock]);have F1:=hide f1;have F2:=hide f2;have F3:=hide f3;have HS0:=hide hss0;clear f1 f2 f3 hss0 hs0;go_wp2
    go_ret
    rw[HGJ.out,HSJ.out];exact⟨ga,gc,rfl,F1.out,MW.out,_,F2.out,F3.out,by simp[Value.ownBlock]⟩
   ·have hs1:¬(ss.length:Int)=0:=by omega
    have hpre:=TR.pre HRW.out (by omega);have hown:∀q∈(Value.slice sa ss.length sc).ownBlock,q∈(sv j).ownBlock:=fun q hq=>by
     rw[Ul.out];cases sa<;>exact hq
    obtain⟨f1,f2,f3⟩:=lK.out _ hpre hown;have F1:=hide f1;have F2:=hide f2;have F3:=hide f3;have HOW:=hide hown;clear f1 f2 f3 hs0 hpre hown;go_wp2
    go_ret
    rw[HGJ.out,HSJ.out];exact⟨ga,gc,rfl,F1.out,MW.out,_,F2.out,F3.out,HOW.out⟩
theorem Uo(w:World)(base:Nat)(v sx:Value)(xs ys:List Tm)(hrow:TR w base v xs)(hx:TR w base sx ys)(hlen:xs.length+ys.length≤1000000)(hbase:base≤w.heap.size):
 ∃v' w',(Builtin.append_ #[58,58] 58 #[v,sx]).run Tryz.prog w= .ok v' w'∧TR w' base v' (xs++ys)∧Turn v.ownBlock.toList w w'∧(∀j∈v'.ownBlock,j∈v.ownBlock∨w.heap.size≤j):=by
 obtain⟨i,z,hi,hz,hzs,hs,hb⟩:=o6;exact ng (P:=Tryz.prog) 58 58 Tryz.underlying58 i z hi hz hzs hs hb eQ FZ w base v sx xs ys hrow (hx.src eQ) hlen hbase
theorem bG(p:Int→Bool)(l:List Tm)(t:Int):xM t (l.filter (fun x=>p x.1))=if p t then xM t l else []:=by
 unfold xM;rw[List.filter_filter];cases hp:p t
 ·rw[if_neg (by simp)]
  rw[List.filter_eq_nil_iff];intro x hx hxt;simp only[Bool.and_eq_true,beq_iff_eq]at hxt;rw[hxt.1,hp]at hxt;simp at hxt
 ·rw[if_pos rfl]
  apply List.filter_congr;intro x hx;by_cases e:x.1=t
  ·simp[e,hp]
  ·simp[e]
structure pM(now:Nat)(all:List Tm)(sl:Nat→List Tm):Prop where
 le:now≤1099511627776
 slots:∀j,j<448→Sq (sl j) (all.filter (fun x=>aG now x.1.toNat==j))
 nd:(all.map (·.2)).Nodup
 len:all.length≤10000
 ok:∀x∈all,0≤x.1∧x.1≤1099511627776∧(Lit.int .i64 x.2).wf=true
theorem pM.mem{now:Nat}{all:List Tm}{sl:Nat→List Tm}(h:pM now all sl){j:Nat}(hj:j<448){x:Tm}(hx:x∈sl j):x∈all∧aG now x.1.toNat=j:=by
 have:=(h.slots j hj).perm.mem_iff.1 hx;rw[List.mem_filter]at this;exact⟨this.1,by simpa using this.2⟩
theorem pM.slen{now:Nat}{all:List Tm}{sl:Nat→List Tm}(h:pM now all sl){j:Nat}(hj:j<448):(sl j).length≤10000:=by
 rw[(h.slots j hj).length];exact Nat.le_trans (List.length_filter_le _ _) h.len
def dn(now tO_ k i j:Nat):Bool:=(decide (j/64<k)&&visited now tO_ j)||(decide (j/64=k)&&decide (bz k now≤j%64)&&decide (j%64<i))
theorem F7(now tO_ k i j:Nat)(hi:i<64)(hp:bz k now≤i):dn now tO_ k (i+1) j=(dn now tO_ k i j||decide (j=k*64+i)):=by
 unfold dn;generalize visited now tO_ j=v
 rw[Bool.eq_iff_iff];simp only[Bool.or_eq_true,Bool.and_eq_true,decide_eq_true_eq];constructor
 ·rintro(h|⟨⟨h1,h2⟩,h3⟩)
  ·exact .inl (.inl h)
  ·by_cases e:j%64=i
   ·exact .inr (by omega)
   ·exact .inl (.inr ⟨⟨h1,h2⟩,by omega⟩)
 ·rintro((h|⟨⟨h1,h2⟩,h3⟩)|h)
  ·exact .inl h
  ·exact .inr ⟨⟨h1,h2⟩,by omega⟩
  ·exact .inr ⟨⟨by omega,by omega⟩,by omega⟩
theorem F8(now tO_ k i:Nat)(hi:i<64):dn now tO_ k i (k*64+i)=false:=by
 unfold dn;generalize visited now tO_ (k*64+i)=v
 rw[Bool.eq_false_iff];simp only[ne_eq,Bool.or_eq_true,Bool.and_eq_true,decide_eq_true_eq];rintro(⟨h, -⟩|⟨⟨h1,h2⟩,h3⟩)<;>omega
theorem W9(now tO_ k j:Nat):dn now tO_ k (pg now tO_ k+1) j=dn now tO_ (k+1) (bz (k+1) now) j:=by
 unfold dn visited;rw[Bool.eq_iff_iff];simp only[Bool.or_eq_true,Bool.and_eq_true,decide_eq_true_eq];constructor
 ·rintro(⟨h1,h2⟩|⟨⟨h1,h2⟩,h3⟩)
  ·exact .inl ⟨by omega,h2⟩
  ·refine .inl ⟨by omega,?_⟩
   rw[h1];exact⟨h2,by omega⟩
 ·rintro(⟨h1,h2,h3⟩|⟨⟨h1,h2⟩,h3⟩)
  ·by_cases e:j/64=k
   ·rw[e]at h2 h3
    exact .inr ⟨⟨e,h2⟩,by omega⟩
   ·exact .inl ⟨by omega,h2,h3⟩
  ·omega
theorem Xa(now tO_ j:Nat):dn now tO_ 0 (bz 0 now) j=false:=by
 unfold dn;rw[Bool.eq_false_iff];simp only[ne_eq,Bool.or_eq_true,Bool.and_eq_true,decide_eq_true_eq];rintro(⟨h, -⟩|⟨⟨h1,h2⟩,h3⟩)<;>omega
theorem Y4(now tO_ j:Nat)(hj:j<448):dn now tO_ 7 (bz 7 now) j=visited now tO_ j:=by
 unfold dn;generalize visited now tO_ j=v
 rw[Bool.eq_iff_iff];simp only[Bool.or_eq_true,Bool.and_eq_true,decide_eq_true_eq];constructor
 ·rintro(⟨-,h⟩|⟨⟨h1,h2⟩,h3⟩)
  ·exact h
  ·omega
 ·intro h
  exact .inl ⟨by omega,h⟩
theorem Ro(now tO_ k:Nat):pg now tO_ k<64:=by
 unfold pg;split
 ·exact lW _ _
 ·omega
theorem F9{now tO_ k i:Nat}{all R S:List Tm}(hi:i<64)(hp:bz k now≤i)(h1:Sq R (all.filter (fun x=>dn now tO_ k i (aG now x.1.toNat))))(h2:Sq S (all.filter (fun x=>aG now x.1.toNat==k*64+i))):Sq (R++S) (all.filter (fun x=>dn now tO_ k (i+1) (aG now x.1.toNat))):=by
 intro t;rw[iL,h1 t,h2 t,bG (fun y=>dn now tO_ k i (aG now y.toNat)),bG (fun y=>aG now y.toNat==k*64+i),bG (fun y=>dn now tO_ k (i+1) (aG now y.toNat)),F7 _ _ _ _ _ hi hp];by_cases e:aG now t.toNat=k*64+i
 ·rw[e,F8 _ _ _ _ hi]
  simp
 ·have e1:(aG now t.toNat==k*64+i)=false:=by simpa using e
  have e2:decide (aG now t.toNat=k*64+i)=false:=by simpa using e
  rw[e1,e2];simp
theorem OB{now tO_:Nat}{all R:List Tm}{sl:Nat→List Tm}(h:pM now all sl)(hn:now≤tO_)(hto:tO_≤1099511627776)(hR:Sq R (all.filter (fun x=>dn now tO_ 7 (bz 7 now) (aG now x.1.toNat)))):
 pM tO_ all (fun j=>(if dn now tO_ 7 (bz 7 now) j then []else sl j)++R.filter (fun x=>aG tO_ x.1.toNat==j)):=by
 refine⟨hto,fun j hj t=>?_,h.nd,h.len,h.ok⟩;rw[iL,bG (fun y=>aG tO_ y.toNat==j),bG (fun y=>aG tO_ y.toNat==j),hR t,bG (fun y=>dn now tO_ 7 (bz 7 now) (aG now y.toNat)),Y4 _ _ _ hj];have hs:=h.slots j hj t;rw[bG (fun y=>aG now y.toNat==j)]at hs;by_cases hall:xM t all=[]
 ·rw[hall]at hs⊢
  have hs':xM t (sl j)=[]:=by rw[hs];simp
  split
  ·simp[xM]
  ·rw[hs'];simp
 ·obtain⟨x,hx⟩:=List.exists_mem_of_ne_nil _ hall
  unfold xM at hx;rw[List.mem_filter]at hx;obtain⟨h1,h2, -⟩:=h.ok x hx.1;have hxt:x.1=t:=by simpa using hx.2
  rw[hxt]at h1 h2;have htn:t.toNat≤1099511627776:=by omega
  have hsj:aG now t.toNat<448:=ig h.le htn;rw[Y4 _ _ _ hsj];cases hv:visited now tO_ (aG now t.toNat)
  ·have hst:=KQ hn hto htn hv
   rw[hst];cases hvj:visited now tO_ j
   ·simp[hs]
   ·have:(aG now t.toNat==j)=false:=by
     rw[Bool.eq_false_iff];intro e;have e':aG now t.toNat=j:=by simpa using e
     rw[e',hvj]at hv;cases hv
    simp[this,xM]
  ·cases hvj:visited now tO_ j
   ·have:(aG now t.toNat==j)=false:=by
     rw[Bool.eq_false_iff];intro e;have e':aG now t.toNat=j:=by simpa using e
     rw[e',hvj]at hv;cases hv
    rw[this]at hs;have hs':xM t (sl j)=[]:=by simpa using hs
    simp[hs']
   ·simp[xM]
def IW:Value:= .slice none 0 0
def capOf:Value→Nat
 | .slice _ _ c=>c
 |_=>0
def OC(D:Nat→Bool)(sv:Nat→Value):Nat→Value:=fun j=>if D j then IW else sv j
def Rq(D:Nat→Bool)(sl:Nat→List Tm):Nat→List Tm:=fun j=>if D j then []else sl j
theorem Ur(now tO_ k i:Nat)(sv:Nat→Value)(hi:i<64)(hp:bz k now≤i):dR (OC (dn now tO_ k i) sv) (k*64+i) IW=OC (dn now tO_ k (i+1)) sv:=by
 funext j
 unfold dR OC;rw[F7 _ _ _ _ _ hi hp];by_cases e:j=k*64+i
 ·simp[e]
 ·simp[e]
theorem Us(now tO_ k i:Nat)(sl:Nat→List Tm)(hi:i<64)(hp:bz k now≤i):dR (Rq (dn now tO_ k i) sl) (k*64+i) []=Rq (dn now tO_ k (i+1)) sl:=by
 funext j
 unfold dR Rq;rw[F7 _ _ _ _ _ hi hp];by_cases e:j=k*64+i
 ·simp[e]
 ·simp[e]
theorem IX(now tO_ k:Nat):dn now tO_ k (pg now tO_ k+1)=dn now tO_ (k+1) (bz (k+1) now):=funext (W9 now tO_ k)
structure vY(w wr:World)(base b:Nat)(xt:Xt)(now tO_:Nat)(ah:Option Nat)(all:List Tm)(sv:Nat→Value)(sl:Nat→List Tm)(k i:Nat)(rv:Value)(R:List Tm):Prop where
 row:TR wr base rv R
 own:∀q∈rv.ownBlock,w.heap.size≤q
 sq:Sq R (all.filter (fun x=>dn now tO_ k i (aG now x.1.toNat)))
 at_:jX wr base b xt now ah all (OC (dn now tO_ k i) sv) (Rq (dn now tO_ k i) sl)
 turn:Turn [b] w wr
theorem vY.len{w wr:World}{base b:Nat}{xt:Xt}{now tO_:Nat}{ah:Option Nat}{all:List Tm}{sv:Nat→Value}{sl:Nat→List Tm}{k i:Nat}{rv:Value}{R:List Tm}(h:vY w wr base b xt now tO_ ah all sv sl k i rv R)(hl:all.length≤10000):R.length≤10000:=by
 rw[h.sq.length];exact Nat.le_trans (List.length_filter_le _ _) hl
theorem vY.still{w wr wq:World}{base b:Nat}{xt:Xt}{now tO_:Nat}{ah:Option Nat}{all:List Tm}{sv:Nat→Value}{sl:Nat→List Tm}{k i:Nat}{rv:Value}{R:List Tm}(h:vY w wr base b xt now tO_ ah all sv sl k i rv R)(ht:Turn [] wr wq):vY w wq base b xt now tO_ ah all sv sl k i rv R:=
 ⟨h.row.still ht,h.own,h.sq,h.at_.still ht,h.turn.same (ht.mono (by simp))⟩
set_option maxHeartbeats 2000000 in
theorem vY.next{w wr:World}{base b:Nat}{xt:Xt}{now tO_:Nat}{ah:Option Nat}{all:List Tm}{sv:Nat→Value}{sl:Nat→List Tm}{k i:Nat}{rv:Value}{R:List Tm}(h:vY w wr base b xt now tO_ ah all sv sl k i rv R)(hI:pM now all sl)(hw:jX w base b xt now ah all sv sl)(hk:k<7)(hi:i<64)(hp:bz k now≤i):
 ∃va vn vc rv' w7,wr.cell? ⟨b,3+k*64+i,none⟩=some (.slice va vn vc)∧b<wr.heap.size∧(Builtin.append_ #[58,58] 58 #[rv, .slice va vn vc]).run Tryz.prog wr= .ok rv' w7∧b<w7.heap.size∧w7.cell? ⟨b,3+k*64+i,none⟩=some (.slice va vn vc)∧w7.frozen? ⟨b,3+k*64+i,none⟩=false∧
  ∃ra R',rv'= .slice ra R'.length (capOf rv')∧vY w (w7.setCell ⟨b,3+k*64+i,none⟩ (.slice none 0 0)) base b xt now tO_ ah all sv sl k (i+1) rv' R':=by
 have hj:k*64+i<448:=by omega
 have hsl:Rq (dn now tO_ k i) sl (k*64+i)=sl (k*64+i):=by unfold Rq;rw[F8 _ _ _ _ hi];rfl
 have hsv:OC (dn now tO_ k i) sv (k*64+i)=sv (k*64+i):=by unfold OC;rw[F8 _ _ _ _ hi];rfl
 have hrow:=h.at_.rows (k*64+i) hj;have hce:=h.at_.cells.slot hj;rw[hsl,hsv]at hrow;rw[hsv,show 3+(k*64+i)=3+k*64+i by omega]at hce;obtain⟨va,vc,hv, -, -⟩:=hrow.form;have hRl:=h.len hI.len;have Xb:=hI.slen hj;obtain⟨rv',w7,hr7,hrow7,ht7,hown7⟩:=Uo wr base rv (sv (k*64+i)) R (sl (k*64+i)) h.row hrow (by omega) (by have:=h.turn.size;have:=hw.lo;have:=hw.blt;omega);have hbr:b∉rv.ownBlock:=fun hm=>by have:=h.own b hm;have:=hw.blt;omega
 have hat7:jX w7 base b xt now ah all (OC (dn now tO_ k i) sv) (Rq (dn now tO_ k i) sl):=h.at_.kept ht7 (fun q hq hm=>by
  have h1:=h.own q (by simpa using hm);rcases ak.1 hq with rfl|hq|⟨j,hj,hq⟩
  ·have:=hw.blt;omega
  ·have:=hw.map.lt q hq;omega
  ·unfold OC at hq
   split at hq
   ·simp[IW,Value.ownBlock]at hq
   ·have:=((hw.rows j hj).lt q hq).2;omega)
 have hset:Turn [b] w7 (w7.setCell ⟨b,3+k*64+i,none⟩ (.slice none 0 0)):=(Turn.refl [b] w7).setCell (.inl (by simp)) _;have hce7:=hat7.cells.slot hj;rw[hsv,show 3+(k*64+i)=3+k*64+i by omega]at hce7;have hcs:=hat7.cells.setSlot hj IW;rw[show 3+(k*64+i)=3+k*64+i by omega]at hcs;have hat8:=hat7.setRow hj (v':=IW) (l':=[]) (w':=w7.setCell ⟨b,3+k*64+i,none⟩ (.slice none 0 0)) (hset.mono (fun q hq=>by obtain rfl:=List.mem_singleton.1 hq;exact .inl (by simp))) hcs (.inl ⟨rfl,rfl⟩) (by simp[IW,Value.ownBlock]);rw[Ur now tO_ k i sv hi hp,Us now tO_ k i sl hi hp]at hat8;have hown8:∀q∈rv'.ownBlock,w.heap.size≤q:=fun q hq=>by
  rcases hown7 q hq with h1|h1
  ·exact h.own q h1
  ·have:=h.turn.size;omega
 obtain⟨ra,rc,He, -, -⟩:=hrow7.form;rw[hv]at hce hr7 hce7;refine⟨va,_,vc,rv',w7,hce,h.at_.blt,hr7,hat7.blt,hce7,hat7.cells.head.2.2.1 _,ra,R++sl (k*64+i),?_,⟨hrow7.kept hset (fun q hq hm=>?_),hown8,F9 hi hp h.sq (hI.slots _ hj),hat8,?_⟩⟩
 ·rw[He];rfl
 ·obtain rfl:=List.mem_singleton.1 hm
  have:=hown8 q hq;have:=hw.blt;omega
 ·exact(h.turn.trans ht7 (fun q hq=> .inr (h.own q (by simpa using hq)))).same hset
def MX(now tO_ m:Nat)(R:List Tm)(sl:Nat→List Tm):Nat→List Tm:=fun j=>(if dn now tO_ 7 (bz 7 now) j then []else sl j)++(R.take m).filter (fun x=>aG tO_ x.1.toNat==j)
theorem Rt(now tO_ m:Nat)(R:List Tm)(sl:Nat→List Tm)(h:m<R.length)(j0:Nat)(hj:j0=aG tO_ (R[m]).1.toNat):dR (MX now tO_ m R sl) j0 (MX now tO_ m R sl j0++[R[m]])=MX now tO_ (m+1) R sl:=by
 funext j
 unfold dR MX;rw[List.take_succ_eq_append_getElem h,List.filter_append];by_cases e:j=j0
 ·subst e
  rw[if_pos rfl];have:(aG tO_ (R[m]).1.toNat==j)=true:=by simp[hj]
  simp[this]
 ·rw[if_neg e]
  have:(aG tO_ (R[m]).1.toNat==j)=false:=by rw[←hj];simpa using fun e'=>e e'.symm
  simp[this]
theorem sD{now tO_:Nat}(k:Nat)(hn:now≤tO_):bz k now≤pg now tO_ k:=by
 unfold pg;by_cases e:cu k tO_=cu k now
 ·rw[if_pos e]
  have h1:now/64^k≤tO_/64^k:=Nat.div_le_div_right hn;unfold cu at e;rw[Nat.pow_succ,←Nat.div_div_eq_div_mul,←Nat.div_div_eq_div_mul]at e;unfold bz;have e1:=Nat.div_add_mod (tO_/64^k) 64;have e2:=Nat.div_add_mod (now/64^k) 64;omega
 ·rw[if_neg e]
  have:=lW k now;omega
structure IY(w wr:World)(base b:Nat)(xt:Xt)(now tO_:Nat)(ah:Option Nat)(all:List Tm)(sv:Nat→Value)(sl:Nat→List Tm)(rv:Value)(R:List Tm)(m:Nat)(sv2:Nat→Value):Prop where
 at_:jX wr base b xt tO_ ah all sv2 (MX now tO_ m R sl)
 row:TR wr base rv R
 apart:∀j,j<448→∀q∈(sv2 j).ownBlock,q∉rv.ownBlock
 foot:∀j,j<448→∀q∈(sv2 j).ownBlock,q∈eH b ah sv∨w.heap.size≤q
 OD:∀q∈rv.ownBlock,w.heap.size≤q∧q<wr.heap.size
 turn:Turn (eH b ah sv) w wr
theorem IY.still{w wr wq:World}{base b:Nat}{xt:Xt}{now tO_:Nat}{ah:Option Nat}{all:List Tm}{sv:Nat→Value}{sl:Nat→List Tm}{rv:Value}{R:List Tm}{m:Nat}{sv2:Nat→Value}(h:IY w wr base b xt now tO_ ah all sv sl rv R m sv2)(ht:Turn [] wr wq):IY w wq base b xt now tO_ ah all sv sl rv R m sv2:=
 ⟨h.at_.still ht,h.row.still ht,h.apart,h.foot,fun q hq=>⟨(h.OD q hq).1,Nat.lt_of_lt_of_le (h.OD q hq).2 ht.size⟩,h.turn.same (ht.mono (by simp))⟩
theorem IY.step{w wr wq:World}{base b:Nat}{xt:Xt}{now tO_:Nat}{ah:Option Nat}{all:List Tm}{sv:Nat→Value}{sl:Nat→List Tm}{rv:Value}{R:List Tm}{m:Nat}{sv2:Nat→Value}(h:IY w wr base b xt now tO_ ah all sv sl rv R m sv2)(hw:jX w base b xt now ah all sv sl)(hm:m<R.length){j:Nat}(hj:j<448)(he:j=aG tO_ (R[m]).1.toNat){v':Value}(ha:jX wq base b xt tO_ ah all (dR sv2 j v') (dR (MX now tO_ m R sl) j (MX now tO_ m R sl j++[R[m]])))(ht:Turn (b::(sv2 j).ownBlock.toList) wr wq)(ho:∀k∈v'.ownBlock,k∈(sv2 j).ownBlock∨wr.heap.size≤k):
 IY w wq base b xt now tO_ ah all sv sl rv R (m+1) (dR sv2 j v'):=by
 rw[Rt now tO_ m R sl hm j he]at ha;refine⟨ha,h.row.kept ht (fun q hq hmm=>?_),fun i hi q hq=>?_,fun i hi q hq=>?_,fun q hq=>⟨(h.OD q hq).1,Nat.lt_of_lt_of_le (h.OD q hq).2 ht.size⟩,h.turn.trans ht (fun q hq=>?_)⟩
 ·rcases List.mem_cons.1 hmm with rfl|hmm
  ·have:=(h.OD q hq).1
   have:=hw.blt;omega
  ·exact h.apart j hj q (by simpa using hmm) hq
 ·by_cases e:i=j
  ·subst e
   rw[cO]at hq;rcases ho q hq with h1|h1
   ·exact h.apart i hi q h1
   ·intro h2
    have:=(h.OD q h2).2;omega
  ·rw[bF _ _ e]at hq
   exact h.apart i hi q hq
 ·by_cases e:i=j
  ·subst e
   rw[cO]at hq;rcases ho q hq with h1|h1
   ·exact h.foot i hi q h1
   ·have:=h.turn.size
    exact .inr (by omega)
  ·rw[bF _ _ e]at hq
   exact h.foot i hi q hq
 ·rcases List.mem_cons.1 hq with rfl|hq
  ·exact .inl (ak.2 (.inl rfl))
  ·exact h.foot j hj q (by simpa using hq)
set_option maxHeartbeats 4000000 in
theorem OE(w:World)(base b:Nat)(xt:Xt)(now tO_:Nat)(ah:Option Nat)(all:List Tm)(sv:Nat→Value)(sl:Nat→List Tm)(h:jX w base b xt now ah all sv sl)(hI:pM now all sl)(hn:now≤tO_)(hto:tO_≤1099511627776):
 Calls Tryz.prog 21 #[.pointer (some ⟨b,1,none⟩), .int .i64 tO_] w fun e w'=>e= .returned (.tuple #[])∧∃sv' sl',jX w' base b xt tO_ ah all sv' sl'∧pM tO_ all sl'∧Turn (eH b ah sv) w w'∧∀q∈eH b ah sv',q∈eH b ah sv∨w.heap.size≤q:=by
 have H:=hide h;have HI:=hide hI;have hn0:now≤1099511627776:=by omega
 clear h hI;go_enter Tryz.func21,Tryz.ntmps21
 go_wp2
 go_loopw [4,10] (fun rv kv wr=>∃(k:Nat) (R:List Tm) (ra:Option Addr) (rc:Nat),k≤7∧kv= .int .i64 (k:Int)∧rv= .slice ra R.length rc∧vY w wr base b xt now tO_ ah all sv sl k (bz k now) (.slice ra R.length rc) R) (fun _ kv _=>7-(intOf kv).toNat)
 case atStart=>
  have e1:OC (dn now tO_ 0 (bz 0 now)) sv=sv:=by funext j;unfold OC;rw[Xa];rfl
  have e2:Rq (dn now tO_ 0 (bz 0 now)) sl=sl:=by funext j;unfold Rq;rw[Xa];rfl
  refine⟨0,[],none,0,by omega,rfl,rfl,⟨.inl ⟨rfl,rfl⟩,by simp[Value.ownBlock],?_,?_,Turn.refl _ _⟩⟩
  ·have:all.filter (fun x=>dn now tO_ 0 (bz 0 now) (aG now x.1.toNat))=[]:=by
    rw[List.filter_eq_nil_iff];intro x hx;rw[Xa];simp
   rw[this];exact Sq.refl _
  ·rw[e1,e2];exact H.out
 case round=>
  obtain⟨k,R,ra,rc,hk7,rfl,rfl,hst⟩:=hrel;have HST:=hide hst;clear hst;by_cases hk:k<7
  ·have hk1:(k:Int)<7:=by omega
   have hce:∀Z,Turn [] wr Z→Z.cell? ⟨b,1,none⟩=some (.int .i64 now)∧b<Z.heap.size:=fun Z hZ=>by
    have hh:=(HST.out.at_.still hZ).cells.head;exact⟨hh.1,hh.2.2.2⟩
   have HC:=hide hce;clear hce;obtain⟨X,hX⟩:∃X,X=cu k tO_:=⟨_,rfl⟩;obtain⟨Y,hY⟩:∃Y,Y=cu k now:=⟨_,rfl⟩;obtain⟨ln,hln⟩:∃ln,ln=pg now tO_ k:=⟨_,rfl⟩;obtain⟨p0,hp0⟩:∃p0,p0=bz k now:=⟨_,rfl⟩;have hl64:ln<64:=by rw[hln];exact Ro _ _ _
   have hp64:p0<64:=by rw[hp0];exact lW _ _
   have HX:=hide hX;have HY:=hide hY;have OZ:=hide hln;have HP0:=hide hp0;clear hX hY hln hp0;obtain⟨wo,rfl⟩:∃wo,wo=wr:=⟨_,rfl⟩;go_wp2
   refine aF (Turn []) (by kernel_rfl) (by kernel_rfl) (by kernel_rfl) (by kernel_rfl) rfl (Turn.refl _) (fun _ _ _ h k=>h.same k) ?_;apply Lo.ag 1 rfl rfl [] (by kernel_rfl) (Turn.refl _);apply Exists.intro;apply And.intro
   ·intro u w1 hR hF
    clear hF;refine⟨rfl,fun a ha K hK=>?_⟩;have e5:=ha 5;conv at e5=>rhs;whnf
    clear ha;go_simp
    refine hK _ ?_;rfl
   apply Lo.ag 2 rfl rfl [] (by kernel_rfl) (Turn.refl _);apply Exists.intro;apply And.intro
   ·intro u w1 hR hF
    clear hF;refine⟨rfl,fun a ha K hK=>?_⟩;have e1:=ha 1;conv at e1=>rhs;whnf
    clear ha;go_simp
    refine hK _ ?_;rfl
   refine Lo.run 3 rfl rfl [0,1] (fun v w'=>v= .int .i64 (X:Int)) (by kernel_rfl) (fun x w w' h hR=>?_) (fun _ _ h=>h) (fun u w1 hR hF=>?_) ?_
   ·exact h
   ·obtain⟨h0,h1, -⟩:=hF
    refine⟨rfl,fun a ha K hK=>?_⟩;have e13:=(ha 13).trans h0;have e14:=(ha 14).trans h1;clear ha h0 h1;go_simp
    refine(uM k tO_ (by omega) hto w1).mono ?_;rintro e w5 ⟨rfl,rfl⟩;rw[←HX.out];exact hK _ _ rfl (Turn.refl _ _)
   apply Lo.ag 4 rfl rfl [] (by kernel_rfl) (Turn.refl _);apply Exists.intro;apply And.intro
   ·intro u w1 hR hF
    clear hF;refine⟨rfl,fun a ha K hK=>?_⟩;have e5:=ha 5;conv at e5=>rhs;whnf
    clear ha;go_simp
    refine hK _ ?_;rfl
   apply Lo.ag 5 rfl rfl [] (by kernel_rfl) (Turn.refl _);apply Exists.intro;apply And.intro
   ·intro u w1 hR hF
    clear hF;refine⟨rfl,fun a ha K hK=>?_⟩;have e0:=ha 0;conv at e0=>rhs;whnf
    clear ha;go_simp
    refine hK _ ?_;rfl
   apply Lo.ag 6 rfl rfl [4] (by kernel_rfl) (Turn.refl _);apply Exists.intro;apply And.intro
   ·intro u w1 hR hF
    obtain⟨h4, -⟩:=hF;refine⟨rfl,fun a ha K hK=>?_⟩;have e17:=(ha 17).trans h4;clear ha h4;obtain⟨c0,z0⟩:=HC.out w1 (((Turn.refl [] _).drew).same hR);go_simp
    refine hK _ ?_;rfl
   apply Lo.ag 7 rfl rfl [5] (by kernel_rfl) (Turn.refl _);apply Exists.intro;apply And.intro
   ·intro u w1 hR hF
    obtain⟨h5, -⟩:=hF;refine⟨rfl,fun a ha K hK=>?_⟩;have e18:=(ha 18).trans h5;clear ha h5;go_simp
    refine hK _ ?_;rfl
   refine Lo.aJ 8 rfl rfl [6] (.int .i64 (now:Int)) (by kernel_rfl) (fun u w1 hR hF=>?_) (Turn.refl _) ?_
   ·obtain⟨h6, -⟩:=hF
    refine⟨rfl,fun a ha K hK=>?_⟩;have e19:=(ha 19).trans h6;clear ha h6;obtain⟨c0,z0⟩:=HC.out w1 (((Turn.refl [] _).drew).same hR);go_simp
    refine hK _ ?_;rfl
   refine Lo.run 9 rfl rfl [3,7] (fun v w'=>v= .int .i64 (Y:Int)) (by kernel_rfl) (fun x w w' h hR=>?_) (fun _ _ h=>h) (fun u w1 hR hF=>?_) ?_
   ·exact h
   ·obtain⟨h3,h7, -⟩:=hF
    refine⟨rfl,fun a ha K hK=>?_⟩;have e16:=(ha 16).trans h3;have e20:=(ha 20).trans h7;clear ha h3 h7;go_simp
    refine(uM k now (by omega) hn0 w1).mono ?_;rintro e w5 ⟨rfl,rfl⟩;rw[←HY.out];exact hK _ _ rfl (Turn.refl _ _)
   refine Lo.aJ 10 rfl rfl [2,8] (.bool (decide (X=Y))) (by kernel_rfl) (fun u w1 hR hF=>?_) (Turn.refl _) ?_
   ·obtain⟨h2,h8, -⟩:=hF
    refine⟨rfl,fun a ha K hK=>?_⟩;have e15:a.tmps.getD 15 undef=u 2:=ha 15;have e21:a.tmps.getD 21 undef=u 8:=ha 21;have h2:=(show(fun v w'=>v= .int .i64 (X:Int)) (u 2) w1 from h2);dsimp only at h2;have h8:=(show(fun v w'=>v= .int .i64 (Y:Int)) (u 8) w1 from h8);dsimp only at h8;clear ha;go_simp
    refine hK _ ?_;by_cases e:X=Y
    ·simp[e]
    ·have:¬(X:Int)=Y:=by omega
     simp[e,this]
   refine Lo.done [9] (fun u w1 bP hSd hF=>?_);clear hSd;obtain⟨f9, -⟩:=hF;have d9:u 9=_:=f9;clear f9;simp only[ax,Act.put,List.setIfInBounds_toArray,List.set_cons_succ,List.set_cons_zero,Nat.zero_add,Nat.reduceAdd,d9];have hT1:Turn [] wo w1:=((Turn.refl [] wo).drew).same bP;have HS1:=hide (HST.out.still hT1);obtain⟨wa,rfl⟩:∃wa,wa=w1:=⟨_,rfl⟩;have hcc:wa.cell? ⟨b,1,none⟩=some (.int .i64 now)∧b<wa.heap.size:=HC.out wa hT1;obtain⟨c0,z0⟩:=hcc;clear d9 bP hT1;by_cases SQ:X=Y
   ·have hd:decide (X=Y)=true:=by simp[SQ]
    rw[hd];clear hd;have hle:ln=bz k tO_:=by
     rw[OZ.out];unfold pg;rw[if_pos (by rw[←HX.out,←HY.out];exact SQ)]
    have MI:=hide hle;clear hle;go_wp2_with fail
    refine(rD k tO_ (by omega) hto wa).mono ?_;rintro e w5 ⟨rfl,rfl⟩;rw[←MI.out];go_wp2_with fail
    refine(rD k now (by omega) hn0 _).mono ?_;rintro e w5 ⟨rfl,rfl⟩;rw[←HP0.out];go_wp2
    go_loopw [4,7] (fun rv iv wr=>∃(i:Nat) (R:List Tm) (ra:Option Addr) (rc:Nat),p0≤i∧i≤ln+1∧iv= .int .i64 (i:Int)∧rv= .slice ra R.length rc∧vY w wr base b xt now tO_ ah all sv sl k i (.slice ra R.length rc) R) (fun _ iv _=>ln+1-(intOf iv).toNat)
    case atStart=>
     have hpl:p0≤ln+1:=by
      have h1:=sD k hn;rw[←HP0.out,←OZ.out]at h1;omega
     exact⟨p0,R,ra,rc,Nat.le_refl _,hpl,rfl,rfl,by rw[HP0.out];exact HS1.out⟩
    case round=>
     obtain⟨i,R2,ra2,rc2,hpi,hil,rfl,rfl,hst⟩:=hrel;have HS2:=hide hst;clear hst;by_cases hi:i≤ln
     ·have hi1:(i:Int)≤ln:=by omega
      obtain⟨va,vn,vc,rv',w7,hc,zb,hr7,zb7,hc7,hf7,ra',R',He,hnx⟩:=HS2.out.next HI.out H.out hk (by omega) (by rw[←HP0.out];exact hpi);have HR7:=hide hr7;have tK:=hide hnx;clear hr7 hnx;have hi64:(i:Int)<64:=by omega
      obtain⟨cc,hcc⟩:∃cc,cc=capOf rv':=⟨_,rfl⟩;rw[←hcc]at He;clear hcc;subst He;go_wp2_with (at_builtin;go_must (refine kM rfl rfl rfl rfl HR7.out ?_))
      exact⟨⟨i+1,R',ra',cc,by omega,by omega,by go_num,rfl,tK.out⟩,by simp only[intOf];omega⟩
     ·obtain rfl:i=ln+1:=by omega
      have hi1:¬(((ln+1:Nat):Int)≤ln):=by omega
      have hnx:vY w wr base b xt now tO_ ah all sv sl (k+1) (bz (k+1) now) (.slice ra2 R2.length rc2) R2:=by
       have:=HS2.out;have e:=IX now tO_ k;rw[←OZ.out]at e;refine⟨this.row,this.own,?_,?_,this.turn⟩
       ·have h1:=this.sq
        rw[e]at h1;exact h1
       ·have h1:=this.at_
        rw[e]at h1;exact h1
      have tK:=hide hnx;clear hnx;go_wp2
      exact⟨⟨k+1,R2,ra2,rc2,by omega,by go_num,rfl,tK.out⟩,by simp only[intOf];omega⟩
   ·have hd:decide (X=Y)=false:=by simp[SQ]
    rw[hd];clear hd;have hle:ln=63:=by
     rw[OZ.out];unfold pg;rw[if_neg (by rw[←HX.out,←HY.out];exact SQ)]
    obtain rfl:=hle;go_wp2_with fail
    refine(rD k now (by omega) hn0 _).mono ?_;rintro e w5 ⟨rfl,rfl⟩;rw[←HP0.out];go_wp2
    go_loopw [4,7] (fun rv iv wr=>∃(i:Nat) (R:List Tm) (ra:Option Addr) (rc:Nat),p0≤i∧i≤63+1∧iv= .int .i64 (i:Int)∧rv= .slice ra R.length rc∧vY w wr base b xt now tO_ ah all sv sl k i (.slice ra R.length rc) R) (fun _ iv _=>63+1-(intOf iv).toNat)
    case atStart=>
     have hpl:p0≤63+1:=by
      have h1:=sD k hn;rw[←HP0.out,←OZ.out]at h1;omega
     exact⟨p0,R,ra,rc,Nat.le_refl _,hpl,rfl,rfl,by rw[HP0.out];exact HS1.out⟩
    case round=>
     obtain⟨i,R2,ra2,rc2,hpi,hil,rfl,rfl,hst⟩:=hrel;have HS2:=hide hst;clear hst;by_cases hi:i≤63
     ·have hi1:(i:Int)≤63:=by omega
      obtain⟨va,vn,vc,rv',w7,hc,zb,hr7,zb7,hc7,hf7,ra',R',He,hnx⟩:=HS2.out.next HI.out H.out hk (by omega) (by rw[←HP0.out];exact hpi);have HR7:=hide hr7;have tK:=hide hnx;clear hr7 hnx;have hi64:(i:Int)<64:=by omega
      obtain⟨cc,hcc⟩:∃cc,cc=capOf rv':=⟨_,rfl⟩;rw[←hcc]at He;clear hcc;subst He;go_wp2_with (at_builtin;go_must (refine kM rfl rfl rfl rfl HR7.out ?_))
      exact⟨⟨i+1,R',ra',cc,by omega,by omega,by go_num,rfl,tK.out⟩,by simp only[intOf];omega⟩
     ·obtain rfl:i=63+1:=by omega
      have hi1:¬(((63+1:Nat):Int)≤63):=by omega
      have hnx:vY w wr base b xt now tO_ ah all sv sl (k+1) (bz (k+1) now) (.slice ra2 R2.length rc2) R2:=by
       have:=HS2.out;have e:=IX now tO_ k;rw[←OZ.out]at e;refine⟨this.row,this.own,?_,?_,this.turn⟩
       ·have h1:=this.sq
        rw[e]at h1;exact h1
       ·have h1:=this.at_
        rw[e]at h1;exact h1
      have tK:=hide hnx;clear hnx;go_wp2
      exact⟨⟨k+1,R2,ra2,rc2,by omega,by go_num,rfl,tK.out⟩,by simp only[intOf];omega⟩
  ·obtain rfl:k=7:=by omega
   have hat:=HST.out.at_;have hcn:=hat.cells.head;obtain⟨c0,c1,ff,z0⟩:=hcn;have f0:=ff 1;have hpt:IY w (wr.setCell ⟨b,1,none⟩ (.int .i64 tO_)) base b xt now tO_ ah all sv sl (.slice ra R.length rc) R 0 (OC (dn now tO_ 7 (bz 7 now)) sv):=by
    have hset:Turn [b] wr (wr.setCell ⟨b,1,none⟩ (.int .i64 tO_)):=(Turn.refl [b] wr).setCell (.inl (by simp)) _;have hkept:∀q,w.heap.size≤q→q∉[b]:=fun q hq hm=>by obtain rfl:=List.mem_singleton.1 hm;have:=H.out.blt;omega
    have e1:MX now tO_ 0 R sl=Rq (dn now tO_ 7 (bz 7 now)) sl:=by funext j;unfold MX Rq;simp
    refine⟨⟨hat.cells.FY tO_,hat.lo,hat.map.kept hset (fun q hq hm=>?_),hat.WX,fun j hj=>?_,hat.apart⟩,HST.out.row.kept hset (fun q hq=>hkept q (HST.out.own q hq)),fun j hj q hq hq2=>?_,fun j hj q hq=>?_,fun q hq=>⟨HST.out.own q hq,by rw[World.size_setCell];exact(HST.out.row.lt q hq).2⟩,?_⟩
    ·obtain rfl:=List.mem_singleton.1 hm
     exact hat.EH hq
    ·rw[e1]
     exact(hat.rows j hj).kept hset (fun q hq hm=>by obtain rfl:=List.mem_singleton.1 hm;exact hat.rZ hj hq)
    ·have h1:=HST.out.own q hq2
     unfold OC at hq;split at hq
     ·simp[IW,Value.ownBlock]at hq
     ·have:=((H.out.rows j hj).lt q hq).2
      omega
    ·unfold OC at hq
     split at hq
     ·simp[IW,Value.ownBlock]at hq
     ·exact .inl (ak.2 (.inr (.inr ⟨j,hj,hq⟩)))
    ·exact(HST.out.turn.same hset).mono (fun q hq=>by obtain rfl:=List.mem_singleton.1 hq;exact .inl (ak.2 (.inl rfl)))
   have YY:=hide hpt;have Q9:=hide HST.out.sq;have ZF:=hide (HST.out.len HI.out.len);clear hpt hat ff;go_wp2
   clear c0 c1 f0 z0;go_loopw [61] (fun mv wr=>∃(m:Nat) (sv2:Nat→Value),m≤R.length∧mv= .int .i64 (m:Int)∧IY w wr base b xt now tO_ ah all sv sl (.slice ra R.length rc) R m sv2) (fun mv _=>R.length-(intOf mv).toNat)
   case atStart=>exact⟨0,_,Nat.zero_le _,rfl,YY.out⟩
   case round=>
    obtain⟨m,sv2,hm,rfl,hps⟩:=hrel;have TJ:=hide hps;clear hps;by_cases hlt:m<R.length
    ·have hlt1:(m:Int)<R.length:=by omega
     obtain⟨x,hx⟩:∃x,x=R[m]:=⟨_,rfl⟩;have hxa:x∈all:=by
      have:=Q9.out.perm.mem_iff.1 (show x∈R by rw[hx];exact List.getElem_mem _);exact(List.mem_filter.1 this).1
     obtain⟨x1,x2,xw⟩:=HI.out.ok x hxa;obtain⟨t,ht⟩:∃t:Nat,x=((t:Int),x.2):=⟨x.1.toNat,by rw[Int.toNat_of_nonneg x1]⟩;obtain⟨id,hid⟩:∃id,id=x.2:=⟨_,rfl⟩;rw[←hid]at ht;have AX:t≤1099511627776:=by rw[ht]at x2;simp only at x2;omega
     obtain⟨g,cap,e, -, -⟩:=TJ.out.row.at eQ hlt;simp only[Value.slice.injEq]at e;obtain⟨rfl, -,rfl⟩:=e;obtain⟨q0,q1, -, -,zg⟩:=TR.two TJ.out.row hlt hx.symm;obtain⟨j,hj⟩:∃j,j=aG tO_ t:=⟨_,rfl⟩;have hj448:j<448:=by rw[hj];exact ig hto AX
     have hal:Turn [] wr (wr.alloc (.cells #[.int .i64 (t:Int), .int .i64 id] 87)):=(Turn.refl [] wr).alloc _;have Xb:(MX now tO_ m R sl j).length≤1000000:=by
      unfold MX;rw[List.length_append];have h1:=List.length_filter_le (fun x=>aG tO_ x.1.toNat==j) (R.take m);rw[List.length_take]at h1;have h2:=ZF.out;have h3:=HI.out.slen hj448;split
      ·simp;omega
      ·omega
     have hput:=put_any _ base b xt tO_ ah all sv2 (MX now tO_ m R sl) (TJ.out.still hal).at_ hto t AX id j hj Xb;have CQ:=hide hput;have Gt:=hide hx;have HXT:=hide ht;have HJ:=hide hj;have mX:=hide (TJ.out.still hal);rw[ht]at q0 q1;simp only at q0 q1;clear hput hx ht hid hj hal Xb hxa x1 x2 xw;unfold zh at CQ;go_wp2_with fail
     refine CQ.out.mono ?_;rintro e w2 ⟨rfl,v',hat2,ht2,ho2⟩;have hstep:=mX.out.step H.out hlt (j:=j) hj448 (by rw[←Gt.out,HXT.out,HJ.out];rfl) (v':=v') (by rw[←Gt.out,HXT.out];exact hat2) ht2 ho2;have Y5:=hide hstep;clear hat2 ht2 ho2 hstep CQ mX q0 q1 zg;have hrl:=ZF.out;go_wp2
     go_roundw
     case rel=>
      repeat apply Exists.intro
      exact⟨⟨m+1,_,by omega,by go_num,Y5.out⟩,rfl⟩
     case measure=>simp[intOf];omega
    ·obtain rfl:m=R.length:=by omega
     go_wp2
     go_end0
     refine⟨rfl,sv2,MX now tO_ R.length R sl,TJ.out.at_,?_,TJ.out.turn,fun q hq=>?_⟩
     ·have:=OB HI.out hn hto Q9.out
      unfold MX;rw[List.take_length];exact this
     ·rcases ak.1 hq with rfl|hq|⟨j,hj,hq⟩
      ·exact .inl (ak.2 (.inl rfl))
      ·exact .inl (ak.2 (.inr (.inl hq)))
      ·exact TJ.out.foot j hj q hq
def aP(w:World)(base b:Nat)(xt:Xt)(F:List Nat)(now:Nat)(all:List Tm):Prop:=∃ah sv sl,jX w base b xt now ah all sv sl∧pM now all sl∧F=eH b ah sv
theorem aP.kept{w w':World}{base b:Nat}{xt:Xt}{now:Nat}{F S:List Nat}{all:List Tm}(h:aP w base b xt F now all)(ht:Turn S w w')(hn:∀q∈F,q∉S):aP w' base b xt F now all:=by
 obtain⟨ah,sv,sl,h1,h2,rfl⟩:=h;exact⟨ah,sv,sl,h1.kept ht hn,h2,rfl⟩
theorem aP.still{w w':World}{base b:Nat}{xt:Xt}{now:Nat}{F:List Nat}{all:List Tm}(h:aP w base b xt F now all)(ht:Turn [] w w'):aP w' base b xt F now all:=h.kept ht (by simp)
theorem aP.lt{w:World}{base b:Nat}{xt:Xt}{now:Nat}{F:List Nat}{all:List Tm}(h:aP w base b xt F now all):∀q∈F,base≤q∧q<w.heap.size:=by
 obtain⟨ah,sv,sl,h1,h2,rfl⟩:=h;exact h1.FX
theorem tu:∀(l all:List Tm),gB all l=all.filter (fun y=>l.all (fun x=> !(y.2==x.2)))
 |[],all=>by
  show all=_;rw[List.filter_eq_self.2];simp
 |x::l,all=>by
  show gB (dQ all x.2) l=_;rw[tu l,dQ,List.filter_filter];apply List.filter_congr;intro y hy;simp[Bool.and_comm]
theorem CS:∀{l:List Tm},(l.map (·.2)).Nodup→∀x∈l,∀y∈l,x.2=y.2→x=y
 |[],_,x,hx,_,_,_=>by simp at hx
 |z::l,hn,x,hx,y,hy,e=>by
  rw[List.map_cons,List.nodup_cons]at hn;obtain⟨h1,h2⟩:=hn;rcases List.mem_cons.1 hx with ex|hx'
  ·rcases List.mem_cons.1 hy with ey|hy'
   ·rw[ex,ey]
   ·exfalso
    exact h1 (List.mem_map.2 ⟨y,hy',by rw[←ex,e]⟩)
  ·rcases List.mem_cons.1 hy with ey|hy'
   ·exfalso
    exact h1 (List.mem_map.2 ⟨x,hx',by rw[←ey,e]⟩)
   ·exact CS h2 x hx' y hy' e
theorem IZ{all gone:List Tm}{p:Tm→Bool}(hn:(all.map (·.2)).Nodup)(hg:gone.Perm (all.filter p)):gB all gone=all.filter (fun y=> !p y):=by
 rw[tu];apply List.filter_congr;intro y hy;have hmem:∀x,x∈gone↔x∈all∧p x=true:=fun x=>by rw[hg.mem_iff,List.mem_filter]
 cases hp:p y
 ·simp only[Bool.not_false,List.all_eq_true,Bool.not_eq_true']
  intro x hx;rw[Bool.eq_false_iff];intro e;have e':y.2=x.2:=by simpa using e
  have hxa:=(hmem x).1 hx;have:y=x:=CS hn y hy x hxa.1 e'
  rw[this,hxa.2]at hp;cases hp
 ·simp only[Bool.not_true]
  rw[Bool.eq_false_iff];intro e;rw[List.all_eq_true]at e;have:=e y ((hmem y).2 ⟨hy,hp⟩);simp at this
theorem Sq.filter{l m:List Tm}(h:Sq l m)(p:Int→Bool):Sq (l.filter (fun x=>p x.1)) (m.filter (fun x=>p x.1)):=fun t=>by rw[bG,bG,h t]
theorem Ru{tO_:Nat}{all:List Tm}{sl:Nat→List Tm}(h:pM tO_ all sl):Sq (iD (fun x=>decide (x.1≤(tO_:Int))) (sl (aG tO_ tO_))) (all.filter (fun x=>decide (x.1≤(tO_:Int)))):=by
 intro t;unfold iD;rw[bG (fun y=>decide (y≤(tO_:Int))),bG (fun y=>decide (y≤(tO_:Int))),h.slots _ (ig h.le h.le) t,bG (fun y=>aG tO_ y.toNat==aG tO_ tO_)];by_cases e:t≤(tO_:Int)
 ·have:aG tO_ t.toNat=aG tO_ tO_:=IQ (by omega)
  simp[this]
 ·simp[e]
theorem Ut{tO_:Nat}{all:List Tm}{sl:Nat→List Tm}(h:pM tO_ all sl):pM tO_ (all.filter (fun x=> !decide (x.1≤(tO_:Int)))) (dR sl (aG tO_ tO_) (jA (fun x=>decide (x.1≤(tO_:Int))) (sl (aG tO_ tO_)))):=by
 refine⟨h.le,fun j hj t=>?_,vX List.filter_sublist h.nd,Nat.le_trans (List.length_filter_le _ _) h.len,fun x hx=>h.ok x (List.mem_filter.1 hx).1⟩;rw[bG (fun y=>aG tO_ y.toNat==j),bG (fun y=> !decide (y≤(tO_:Int)))];by_cases e:j=aG tO_ tO_
 ·subst e
  rw[cO];unfold jA;rw[bG (fun y=> !decide (y≤(tO_:Int))),h.slots _ hj t,bG (fun y=>aG tO_ y.toNat==aG tO_ tO_)];cases decide (t≤(tO_:Int))<;>simp
 ·rw[bF _ _ e,h.slots j hj t,bG (fun y=>aG tO_ y.toNat==j)]
  by_cases e2:t≤(tO_:Int)
  ·have h1:aG tO_ t.toNat=aG tO_ tO_:=IQ (by omega)
   have h2:(aG tO_ t.toNat==j)=false:=by rw[h1];simpa using fun e'=>e e'.symm
   simp[h2]
  ·simp[e2]
theorem MZ{now:Nat}{all:List Tm}{sl:Nat→List Tm}(h:pM now all sl){t:Nat}(ht:t≤1099511627776){id:Int}(hw:(Lit.int .i64 id).wf=true)(hf:dF all id=none)(hl:all.length<10000):pM now (all++[((t:Int),id)]) (dR sl (aG now t) (sl (aG now t)++[((t:Int),id)])):=by
 refine⟨h.le,fun j hj u=>?_,?_,by simp;omega,fun x hx=>?_⟩
 ·rw[bG (fun y=>aG now y.toNat==j),iL]
  by_cases e:j=aG now t
  ·subst e
   rw[cO,iL,h.slots _ hj u,bG (fun y=>aG now y.toNat==aG now t)];by_cases e2:u=(t:Int)
   ·subst e2;simp
   ·have:xM u [((t:Int),id)]=[]:=by
     unfold xM;rw[List.filter_eq_nil_iff];intro x hx;obtain rfl:=List.mem_singleton.1 hx;simpa using fun e'=>e2 e'.symm
    rw[this,List.append_nil,List.append_nil]
  ·rw[bF _ _ e,h.slots j hj u,bG (fun y=>aG now y.toNat==j)]
   by_cases e2:u=(t:Int)
   ·subst e2
    have:(aG now ((t:Int)).toNat==j)=false:=by simpa using fun e'=>e e'.symm
    simp only[this];simp
   ·have:xM u [((t:Int),id)]=[]:=by
     unfold xM;rw[List.filter_eq_nil_iff];intro x hx;obtain rfl:=List.mem_singleton.1 hx;simpa using fun e'=>e2 e'.symm
    rw[this,List.append_nil]
 ·rw[List.map_append,List.nodup_append]
  refine⟨h.nd,by simp,fun a ha b hb=>?_⟩;have hb':b=id:=by simpa using hb
  subst hb';rintro rfl;obtain⟨x,hx,e⟩:=List.mem_map.1 ha;unfold dF at hf;rw[List.find?_eq_none]at hf;exact hf x hx (by simpa using e)
 ·rcases List.mem_append.1 hx with hx|hx
  ·exact h.ok x hx
  ·obtain rfl:=List.mem_singleton.1 hx
   exact⟨by simp,by simp only;omega,hw⟩
theorem CU{t:Nat}(ht:t≤1099511627776):(Lit.int .i64 (t:Int)).wf=true:=by
 simp[Lit.wf,IntKind.min,IntKind.max,IntKind.signed,IntKind.bits];omega
theorem eq_nil(w:World):(binOp BinOp.eql 57 (.map none) (.map none)).run Tryz.prog w= .ok (.bool true) w:=by kernel_rfl
theorem Uu(mb:Nat)(w:World):(binOp BinOp.eql 57 (.map (some mb)) (.map none)).run Tryz.prog w= .ok (.bool false) w:=by kernel_rfl
theorem Rw(w:World):(Instr.makeMap 57 none).run Tryz.prog w= .ok (.map (some w.heap.size)) (w.alloc (.map #[] 0)):=by
 simp[Instr.makeMap,run_underlying Tryz.underlying57]
theorem jX.sW{w w':World}{base b:Nat}{xt:Xt}{now:Nat}{ah m':Option Nat}{all all':List Tm}{sv:Nat→Value}{sl:Nat→List Tm}(h:jX w base b xt now ah all sv sl)(ht:Turn (b::ah.toList) w w')(hc:bI w' b xt now m' sv)(hm:je w' m' all')(hl:∀q∈m',q∈ah∨w.heap.size≤q):jX w' base b xt now m' all' sv sl:=
 ⟨hc,h.lo,hm,fun q hq=>(hl q hq).elim (h.WX q) (fun h1=>by have:=h.lo;have:=h.blt;omega),fun j hj=>(h.rows j hj).kept ht (fun q hq hmm=>by
   rcases List.mem_cons.1 hmm with rfl|hmm
   ·exact h.rZ hj hq
   ·exact h.MV hj q hq (by simpa using hmm)),h.apart⟩
set_option maxHeartbeats 2000000 in
theorem add_any(w:World)(base b:Nat)(xt:Xt)(now:Nat)(F:List Nat)(all:List Tm)(h:aP w base b xt F now all)(hl:all.length<10000)(t:Nat)(ht:t≤1099511627776)(id:Int)(hw:(Lit.int .i64 id).wf=true)(hf:dF all id=none):
 Calls Tryz.prog 35 #[.pointer (some ⟨b,1,none⟩), .int .i64 t, .int .i64 id] w fun e w'=>e= .returned .nilIface∧∃F',aP w' base b xt F' now (all++[((t:Int),id)])∧Turn F w w'∧∀q∈F',q∈F∨w.heap.size≤q:=by
 obtain⟨ah,sv,sl,hW,hI,rfl⟩:=h;have hlook:=hW.map.look hw;rw[hf]at hlook;simp only[Option.map_none,Option.getD_none,Option.isSome_none]at hlook;have hlen:=fun ty=>hW.map.len ty
 obtain⟨c0,c1,ff,z0⟩:=hW.cells.head;have f1:=ff 2;have HW:=hide hW;have HI:=hide hI;have HF:=hide hf;have Rx:=hI.le;obtain⟨j,hj⟩:∃j,j=aG now t:=⟨_,rfl⟩;have hj448:j<448:=by rw[hj];exact ig Rx ht
 have HJ:=hide hj;have hsl:=hI.slen hj448;clear hW hI hf hj ff;have ht1:¬(t:Int)>1099511627776:=by omega
 have hl1:¬(all.length:Int)≥10000:=by omega
 cases ah with
 |none=>
  have hall:all=[]:=HW.out.map;subst hall;obtain⟨w1,hw1⟩:∃w1,w1=(w.setCell ⟨b,2,none⟩ (.map (some w.heap.size))).alloc (.map #[] 0):=⟨_,rfl⟩;have hs0:Turn [b] w (w.setCell ⟨b,2,none⟩ (.map (some w.heap.size))):=(Turn.refl [b] w).setCell (.inl (by simp)) _;have hT1:Turn [b] w w1:=by rw[hw1];exact hs0.alloc _
  have hm1:je w1 (some w.heap.size) []:=by
   have:=je.made (w.setCell ⟨b,2,none⟩ (.map (some w.heap.size)));rw[World.size_setCell]at this;rw[hw1];exact this
  have hc1:bI w1 b xt now (some w.heap.size) sv:=by rw[hw1];exact(HW.out.cells.sW _).kept ((Turn.refl [] _).alloc _) (by simp)
  have hat1:jX w1 base b xt now (some w.heap.size) [] sv sl:=HW.out.sW (by simpa using hT1) hc1 hm1 (fun q hq=> .inr (by simp at hq;omega));obtain⟨w2,hr2,hm2,ht2⟩:=hm1.put (x:=((t:Int),id)) (CU ht) hw rfl (by simp);have hb1:b∉[w.heap.size]:=by simp;omega
  have hat2:jX w2 base b xt now (some w.heap.size) ([]++[((t:Int),id)]) sv sl:=hat1.sW (ht2.mono (fun q hq=> .inl (by simp at hq⊢;exact .inr hq))) (hat1.cells.kept ht2 hb1) hm2 (fun q hq=> .inl hq);have hput:=put_any w2 base b xt now (some w.heap.size) _ sv sl hat2 Rx t ht id j HJ.out (by omega);have CQ:=hide hput;have HR2:=hide hr2;have hT2:Turn [b] w w2:=hT1.trans ht2 (fun q hq=> .inr (by simp at hq;omega));have HT2:=hide hT2;have HW1:=hide hw1;obtain⟨k0,k1, -,y0⟩:=hat1.cells.head;rw[hw1]at k1 y0 hr2;have hr2':=hr2;clear hs0 hT1 hm1 hc1 hat1 hm2 ht2 hb1 hat2 hput hT2 hw1 k0;unfold zh at CQ;have heq:=eq_nil;have hmk:=Rw;go_enter Tryz.func35,Tryz.ntmps35
  go_wp2_with fail
  refine CQ.out.mono ?_;rintro e w3 ⟨rfl,v',hat3,ht3,ho3⟩;have hin:=MZ HI.out ht hw HF.out hl;rw[←HJ.out]at hin;have HIN:=hide hin;have HAT:=hide hat3;have HT3:=hide ht3;have HO3:=hide ho3;clear hin hat3 ht3 ho3 CQ hr2 hr2' k1 y0 c0 c1 f1 z0 heq hmk;go_wp2
  go_ret
  refine⟨rfl,_,⟨_,_,_,HAT.out,HIN.out,rfl⟩,?_,?_⟩
  ·refine(HT2.out.mono (fun q hq=>by obtain rfl:=List.mem_singleton.1 hq;exact .inl (ak.2 (.inl rfl)))).trans HT3.out (fun q hq=> .inl ?_)
   rcases List.mem_cons.1 hq with rfl|hq
   ·exact ak.2 (.inl rfl)
   ·exact ak.2 (.inr (.inr ⟨j,hj448,by simpa using hq⟩))
  ·intro q hq
   rcases ak.1 hq with rfl|hq|⟨i,hi,hq⟩
   ·exact .inl (ak.2 (.inl rfl))
   ·exact .inr (by simp at hq;omega)
   ·by_cases e:i=j
    ·subst e
     rw[cO]at hq;rcases HO3.out q hq with h1|h1
     ·exact .inl (ak.2 (.inr (.inr ⟨i,hi,h1⟩)))
     ·have:=HT2.out.size
      exact .inr (by omega)
    ·rw[bF _ _ e]at hq
     exact .inl (ak.2 (.inr (.inr ⟨i,hi,hq⟩)))
 |some mb=>
  obtain⟨w2,hr2,hm2,ht2⟩:=HW.out.map.put (x:=((t:Int),id)) (CU ht) hw HF.out (by omega);have hb1:b∉[mb]:=fun hm=>HW.out.EH (by simp at hm⊢;exact hm.symm)
  have hat2:jX w2 base b xt now (some mb) (all++[((t:Int),id)]) sv sl:=HW.out.sW (ht2.mono (fun q hq=> .inl (by simp at hq⊢;exact .inr hq))) (HW.out.cells.kept ht2 hb1) hm2 (fun q hq=> .inl hq);have hput:=put_any w2 base b xt now (some mb) _ sv sl hat2 Rx t ht id j HJ.out (by omega);have CQ:=hide hput;have HT2:=hide ht2;have heq:=Uu mb;clear hm2 ht2 hb1 hat2 hput;unfold zh at CQ;go_enter Tryz.func35,Tryz.ntmps35
  go_wp2_with fail
  refine CQ.out.mono ?_;rintro e w3 ⟨rfl,v',hat3,ht3,ho3⟩;have hin:=MZ HI.out ht hw HF.out hl;rw[←HJ.out]at hin;have HIN:=hide hin;have HAT:=hide hat3;have HT3:=hide ht3;have HO3:=hide ho3;clear hin hat3 ht3 ho3 CQ hr2 c0 c1 f1 z0 heq;go_wp2
  go_ret
  refine⟨rfl,_,⟨_,_,_,HAT.out,HIN.out,rfl⟩,?_,?_⟩
  ·refine(HT2.out.mono (fun q hq=>by obtain rfl:=List.mem_singleton.1 hq;exact .inl (ak.2 (.inr (.inl (by simp)))))).trans HT3.out (fun q hq=> .inl ?_)
   rcases List.mem_cons.1 hq with rfl|hq
   ·exact ak.2 (.inl rfl)
   ·exact ak.2 (.inr (.inr ⟨j,hj448,by simpa using hq⟩))
  ·intro q hq
   rcases ak.1 hq with rfl|hq|⟨i,hi,hq⟩
   ·exact .inl (ak.2 (.inl rfl))
   ·exact .inl (ak.2 (.inr (.inl hq)))
   ·by_cases e:i=j
    ·subst e
     rw[cO]at hq;rcases HO3.out q hq with h1|h1
     ·exact .inl (ak.2 (.inr (.inr ⟨i,hi,h1⟩)))
     ·have:=HT2.out.size
      exact .inr (by omega)
    ·rw[bF _ _ e]at hq
     exact .inl (ak.2 (.inr (.inr ⟨i,hi,hq⟩)))
end Wh
end
section
open Go.RowKit Go.Maps Go.Shelf
namespace Wh
def Dq(z:Int):List Value:=[.int .i64 z]
theorem gG:∀z,(Dq z).length=1:=fun _=>rfl
abbrev IR(w:World)(base:Nat)(v:Value)(l:List Int):Prop:=aH 3 1 Dq w base v l
theorem Y6:(Tryz.prog.info? 3).map (fun i=>(i.zero.map (fun z=>z.cells.size),i.size,i.bytes))=some (some 1,1,8):=by kernel_rfl
theorem I4:∃i z,Tryz.prog.info? 3=some i∧i.zero=some z∧z.cells.size=1∧i.size=1∧i.bytes≤1000:=by
 have h:=Y6;cases hi:Tryz.prog.info? 3 with
 |none=>rw[hi]at h;cases h
 |some i=>
  rw[hi]at h;simp only[Option.map_some,Option.some.injEq,Prod.mk.injEq,Option.map_eq_some_iff]at h;obtain⟨⟨z,hz,hz2⟩,h2,h3⟩:=h;exact⟨i,z,rfl,hz,hz2,h2,by omega⟩
theorem Vm(w:World)(base:Nat)(v:Value)(xs:List Int)(x:Int)(k:Nat)(hrow:IR w base v xs)(hk:w.heap[k]? =some (.cells (Dq x).toArray 3 (0,0))) (hlen:xs.length≤1000000) (hbase:base≤w.heap.size):
 ∃v' w',(Builtin.append_ #[37,37] 37 #[v, .slice (some ⟨k,0,none⟩) 1 1]).run Tryz.prog w= .ok v' w'∧IR w' base v' (xs++[x])∧Turn v.ownBlock.toList w w'∧(∀j∈v'.ownBlock,j∈v.ownBlock∨w.heap.size≤j):=by
 obtain⟨i,z,hi,hz,hzs,hs,hb⟩:=I4;exact dS (P:=Tryz.prog) 37 37 Tryz.underlying37 i z hi hz hzs hs hb gG (by intro x u hu;simp[Dq]at hu;subst hu;rfl) w base v xs x k hrow hk hlen hbase
theorem Xc:∀args w,(callFunc 23 args).run Tryz.prog w= .ok (.enter 23 args) w:=enters_of Tryz.func23 (by kernel_rfl) rfl
theorem Uw(w:World)(B:Nat)(tO_:Int)(hB:w.cell? ⟨B,0,none⟩=some (.int .i64 tO_))(x:Tm):Calls Tryz.prog 23 #[zh x, .pointer (some ⟨B,0,none⟩)] w fun e w'=>e= .returned (.bool (decide (x.1≤tO_)))∧Turn [] w w':=by
 have zB:=World.block_lt_of_cell? w _ hB;simp only at zB;unfold zh;go_enter Tryz.func23,Tryz.ntmps23
 go_wp2
 go_ret
 exact⟨rfl,(Turn.refl _ _).alloc _⟩
set_option maxHeartbeats 2000000 in
theorem Na(w:World)(base b:Nat)(xt:Xt)(now:Nat)(F:List Nat)(all:List Tm)(h:aP w base b xt F now all)(tO_:Nat)(hn:now≤tO_)(hto:tO_≤1099511627776):
 Calls Tryz.prog 12 #[.pointer (some ⟨b,1,none⟩), .int .i64 tO_] w fun e w'=>∃ia ic D F',e= .returned (.tuple #[.slice ia (D.map (·.2)).length ic, .nilIface])∧og (all.filter (fun x=>decide (x.1≤(tO_:Int)))) D∧IR w' w.heap.size (.slice ia (D.map (·.2)).length ic) (D.map (·.2))∧aP w' base b xt F' tO_ (all.filter (fun x=> !decide (x.1≤(tO_:Int))))∧Turn F w w'∧∀q∈F',q∈F∨w.heap.size≤q:=by
 obtain⟨ah,sv,sl,hW,hI,rfl⟩:=h;obtain⟨w0,hw0⟩:∃w0,w0=w.alloc (.cells #[.int .i64 tO_] 3):=⟨_,rfl⟩;have hal:Turn [] w w0:=by rw[hw0];exact(Turn.refl [] w).alloc _
 have hbox:w0.heap[w.heap.size]? =some (.cells #[.int .i64 tO_] 3 (0,0)):=by rw[hw0];exact ae w _
 have hsz0:w.heap.size<w0.heap.size:=lt_of_heap hbox;have hW0:=hW.still hal;have Gw:=hide hW0;have hce:∀Z,Turn [] w0 Z→(Z.cell? ⟨b,1,none⟩=some (.int .i64 now)∧b<Z.heap.size)∧Z.cell? ⟨w.heap.size,0,none⟩=some (.int .i64 tO_)∧w.heap.size<Z.heap.size:=fun Z hZ=>by
  have hh:=(hW0.still hZ).cells.head;have hb:=hZ.heap hbox (by simp);exact⟨⟨hh.1,hh.2.2.2⟩,by rw[cell_of hb];rfl,lt_of_heap hb⟩
 have HC:=hide hce;have HW:=hide hW;have HI:=hide hI;have HB0:=hide hbox;have mX:=hide hal;have HW0:=hide hw0;have hnt:¬(tO_:Int)<now:=by omega
 have AX:¬(tO_:Int)>1099511627776:=by omega
 have hmf:∀(fn:Fn) (first cap:Array Value) (w:World),(Instr.makeFunc fn first cap).run Tryz.prog w= .ok (.func fn first cap) w:=fun _ _ _ _=>rfl
 clear hal hbox hW hI hce hW0 hw0;go_enter Tryz.func12,Tryz.ntmps12
 go_wp2
 rw[show w.alloc (.cells #[.int .i64 tO_] 3)=w0 from HW0.out.symm];refine aF (Turn []) (by kernel_rfl) (by kernel_rfl) (by kernel_rfl) (by kernel_rfl) rfl (Turn.refl _) (fun _ _ _ h k=>h.same k) ?_;refine Lo.aJ 1 rfl rfl [] (.int .i64 (tO_:Int)) (by kernel_rfl) (fun u w1 hR hF=>?_) (Turn.refl _) ?_
 ·clear hF
  refine⟨rfl,fun a ha K hK=>?_⟩;have e3:=ha 3;conv at e3=>rhs;whnf
  clear ha;obtain⟨⟨c0,z0⟩,c1,z1⟩:=HC.out w1 (((Turn.refl [] _).drew).same hR);go_simp
  refine hK _ ?_;rfl
 apply Lo.ag 2 rfl rfl [] (by kernel_rfl) (Turn.refl _);apply Exists.intro;apply And.intro
 ·intro u w1 hR hF
  clear hF;refine⟨rfl,fun a ha K hK=>?_⟩;have e0:=ha 0;conv at e0=>rhs;whnf
  clear ha;go_simp
  refine hK _ ?_;rfl
 apply Lo.ag 3 rfl rfl [1] (by kernel_rfl) (Turn.refl _);apply Exists.intro;apply And.intro
 ·intro u w1 hR hF
  obtain⟨h1, -⟩:=hF;refine⟨rfl,fun a ha K hK=>?_⟩;have e11:=(ha 11).trans h1;clear ha h1;obtain⟨⟨c0,z0⟩,c1,z1⟩:=HC.out w1 (((Turn.refl [] _).drew).same hR);go_simp
  refine hK _ ?_;rfl
 apply Lo.ag 4 rfl rfl [2] (by kernel_rfl) (Turn.refl _);apply Exists.intro;apply And.intro
 ·intro u w1 hR hF
  obtain⟨h2, -⟩:=hF;refine⟨rfl,fun a ha K hK=>?_⟩;have e12:=(ha 12).trans h2;clear ha h2;go_simp
  refine hK _ ?_;rfl
 refine Lo.aJ 5 rfl rfl [3] (.int .i64 (now:Int)) (by kernel_rfl) (fun u w1 hR hF=>?_) (Turn.refl _) ?_
 ·obtain⟨h3, -⟩:=hF
  refine⟨rfl,fun a ha K hK=>?_⟩;have e13:=(ha 13).trans h3;clear ha h3;obtain⟨⟨c0,z0⟩,c1,z1⟩:=HC.out w1 (((Turn.refl [] _).drew).same hR);go_simp
  refine hK _ ?_;rfl
 refine Lo.aJ 6 rfl rfl [0,4] (.bool (false)) (by kernel_rfl) (fun u w1 hR hF=>?_) (Turn.refl _) ?_
 ·obtain⟨h0,h4, -⟩:=hF
  refine⟨rfl,fun a ha K hK=>?_⟩;have e10:=(ha 10).trans h0;have e14:=(ha 14).trans h4;clear ha h0 h4;go_simp
  refine hK _ ?_;simp;omega
 apply Lo.ag 7 rfl rfl [5] (by kernel_rfl) (Turn.refl _);apply Exists.intro;apply And.intro
 ·intro u w1 hR hF
  obtain⟨h5, -⟩:=hF;refine⟨rfl,fun a ha K hK=>?_⟩;have e15:=(ha 15).trans h5;clear ha h5;go_simp
  refine hK _ ?_;rfl
 refine Lo.aJ 8 rfl rfl [6] (.int .i64 (tO_:Int)) (by kernel_rfl) (fun u w1 hR hF=>?_) (Turn.refl _) ?_
 ·obtain⟨h6, -⟩:=hF
  refine⟨.inl ⟨false,h6,rfl⟩,fun a ha K hK=>?_⟩;have e3:=ha 3;conv at e3=>rhs;whnf
  clear ha h6;obtain⟨⟨c0,z0⟩,c1,z1⟩:=HC.out w1 (((Turn.refl [] _).drew).same hR);go_simp
  refine hK _ ?_;rfl
 refine Lo.aJ 9 rfl rfl [6,7] (.bool (false)) (by kernel_rfl) (fun u w1 hR hF=>?_) (Turn.refl _) ?_
 ·obtain⟨h6,h7, -⟩:=hF
  refine⟨.inl ⟨false,h6,rfl⟩,fun a ha K hK=>?_⟩;have e17:=(ha 17).trans h7;clear ha h6 h7;go_simp
  refine hK _ ?_;simp;omega
 apply Lo.ag 10 rfl rfl [6,8] (by kernel_rfl) (Turn.refl _);apply Exists.intro;apply And.intro
 ·intro u w1 hR hF
  obtain⟨h6,h8, -⟩:=hF;refine⟨rfl,fun a ha K hK=>?_⟩;have e16:=(ha 16).trans h6;have e18:=(ha 18).trans h8;clear ha h6 h8;go_simp
  refine hK _ ?_;rfl
 refine Lo.done [9] (fun u w1 bP hSd hF=>?_);clear hSd;obtain⟨f9, -⟩:=hF;have d9:u 9=_:=f9;clear f9;simp only[ax,Act.put,List.setIfInBounds_toArray,List.set_cons_succ,List.set_cons_zero,Nat.zero_add,Nat.reduceAdd,d9];have hT1:Turn [] w0 w1:=((Turn.refl [] w0).drew).same bP;obtain⟨wa,rfl⟩:∃wa,wa=w1:=⟨_,rfl⟩;have HT1:=hide hT1;have hreach:=OE wa base b xt now tO_ ah all sv sl (Gw.out.still hT1) HI.out hn hto;have HRE:=hide hreach;obtain⟨⟨c0,z0⟩,c1,z1⟩:=HC.out wa hT1;have N7:∀q∈eH b ah sv,q<w.heap.size:=fun q hq=>(HW.out.FX q hq).2
 have HFL:=hide N7;clear hT1 hreach bP d9 N7;go_wp2_with fail
 refine HRE.out.mono ?_;rintro e w2 ⟨rfl,sv',sl',hW2,hI2,ht2,hf2⟩;clear c0 z0 c1 z1 HRE;have hbx2:w2.heap[w.heap.size]? =some (.cells #[.int .i64 tO_] 3 (0,0)):=ht2.heap (HT1.out.heap HB0.out (by simp)) (fun hm=>by have:=HFL.out _ hm;omega)
 obtain⟨j,hj⟩:∃j,j=aG tO_ tO_:=⟨_,rfl⟩;have hj448:j<448:=by rw[hj];exact ig hto hto
 have Y7:=hI2.slen hj448;obtain⟨goes,hgoes⟩:∃goes:Tm→Bool,goes=fun x=>decide (x.1≤(tO_:Int)):=⟨_,rfl⟩
 have htake:=take_any w2 base b xt tO_ ah all sv' sl' hW2 hto tO_ hto j hj (by omega) hI2.nd
  (fun x hx=>by
    have hxa:=(hI2.mem hj448 hx).1;obtain⟨h1,h2,h3⟩:=hI2.ok x hxa;refine⟨?_,h3⟩;have:x.1=((x.1.toNat:Nat):Int):=by omega
    rw[this];exact CU (by omega))
  (fun hne=>by
    cases hmr:ah with
    |some mb=>exact⟨mb,rfl⟩
    |none=>
     exfalso;obtain⟨x,hx⟩:=List.exists_mem_of_ne_nil _ hne;have hxa:=(hI2.mem hj448 hx).1;have hm:=hW2.map;rw[hmr]at hm;have:all=[]:=hm
     rw[this]at hxa;simp at hxa)
  23 (.pointer (some ⟨w.heap.size,0,none⟩)) goes Xc
  (fun Z hZ x hx=>by
    rw[hgoes];refine Uw Z w.heap.size tO_ ?_ x;have hb:=hZ.heap hbx2 (fun hm=>by
     rcases List.mem_cons.1 hm with e|hm
     ·have:=HW.out.blt;omega
     ·rcases List.mem_append.1 hm with hm|hm
      ·have:=HW.out.map.lt w.heap.size (by simpa using hm);omega
      ·have h1:=(hW2.rows j hj448).lt w.heap.size (by simpa using hm)
       have h2:=hf2 w.heap.size (ak.2 (.inr (.inr ⟨j,hj448,by simpa using hm⟩)));rcases h2 with h2|h2
       ·have:=HFL.out _ h2;omega
       ·have:=HT1.out.size;omega)
    rw[cell_of hb];rfl)
 have TA:=hide htake;have c1:w2.cell? ⟨w.heap.size,0,none⟩=some (.int .i64 tO_):=by rw[cell_of hbx2];rfl
 have z1:=lt_of_heap hbx2;have HW2:=hide hW2;have HI2:=hide hI2;have HT2:=hide ht2;have HF2:=hide hf2;have MW:=hide hgoes;have HJ:=hide hj;clear htake hW2 hI2 ht2 hf2 hbx2 hgoes hj;go_wp2_with fail
 refine TA.out.mono ?_;rintro e w3 ⟨ga,gc,v',rfl,hgr,hgo,hW3,ht3,hv3⟩;clear c1 z1 TA;obtain⟨gone,Nb⟩:∃gone,gone=iD goes (sl' j):=⟨_,rfl⟩;rw[←Nb]at hgr hgo hW3⊢;have hgl:gone.length≤10000:=by
  rw[Nb];exact Nat.le_trans (List.length_filter_le _ _) Y7
 have Xd:Sq gone (all.filter (fun x=>decide (x.1≤(tO_:Int)))):=by
  rw[Nb,MW.out,HJ.out];exact Ru HI2.out
 have hdrop:gB all gone=all.filter (fun x=> !decide (x.1≤(tO_:Int))):=IZ (p:=fun x=>decide (x.1≤(tO_:Int))) HI.out.nd Xd.perm;rw[hdrop]at hW3;have hI3:=Ut HI2.out;rw[←HJ.out,←MW.out]at hI3;have hsort:=Rf w3 base gc ga gone hgr (by omega);have Y8:=hide hsort;have HW3:=hide hW3;have HI3:=hide hI3;have HT3:=hide ht3;have HDU:=hide Xd;have L9:=hide hgo;have HV3:=hide hv3;clear hsort hW3 hI3 ht3 Xd hgr hgo hdrop Nb hv3;unfold DI at Y8;go_wp2_with fail
 refine Y8.out.mono ?_;rintro e w4 ⟨rfl,⟨D,hD,hdr⟩,ht4⟩;have hDl:D.length=gone.length:=hD.length;have KX:og (all.filter (fun x=>decide (x.1≤(tO_:Int)))) D:=⟨hD.Kv,HDU.out.symm.trans hD.sq⟩;rw[←hDl]at hdr ht4 hgl;have HDR:=hide hdr;have HT4:=hide ht4;have HST:=hide KX;have HDL:=hide hDl;have hw4:=ht4.size;clear hdr ht4 KX hD Y8;rw[←hDl];clear hDl;go_wp2
 go_loopw [7,32] (fun sv7 kv wr=>∃(k:Nat) (ia:Option Addr) (ic:Nat),k≤D.length∧kv= .int .i64 (k:Int)∧sv7= .slice ia k ic∧IR wr w4.heap.size (.slice ia k ic) ((D.take k).map (·.2))∧Turn [] w4 wr) (fun _ kv _=>D.length-(intOf kv).toNat)
 case atStart=>exact⟨0,none,0,Nat.zero_le _,rfl,rfl, .inl ⟨rfl,by simp⟩,Turn.refl _ _⟩
 case round=>
  obtain⟨k,ia,ic,hk,rfl,rfl,hir,htw⟩:=hrel;have SS:=hide hir;have dJ:=hide htw;clear hir htw;by_cases hlt:k<D.length
  ·have hlt1:(k:Int)<D.length:=by omega
   obtain⟨x,hx⟩:∃x,x=D[k]:=⟨_,rfl⟩;have hrow:=HDR.out.still dJ.out;obtain⟨g,cap,e, -, -⟩:=hrow.at eQ hlt;simp only[Value.slice.injEq,true_and]at e;obtain⟨rfl,rfl⟩:=e;obtain⟨q0,q1, -, -,zg⟩:=TR.two hrow hlt hx.symm;have hal:Turn [] wr ((wr.alloc (.cells #[.int .i64 x.1, .int .i64 x.2] 87)).alloc (.cells #[.int .i64 x.2] 3)):=((Turn.refl [] wr).alloc _).alloc _;have hln:((D.take k).map (·.2)).length=k:=by rw[List.length_map,List.length_take];omega
   obtain⟨v7,w7,hr7,hrow7,ht7,hown7⟩:=Vm _ w4.heap.size (.slice ia k ic) _ x.2 (wr.heap.size+1) (SS.out.still hal) (by
    have:=ae (wr.alloc (.cells #[.int .i64 x.1, .int .i64 x.2] 87)) (.cells #[.int .i64 x.2] 3);rw[World.size_alloc]at this;exact this) (by rw[hln];omega) (by have:=hal.size;have:=dJ.out.size;omega)
   have hsn:(D.take (k+1)).map (·.2)=(D.take k).map (·.2)++[x.2]:=by
    rw[List.take_succ_eq_append_getElem hlt,List.map_append,hx];rfl
   rw[←hsn]at hrow7;obtain⟨va,vc,WZ, -, -⟩:=hrow7.form;have hln2:((D.take (k+1)).map (·.2)).length=k+1:=by rw[List.length_map,List.length_take];omega
   rw[hln2]at WZ;subst WZ;have hT7:Turn [] w4 w7:=(dJ.out.same hal).trans ht7 (fun q hq=> .inr (SS.out.lt q (by simpa using hq)).1);have HR7:=hide hr7;have iZ:=hide hrow7;have HT7:=hide hT7;clear hx hrow hal hln hr7 hrow7 ht7 hown7 hsn hln2 hT7;go_wp2_with (at_builtin;go_must (refine kM rfl rfl rfl rfl HR7.out ?_))
   all_goals first
    |exact⟨⟨k+1,va,vc,by omega,by go_num,rfl,iZ.out,HT7.out⟩,by simp only[intOf];omega⟩
  ·obtain rfl:k=D.length:=by omega
   have hfin:IR wr w.heap.size (.slice ia (D.map (·.2)).length ic) (D.map (·.2)):=by
    have:=SS.out;rw[List.take_length]at this;rw[List.length_map];have hh:=HT4.out.size;refine this.aZ ?_;have h1:=mX.out.size;have h2:=HT1.out.size;have h3:=HT2.out.size;have h4:=HT3.out.size;omega
   have lK:=hide hfin;clear hfin;go_wp2
   go_ret2
   have s1:=mX.out.size;have s2:=HT1.out.size;have s3:=HT2.out.size;have s4:=HT3.out.size;have Bg:∀q∈eH b ah (dR sv' j v'),q∈eH b ah sv':=fun q hq=>by
    rcases ak.1 hq with rfl|hq|⟨i,hi,hq⟩
    ·exact ak.2 (.inl rfl)
    ·exact ak.2 (.inr (.inl hq))
    ·by_cases e:i=j
     ·subst e
      rw[cO]at hq;exact ak.2 (.inr (.inr ⟨i,hi,HV3.out q hq⟩))
     ·rw[bF _ _ e]at hq
      exact ak.2 (.inr (.inr ⟨i,hi,hq⟩))
   have hwh:aP wr base b xt (eH b ah (dR sv' j v')) tO_ (all.filter (fun x=> !decide (x.1≤(tO_:Int)))):=by
    refine⟨ah,_,_,(HW3.out.kept HT4.out (fun q hq hm=>?_)).still dJ.out,HI3.out,rfl⟩;have h1:=L9.out q (by
     have h9:=HDL.out;rw[h9]at hm;simpa using hm)
    have h2:=(HW2.out.FX q (Bg q hq)).2;omega
   refine⟨ia,ic,D,rfl,HST.out,by simpa using lK.out,_,hwh,?_,?_⟩
   ·have a1:Turn (eH b ah sv) w wa:=(mX.out.same HT1.out).mono (by simp)
    have a2:Turn (eH b ah sv) w w2:=a1.same HT2.out;have a3:Turn (eH b ah sv) w w3:=a2.trans HT3.out (fun q hq=>by
     have hq':q∈eH b ah sv':=by
      rcases List.mem_cons.1 hq with rfl|hq
      ·exact ak.2 (.inl rfl)
      ·rcases List.mem_append.1 hq with hq|hq
       ·exact ak.2 (.inr (.inl (by simpa using hq)))
       ·exact ak.2 (.inr (.inr ⟨j,hj448,by simpa using hq⟩))
     exact(HF2.out q hq').imp (fun h=>h) (fun h=>by omega))
    have a4:Turn (eH b ah sv) w w4:=a3.trans HT4.out (fun q hq=> .inr (by
     have h1:=L9.out q (by
      have h9:=HDL.out;rw[h9]at hq;simpa using hq)
     omega))
    exact a4.same (dJ.out.mono (by simp))
   ·intro q hq
    exact(HF2.out q (Bg q hq)).imp (fun h=>h) (fun h=>by omega)
end Wh
end
end Go.Proofs.YtmjpdhpmjmgmaaaGreatDoor
