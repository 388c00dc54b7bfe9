/- Lemmas of the claim, part l of 14. -/
import Derived.Test.YtficbckncieabaaGreatDoorMj
import Derived.Test.YtficbckncieabaaGreatDoorMh
import Derived.Test.YtficbckncieabaaGreatDoorMg
import Derived.Test.YtficbckncieabaaGreatDoorMc
import Derived.Test.YtficbckncieabaaGreatDoorMe
import Derived.Test.YtficbckncieabaaGreatDoorMk
import Derived.Test.YtficbckncieabaaGreatDoorMf
import Derived.Test.YtficbckncieabaaGreatDoorMb
import Derived.Test.YtficbckncieabaaGreatDoorMi
import Derived.Test.YtficbckncieabaaGreatDoorMa
set_option maxHeartbeats 16000000
namespace Go.Proofs.YtficbckncieabaaGreatDoor
set_option linter.unusedSimpArgs false
set_option linter.unusedVariables false
section
open Go.RowKit Go.Maps
set_option maxRecDepth 100000
attribute [local go_sem] Oper.semAt_some
open Dk (DA aj Parts dA aC bQ)
open Sg (aS aA dV Both Came ae flat Chain)
namespace Lg
def rA:Bt.Rec:=⟨0,0,false,[],false,[97]⟩
def rB:Bt.Rec:=⟨0,0,false,[],false,[98]⟩
theorem XD:Bt.aQ (cO 0 [rA,rB])=0:=by kernel_rfl
theorem XE:(Bt.ah (cO 0 [rA,rB])).length≤100:=by decide+kernel
theorem MM(W:World)(hv:Sn.qA W)(hg:As.iq W):Calls Tryz.prog 6 #[] W fun e w'=>e= .returned (.bool true)∧Turn [] W w':=by
 have HV:=hide hv;have HG:=hide hg;clear hv hg;go_enter Tryz.func6,Tryz.ntmps6
 go_wp2_with fail
 refine(Dk.Q7 10000 (by omega) W W.heap.size (Nat.le_refl _)).mono ?_;rintro e w1 ⟨rfl,hd1,ht1⟩;have HD1:=hide hd1;have HT1:=hide ht1;clear hd1 ht1;obtain⟨h1,h2,h3'⟩:=GInv.first 10000 0 (by omega);have hop:=L6 w1 W.heap.size W.heap.size [W.heap.size] (DA.empty 10000) HD1.out aX (by decide) 300 0 (by omega) (by omega) (by omega) h1 h2 (fun Z hZ=>(HV.out.below ((HT1.out.trans hZ (fun k hk=> .inr (by simp at hk;omega))).nil)).tab) (fun Z lb _ hL=>PW Z _ _ _ _ lb _ _ _ _ hL (by decide) (zq _ _));have Tt:=hide hop;have HGI:=hide h3';clear h1 h2 h3' hop;go_wp2_with fail
 refine Tt.out.mono ?_;rintro e w4 ⟨lb,F4,gv4,m4,rfl,hl4,hm4,ht4,hf4⟩;have HL4:=hide hl4;have HM4:=hide hm4;have HT4:=hide (HT1.out.trans ht4 (fun k hk=> .inr (by simp at hk;omega)));clear hl4 hm4 ht4 hf4 Tt;go_wp2_with fail
 obtain⟨w5,hw5⟩:∃w5,w5=w4.alloc (.cells #[.int .i64 0, .int .i64 0, .bool false, .string ⟨#[]⟩, .bool false, .string ⟨#[97]⟩, .int .i64 0, .int .i64 0, .bool false, .string ⟨#[]⟩, .bool false, .string ⟨#[98]⟩] 52):=⟨_,rfl⟩;rw[←hw5];have hal:Turn [] w4 w5:=by rw[hw5];exact(Turn.refl [] w4).alloc _
 have hrr:bF w5 (.slice (some ⟨w4.heap.size,0,none⟩) 2 2) [rA,rB]:=eX.recs (base:=0) (.inr ⟨_,2,_,rfl,Nat.zero_le _,by rw[hw5];exact ai w4 _,by simp,by simp,by simp[maxLen],by simp[recC,rA,rB];exact⟨rfl,rfl,rfl,rfl⟩⟩) (fun r hr=>by
  simp only[List.mem_cons,List.mem_nil_iff,or_false]at hr;rcases hr with rfl|rfl<;>exact⟨by decide,by decide,by decide,by decide,by decide,by decide⟩)
 have hm4:=HM4.out;have hmn:m4.n=0:=congrArg Prod.fst hm4;have hmx:m4.xs=[]:=congrArg Prod.snd hm4;have HT5:=hide (HT4.out.same hal);have abr:=GZ w5 W.heap.size W.heap.size F4 _ lb gv4 aX _ [] m4 (HL4.out.still hal) (by simp) (by rw[hmn];omega) (by decide) (by rw[hmx];simp[flat]) (by simp) rfl 0 (by omega) (by rw[hmn,hmx];rfl)
  (fun Z hZ=>by
    have hT:=HT5.out.trans hZ (fun k hk=> .inr ((HL4.out.still hal).lt k hk).1);exact⟨(HV.out.below hT.nil).tab,HG.out.below hT.nil⟩) _ [rA,rB] hrr (by simp)
 obtain⟨A',v',ss0',m',e1,e2,e3,e4,g',b',l'⟩:=HGI.out.add (by omega) [rA,rB] XD (oU 0 (by omega)) (by simp) (by have:(Bt.ah (cO ((0:Nat):Int) [rA,rB])).length≤100:=XE;simp only[af,flat,List.nil_append,List.flatMap_cons,List.flatMap_nil,List.length_nil];omega) ⟨((300:Nat):Int),((0:Nat):Int),((0:Nat):Int),false⟩;rw[List.map_nil,hm4,e1]at abr;have G7:=hide abr;have HG2:=hide g';have HB2:=hide b';have HE2:=hide e2;have Yo:=hide l';have HL5:=hide (HL4.out.still hal);clear hw5 hal hrr hm4 hmn hmx abr e1 e2 e3 e4 g' b' l' HL4 HM4 HGI;refine G7.out.mono ?_;rintro e w6 ⟨rfl,hd6⟩;rw[show aC 0= .nilIface from rfl,show Lm 0 0=0 from rfl];obtain⟨F6,gv6,ms6,hl6,hm6,ht6,hf6⟩:=hd6;obtain⟨ms60,m6,rfl,ajv,U9⟩:=dB hm6;have hab:(ms60++[m6]).map SM.abs=ss0'++[m']:=by rw[List.map_append,List.map_singleton,ajv,U9]
 have hln:=congrArg List.length ajv;rw[List.length_map]at hln;have hl0:ss0'.length≤1:=Yo.out;have hbl:af (ss0'++[m'])=[cO 0 [rA,rB]]:=HB2.out;have hnx:ae m6.n m6.xs=2:=by
  have:=HG2.out.next;rw[←U9]at this;exact this
 have hfl:(flat m6.xs).length≤1048576:=by
  have hp:m6.abs∈ss0'++[m']:=by rw[U9];simp
  exact iM hl6.disk (HG2.out.ok (by simp;omega)) hp
 have aer:=Sg.dw m6.xs;have hrd:=Jj w6 W.heap.size W.heap.size F6 A' lb gv6 aX v' ms60 m6 hl6 (by decide) (by rw[hab];exact HG2.out.ok (by simp;omega)) 1 99 (by omega) (by rw[HE2.out];decide) (by rw[hnx];omega);rw[hab,hbl]at hrd;have abn:=fun(Z:World) (hZ:Turn [] w6 Z)=>kD Z W.heap.size W.heap.size F6 A' lb gv6 aX v' ms60 m6 (hl6.still hZ) (by omega) (by omega)
 rw[hnx]at abn;have DF:=hide hrd;have Df:=hide abn;have HT6:=hide (HT5.out.trans ht6 (fun k hk=> .inr ((HL5.out.lt k hk).1)));clear hab hln hl0 hbl hnx hfl aer hrd abn hl6 ajv U9 ht6 hf6 G7 HG2 HB2 HE2 Yo;go_wp2_with fail
 refine DF.out.mono ?_;rintro e w7 ⟨ov,q,rfl,hov,adt,ht7⟩;have hs:aZ 1 ([cO 0 [rA,rB]].take q)=[⟨1,0,false,[],false,[98]⟩]:=by
  cases q with
  |zero=>exact absurd (adt rfl) (by decide)
  |succ q=>
   rw[List.take_of_length_le (by simp)];rfl
 rw[hs]at hov;obtain⟨g,cap,e,hc, -⟩:=hov.at bH (j:=0) (by simp);subst e;have k0:w7.cell? ⟨g,0,none⟩=some (.int .i64 1):=hc 0 (by omega);have k5:w7.cell? ⟨g,5,none⟩=some (.string ⟨#[98]⟩):=hc 5 (by omega);have HT7:=hide ht7;clear hov adt hs hc ht7 DF;go_wp2_with fail
 refine(Df.out w7 HT7.out).mono ?_;rintro e w8 ⟨rfl,ht8⟩;have k0':w8.cell? ⟨g,0,none⟩=some (.int .i64 1):=(World.cell?_of_block (w:=w7) (ht8.block _ (World.block_lt_of_cell? _ _ k0) (by simp))).trans k0;have k5':w8.cell? ⟨g,5,none⟩=some (.string ⟨#[98]⟩):=(World.cell?_of_block (w:=w7) (ht8.block _ (World.block_lt_of_cell? _ _ k5) (by simp))).trans k5;have HT8:=hide (HT6.out.same (HT7.out.same ht8));clear ht8 k0 k5;go_wp2
 go_ret
 exact⟨rfl,HT8.out⟩
end Lg
end
section
open Go.RowKit Go.Maps
set_option maxRecDepth 100000
open Dk (DA aj Parts dA aC bQ)
open Sg (aS aA dV Both Came ae flat Chain)
namespace Lg
structure VT(W wr:World)(lb mo i nn:Nat):Prop where
 log:∃F gv v ms0 m A ss0 mm,az wr W.heap.size W.heap.size F A lb gv aX v (ms0++[m])∧(ms0.map SM.abs=ss0∧m.abs=mm)∧GInv A 1048576 aX 0 nn ss0 mm∧(v.start=0∧v.most=mo∧v.down=false)∧ss0.length≤i∧(flat (af (ss0++[mm]))).length≤6000*i∧dH ss0 mm=0
 len:nn≤60*i
 turn:Turn [] W wr
theorem VT.more{W wr:World}{lb mo i nn:Nat}(h:VT W wr lb mo i nn):VT W wr lb mo (i+1) nn:=by
 obtain⟨⟨F,gv,v,ms0,m,A,ss0,mm,a,b,c,e,f,g,k⟩,l,t⟩:=h;exact⟨⟨F,gv,v,ms0,m,A,ss0,mm,a,b,c,e,by omega,by omega,k⟩,by omega,t⟩
theorem VT.add{W wr:World}{lb mo i nn:Nat}(h:VT W wr lb mo i nn)(hi:i<20)(hmo:mo≤1048576)(hv:Sn.qA W)(hg:As.iq W)(vr:Value)(rs:List Bt.Rec)(hr:bF wr vr rs)(hl:rs.length≤60):
 Calls Tryz.prog 12 #[.pointer (some ⟨lb,0,none⟩),vr] wr fun e w'=>∃x c nn',e= .returned (.tuple #[x,c])∧VT W w' lb mo (i+1) nn':=by
 have asL:=h;obtain⟨⟨F,gv,v,ms0,m,A,ss0,mm,jI,⟨hss,hmm⟩,hgi,⟨hv1,hv2,hv3⟩,hsl,U4,hhk⟩,aah,htw⟩:=h;have hln:=congrArg List.length hss;rw[List.length_map]at hln;have hfl:(flat m.xs).length≤1048576:=by
  have hp:m.abs∈ss0++[mm]:=by rw[hmm];simp
  exact iM jI.disk (hgi.ok (by simp;omega)) hp
 have hnx:ae m.n m.xs=(nn:Int):=by
  have:=hgi.next;rw[←hmm]at this;exact this
 have hmn:m.n≤1099511627776:=hgi.disk.base m.abs (by rw[hmm];simp);have abr:=GZ wr W.heap.size W.heap.size F A lb gv aX v ms0 m jI (by omega) hmn (by decide) hfl (by rw[hv2];omega) hv3 nn (by omega) hnx
  (fun Z hZ=>by
    have hT:=htw.trans hZ (fun k hk=> .inr (jI.lt k hk).1);exact⟨(hv.below hT.nil).tab,hg.below hT.nil⟩) vr rs hr (by omega)
 rw[hss,hmm]at abr;refine abr.mono ?_;rintro e w5 ⟨rfl,hd5⟩;by_cases hx:Bt.aQ (cO (nn:Int) rs)=0
 ·have hby:=(Bt.dJ hx).2
  have hbl:=Bt.gX (cO (nn:Int) rs);obtain⟨A',v',ss0',m',e1,e2,e3,e4,g',b',l',k'⟩:=hgi.addK (by omega) rs hx (oU _ (by omega)) (by simp;omega) (by omega) v;rw[e1]at hd5;simp only at hd5;obtain⟨F5,gv5,ms5,hl5,hm5,ht5,hf5⟩:=hd5;obtain⟨ms50,m5,rfl,ajw,XF⟩:=dB hm5;refine⟨_,_,nn+rs.length,rfl,⟨F5,gv5,v',ms50,m5,A',ss0',m',hl5,⟨ajw,XF⟩,g',⟨e2.trans hv1,e3.trans hv2,e4.trans hv3⟩,by omega,?_,k'.trans hhk⟩,by omega,htw.trans ht5 (fun k hk=> .inr (jI.lt k hk).1)⟩;rw[b',Sg.aP,Sg.gB,List.length_append];omega
 ·rw[Jo rs hx v]at hd5
  simp only at hd5;obtain⟨F5,gv5,ms5,hl5,hm5,ht5,hf5⟩:=hd5;obtain⟨ms50,m5,rfl,ajw,XF⟩:=dB hm5;exact⟨_,_,nn,rfl,⟨F5,gv5,v,ms50,m5,A,ss0,mm,hl5,⟨ajw,XF⟩,hgi,⟨hv1,hv2,hv3⟩,by omega,by omega,hhk⟩,by omega,htw.trans ht5 (fun k hk=> .inr (jI.lt k hk).1)⟩
end Lg
end
section
open Go.RowKit Go.Maps
set_option maxRecDepth 100000
end
section
open Go.RowKit
open Dk (DA)
namespace Sg
structure One(A:DA)(room:Nat)(nm bs:List UInt8):Prop where
 lim:A.limited=false
 room:A.room=room
 one:∃sf,A.files=[⟨nm,bs,sf⟩]
theorem One.fails{A:DA}{room:Nat}{nm bs:List UInt8}(h:One A room nm bs):A.fails=false:=by unfold DA.fails;rw[h.lim];rfl
theorem One.tick{A:DA}{room:Nat}{nm bs:List UInt8}(h:One A room nm bs):A.tick=A:=by unfold DA.tick;rw[h.lim];rfl
theorem One.file{A:DA}{room:Nat}{nm bs:List UInt8}(h:One A room nm bs):∃f,A.file nm=some f∧f.bytes=bs:=by
 obtain⟨sf,e⟩:=h.one;exact⟨⟨nm,bs,sf⟩,by unfold DA.file;rw[e];simp,rfl⟩
theorem One.has{A:DA}{room:Nat}{nm bs:List UInt8}(h:One A room nm bs):A.has nm=true:=by
 obtain⟨f,e, -⟩:=h.file;rw[Dk.kz,e];rfl
theorem One.used{A:DA}{room:Nat}{nm bs:List UInt8}(h:One A room nm bs):Dk.aH A.files=bs.length:=by
 obtain⟨sf,e⟩:=h.one;rw[e];simp[Dk.aH]
theorem One.upd{A:DA}{room:Nat}{nm bs:List UInt8}(h:One A room nm bs)(g:Dk.FA→Dk.FA)(hg:∀f,(g f).name=f.name)(bs':List UInt8)(hb:∀sf,(g ⟨nm,bs,sf⟩).bytes=bs'):One (A.upd nm g) room nm bs':=by
 obtain⟨sf,e⟩:=h.one;refine⟨h.lim,h.room,(g ⟨nm,bs,sf⟩).safe,?_⟩;unfold DA.upd Dk.fO;rw[e];have h1:=hg ⟨nm,bs,sf⟩;have h2:=hb sf;simp only[List.map_cons,List.map_nil,beq_self_eq_true,if_true];generalize g ⟨nm,bs,sf⟩=y at*
 cases y
 simp_all
theorem One.add{A:DA}{room:Nat}{nm bs:List UInt8}(h:One A room nm bs)(b:List UInt8)(hr:bs.length+b.length≤room):(A.add nm b).1=0∧One (A.add nm b).2 room nm (bs++b):=by
 have e:A.add nm b=(0,A.tick.upd nm (fun f=>{f with bytes:=f.bytes++b})):=by
  unfold DA.add;rw[h.fails,h.has,h.used,h.room,if_neg (by simp),if_neg (by simp),if_neg (by omega)]
 rw[e,h.tick];exact⟨rfl,h.upd (fun f=>{f with bytes:=f.bytes++b}) (fun _=>rfl) (bs++b) (fun _=>rfl)⟩
theorem One.cut{A:DA}{room:Nat}{nm bs:List UInt8}(h:One A room nm bs)(n:Nat)(hn:n≤bs.length):(A.cut nm n).1=0∧One (A.cut nm n).2 room nm (bs.take n):=by
 obtain⟨f,hf,hb⟩:=h.file;have e:A.cut nm n=(0,A.tick.upd nm (Dk.wI n)):=by
  unfold DA.cut;rw[h.fails,hf,if_neg (by simp)];simp only;rw[if_neg (by rw[hb];omega)];simp
 rw[e,h.tick];exact⟨rfl,h.upd (Dk.wI n) (fun _=>rfl) (bs.take n) (fun _=>rfl)⟩
theorem One.size{A:DA}{room:Nat}{nm bs:List UInt8}(h:One A room nm bs):A.sizeOf nm=bs.length:=by
 obtain⟨f,hf,hb⟩:=h.file;rw[yU hf,hb]
def dirS:ByteArray:=⟨#[115]⟩
end Sg
end
section
open Go.RowKit Go.Maps
set_option maxRecDepth 100000
attribute [local go_sem] Oper.semAt_some
open Dk (DA aj Parts dA aC bQ)
open Sg (aS aA dV Both Came ae flat Chain)
namespace Lg
theorem rJ:∀(L:List Bt.Rec) (a b:Int),L.Pairwise (fun p q=>p.off<q.off)→(∀r∈L,a≤r.off∧r.off<b)→L=[]∨(L.length:Int)≤b-a
 |[],_,_,_,_=> .inl rfl
 |r::L,a,b,hp,hb=>by
  rw[List.pairwise_cons]at hp;have h1:=hb r (by simp);rcases rJ L (r.off+1) b hp.2 (fun q hq=>⟨by have:=hp.1 q hq;omega,(hb q (by simp[hq])).2⟩)with rfl|h
  ·right;simp;omega
  ·right;simp;omega
theorem zy:∀{rs:List Bt.Rec} {lo hi:Int},Bt.bG rs lo hi=0→∀r∈rs,∃lo,Bt.dR r lo hi=0
 |q::rs,lo,hi,h,r,hr=>by
  unfold Bt.bG at h;split at h
  ·rename_i h0
   rcases List.mem_cons.1 hr with rfl|hr
   ·exact⟨_,h0⟩
   ·exact zy h r hr
  ·rename_i h0
   exact absurd h h0
theorem Qb{x:Bt.aB}(h:Bt.aQ x=0):∀r∈x.recs,iQ r:=by
 intro r hr;have hc:=Bt.jX (Bt.dJ h).1;have hm:=kY h r hr;obtain⟨lo,he⟩:=zy hc.2.2.2.2.2 r hr;unfold Bt.dR at he;split at he
 ·omega
 ·split at he
  ·omega
  ·split at he
   ·omega
   ·exact⟨by omega,by omega,by omega,by omega,by omega,by omega⟩
section
variable {A:DA} {room:Nat} {dir:ByteArray} {st n:Nat} {ss0:List (Nat×List Bt.aB)} {m:Nat×List Bt.aB}
theorem GInv.few(h:GInv A room dir st n ss0 m):(aK (af (ss0++[m]))).length≤n:=by
 have h1:=jV h.chain;have h2:=pg h.chain;rcases rJ _ (st:Int) (n:Int) h1 (fun r hr=>⟨h2 r hr,by
  obtain⟨x,hx,hr⟩:=List.mem_flatMap.1 hr;have h3:=(kY (Sg.Chain.mem h.chain x hx) r hr).2;have h4:=h.lK x hx;omega⟩)with h|h
 ·rw[h];simp
 ·omega
end
def yg(w:World)(v:Value)(xs:List Nat):Prop:=∃a c,v= .slice a xs.length c∧xs.length≤c∧c≤maxLen∧∀j (h:j<xs.length),∃p,a=some p∧w.cell? (p.add j)=some (.int .i64 (xs[j]:Int))
theorem yg.still{w w':World}{v:Value}{xs:List Nat}(h:yg w v xs)(ht:Turn [] w w'):yg w' v xs:=by
 obtain⟨a,c,e,h1,h2,h3⟩:=h;refine⟨a,c,e,h1,h2,fun j hj=>?_⟩;obtain⟨p,hp,hc⟩:=h3 j hj;exact⟨p,hp,(World.cell?_of_block (w:=w) (ht.block _ (World.block_lt_of_cell? _ _ hc) (by simp))).trans hc⟩
theorem yg.drop{w:World}{p:Addr}{c:Nat}{xs:List Nat}{l:Nat}(h:yg w (.slice (some p) l c) xs){k:Nat}(hk:k<xs.length):yg w (.slice (some (p.add k)) (xs.length-k) (c-k)) (xs.drop k):=by
 obtain⟨a,c',e,h1,h2,h3⟩:=h;simp only[Value.slice.injEq]at e;obtain⟨rfl, -,rfl⟩:=e;refine⟨_,_,by rw[List.length_drop],by rw[List.length_drop];omega,by omega,fun j hj=>?_⟩;rw[List.length_drop]at hj;obtain⟨q,hq,hc⟩:=h3 (k+j) (by omega);obtain rfl:=Option.some.inj hq;exact⟨_,rfl,by rw[add_add,hc];simp⟩
end Lg
end
section
open Go.RowKit Go.Maps
open Dk (DA FA aH fO dm dF)
open Sg (Chain flat ae Scan)
namespace Lg
structure gq(all:List Bt.Rec)(gone may:List Bool)(dn:Bool)(h n:Nat)(recs:List Bt.Rec):Prop where
 len:all.length=n
 uG:gone.length=n
 En:may.length=n
 off:∀(k:Nat) r,all[k]? =some r→r.off=(k:Int)
 gm:∀k:Nat,gone[k]? =some true→may[k]? =some true
 told:∀r∈recs,∃k:Nat,r.off=(k:Int)∧all[k]? =some r∧gone[k]? =some false
 out:∀(k:Nat) r,h≤k→all[k]? =some r→r∈recs∨may[k]? =some true
 sure:dn=false→∀(k:Nat) r,h≤k→all[k]? =some r→r∈recs∨gone[k]? =some true
theorem gq.nil:gq [] [] [] false 0 0 []:=⟨rfl,rfl,rfl,by simp,by simp,by simp,by simp,by simp⟩
section
variable {all recs:List Bt.Rec} {gone may:List Bool} {dn:Bool} {h n:Nat}
theorem gq.add(hw:gq all gone may dn h n recs){rs:List Bt.Rec}(hr:∀(k:Nat) r,rs[k]? =some r→r.off=((n+k:Nat):Int)):gq (all++rs) (gone++List.replicate rs.length false) (may++List.replicate rs.length false) dn h (n+rs.length) (recs++rs):=by
 have hat:∀(k:Nat) r,(all++rs)[k]? =some r→(k<n∧all[k]? =some r)∨(n≤k∧rs[k-n]? =some r):=fun k r e=>by
  rcases Nat.lt_or_ge k n with hk|hk
  ·rw[List.getElem?_append_left (by rw[hw.len];exact hk)]at e
   exact .inl ⟨hk,e⟩
  ·rw[List.getElem?_append_right (by rw[hw.len];exact hk),hw.len]at e
   exact .inr ⟨hk,e⟩
 have hlt:∀{α:Type} {l:List α} {k:Nat} {a:α},l[k]? =some a→k<l.length:=fun e=>(List.getElem?_eq_some_iff.1 e).1
 have aql:∀k,¬(List.replicate rs.length false)[k]? =some true:=fun k e=>by
  obtain⟨h1,h2⟩:=List.getElem?_eq_some_iff.1 e;simp at h2
 refine⟨by rw[List.length_append,hw.len],by rw[List.length_append,hw.uG,List.length_replicate],by rw[List.length_append,hw.En,List.length_replicate],fun k r e=>?_,fun k e=>?_,fun r hm=>?_,fun k r hk e=>?_,fun hd k r hk e=>?_⟩
 ·rcases hat k r e with⟨hk,e⟩|⟨hk,e⟩
  ·exact hw.off k r e
  ·rw[hr _ _ e]
   have:n+(k-n)=k:=by omega
   rw[this]
 ·rcases Nat.lt_or_ge k n with hk|hk
  ·rw[List.getElem?_append_left (by rw[hw.uG];exact hk)]at e
   rw[List.getElem?_append_left (by rw[hw.En];exact hk)];exact hw.gm k e
  ·rw[List.getElem?_append_right (by rw[hw.uG];exact hk)]at e
   exact absurd e (aql _)
 ·rcases List.mem_append.1 hm with hm|hm
  ·obtain⟨k,h1,h2,h3⟩:=hw.told r hm
   exact⟨k,h1,by rw[List.getElem?_append_left (hlt h2)];exact h2,by rw[List.getElem?_append_left (hlt h3)];exact h3⟩
  ·obtain⟨i,hi,rfl⟩:=List.mem_iff_getElem.1 hm
   refine⟨n+i,hr i _ (List.getElem?_eq_getElem hi),?_,?_⟩
   ·rw[List.getElem?_append_right (by rw[hw.len];omega),hw.len,Nat.add_sub_cancel_left]
    exact List.getElem?_eq_getElem hi
   ·rw[List.getElem?_append_right (by rw[hw.uG];omega),hw.uG,Nat.add_sub_cancel_left,List.getElem?_replicate,if_pos hi]
 ·rcases hat k r e with⟨hk2,e⟩|⟨hk2,e⟩
  ·rcases hw.out k r hk e with h|h
   ·exact .inl (by simp[h])
   ·exact .inr (by rw[List.getElem?_append_left (hlt h)];exact h)
  ·exact .inl (List.mem_append_right _ (List.mem_of_getElem? e))
 ·rcases hat k r e with⟨hk2,e⟩|⟨hk2,e⟩
  ·rcases hw.sure hd k r hk e with h|h
   ·exact .inl (by simp[h])
   ·exact .inr (by rw[List.getElem?_append_left (hlt h)];exact h)
  ·exact .inl (List.mem_append_right _ (List.mem_of_getElem? e))
theorem gq.less(hw:gq all gone may dn h n recs){h':Nat}{recs':List Bt.Rec}(hh:h≤h')(h1:∀r∈recs',r∈recs)(h2:∀r∈recs,(h':Int)≤r.off→r∈recs'):gq all gone may dn h' n recs':=
 ⟨hw.len,hw.uG,hw.En,hw.off,hw.gm,fun r hr=>hw.told r (h1 r hr),fun k r hk e=>(hw.out k r (Nat.le_trans hh hk) e).imp (fun hm=>h2 r hm (by rw[hw.off k r e];omega)) id,fun hd k r hk e=>(hw.sure hd k r (Nat.le_trans hh hk) e).imp (fun hm=>h2 r hm (by rw[hw.off k r e];omega)) id⟩
theorem gq.down(hw:gq all gone may dn h n recs):gq all gone may true h n recs:=
 ⟨hw.len,hw.uG,hw.En,hw.off,hw.gm,hw.told,hw.out,fun hd=>by simp at hd⟩
theorem gq.cut(hw:gq all gone may dn h n recs){e:Nat}(he:e≤n){recs':List Bt.Rec}(h1:∀r∈recs',r∈recs∧r.off<(e:Int))(h2:∀r∈recs,r.off<(e:Int)→r∈recs'):gq (all.take e) (gone.take e) (may.take e) true h e recs':=by
 have ht:∀{α:Type} {l:List α} {k:Nat} {a:α},(l.take e)[k]? =some a→k<e∧l[k]? =some a:=fun {α l k a} ea=>by
  rw[List.getElem?_take]at ea;split at ea
  ·exact⟨by assumption,ea⟩
  ·simp at ea
 have hb:∀{α:Type} {l:List α} {k:Nat} {a:α},k<e→l[k]? =some a→(l.take e)[k]? =some a:=fun hk ea=>by
  rw[List.getElem?_take,if_pos hk];exact ea
 refine⟨by rw[List.length_take,hw.len];omega,by rw[List.length_take,hw.uG];omega,by rw[List.length_take,hw.En];omega,fun k r ea=>hw.off k r (ht ea).2,fun k ea=>?_,fun r hr=>?_,fun k r hk ea=>?_,fun hd=>by simp at hd⟩
 ·obtain⟨hk,ea⟩:=ht ea
  exact hb hk (hw.gm k ea)
 ·obtain⟨hm,ho⟩:=h1 r hr
  obtain⟨k,g1,g2,g3⟩:=hw.told r hm;exact⟨k,g1,hb (by omega) g2,hb (by omega) g3⟩
 ·obtain⟨hk2,ea⟩:=ht ea
  rcases hw.out k r hk ea with hm|hm
  ·exact .inl (h2 r hm (by rw[hw.off k r ea];omega))
  ·exact .inr (hb hk2 hm)
theorem gq.mark(hw:gq all gone may dn h n recs){may':List Bool}{recs':List Bt.Rec}(hl:may'.length=n)(hm:∀k:Nat,may[k]? =some true→may'[k]? =some true) (h1:∀r∈recs',r∈recs) (h2:∀r∈recs,r∉recs'→∀k:Nat,r.off=(k:Int)→may'[k]? =some true):gq all gone may' true h n recs':=
 ⟨hw.len,hw.uG,hl,hw.off,fun k e=>hm k (hw.gm k e),fun r hr=>hw.told r (h1 r hr),fun k r hk e=>by
   rcases hw.out k r hk e with hin|hin
   ·by_cases hr:r∈recs'
    ·exact .inl hr
    ·exact .inr (h2 r hin hr k (hw.off k r e))
   ·exact .inr (hm k hin),fun hd=>by simp at hd⟩
theorem gq.compact(hw:gq all gone may false h n recs){may' gone':List Bool}{recs':List Bt.Rec}(hl:may'.length=n)(hg:gone'.length=n)(hm:∀k:Nat,may[k]? =some true→may'[k]? =some true) (hgm:∀k:Nat,gone'[k]? =some true→gone[k]? =some true∨may'[k]? =some true) (hgk:∀k:Nat,gone[k]? =some true→gone'[k]? =some true) (h1:∀r∈recs',r∈recs∧∀k:Nat,r.off=(k:Int)→gone'[k]? =some false) (h2:∀r∈recs,r∉recs'→∀k:Nat,r.off=(k:Int)→gone'[k]? =some true):gq all gone' may' false h n recs':=by
 have alR:∀k:Nat,gone'[k]? =some true→may'[k]? =some true:=fun k e=>by
  rcases hgm k e with h|h
  ·exact hm k (hw.gm k h)
  ·exact h
 have hs:∀(k:Nat) r,h≤k→all[k]? =some r→r∈recs'∨gone'[k]? =some true:=fun k r hk e=>by
  rcases hw.sure rfl k r hk e with hin|hin
  ·by_cases hr:r∈recs'
   ·exact .inl hr
   ·exact .inr (h2 r hin hr k (hw.off k r e))
  ·exact .inr (hgk k hin)
 exact⟨hw.len,hg,hl,hw.off,alR,fun r hr=>by
  obtain⟨hin,hgo⟩:=h1 r hr;obtain⟨k,g1,g2,g3⟩:=hw.told r hin;exact⟨k,g1,g2,hgo k g1⟩,fun k r hk e=>(hs k r hk e).imp id (alR k),fun _=>hs⟩
theorem gq.looked(hw:gq all gone may dn h n recs){gone':List Bool}(hg:gone'.length=n)(hk:∀k:Nat,gone'[k]? =some true↔gone[k]? =some true∨(h≤k∧∃r,all[k]? =some r∧r∉recs)):gq all gone' may false h n recs:=by
 have ht:∀r∈recs,∃k:Nat,r.off=(k:Int)∧all[k]? =some r∧gone'[k]? =some false:=fun r hr=>by
  obtain⟨k,g1,g2,g3⟩:=hw.told r hr;refine⟨k,g1,g2,?_⟩;have hlt:k<gone'.length:=by rw[hg,←hw.len];exact(List.getElem?_eq_some_iff.1 g2).1
  rw[List.getElem?_eq_getElem hlt];congr 1
  rw[←Bool.not_eq_true];intro e;rcases(hk k).1 (by rw[List.getElem?_eq_getElem hlt,e])with h|⟨-,q,hq,hn⟩
  ·rw[g3]at h;simp at h
  ·rw[g2]at hq
   obtain rfl:=Option.some.inj hq;exact hn hr
 exact⟨hw.len,hg,hw.En,hw.off,fun k e=>by
  rcases(hk k).1 e with h|⟨h1,r,h2,h3⟩
  ·exact hw.gm k h
  ·exact(hw.out k r h1 h2).resolve_left h3,ht,hw.out,fun _ k r h1 e=>by
  by_cases hr:r∈recs
  ·exact .inl hr
  ·exact .inr ((hk k).2 (.inr ⟨h1,r,e,hr⟩))⟩
theorem gq.at(hw:gq all gone may dn h n recs){r:Bt.Rec}(hr:r∈recs){k:Nat}(e:r.off=(k:Int)):all[k]? =some r∧gone[k]? =some false∧k<n:=by
 obtain⟨i,h1,h2,h3⟩:=hw.told r hr;obtain rfl:i=k:=by omega
 exact⟨h2,h3,by rw[←hw.len];exact(List.getElem?_eq_some_iff.1 h2).1⟩
end
theorem TB{xs:List Bt.aB}{b:Int}(h:Chain b xs):∀x∈xs,x.fin≤ae b xs:=by
 intro x hx;obtain⟨i,hi,rfl⟩:=List.mem_iff_getElem.1 hx;rcases List.eq_nil_or_concat xs with e|⟨ys,y,e⟩
 ·rw[e]at hi;simp at hi
 ·rw[List.concat_eq_append]at e
  subst e;rw[Sg.dG];rcases Nat.lt_or_ge i ys.length with h3|h3
  ·have h4:=qB h (i:=i) (j:=ys.length) h3 (by simp)
   have h5:=ru (Sg.Chain.mem h _ (List.getElem_mem (l:=ys++[y]) (n:=ys.length) (by simp)));simp only[List.getElem_concat_length]at h4 h5;omega
  ·have:i=ys.length:=by simp at hi;omega
   subst this;simp
theorem yh{xs:List Bt.aB}{b:Int}(h:Chain b xs):∀r∈aK xs,r.off<ae b xs:=by
 intro r hr;obtain⟨x,hx,hr⟩:=List.mem_flatMap.1 hr;have h1:=(kY (Sg.Chain.mem h x hx) r hr).2;have h2:=TB h x hx;omega
section
variable {n:Nat} {ss0:List (Nat×List Bt.aB)} {m p:Nat×List Bt.aB} {f:List UInt8→Int} {now ak:Int} {j i:Nat}
theorem F8:aK (af (ss0++[m]))=aK (af ss0)++aK m.2:=by rw[aV,kS]
theorem qP{r:Bt.Rec}{ss:List (Nat×List Bt.aB)}:r∈aK (af ss)↔ ∃p∈ss,r∈aK p.2:=by
 unfold aK af;simp only[List.mem_flatMap];constructor
 ·rintro⟨x,⟨p,hp,hx⟩,hr⟩
  exact⟨p,hp,x,hx,hr⟩
 ·rintro⟨p,hp,x,hx,hr⟩
  exact⟨x,⟨p,hp,hx⟩,hr⟩
theorem QM.before(h:QM 0 n ss0 m):∀r∈aK (af ss0),r.off<(m.1:Int):=by
 intro r hr;obtain⟨p,hp,hr⟩:=qP.1 hr;have h1:=yh (h.chains p (by simp[hp])) r hr;have h2:=h.fit;rw[List.pairwise_append]at h2;have:=h2.2.2 p hp m (by simp);omega
theorem QM.behind(h:QM 0 n ss0 m):∀r∈aK m.2,(m.1:Int)≤r.off:=pg (h.chains m (by simp))
theorem QM.below(h:QM 0 n ss0 m):∀r∈aK (af (ss0++[m])),0≤r.off∧r.off<(n:Int):=by
 intro r hr;refine⟨by have:=pg h.chain r hr;omega,?_⟩;obtain⟨x,hx,hr⟩:=List.mem_flatMap.1 hr;have h1:=(kY (Sg.Chain.mem h.chain x hx) r hr).2;have h2:=h.lK x hx;omega
theorem QM.MN(h:QM 0 n ss0 m):dH ss0 m≤m.1:=tC h.Jn m (by simp)
theorem QM.drops(h:QM 0 n ss0 m)(hi:i≤ss0.length):dH ss0 m≤dH (ss0.drop i) m∧(∀r∈aK (af (ss0.drop i++[m])),r∈aK (af (ss0++[m])))∧∀r∈aK (af (ss0++[m])),(dH (ss0.drop i) m:Int)≤r.off→r∈aK (af (ss0.drop i++[m])):=by
 have abq:dH (ss0.drop i) m∈(ss0.drop i++[m]).map (·.1):=by
  cases hd:ss0.drop i with
  |nil=>simp[dH]
  |cons p r=>simp[dH]
 have aan:ss0.take i++(ss0.drop i++[m])=ss0++[m]:=by rw[←List.append_assoc,List.take_append_drop]
 obtain⟨q,hq,hqe⟩:=List.mem_map.1 abq;refine⟨?_,fun r hr=>?_,fun r hr ho=>?_⟩
 ·have:=tC h.Jn q (by rw[←aan];exact List.mem_append_right _ hq)
  omega
 ·obtain⟨p,hp,hr⟩:=qP.1 hr
  exact qP.2 ⟨p,by rw[←aan];exact List.mem_append_right _ hp,hr⟩
 ·obtain⟨p,hp,hr⟩:=qP.1 hr
  rw[←aan]at hp;rcases List.mem_append.1 hp with hp|hp
  ·have h1:=yh (h.chains p (by rw[←aan];exact List.mem_append_left _ hp)) r hr
   have h2:=h.fit;rw[←aan,List.pairwise_append]at h2;have h3:=h2.2.2 p hp q hq;omega
  ·exact qP.2 ⟨p,hp,hr⟩
theorem QM.cuts(h:QM 0 n ss0 m):(∀r∈aK (af (ss0++[(m.1,m.2.take j)])),r∈aK (af (ss0++[m]))∧r.off<ae m.1 (m.2.take j))∧(∀r∈aK (af (ss0++[m])),r.off<ae m.1 (m.2.take j)→r∈aK (af (ss0++[(m.1,m.2.take j)])))∧ae m.1 (m.2.take j)≤n:=by
 have hc:=h.chains m (by simp);have hct:=hc.take j;have hge:=qJ hct;have hsp:aK m.2=aK (m.2.take j)++aK (m.2.drop j):=by rw[←kS,List.take_append_drop]
 have hc2:Chain (ae m.1 (m.2.take j)) (m.2.drop j):=by
  have:=hc;rw[←List.take_append_drop j m.2,Sg.dM]at this;exact this.2
 simp only[F8];refine⟨fun r hr=>?_,fun r hr ho=>?_,?_⟩
 ·rcases List.mem_append.1 hr with hr|hr
  ·exact⟨List.mem_append_left _ hr,by have:=h.before r hr;omega⟩
  ·exact⟨List.mem_append_right _ (by rw[hsp];exact List.mem_append_left _ hr),yh hct r hr⟩
 ·rcases List.mem_append.1 hr with hr|hr
  ·exact List.mem_append_left _ hr
  ·rw[hsp]at hr
   rcases List.mem_append.1 hr with hr|hr
   ·exact List.mem_append_right _ hr
   ·have:=pg hc2 r hr
    omega
 ·have e:ae m.1 m.2=ae (ae m.1 (m.2.take j)) (m.2.drop j):=by
   conv=>lhs;rw[←List.take_append_drop j m.2]
   rcases List.eq_nil_or_concat (m.2.drop j)with e|⟨ys,y,e⟩
   ·rw[e,List.append_nil];rfl
   ·rw[e,List.concat_eq_append,←List.append_assoc,Sg.dG,Sg.dG]
  have h1:=qJ hc2;rw[←e,h.next]at h1;exact h1
theorem Qc{k:Nat}(f:List UInt8→Int)(now ak:Int):(∀r∈aK (af ((ss0.take k).map (dL f now ak)++ss0.drop k++[m])),r∈aK (af (ss0++[m])))∧
 (∀r∈aK (af (ss0++[m])),r∉aK (af ((ss0.take k).map (dL f now ak)++ss0.drop k++[m]))→r∈aK (af ss0)∧aU f now ak [r]=[])∧
 (k=ss0.length→∀r∈aK (af ((ss0.take k).map (dL f now ak)++ss0.drop k++[m])),r∈aK m.2∨(r∈aK (af ss0)∧aU f now ak [r]=[r])):=by
 have hst:∀ss:List (Nat×List Bt.aB),aK (af (ss.map (dL f now ak)))=aU f now ak (aK (af ss)):=fun ss=>by
  induction ss with
  |nil=>rfl
  |cons p r ih=>
   rw[List.map_cons,gQ,gQ,kS,kS,ih];have:aK (dL f now ak p).2=aU f now ak (aK p.2):=PH f now ak p.2
   rw[this];unfold aU;rw[List.filter_append]
 have hsp:aK (af ss0)=aK (af (ss0.take k))++aK (af (ss0.drop k)):=by rw[←kS,←qO,List.take_append_drop]
 have h1:∀{r:Bt.Rec} {L:List Bt.Rec},r∈aU f now ak L↔r∈L∧aU f now ak [r]=[r]:=fun {r L}=>by
  unfold aU;rw[List.mem_filter,List.filter_eq_self];simp
 have h2:∀r:Bt.Rec,aU f now ak [r]=[]∨aU f now ak [r]=[r]:=fun r=>by
  unfold aU;rw[List.filter_cons];split<;>simp
 simp only[F8,qO,kS,hst];refine⟨fun r hr=>?_,fun r hr hn=>?_,fun hk r hr=>?_⟩
 ·simp only[List.mem_append,hsp]at hr⊢
  rcases hr with(hr|hr)|hr
  ·exact .inl (.inl (h1.1 hr).1)
  ·exact .inl (.inr hr)
  ·exact .inr hr
 ·simp only[List.mem_append,hsp]at hr hn⊢
  rcases hr with(hr|hr)|hr
  ·refine⟨.inl hr,(h2 r).resolve_right fun e=>hn (.inl (.inl (h1.2 ⟨hr,e⟩)))⟩
  ·exact absurd (.inl (.inr hr)) hn
  ·exact absurd (.inr hr) hn
 ·subst hk
  rw[List.take_length,List.drop_length]at hr;simp only[List.mem_append]at hr;rcases hr with(hr|hr)|hr
  ·exact .inr (h1.1 hr)
  ·simp[aK,af]at hr
  ·exact .inl (by simpa[af]using hr)
end
def iY(all:List Bt.Rec)(gone:List Bool):List Bt.Rec:=((all.zip gone).filter (fun p=> !p.2)).map (·.1)
theorem Qd{all:List Bt.Rec}{gone:List Bool}{k:Nat}(h1:k<all.length)(h2:k<gone.length):iY (all.take (k+1)) (gone.take (k+1))=iY (all.take k) (gone.take k)++(if gone[k]then []else [all[k]]):=by
 unfold iY;rw[List.take_succ_eq_append_getElem h1,List.take_succ_eq_append_getElem h2,List.zip_append (by simp;omega),List.filter_append,List.map_append];congr 1
 cases hg:gone[k]<;>simp
theorem Eo{all:List Bt.Rec}{gone:List Bool}{r:Bt.Rec}:r∈iY all gone↔ ∃k:Nat,all[k]? =some r∧gone[k]? =some false:=by
 unfold iY;simp only[List.mem_map,List.mem_filter,Bool.not_eq_true'];constructor
 ·rintro⟨⟨a,b⟩,⟨h1,h2⟩,rfl⟩
  simp only at h2;subst h2;obtain⟨k,hk⟩:=List.mem_iff_getElem?.1 h1;rw[List.getElem?_zip_eq_some]at hk;exact⟨k,hk.1,hk.2⟩
 ·rintro⟨k,h1,h2⟩
  exact⟨(r,false),⟨List.mem_iff_getElem?.2 ⟨k,List.getElem?_zip_eq_some.2 ⟨h1,h2⟩⟩,rfl⟩,rfl⟩
section
variable {all recs:List Bt.Rec} {gone may:List Bool} {dn:Bool} {h n:Nat}
theorem gq.sorted(hw:gq all gone may dn h n recs):all.Pairwise (fun a b=>a.off<b.off):=by
 rw[List.pairwise_iff_getElem];intro i j hi hj hij;rw[hw.off i _ (List.getElem?_eq_getElem hi),hw.off j _ (List.getElem?_eq_getElem hj)];omega
theorem gq.JY(hw:gq all gone may dn h n recs):(iY all gone).Pairwise (fun a b=>a.off<b.off):=by
 refine hw.sorted.sublist ?_;unfold iY;have h1:(all.zip gone).map (·.1)=all:=List.map_fst_zip (by rw[hw.len,hw.uG];exact Nat.le_refl _);have h2:(((all.zip gone).filter (fun p=> !p.2)).map (·.1)).Sublist ((all.zip gone).map (·.1)):=List.filter_sublist.map _;rw[h1]at h2;exact h2
theorem gq.Va(hw:gq all gone may dn h n recs):∀r∈iY all gone,0≤r.off:=by
 intro r hr;obtain⟨k,h1, -⟩:=Eo.1 hr;rw[hw.off k r h1];omega
theorem gq.last(hw:gq all gone may false h n recs)(hs:recs.Pairwise (fun a b=>a.off<b.off))(hh:∀r∈recs,(h:Int)≤r.off){r:Bt.Rec}(hr:r∈recs)(hk:r.keyed=true):r.off<dQ (iY all gone) r.key↔r.off<dQ recs r.key:=by
 have h0:=hh r hr;have hl:∀q∈recs,q∈iY all gone:=fun q hq=>by
  obtain⟨k, -,h2,h3⟩:=hw.told q hq;exact Eo.2 ⟨k,h2,h3⟩
 constructor
 ·intro hlt
  rcases D5 (iY all gone) (fun _=>0) r.key with⟨q,hq,hqk,hqe,hqo⟩|he
  ·have hq2:dQ (iY all gone) r.key=q.off:=hqo
   obtain⟨k,g1,g2⟩:=Eo.1 hq;have hko:=hw.off k q g1;have hin:q∈recs:=by
    rcases hw.sure rfl k q (by omega) g1 with hin|hin
    ·exact hin
    ·rw[g2]at hin;simp at hin
   have:=JC hs (fun x hx=>by have:=hh x hx;omega) q hin hqk;rw[hqe]at this;omega
  ·have he2:dQ (iY all gone) r.key=0:=he
   omega
 ·intro hlt
  rcases D5 recs (fun _=>0) r.key with⟨q,hq,hqk,hqe,hqo⟩|he
  ·have hq2:dQ recs r.key=q.off:=hqo
   have:=JC hw.JY hw.Va q (hl q hq) hqk;rw[hqe]at this;omega
  ·have he2:dQ recs r.key=0:=he
   omega
theorem gq.goes(hw:gq all gone may false h n recs)(hs:recs.Pairwise (fun a b=>a.off<b.off))(hh:∀r∈recs,(h:Int)≤r.off)(now ak:Int){r:Bt.Rec}(hr:r∈recs):jf (dQ (iY all gone)) now ak r=jf (dQ recs) now ak r:=by
 unfold jf;cases hk:r.keyed with
 |false=>simp
 |true=>
  have:=hw.last hs hh hr hk;simp[this]
end
end Lg
end
section
open Go.RowKit Go.Maps
set_option maxRecDepth 100000
attribute [local go_sem] Oper.semAt_some
open Dk (DA aj Parts dA aC bQ)
open Sg (aS aA dV Both Came ae flat Chain)
namespace Lg
theorem MO(w:World)(base d:Nat)(F:List Nat)(A:DA)(lb:Nat)(gv:Value)(dir:ByteArray)(v:LV)(ms:List SM)(h:az w base d F A lb gv dir v ms)(hd:v.down=true):
 Calls Tryz.prog 21 #[.pointer (some ⟨lb,0,none⟩)] w fun e w'=>e= .returned (bQ 6)∧Turn [] w w':=by
 have c6:=h.c6;rw[hd]at c6;have z6:=lt_of_heap h.box;clear h hd;go_enter Tryz.func21,Tryz.ntmps21
 go_wp2
 go_ret
 exact⟨rfl,Turn.refl _ _⟩
theorem Hw(w:World)(base d:Nat)(F:List Nat)(A:DA)(lb:Nat)(gv:Value)(dir:ByteArray)(v:LV)(ms:List SM)(h:az w base d F A lb gv dir v ms)(hd:v.down=true)(now ak:Int):
 Calls Tryz.prog 50 #[.pointer (some ⟨lb,0,none⟩), .int .i64 now, .int .i64 ak] w fun e w'=>e= .returned (.tuple #[.int .i64 0,bQ 6])∧Turn [] w w':=by
 obtain⟨w4,hw4⟩:∃w4,w4=(w.alloc (.cells #[.int .i64 now] 3)).alloc (.cells #[.int .i64 ak] 3):=⟨_,rfl⟩;have ht4:Turn [] w w4:=by rw[hw4];exact((Turn.refl [] w).alloc _).alloc _
 have hl4:=h.still ht4;have c6:=hl4.c6;have z6:=lt_of_heap hl4.box;rw[hd]at c6;have HW:=hide hw4;have HT:=hide ht4;rw[hw4]at c6 z6;clear h hd hl4 hw4 ht4;go_enter Tryz.func50,Tryz.ntmps50
 go_wp2
 go_ret2
 exact⟨rfl,by rw[←HW.out];exact HT.out⟩
def EL(b:Bool):List Value:=[.bool b]
theorem rM:∀n,(EL n).length=1:=fun _=>rfl
structure LW where
 all:List Bt.Rec
 gone:List Bool
 may:List Bool
 ends:List Nat
 safe:Int
 start:Int
 down:Bool
def XG(d lb:Nat)(mo:Int)(va vg vm ve:Value)(sf st:Int)(dn:Bool):Array Value:= #[.pointer (some ⟨d,0,none⟩), .pointer (some ⟨lb,0,none⟩), .int .i64 mo,va,vg,vm,ve, .int .i64 sf, .int .i64 st, .bool dn]
structure bY(w:World)(base wb d lb:Nat)(mo:Int)(va vg vm ve:Value)(y:LW):Prop where
 box:w.heap[wb]? =some (.cells (XG d lb mo va vg vm ve y.safe y.start y.down) 38 (0,0))
 kT:aO 52 6 recC w base va y.all
 fV:aO 4 1 EL w base vg y.gone
 nH:aO 4 1 EL w base vm y.may
 lU:aO 3 1 uK w base ve y.ends
 gm:∀k∈vg.ownBlock,k∉vm.ownBlock
 low:base≤wb
def jg(wb:Nat)(va vg vm ve:Value):List Nat:=wb::(va.ownBlock.toList++(vg.ownBlock.toList++(vm.ownBlock.toList++ve.ownBlock.toList)))
theorem bV{wb:Nat}{va vg vm ve:Value}{k:Nat}:k∈jg wb va vg vm ve↔k=wb∨k∈va.ownBlock∨k∈vg.ownBlock∨k∈vm.ownBlock∨k∈ve.ownBlock:=by
 simp[jg]
section
variable {w w':World} {base wb d lb:Nat} {mo:Int} {va vg vm ve:Value} {y:LW}
theorem bY.kept{S:List Nat}(h:bY w base wb d lb mo va vg vm ve y)(ht:Turn S w w')(hn:∀k∈jg wb va vg vm ve,k∉S):bY w' base wb d lb mo va vg vm ve y:=
 ⟨ht.heap h.box (hn wb (bV.2 (.inl rfl))),h.kT.kept ht (fun k hk=>hn k (bV.2 (.inr (.inl hk)))),h.fV.kept ht (fun k hk=>hn k (bV.2 (.inr (.inr (.inl hk))))),h.nH.kept ht (fun k hk=>hn k (bV.2 (.inr (.inr (.inr (.inl hk)))))),h.lU.kept ht (fun k hk=>hn k (bV.2 (.inr (.inr (.inr (.inr hk)))))),h.gm,h.low⟩
theorem bY.still(h:bY w base wb d lb mo va vg vm ve y)(ht:Turn [] w w'):bY w' base wb d lb mo va vg vm ve y:=h.kept ht (by simp)
theorem bY.kind(h:bY w base wb d lb mo va vg vm ve y):∀k∈jg wb va vg vm ve,∃cs T fr,w.heap[k]? =some (.cells cs T fr)∧(T=38∨T=52∨T=4∨T=3):=by
 intro k hk;rcases bV.1 hk with rfl|hk|hk|hk|hk
 ·exact⟨_,_,_,h.box, .inl rfl⟩
 ·obtain⟨cs,e⟩:=h.kT.kind k hk
  exact⟨_,_,_,e, .inr (.inl rfl)⟩
 ·obtain⟨cs,e⟩:=h.fV.kind k hk
  exact⟨_,_,_,e, .inr (.inr (.inl rfl))⟩
 ·obtain⟨cs,e⟩:=h.nH.kind k hk
  exact⟨_,_,_,e, .inr (.inr (.inl rfl))⟩
 ·obtain⟨cs,e⟩:=h.lU.kind k hk
  exact⟨_,_,_,e, .inr (.inr (.inr rfl))⟩
theorem bY.apart(h:bY w base wb d lb mo va vg vm ve y){F:List Nat}{A:DA}{gv:Value}{dir:ByteArray}{v:LV}{ms:List SM}(hl:az w base d F A lb gv dir v ms):∀k∈jg wb va vg vm ve,k∉aJ F lb gv ms:=by
 intro k hk;obtain⟨cs,T,fr,e,hT⟩:=h.kind k hk;rcases hT with rfl|rfl|rfl|rfl<;>exact hl.o8 e (by decide) (by decide) (by decide) (by decide) (by decide) (by decide) (by decide)
theorem bY.cells(h:bY w base wb d lb mo va vg vm ve y):w.cell? ⟨wb,0,none⟩=some (.pointer (some ⟨d,0,none⟩))∧w.cell? ⟨wb,1,none⟩=some (.pointer (some ⟨lb,0,none⟩))∧w.cell? ⟨wb,2,none⟩=some (.int .i64 mo)∧w.cell? ⟨wb,3,none⟩=some va∧w.cell? ⟨wb,4,none⟩=some vg∧w.cell? ⟨wb,5,none⟩=some vm∧w.cell? ⟨wb,6,none⟩=some ve∧w.cell? ⟨wb,7,none⟩=some (.int .i64 y.safe)∧w.cell? ⟨wb,8,none⟩=some (.int .i64 y.start)∧w.cell? ⟨wb,9,none⟩=some (.bool y.down)∧wb<w.heap.size:=by
 have e:=h.box;refine⟨?_,?_,?_,?_,?_,?_,?_,?_,?_,?_,lt_of_heap e⟩<;>rw[cell_of e]<;>rfl
theorem bY.frozen(h:bY w base wb d lb mo va vg vm ve y)(i:Nat):w.frozen? ⟨wb,i,none⟩=false:=au h.box i
theorem bY.put(h:bY w base wb d lb mo va vg vm ve y){i:Nat}{u:Value}{y':LW}{lb':Nat}(hc:(XG d lb mo va vg vm ve y.safe y.start y.down).setIfInBounds i u=XG d lb' mo va vg vm ve y'.safe y'.start y'.down)(h1:y'.all=y.all)(h2:y'.gone=y.gone)(h3:y'.may=y.may)(h4:y'.ends=y.ends):bY (w.setCell ⟨wb,i,none⟩ u) base wb d lb' mo va vg vm ve y':=by
 have ht:Turn [wb] w (w.setCell ⟨wb,i,none⟩ u):=(Turn.refl _ _).setCell (.inl (by simp)) _;have hne:∀{T:TypeId} {cs:Array Value} {k:Nat},w.heap[k]? =some (.cells cs T (0,0))→T≠38→k∉[wb]:=fun e hT hm=>by
  obtain rfl:=List.mem_singleton.1 hm;exact aW e h.box hT rfl
 refine⟨by rw[heap_set h.box,hc],?_,?_,?_,?_,h.gm,h.low⟩
 ·rw[h1];exact h.kT.kept ht (fun k hk=>by obtain⟨cs,e⟩:=h.kT.kind k hk;exact hne e (by decide))
 ·rw[h2];exact h.fV.kept ht (fun k hk=>by obtain⟨cs,e⟩:=h.fV.kind k hk;exact hne e (by decide))
 ·rw[h3];exact h.nH.kept ht (fun k hk=>by obtain⟨cs,e⟩:=h.nH.kind k hk;exact hne e (by decide))
 ·rw[h4];exact h.lU.kept ht (fun k hk=>by obtain⟨cs,e⟩:=h.lU.kind k hk;exact hne e (by decide))
theorem bY.Vb{w1:World}{ve':Value}{es:List Nat}(h:bY w base wb d lb mo va vg vm ve y)(ht:Turn ve.ownBlock.toList w w1)(hr:aO 3 1 uK w1 base ve' es):bY (w1.setCell ⟨wb,6,none⟩ ve') base wb d lb mo va vg vm ve' {y with ends:=es}:=by
 have hap:∀{T:TypeId} {cs:Array Value} {k:Nat},w.heap[k]? =some (.cells cs T (0,0))→T≠3→k∉ve.ownBlock.toList:=fun e hT hm=>by
  obtain⟨cs,e'⟩:=h.lU.kind _ (by simpa using hm);exact aW e' e (fun q=>hT q.symm) rfl
 have hb:=ht.heap h.box (hap h.box (by decide));have h2:Turn [wb] w1 (w1.setCell ⟨wb,6,none⟩ ve'):=(Turn.refl _ _).setCell (.inl (by simp)) _;have hne:∀{T:TypeId} {cs:Array Value} {k:Nat},w1.heap[k]? =some (.cells cs T (0,0))→T≠38→k∉[wb]:=fun e hT hm=>by
  obtain rfl:=List.mem_singleton.1 hm;exact aW e hb hT rfl
 refine⟨by rw[heap_set hb];rfl,?_,?_,?_,hr.kept h2 (fun k hk=>by obtain⟨cs,e⟩:=hr.kind k hk;exact hne e (by decide)),h.gm,h.low⟩
 ·have hk1:=h.kT.kept ht (fun k hk=>by obtain⟨cs,e⟩:=h.kT.kind k hk;exact hap e (by decide))
  exact hk1.kept h2 (fun k hk=>by obtain⟨cs,e⟩:=hk1.kind k hk;exact hne e (by decide))
 ·have hk1:=h.fV.kept ht (fun k hk=>by obtain⟨cs,e⟩:=h.fV.kind k hk;exact hap e (by decide))
  exact hk1.kept h2 (fun k hk=>by obtain⟨cs,e⟩:=hk1.kind k hk;exact hne e (by decide))
 ·have hk1:=h.nH.kept ht (fun k hk=>by obtain⟨cs,e⟩:=h.nH.kind k hk;exact hap e (by decide))
  exact hk1.kept h2 (fun k hk=>by obtain⟨cs,e⟩:=hk1.kind k hk;exact hne e (by decide))
end
theorem TC(w:World)(base d:Nat)(F:List Nat)(A:DA)(lb:Nat)(gv:Value)(dir:ByteArray)(v:LV)(ms:List SM)(h:az w base d F A lb gv dir v ms):
 Calls Tryz.prog 19 #[.pointer (some ⟨lb,0,none⟩)] w fun e w'=>e= .returned (.int .i64 v.safe)∧w=w':=by
 have c5:=h.c5;have hlb:=lt_of_heap h.box;clear h;go_enter Tryz.func19,Tryz.ntmps19
 go_wp2
 go_ret
 exact⟨rfl,rfl⟩
theorem F9(W0:World)(base wb d lb:Nat)(mo:Int)(va vg vm ve:Value)(y:LW)(h:bY W0 base wb d lb mo va vg vm ve y)(F:List Nat)(A:DA)(gv:Value)(dir:ByteArray)(v:LV)(ms0:List SM)(m:SM)(hl:az W0 base d F A lb gv dir v (ms0++[m]))(hm:ms0.length≤1000000)(hx:m.xs.length≤1000000)(n:Nat)(hn:ae m.n m.xs=n)(he:y.ends.length≤1000000):
 Calls Tryz.prog 8 #[.pointer (some ⟨wb,0,none⟩)] W0 fun e w'=>∃ve',e= .returned (.tuple #[])∧bY w' base wb d lb mo va vg vm ve' {y with ends:=y.ends++[n],safe:=max y.safe v.safe,start:=v.start}∧Turn (jg wb va vg vm ve) W0 w'∧∀k∈ve'.ownBlock,k∈ve.ownBlock∨W0.heap.size≤k:=by
 obtain⟨S,hS⟩:∃S,S=ve.ownBlock.toList:=⟨_,rfl⟩;have hbw:base≤W0.heap.size:=Nat.le_of_lt (Nat.lt_of_le_of_lt h.low h.cells.2.2.2.2.2.2.2.2.2.2);have Xk:∀k∈S,k<W0.heap.size:=fun k hk=>(h.lU.lt k (by rw[hS]at hk;simpa using hk)).2
 have hSw:wb∉S:=fun hm=>by
  obtain⟨cs,e⟩:=h.lU.kind wb (by rw[hS]at hm;simpa using hm);exact aW e h.box (by decide) rfl
 have hen:∀Z,Turn S W0 Z→Calls Tryz.prog 14 #[.pointer (some ⟨lb,0,none⟩)] Z fun e w'=>e= .returned (.int .i64 (n:Int))∧Turn [] Z w':=fun Z hZ=>by
  have hlz:=hl.kept hZ (fun k hk hm=>h.apart hl k (bV.2 (.inr (.inr (.inr (.inr (by rw[hS]at hm;simpa using hm)))))) hk);have:=kD Z base d F A lb gv dir v ms0 m hlz hm hx;rw[hn]at this;exact this
 have hcs:∀Z,Turn S W0 Z→Z.cell? ⟨wb,1,none⟩=some (.pointer (some ⟨lb,0,none⟩))∧Z.cell? ⟨wb,6,none⟩=some ve∧wb<Z.heap.size:=fun Z hZ=>by
  have hb:=hZ.heap h.box hSw;exact⟨by rw[cell_of hb];rfl,by rw[cell_of hb];rfl,lt_of_heap hb⟩
 have H:=hide h;have HL:=hide hl;have Lj:=hide hen;have HC:=hide hcs;have Ua:=hide Xk;have HS:=hide hS;have HBW:=hide hbw;have HSW:=hide hSw;clear h hl hen hn hcs Xk hbw hSw hS;go_enter Tryz.func8,Tryz.ntmps8
 go_wp2
 refine bP 12 (Turn S) (Turn []) (fun k w=>match k with|0=>(fun w'=>aO 3 1 uK w' base ve y.ends) w|_=>(fun w'=>Turn S W0 w') w) [11] (by kernel_rfl) (by kernel_rfl) (by kernel_rfl) (by kernel_rfl) (by kernel_rfl) (by kernel_rfl) (Nat.le_of_ble_eq_true rfl) (by decide) rfl (Turn.refl _) (fun _ _ _ h k=>h.same k) (fun _ _ h=>h.mono (by simp)) ?_ ?_ ?_
 ·intro k a b hk hR
  match k,hk with
  |0,hk=>
   have hk:=(show(fun w'=>aO 3 1 uK w' base ve y.ends) a from hk);dsimp only at hk;show(fun w'=>aO 3 1 uK w' base ve y.ends) b;dsimp only;first|exact hk.still hR|exact hk.same (hR.mono (by simp))
  |_+1,hk=>
   have hk:=(show(fun w'=>Turn S W0 w') a from hk);dsimp only at hk;show(fun w'=>Turn S W0 w') b;dsimp only;first|exact hk.still hR|exact hk.same (hR.mono (by simp))
 ·show(fun w'=>aO 3 1 uK w' base ve y.ends) _
  dsimp only;exact H.out.lU.still ((Turn.refl [] _).drew)
 apply Lo.r0 1 rfl 0 (by intro u;conv=>lhs;whnf) rfl
 ·intro a w1 hR e0 K hK
  go_simp
  exact hK _ rfl
 apply Lo.r0 2 rfl 0 (by intro u;conv=>lhs;whnf) rfl
 ·intro a w1 hR e0 K hK
  go_simp
  exact hK _ rfl
 apply Lo.r1 3 rfl 3 1 (fun _=>rfl) rfl (by kernel_rfl)
 ·intro a w1 hR e3 K hK
  go_simp
  exact hK _ rfl
 apply Lo.r1 4 rfl 4 2 (fun _=>rfl) rfl (by kernel_rfl)
 ·intro a w1 hR e4 K hK
  go_simp
  exact hK _ rfl
 refine Lo.df 5 rfl rfl [3] (ve) (by kernel_rfl) (fun u w1 hR hF=>?_) (Turn.refl _) ?_
 ·obtain⟨h3, -⟩:=hF
  refine⟨rfl,fun a ha K hK=>?_⟩;have e5:=(ha 5).trans h3;clear ha h3;obtain⟨-,q6,z6⟩:=HC.out w1 hR.dr;go_simp
  exact hK _ rfl
 apply Lo.r0 6 rfl 0 (by intro u;conv=>lhs;whnf) rfl
 ·intro a w1 hR e0 K hK
  go_simp
  exact hK _ rfl
 apply Lo.r1 7 rfl 7 5 (fun _=>rfl) rfl (by kernel_rfl)
 ·intro a w1 hR e7 K hK
  go_simp
  exact hK _ rfl
 apply Lo.r1 8 rfl 8 6 (fun _=>rfl) rfl (by kernel_rfl)
 ·intro a w1 hR e8 K hK
  go_simp
  exact hK _ rfl
 apply Lo.r1 9 rfl 9 7 (fun _=>rfl) rfl (by kernel_rfl)
 ·intro a w1 hR e9 K hK
  obtain⟨q1, -,z6⟩:=HC.out w1 hR.dr;go_simp
  exact hK _ rfl
 refine Lo.run 10 rfl rfl [8] (fun x w'=>x= .int .i64 (n:Int)) (by kernel_rfl) (fun x w w' h hR=>?_) (fun _ _ h=>h.mono (by simp)) (fun u w1 hR hF=>?_) ?_
 ·exact h
 ·obtain⟨h8, -⟩:=hF
  refine⟨rfl,fun a ha K hK=>?_⟩;have e10:=(ha 10).trans h8;clear ha h8;go_simp
  refine(Lj.out w1 hR.dr).mono ?_;rintro e w2 ⟨rfl,ht2⟩;exact hK _ _ rfl ht2
 refine Lo.run 11 rfl rfl [9] (fun x w'=>∃q,x= .slice (some ⟨q,0,none⟩) 1 1∧w'.heap[q]? =some (.cells (uK n).toArray 3 (0,0))∧W0.heap.size≤q) (by kernel_rfl) (fun x w w' h hR=>?_) (fun _ _ h=>h.mono (by simp)) (fun u w1 hR hF=>?_) ?_
 ·obtain⟨q,h1,h2,h3⟩:=h;exact⟨q,h1,hR.heap h2 (fun hm=>by have:=Ua.out _ hm;omega),h3⟩
 ·obtain⟨h9, -⟩:=hF
  refine⟨rfl,fun a ha K hK=>?_⟩;have e11:a.tmps.getD 11 undef=u 9:=ha 11;have h9:=(show(fun x w'=>x= .int .i64 (n:Int)) (u 9) w1 from h9);dsimp only at h9;clear ha;rw[h9]at e11;have e11':a.tmps[11]?.getD undef= .int .i64 (n:Int):=by rw[←Array.getD_eq_getD_getElem?,e11]
  go_simp
  exact hK _ _ ⟨w1.heap.size,rfl,ai w1 _,hR.size⟩ ((Turn.refl [] _).alloc _)
 refine Lo.je 12 rfl 0 rfl [4,10] (fun x w'=>aO 3 1 uK w' base x (y.ends++[n])∧∀q∈x.ownBlock,q∈ve.ownBlock∨W0.heap.size≤q) (by kernel_rfl) (fun x w w' h hR=>?_) (.inl (by kernel_rfl)) (fun u w1 hR hS hF=>?_) ?_
 ·exact⟨h.1.still hR,h.2⟩
 ·obtain⟨h4,h10, -⟩:=hF
  have hS:=(show(fun w'=>aO 3 1 uK w' base ve y.ends) w1 from hS);dsimp only at hS;refine⟨rfl,fun a ha K hK=>?_⟩;have e6:=(ha 6).trans h4;have e12:a.tmps.getD 12 undef=u 10:=ha 12;have h10:=(show(fun x w'=>∃q,x= .slice (some ⟨q,0,none⟩) 1 1∧w'.heap[q]? =some (.cells (uK n).toArray 3 (0,0))∧W0.heap.size≤q) (u 10) w1 from h10)
  dsimp only at h10;clear ha h4;obtain⟨kk,hx6,hc6,hk6⟩:=h10;rw[hx6]at e12;obtain⟨v7,w7,hr7,aai,ht7,aaq⟩:=GV w1 base ve y.ends n kk hS hc6 he (by have:=hR.size;have:=HBW.out;simp at*;omega);have aiN:=hR.size;clear hx6 hc6;exact Sn.kC rfl e6 e12 hr7 (hK _ _ ⟨aai,fun q hq=>(aaq q hq).elim .inl (fun h=> .inr (Nat.le_trans aiN h))⟩ (by rw[HS.out];exact ht7) (hR.dr.same (by rw[HS.out];exact ht7)))
 refine Lo.done [0,11] (fun u w1 bI hSd hF=>?_);have hSd:=(show(fun w'=>Turn S W0 w') w1 from hSd);dsimp only at hSd;obtain⟨f0,f11, -⟩:=hF;have d0:u 0=_:=f0;have d11:=(show(fun x w'=>aO 3 1 uK w' base x (y.ends++[n])∧∀q∈x.ownBlock,q∈ve.ownBlock∨W0.heap.size≤q) (u 11) w1 from f11);dsimp only at d11;clear f0 f11;simp only[List.take_succ_cons,List.take_zero,List.drop_succ_cons,List.drop_zero,ax,Act.put,List.setIfInBounds_toArray,List.set_cons_succ,List.set_cons_zero,Nat.zero_add,Nat.reduceAdd,d0];obtain⟨aai,aaq⟩:=d11;obtain⟨v',hv'⟩:∃v',v'=u 11:=⟨_,rfl⟩;rw[←hv']at aai aaq⊢;have hTS:Turn S W0 w1:=hSd;have hTW:Turn (jg wb va vg vm ve) W0 w1:=hTS.mono (fun k hk=> .inl (bV.2 (.inr (.inr (.inr (.inr (by rw[HS.out]at hk;simpa using hk)))))));have hl1:=HL.out.kept hTW (fun k hk hm=>H.out.apart HL.out k hm hk);have hw2:=H.out.Vb (by rw[←HS.out];exact hTS) aai;have ht2:Turn (jg wb va vg vm ve) w1 (w1.setCell ⟨wb,6,none⟩ v'):=(Turn.refl _ _).setCell (.inl (by simp[jg])) _;obtain⟨w2,XH⟩:∃w2,w2=w1.setCell ⟨wb,6,none⟩ v':=⟨_,rfl⟩;have hl2:=hl1.kept ht2 (fun k hk hm=>by
  have hz:=H.out.apart HL.out k hm;exact hz hk)
 have hb1:=hTS.heap H.out.box HSW.out;have f6:w1.frozen? ⟨wb,6,none⟩=false:=au hb1 6;have q6:w1.cell? ⟨wb,6,none⟩=some ve:=by rw[cell_of hb1];rfl
 have z6:=lt_of_heap hb1;rw[←XH]at hw2 hl2 ht2;have aae:=hide XH;have HW2:=hide hw2;have HL2:=hide hl2;have HT2:=hide (hTW.same ht2);have aei:=hide aaq;obtain⟨va1,vc1,Yn, -, -⟩:=aai.form;rw[List.length_append,List.length_singleton]at Yn;have HVF:=hide Yn;clear aai aaq hTS hTW hl1 hw2 ht2 hl2 hb1 XH bI hSd hv' d0;rw[Yn];go_wp2
 rw[←HVF.out,←aae.out];clear aae f6 q6 z6 HVF Yn va1 vc1;clear hSd;clear w1;have ahG:∀Z,Turn [] w2 Z→Z.cell? ⟨wb,1,none⟩=some (.pointer (some ⟨lb,0,none⟩))∧Z.cell? ⟨wb,7,none⟩=some (.int .i64 y.safe)∧wb<Z.heap.size∧Z.frozen? ⟨wb,7,none⟩=false:=fun Z hZ=>by
  obtain⟨c0,c1,c2,c3,c4,c5,c6,c7,c8,c9,hz⟩:=(HW2.out.still hZ).cells;exact⟨c1,c7,hz,(HW2.out.still hZ).frozen 7⟩
 have HC2:=hide ahG;clear ahG HC;refine gU 11 [] (by kernel_rfl) rfl ?_;apply Lo.r0 1 rfl 0 (by intro u;conv=>lhs;whnf) rfl
 ·intro a w1 hR e0 K hK
  go_simp
  exact hK _ rfl
 apply Lo.r0 2 rfl 0 (by intro u;conv=>lhs;whnf) rfl
 ·intro a w1 hR e0 K hK
  go_simp
  exact hK _ rfl
 apply Lo.r1 3 rfl 17 1 (fun _=>rfl) rfl (by kernel_rfl)
 ·intro a w1 hR e17 K hK
  go_simp
  exact hK _ rfl
 apply Lo.r1 4 rfl 18 2 (fun _=>rfl) rfl (by kernel_rfl)
 ·intro a w1 hR e18 K hK
  go_simp
  exact hK _ rfl
 apply Lo.r1 5 rfl 19 3 (fun _=>rfl) rfl (by kernel_rfl)
 ·intro a w1 hR e19 K hK
  obtain⟨-,q7,z7, -⟩:=HC2.out w1 hR.dr;go_simp
  exact hK _ rfl
 apply Lo.r0 6 rfl 0 (by intro u;conv=>lhs;whnf) rfl
 ·intro a w1 hR e0 K hK
  go_simp
  exact hK _ rfl
 apply Lo.r1 7 rfl 21 5 (fun _=>rfl) rfl (by kernel_rfl)
 ·intro a w1 hR e21 K hK
  go_simp
  exact hK _ rfl
 apply Lo.r1 8 rfl 22 6 (fun _=>rfl) rfl (by kernel_rfl)
 ·intro a w1 hR e22 K hK
  go_simp
  exact hK _ rfl
 apply Lo.r1 9 rfl 23 7 (fun _=>rfl) rfl (by kernel_rfl)
 ·intro a w1 hR e23 K hK
  obtain⟨q1, -,z7, -⟩:=HC2.out w1 hR.dr;go_simp
  exact hK _ rfl
 refine Lo.run 10 rfl rfl [8] (fun x w'=>x= .int .i64 v.safe) (by kernel_rfl) (fun x w w' h hR=>?_) (fun _ _ h=>h) (fun u w1 hR hF=>?_) ?_
 ·exact h
 ·obtain⟨h8, -⟩:=hF
  refine⟨rfl,fun a ha K hK=>?_⟩;have e24:=(ha 24).trans h8;clear ha h8;go_simp
  refine(TC w1 base d F A lb gv dir v _ (HL2.out.still hR.dr)).mono ?_;rintro e w5 ⟨rfl,rfl⟩;exact hK _ _ rfl (Turn.refl _ _)
 refine Lo.df 11 rfl rfl [4,9] (.int .i64 (max y.safe v.safe)) (by kernel_rfl) (fun u w1 hR hF=>?_) (Turn.refl _) ?_
 ·obtain⟨h4,h9, -⟩:=hF
  refine⟨rfl,fun a ha K hK=>?_⟩;have e20:=(ha 20).trans h4;have e25:a.tmps.getD 25 undef=u 9:=ha 25;have h9:=(show(fun x w'=>x= .int .i64 v.safe) (u 9) w1 from h9);dsimp only at h9;clear ha h4;rw[h9]at e25;go_simp
  exact hK _ rfl
 refine Lo.done [0,10] (fun u w1 bI hSd hF=>?_);clear hSd;obtain⟨f0,f10, -⟩:=hF;have d0:u 0=_:=f0;have d10:u 10=_:=f10;clear f0 f10;simp only[List.take_succ_cons,List.take_zero,List.drop_succ_cons,List.drop_zero,ax,Act.put,List.setIfInBounds_toArray,List.set_cons_succ,List.set_cons_zero,Nat.zero_add,Nat.reduceAdd,d0,d10];have HT3:=hide bI.dr;obtain⟨w3,XI⟩:∃w3,w3=w1.setCell ⟨wb,7,none⟩ (.int .i64 (max y.safe v.safe)):=⟨_,rfl⟩;obtain⟨q1,q7,z7,f7⟩:=HC2.out w1 HT3.out;have hw3:=(HW2.out.still HT3.out).put (i:=7) (u:= .int .i64 (max y.safe v.safe)) (lb':=lb) (y':={y with ends:=y.ends++[n],safe:=max y.safe v.safe}) rfl rfl rfl rfl rfl;have ht3:Turn [wb] w1 (w1.setCell ⟨wb,7,none⟩ (.int .i64 (max y.safe v.safe))):=(Turn.refl _ _).setCell (.inl (by simp)) _;have hl3:=(HL2.out.still HT3.out).kept ht3 (fun k hk hm=>by
  obtain rfl:=List.mem_singleton.1 hm;exact(HW2.out.still HT3.out).apart (HL2.out.still HT3.out) k (bV.2 (.inl rfl)) hk)
 rw[←XI]at hw3 ht3 hl3;have aqp:=hide XI;have HW3:=hide hw3;have HL3:=hide hl3;have HT4:=hide ((HT2.out.same (HT3.out.mono (by simp))).same (ht3.mono (T:=jg wb va vg vm ve) (fun k hk=> .inl (bV.2 (.inl (by simpa using hk))))));clear XI hw3 ht3 hl3 HC2 d0 d10 bI;go_wp2_with fail
 rw[←aqp.out];refine(qE w3 base d F A lb gv dir v _ HL3.out).mono ?_;rintro e w4 ⟨rfl,rfl⟩;obtain⟨-, -, -, -, -, -, -, -,q8, -,z8⟩:=HW3.out.cells;have f8:=HW3.out.frozen 8;have hw5:=HW3.out.put (i:=8) (u:= .int .i64 v.start) (lb':=lb) (y':={y with ends:=y.ends++[n],safe:=max y.safe v.safe,start:=v.start}) rfl rfl rfl rfl rfl;have ht5:Turn (jg wb va vg vm ve) W0 (w3.setCell ⟨wb,8,none⟩ (.int .i64 v.start)):=HT4.out.same ((Turn.refl _ _).setCell (.inl (by simp[jg])) _);have HW5:=hide hw5;have HT5:=hide ht5;clear hw5 ht5;go_wp2
 go_end0
 exact⟨v',rfl,HW5.out,HT5.out,aei.out⟩
section
variable (w:World) (base wb d lb:Nat) (mo:Int) (va vg vm ve:Value) (y:LW) (h:bY w base wb d lb mo va vg vm ve y)
include h
theorem TD(hd:y.down=false)(F:List Nat)(A:DA)(gv:Value)(dir:ByteArray)(v:LV)(ms0:List SM)(m:SM)(hl:az w base d F A lb gv dir v (ms0++[m]))(hm:ms0.length≤1000000)(hx:m.xs.length≤1000000)(n:Nat)(hn:ae m.n m.xs=n)(he:y.ends.length≤1000000):
 Calls Tryz.prog 26 #[.pointer (some ⟨wb,0,none⟩), .nilIface] w fun e w'=>∃ve',e= .returned (.bool true)∧bY w' base wb d lb mo va vg vm ve' {y with ends:=y.ends++[n],safe:=max y.safe v.safe,start:=v.start}∧Turn (jg wb va vg vm ve) w w'∧∀k∈ve'.ownBlock,k∈ve.ownBlock∨w.heap.size≤k:=by
 have hno:=F9 w base wb d lb mo va vg vm ve y h F A gv dir v ms0 m hl hm hx n hn he;obtain⟨-, -, -, -, -, -, -, -, -,q9,z9⟩:=h.cells;rw[hd]at q9;have HN:=hide hno;clear h hno hl hn hd;go_enter Tryz.func26,Tryz.ntmps26
 go_wp2_with fail
 refine(As.Jm _).mono ?_;rintro e w1 ⟨rfl,rfl⟩;go_wp2_with fail
 refine HN.out.mono ?_;rintro e w2 ⟨ve',rfl,h1,h2,h3⟩;go_wp2
 go_ret
 exact⟨ve',rfl,h1,h2,h3⟩
theorem TE(hg:As.iq w)(c:Int)(h0:c≠0):
 Calls Tryz.prog 26 #[.pointer (some ⟨wb,0,none⟩),bQ c] w fun e w'=>e= .returned (.bool (if c=6 then y.down else true))∧bY w' base wb d lb mo va vg vm ve {y with down:=if c=14 then true else y.down}∧Turn [wb] w w':=by
 have H:=hide h;have HG:=hide hg;clear h hg;go_enter Tryz.func26,Tryz.ntmps26
 go_wp2_with fail
 refine(As.rC c w HG.out).mono ?_;rintro e w1 ⟨rfl,hb1⟩;have ht1:Turn [] w w1:=Turn.of_below hb1 [];have H1:=hide (H.out.still ht1);have HT1:=hide ht1;obtain⟨-, -, -, -, -, -, -, -, -,q9,z9⟩:=H1.out.cells;have f9:=H1.out.frozen 9;have hw2:=H1.out.put (i:=9) (u:= .bool true) (lb':=lb) (y':={y with down:=true}) rfl rfl rfl rfl rfl;have ht2:Turn [wb] w (w1.setCell ⟨wb,9,none⟩ (.bool true)):=(ht1.mono (by simp)).same ((Turn.refl _ _).setCell (.inl (by simp)) _);have HW2:=hide hw2;have HT2:=hide ht2;clear hb1 ht1 hw2 ht2;by_cases h14:c=14
 ·subst h14
  go_wp2
  go_ret
  exact⟨rfl,HW2.out,HT2.out⟩
 ·by_cases h6:c=6
  ·subst h6
   go_wp2
   go_ret
   exact⟨rfl,H1.out,HT1.out.mono (by simp)⟩
  ·go_wp2
   go_ret
   exact⟨rfl,H1.out,HT1.out.mono (by simp)⟩
end
end Lg
end
section
open Go.RowKit Go.Maps
set_option maxRecDepth 100000
namespace Lg
theorem XJ:(Tryz.prog.info? 4).map (fun i=>(i.zero.map (fun z=>z.cells.size),i.size,i.bytes))=some (some 1,1,1):=by kernel_rfl
theorem Hy:∃i z,Tryz.prog.info? 4=some i∧i.zero=some z∧z.cells.size=1∧i.size=1∧i.bytes≤1000:=by
 have h:=XJ;cases hi:Tryz.prog.info? 4 with
 |none=>rw[hi]at h;cases h
 |some i=>
  rw[hi]at h;simp only[Option.map_some,Option.some.injEq,Prod.mk.injEq,Option.map_eq_some_iff]at h;obtain⟨⟨z,hz,hz2⟩,h2,h3⟩:=h;exact⟨i,z,rfl,hz,hz2,h2,by omega⟩
theorem TF(w:World)(base:Nat)(v:Value)(xs:List Bool)(x:Bool)(k:Nat)(Pe:aO 4 1 EL w base v xs)(hk:w.heap[k]? =some (.cells (EL x).toArray 4 (0,0))) (aah:xs.length≤1000000) (aas:base≤w.heap.size):
 ∃v' w',(Builtin.append_ #[35,35] 35 #[v, .slice (some ⟨k,0,none⟩) 1 1]).run Tryz.prog w= .ok v' w'∧aO 4 1 EL w' base v' (xs++[x])∧Turn v.ownBlock.toList w w'∧(∀j∈v'.ownBlock,j∈v.ownBlock∨w.heap.size≤j):=by
 obtain⟨i,z,hi,hz,hzs,hs,hb⟩:=Hy;exact jB (P:=Tryz.prog) 35 35 Tryz.underlying35 i z hi hz hzs hs hb rM (by intro x u hu;simp[EL]at hu;subst hu;rfl) w base v xs x k Pe hk aah aas
theorem pJ{w:World}{base:Nat}{a:Option Addr}{c:Nat}{xs:List Bool}(h:aO 4 1 EL w base (.slice a xs.length c) xs){j:Nat}(hj:j<xs.length):∃g,a=some ⟨g,0,none⟩∧∀Z,Turn [] w Z→Z.cell? ⟨g,j,none⟩=some (.bool xs[j]):=by
 obtain⟨g,cap,e,hc, -⟩:=h.at rM (j:=j) hj;simp only[Value.slice.injEq,true_and]at e;obtain⟨rfl,rfl⟩:=e;refine⟨g,rfl,fun Z hZ=>?_⟩;obtain⟨g',cap',e,hc', -⟩:=(h.still hZ).at rM (j:=j) hj;simp only[Value.slice.injEq,Option.some.injEq,Addr.mk.injEq,and_true]at e;obtain⟨rfl, -⟩:=e;simpa[EL]using hc' 0 (by omega)
theorem Hz{w:World}{base:Nat}{a:Option Addr}{c:Nat}{xs:List Nat}(h:aO 3 1 uK w base (.slice a xs.length c) xs){j:Nat}(hj:j<xs.length):∃g,a=some ⟨g,0,none⟩∧∀Z,Turn [] w Z→Z.cell? ⟨g,j,none⟩=some (.int .i64 (xs[j]:Nat)):=by
 obtain⟨g,cap,e,hc, -⟩:=h.at wO (j:=j) hj;simp only[Value.slice.injEq,true_and]at e;obtain⟨rfl,rfl⟩:=e;refine⟨g,rfl,fun Z hZ=>?_⟩;obtain⟨g',cap',e,hc', -⟩:=(h.still hZ).at wO (j:=j) hj;simp only[Value.slice.injEq,Option.some.injEq,Addr.mk.injEq,and_true]at e;obtain⟨rfl, -⟩:=e;simpa[uK]using hc' 0 (by omega)
section
variable {w:World} {base wb d lb:Nat} {mo:Int} {va vg vm ve:Value} {y:LW} {g l c:Nat}
theorem bY.Ia(h:bY w base wb d lb mo va (.slice (some ⟨g,0,none⟩) l c) vm ve y){j:Nat}(hj:j<y.gone.length)(b:Bool):bY (w.setCell ⟨g,j,none⟩ (.bool b)) base wb d lb mo va (.slice (some ⟨g,0,none⟩) l c) vm ve {y with gone:=y.gone.set j b}:=by
 have ht:Turn [g] w (w.setCell ⟨g,j,none⟩ (.bool b)):=(Turn.refl _ _).setCell (.inl (by simp)) _;have hgo:g∈(Value.slice (some ⟨g,0,none⟩) l c).ownBlock:=by simp[Value.ownBlock]
 obtain⟨cg,eg⟩:=h.fV.kind g hgo;have hne:∀{T:TypeId} {cs:Array Value} {k:Nat},w.heap[k]? =some (.cells cs T (0,0))→T≠4→k∉[g]:=fun e hT hm=>by
  rw[List.mem_singleton.1 hm]at e;exact aW e eg hT rfl
 have hr:=h.fV.set rM (j:=j) (i:=0) hj (by omega) (u:= .bool b) (x':=b) rfl;rw[Nat.mul_one,Nat.add_zero]at hr;exact⟨ht.heap h.box (hne h.box (by decide)),h.kT.kept ht (fun k hk=>by obtain⟨cs,e⟩:=h.kT.kind k hk;exact hne e (by decide)),hr,h.nH.kept ht (fun k hk hm=>h.gm g hgo (by rw[←List.mem_singleton.1 hm];exact hk)),h.lU.kept ht (fun k hk=>by obtain⟨cs,e⟩:=h.lU.kind k hk;exact hne e (by decide)),h.gm,h.low⟩
theorem bY.XK(h:bY w base wb d lb mo va vg (.slice (some ⟨g,0,none⟩) l c) ve y){j:Nat}(hj:j<y.may.length)(b:Bool):bY (w.setCell ⟨g,j,none⟩ (.bool b)) base wb d lb mo va vg (.slice (some ⟨g,0,none⟩) l c) ve {y with may:=y.may.set j b}:=by
 have ht:Turn [g] w (w.setCell ⟨g,j,none⟩ (.bool b)):=(Turn.refl _ _).setCell (.inl (by simp)) _;have hgo:g∈(Value.slice (some ⟨g,0,none⟩) l c).ownBlock:=by simp[Value.ownBlock]
 obtain⟨cg,eg⟩:=h.nH.kind g hgo;have hne:∀{T:TypeId} {cs:Array Value} {k:Nat},w.heap[k]? =some (.cells cs T (0,0))→T≠4→k∉[g]:=fun e hT hm=>by
  rw[List.mem_singleton.1 hm]at e;exact aW e eg hT rfl
 have hr:=h.nH.set rM (j:=j) (i:=0) hj (by omega) (u:= .bool b) (x':=b) rfl;rw[Nat.mul_one,Nat.add_zero]at hr;exact⟨ht.heap h.box (hne h.box (by decide)),h.kT.kept ht (fun k hk=>by obtain⟨cs,e⟩:=h.kT.kind k hk;exact hne e (by decide)),h.fV.kept ht (fun k hk hm=>h.gm k hk (by rw[List.mem_singleton.1 hm];exact hgo)),hr,h.lU.kept ht (fun k hk=>by obtain⟨cs,e⟩:=h.lU.kind k hk;exact hne e (by decide)),h.gm,h.low⟩
theorem bY.TG(h:bY w base wb d lb mo va (.slice (some ⟨g,0,none⟩) l c) vm ve y)(i:Nat):w.frozen? ⟨g,i,none⟩=false∧g<w.heap.size:=by
 obtain⟨cs,e⟩:=h.fV.kind g (by simp[Value.ownBlock]);exact⟨au e i,lt_of_heap e⟩
theorem bY.mayF(h:bY w base wb d lb mo va vg (.slice (some ⟨g,0,none⟩) l c) ve y)(i:Nat):w.frozen? ⟨g,i,none⟩=false∧g<w.heap.size:=by
 obtain⟨cs,e⟩:=h.nH.kind g (by simp[Value.ownBlock]);exact⟨au e i,lt_of_heap e⟩
end
end Lg
end
section
open Go.RowKit Go.Maps
open Dk (DA FA aH)
open Sg (Chain flat ae)
namespace Lg
structure kF(A:DA)(v:LV)(ss0:List (Nat×List Bt.aB))(m:Nat×List Bt.aB)(js n i mo:Nat)(X:List FA)(y:LW):Prop where
 inv:eG A 1048576 aX X 0 n ss0 m js
 qK:Qa aX X
 x1:X.length≤1
 x0:v.down=false→X=[]
 recs:gq y.all y.gone y.may y.down (dH ss0 m) n (aK (af (ss0++[m])))
 ends:∀e:Nat,jF m js (e:Int)→e∈y.ends
 safe:y.safe≤v.safe
 sk:uO v m js
 dn:y.down=v.down
 most:v.most=(mo:Int)
 nn:n≤60*i
 fl:(flat (af (ss0++[m]))).length≤6000*i
 xl:aH X≤6000*i
 sl:ss0.length≤i
 el:y.ends.length≤i+1
 ok:∀r∈y.all,iQ r
section
variable {A A':DA} {v v':LV} {ss0 ss0':List (Nat×List Bt.aB)} {m m':Nat×List Bt.aB} {js js' n i mo:Nat} {X:List FA} {y:LW}
theorem kF.more(h:kF A v ss0 m js n i mo X y):kF A v ss0 m js n (i+1) mo X y:=
 ⟨h.inv,h.qK,h.x1,h.x0,h.recs,h.ends,h.safe,h.sk,h.dn,h.most,by have:=h.nn;omega,by have:=h.fl;omega,by have:=h.xl;omega,by have:=h.sl;omega,by have:=h.el;omega,h.ok⟩
theorem kF.VU(h:kF A v ss0 m js n i mo X y):kF A v ss0 m js n (i+1) mo X {y with ends:=y.ends++[n],safe:=max y.safe v.safe,start:=v.start}:=
 ⟨h.inv,h.qK,h.x1,h.x0,h.recs,fun e he=>List.mem_append_left _ (h.ends e he),by have:=h.safe;show max y.safe v.safe≤v.safe;omega,h.sk,h.dn,h.most,by have:=h.nn;omega,by have:=h.fl;omega,by have:=h.xl;omega,by have:=h.sl;omega,by have:=h.el;simp;omega,h.ok⟩
theorem kF.Vd(h:kF A v ss0 m js n i mo X y)(hk:eG A' 1048576 aX X 0 n ss0 m m.2.length):kF A' {v with safe:=(n:Int)} ss0 m m.2.length n i mo X y:=
 ⟨hk,h.qK,h.x1,h.x0,h.recs,fun e he=>h.ends e (vO h.inv.js he),by
   have h1:=h.sk n (by rw[←h.inv.qm.next];exact vN h.inv.js);have:=h.safe;show y.safe≤(n:Int);omega,fun e he=>by rw[qN he,h.inv.qm.next];exact Int.le_refl _,h.dn,h.most,h.nn,h.fl,h.xl,h.sl,h.el,h.ok⟩
theorem kF.fell(h:kF A v ss0 m js n i mo X y):kF A {v with down:=true} ss0 m js n i mo X {y with down:=true}:=
 ⟨h.inv,h.qK,h.x1,fun hd=>by simp at hd,h.recs.down,h.ends,h.safe,h.sk,rfl,h.most,h.nn,h.fl,h.xl,h.sl,h.el,h.ok⟩
theorem kF.dropped(h:kF A v ss0 m js n i mo X y){k:Nat}(hk:k≤ss0.length)(hi:eG A' 1048576 aX X 0 n (ss0.drop k) m js)(h1:v'.most=v.most)(h2:v'.safe=v.safe)(h3:v'.down=v.down):kF A' v' (ss0.drop k) m js n i mo X y:=by
 obtain⟨d1,d2,d3⟩:=h.inv.qm.drops hk;have hfl:(flat (af (ss0.drop k++[m]))).length≤(flat (af (ss0++[m]))).length:=by
  have e:af (ss0++[m])=af (ss0.take k)++af (ss0.drop k++[m]):=by rw[←qO,←List.append_assoc,List.take_append_drop]
  rw[e,Sg.aP,List.length_append];omega
 exact⟨hi,h.qK,h.x1,fun hd=>h.x0 (by rw[←h3];exact hd),h.recs.less d1 d2 d3,h.ends,by rw[h2];exact h.safe,fun e he=>by rw[h2];exact h.sk e he,by rw[h3];exact h.dn,by rw[h1];exact h.most,h.nn,Nat.le_trans hfl h.fl,h.xl,by have:=h.sl;simp;omega,h.el,h.ok⟩
end
section
variable {A A':DA} {v v':LV} {ss0 ss0':List (Nat×List Bt.aB)} {m m':Nat×List Bt.aB} {js js' n i mo:Nat} {X:List FA} {y:LW}
theorem TI(b:Nat)(rs:List Bt.Rec):∀(k:Nat) r,(gp b rs)[k]? =some r→r.off=((b+k:Nat):Int):=by
 intro k r e;unfold gp at e;rw[List.getElem?_map,List.getElem?_zipIdx]at e;obtain⟨p,hp,rfl⟩:=Option.map_eq_some_iff.1 e;obtain⟨q, -,rfl⟩:=Option.map_eq_some_iff.1 hp;simp
theorem kF.add(h:kF A v ss0 m js n i mo X y)(hd:v.down=false)(hi:i<60)(rs:List Bt.Rec)(hx:Bt.aQ (cO n rs)=0)(hrl:rs.length≤60):
 ∃c A' v' ss0' m' js',rX A aX v n ss0 m rs=(c,A',v',ss0'++[m'])∧
  ((c=0∧ae m'.1 m'.2=((n+rs.length:Nat):Int)∧kF A' v' ss0' m' js' (n+rs.length) (i+1) mo [] {y with all:=y.all++gp n rs,gone:=y.gone++List.replicate rs.length false,may:=y.may++List.replicate rs.length false,ends:=y.ends++[n+rs.length],safe:=max y.safe v'.safe,start:=v'.start})∨
   (c=14∧kF A' v' ss0' m' js' n (i+1) mo [] {y with down:=true})):=by
 obtain rfl:=h.x0 hd;have hby:=(Bt.dJ hx).2;have hbl:=Bt.gX (cO (n:Int) rs);have hnn:=h.nn;have hfl:=h.fl;have hsl:=h.sl;have hel:=h.el;obtain⟨c,A',v',ss0',m',js',e1,⟨g1,g2,g3,g4,g5,g6⟩,hc⟩:=h.inv.ladd (by omega) (by simp) (oU n (by omega)) (by simp;omega) rs hx (by simp[aH];omega) v h.sk;refine⟨c,A',v',ss0',m',js',e1,?_⟩;rcases hc with⟨rfl,k1,k2,k3,k4⟩|⟨rfl,k1,k2,k3,k4,k5,k6⟩
 ·refine .inl ⟨rfl,k2.qm.next,⟨k2,h.qK,h.x1,fun _=>rfl,?_,fun e he=>?_,by show max y.safe v'.safe≤v'.safe;have:=h.safe;omega,g5,by show y.down=v'.down;rw[k1];exact h.dn,by rw[g2];exact h.most,by omega,?_,by simp[aH],by omega,by simp;omega,fun r hr=>(List.mem_append.1 hr).elim (h.ok r) (fun hr=>Qb hx r hr)⟩⟩
  ·have hr:aK (af (ss0'++[m']))=aK (af (ss0++[m]))++gp n rs:=by
    rw[k3,kS];congr 1
    simp[aK,cO]
   have:=h.recs.add (rs:=gp n rs) (TI n rs);rw[ou]at this;rw[g3,hr];exact this
  ·rcases k4 e he with h1|h1
   ·exact List.mem_append_left _ (h.ends e h1)
   ·have:e=n+rs.length:=by omega
    simp[this]
  ·rw[k3,Sg.aP,Sg.gB,List.length_append]
   omega
 ·refine .inr ⟨rfl,⟨k4,h.qK,h.x1,fun _=>rfl,?_,fun e he=>h.ends e (k6 e he),by have:=h.safe;show y.safe≤v'.safe;omega,g5,k1.symm,by rw[g2];exact h.most,by omega,by rw[k5];omega,by simp[aH],by omega,by show y.ends.length≤_;omega,h.ok⟩⟩
  rw[g3,k5];exact h.recs.down
end
def Ep(all:List Bt.Rec)(gone:List Bool)(now ak:Int)(fr:Nat)(k:Nat):Prop:=k<fr∧∃r,all[k]? =some r∧gone[k]? =some false∧jf (dQ (iY all gone)) now ak r=true
section
variable {A A':DA} {v v':LV} {ss0 ss0':List (Nat×List Bt.aB)} {m m':Nat×List Bt.aB} {js js' n i mo:Nat} {X:List FA} {y:LW}
theorem QM.from(h:QM 0 n ss0 m):∀r∈aK (af (ss0++[m])),(dH ss0 m:Int)≤r.off:=by
 intro r hr;obtain⟨p,hp,hr⟩:=qP.1 hr;have h1:=tC h.Jn p hp;have h2:=pg (h.chains p hp) r hr;omega
theorem Es{f:List UInt8→Int}{now ak:Int}{r:Bt.Rec}:(aU f now ak [r]=[]↔jf f now ak r=true)∧(aU f now ak [r]=[r]↔jf f now ak r=false):=by
 unfold aU;cases h:jf f now ak r<;>simp[h]
theorem Qe(ss0:List (Nat×List Bt.aB))(m:Nat×List Bt.aB)(k:Nat)(f:List UInt8→Int)(now ak:Int):dH ((ss0.take k).map (dL f now ak)++ss0.drop k) m=dH ss0 m:=by
 cases ss0 with
 |nil=>simp
 |cons p r=>
  cases k with
  |zero=>simp
  |succ k=>simp[dH,dL]
theorem kF.comp(h:kF A v ss0 m js n i mo X y)(hd:v.down=false)(hi:i≤60)(now ak:Int){may' gone':List Bool}(hm:may'.length=n)(hg:gone'.length=n)(hmk:∀k:Nat,may'[k]? =some true↔y.may[k]? =some true∨Ep y.all y.gone now ak m.1 k) (hgk:∀k:Nat,gone'[k]? =some true↔y.gone[k]? =some true∨Ep y.all y.gone now ak m.1 k):
 ∃g c A' v' ss0' js' X',CompactS A aX v ss0 m now ak=(g,c,A',v',ss0'++[m])∧
  ((c=0∧kF A' v' ss0' m js' n i mo [] {y with may:=may',gone:=gone'})∨(c=14∧kF A' v' ss0' m js' n i mo X' {y with may:=may',down:=true})):=by
 obtain rfl:=h.x0 hd;have hfl:=h.fl;have hsl:=h.sl;obtain⟨g,c,A',v',k,X',js',e0,e1,e2,e3,e4,e5,e6,e7,e8,e9⟩:=h.inv.aac (now:=now) (ak:=ak) (fun n hn=>⟨MI n hn,oU n hn⟩) (by omega) hfl (by omega) v h.sk rfl;obtain⟨r1,r2,r3⟩:=Qc (ss0:=ss0) (m:=m) (k:=k) (dQ (aK (af (ss0++[m])))) now ak;have hrw:=h.recs;rw[show y.down=false from h.dn.trans hd]at hrw;have hgo:=fun r hr=>hrw.goes (jV h.inv.qm.chain) h.inv.qm.from now ak (r:=r) hr
 have aaw:∀r∈aK (af (ss0++[m])),r∉aK (af ((ss0.take k).map (dL (dQ (aK (af (ss0++[m])))) now ak)++ss0.drop k++[m]))→∀j:Nat,r.off=(j:Int)→Ep y.all y.gone now ak m.1 j:=by
  intro r hr hn j hj;obtain⟨h1,h2⟩:=r2 r hr hn;have h3:=h.inv.qm.before r h1;obtain⟨h4,h5, -⟩:=hrw.at hr hj;exact⟨by omega,r,h4,h5,by rw[hgo r hr];exact Es.1.1 h2⟩
 have hhd:=Qe ss0 m k (dQ (aK (af (ss0++[m])))) now ak;have VV:∀e:Nat,jF m js' (e:Int)→e∈y.ends:=fun e he=>h.ends e (vO e4 he)
 have hsf:y.safe≤v'.safe:=by have:=h.safe;omega
 have aah:((ss0.take k).map (dL (dQ (aK (af (ss0++[m])))) now ak)++ss0.drop k).length≤i:=by simp;omega
 refine⟨g,c,A',v',_,js',X',e1,?_⟩;rcases e9 with⟨rfl,k1,k2,rfl⟩|⟨rfl,k1,k2,k3,k4⟩
 ·refine .inl ⟨rfl,⟨e2,h.qK,h.x1,fun _=>rfl,?_,VV,hsf,e3,?_,by rw[e6];exact h.most,h.nn,e8,by simp[aH],aah,h.el,h.ok⟩⟩
  ·show gq y.all gone' may' y.down _ n _
   rw[show y.down=false from h.dn.trans hd,hhd];refine hrw.compact hm hg (fun j hj=>(hmk j).2 (.inl hj)) (fun j hj=>((hgk j).1 hj).imp id (fun hp=>(hmk j).2 (.inr hp))) (fun j hj=>(hgk j).2 (.inl hj)) (fun r hr=>⟨r1 r hr,fun j hj=>?_⟩) (fun r hr hn j hj=>(hgk j).2 (.inr (aaw r hr hn j hj)));obtain⟨h4,h5,h6⟩:=hrw.at (r1 r hr) hj;rw[List.getElem?_eq_getElem (by rw[hg];exact h6)];congr 1
   rw[←Bool.not_eq_true];intro ht;rcases(hgk j).1 (by rw[List.getElem?_eq_getElem (by rw[hg];exact h6),ht])with hq|⟨hq1,q,hq2,hq3,hq4⟩
   ·rw[h5]at hq;simp at hq
   ·rw[h4]at hq2
    obtain rfl:=Option.some.inj hq2;rcases r3 k2 r hr with hin|⟨hin,hst⟩
    ·have:=h.inv.qm.behind r hin
     omega
    ·rw[hgo r (r1 r hr),Es.2.1 hst]at hq4
     simp at hq4
  ·show y.down=v'.down
   rw[k1];exact h.dn
 ·refine .inr ⟨rfl,⟨e2,fun f hf=>?_,k3,fun hdn=>by rw[k1]at hdn;simp at hdn,?_,VV,hsf,e3,k1.symm,by rw[e6];exact h.most,h.nn,e8,?_,aah,h.el,h.ok⟩⟩
  ·obtain⟨⟨q1,q,q2,q3⟩, -⟩:=k4 f hf
   exact⟨q1,by rw[q3];exact MJ aX q.1⟩
  ·rw[hhd]
   exact hrw.mark hm (fun j hj=>(hmk j).2 (.inl hj)) r1 (fun r hr hn j hj=>(hmk j).2 (.inr (aaw r hr hn j hj)))
  ·cases X' with
   |nil=>simp[aH]
   |cons f r=>
    have:r=[]:=List.eq_nil_of_length_eq_zero (by simp only[List.length_cons]at k3;omega)
    subst this;have:=(k4 f (by simp)).2;simp[aH];omega
end
structure Oj(A:DA)(ss0:List (Nat×List Bt.aB))(m:Nat×List Bt.aB)(tail:List UInt8)(e i:Nat)(X:List FA)(y:LW):Prop where
 inv:JI A 1048576 aX X 0 e ss0 m tail
 qK:Qa aX X
 recs:gq (y.all.take e) (y.gone.take e) (y.may.take e) true (dH ss0 m) e (aK (af (ss0++[m])))
 ends:e∈y.ends
 safe:y.safe≤(e:Int)
 nn:e≤60*i
 fl:(flat (af (ss0++[m]))).length≤6000*i
 sl:ss0.length≤i
 ok:∀r∈y.all,iQ r
section
variable {A A3:DA} {v:LV} {ss0 ss:List (Nat×List Bt.aB)} {m:Nat×List Bt.aB} {js n i mo e:Nat} {X:List FA} {y:LW} {tail:List UInt8}
theorem Et{X X':List FA}(h:X'.map (·.name)=X.map (·.name))(hj:Qa aX X):Qa aX X':=by
 intro f hf;have h1:f.name∈X.map (·.name):=by rw[←h];exact List.mem_map_of_mem hf
 obtain⟨g,hg,e⟩:=List.mem_map.1 h1;rw[←e];exact hj g hg
theorem kF.gI(h:kF A v ss0 m js n i mo X y)(fs:List UInt8):∃e m' tail X',Oj (A.gI fs) ss0 m' tail e i X' y:=by
 obtain⟨j,tail,X',h1,h2,h3,h4⟩:=h.inv.gI (Nat.zero_le _) fs;obtain⟨c1,c2,c3⟩:=h.inv.qm.cuts (j:=j);have hge:=qJ ((h.inv.qm.chains m (by simp)).take j);obtain⟨e,he⟩:∃e:Nat,ae m.1 (m.2.take j)=(e:Int):=⟨(ae m.1 (m.2.take j)).toNat,by omega⟩;rw[he]at h4 c1 c2 c3;rw[Int.toNat_natCast]at h4;have hek:jF m js (e:Int):=⟨j,h1,h2,he.symm⟩;have hhd:dH ss0 (m.1,m.2.take j)=dH ss0 m:=by cases ss0<;>rfl
 have hfl:(flat (af (ss0++[(m.1,m.2.take j)]))).length≤(flat (af (ss0++[m]))).length:=by
  rw[aV,aV,Sg.aP,Sg.aP,List.length_append,List.length_append];have:=xW m.2 h2;rw[List.take_length]at this;simp only;omega
 refine⟨e,_,tail,X',h4,Et h3 h.qK,?_,h.ends e hek,by have:=h.sk _ hek;have:=h.safe;omega,by have:=h.nn;omega,Nat.le_trans hfl h.fl,h.sl,h.ok⟩;rw[hhd];exact h.recs.cut (by omega) c1 c2
theorem Oj.gI(h:Oj A ss0 m tail e i X y)(fs:List UInt8):∃X',Oj (A.gI fs) ss0 m tail e i X' y:=by
 obtain⟨X',h1,h2⟩:=h.inv.gI fs;exact⟨X',h2,Et h1 h.qK,h.recs,h.ends,h.safe,h.nn,h.fl,h.sl,h.ok⟩
theorem Oj.same{B:DA}(h:Oj A ss0 m tail e i X y)(h1:B.room=A.room)(h2:B.files=A.files):Oj B ss0 m tail e i X y:=⟨⟨h.inv.disk.same h1 h2,h.inv.qm,h.inv.scan⟩,h.qK,h.recs,h.ends,h.safe,h.nn,h.fl,h.sl,h.ok⟩
theorem kF.same{B:DA}(h:kF A v ss0 m js n i mo X y)(h1:B.room=A.room)(h2:B.files=A.files):kF B v ss0 m js n i mo X y:=⟨h.inv.same h1 h2,h.qK,h.x1,h.x0,h.recs,h.ends,h.safe,h.sk,h.dn,h.most,h.nn,h.fl,h.xl,h.sl,h.el,h.ok⟩
theorem Oj.opened(h:Oj A ss0 m tail e i X y){cs:List Nat}{c:Int}{st:Nat}(hcs:cs.Perm (aY aX (Dk.dN A (aX++⟨#[47]⟩:ByteArray).data.toList)))(hs:cs.Pairwise (· ≤ ·))(ho:Ej aX A (dU aX (Dk.dN A (aX++⟨#[47]⟩:ByteArray).data.toList) cs) st c A3 ss):
 (c=0∧ss=ss0++[m]∧eG A3 1048576 aX [] 0 e ss0 m m.2.length∧A3.limited=A.limited)∨(c=14∧A.limited=true∧∃X' tail',Oj A3 ss0 m tail' e i X' y):=by
 rcases h.inv.opened h.qK hcs hs ho with h1|⟨h1,h2, -,X',tail',h3,h4⟩
 ·exact .inl h1
 ·exact .inr ⟨h1,h2,X',tail',h4,fun f hf=>h.qK f (h3 f hf),h.recs,h.ends,h.safe,h.nn,h.fl,h.sl,h.ok⟩
theorem MP(hq:QM 0 n ss0 m):yf 0 (ss0++[m]) (ae m.1 m.2)=(dH ss0 m:Int):=by
 have h1:=hq.MN;have h2:=hq.le;have h3:=hq.next;have h4:((ss0++[m]).map (·.1)).headD 0=dH ss0 m:=by cases ss0<;>rfl
 unfold yf;rw[h4];omega
theorem Oj.done{B:DA}{v:LV}{gone':List Bool}{sf:Int}(h:Oj A ss0 m tail e i X y)(hk:eG B 1048576 aX [] 0 e ss0 m m.2.length)(hv1:v.most=(mo:Int))(hv2:v.safe=(e:Int))(hv3:v.down=false)(hg:gone'.length=e)(hgk:∀k:Nat,gone'[k]? =some true↔(y.gone.take e)[k]? =some true∨(dH ss0 m≤k∧∃r,(y.all.take e)[k]? =some r∧r∉aK (af (ss0++[m])))):
 kF B v ss0 m m.2.length e i mo [] ⟨y.all.take e,gone',y.may.take e,[e],e,v.start,false⟩:=
 ⟨hk,fun f hf=>by simp at hf,by simp,fun _=>rfl,h.recs.looked hg hgk,fun q hq=>by
   have h1:=qN hq;rw[hk.qm.next]at h1;have:q=e:=by omega
   simp[this],by show(e:Int)≤v.safe;omega,fun q hq=>by rw[qN hq,hk.qm.next,hv2];exact Int.le_refl _,hv3.symm,hv1,h.nn,h.fl,by simp[aH],h.sl,by simp,fun r hr=>h.ok r (List.mem_of_mem_take hr)⟩
end
end Lg
end
section
open Go.RowKit Go.Maps
namespace Lg
structure BG(recs:List Bt.Rec)(k i:Nat):Prop where
 le:k≤recs.length
 lo:∀(j:Nat) r,j<k→recs[j]? =some r→r.off<(i:Int)
 hi:∀(j:Nat) r,k≤j→recs[j]? =some r→(i:Int)≤r.off
section
variable {recs all:List Bt.Rec} {gone may:List Bool} {dn:Bool} {h n k i:Nat}
theorem BG.start(hh:∀r∈recs,(i:Int)≤r.off):BG recs 0 i:=⟨Nat.zero_le _,fun j r hj=>absurd hj (Nat.not_lt_zero _),fun j r _ e=>hh r (List.mem_of_getElem? e)⟩
theorem BG.there(hl:BG recs k i)(hs:recs.Pairwise (fun a b=>a.off<b.off))(hk:k<recs.length)(e:recs[k].off=(i:Int)):BG recs (k+1) (i+1):=by
 refine⟨hk,fun j r hj ej=>?_,fun j r hj ej=>?_⟩
 ·rcases Nat.lt_or_ge j k with h1|h1
  ·have:=hl.lo j r h1 ej;omega
  ·have:j=k:=by omega
   subst this;rw[List.getElem?_eq_getElem hk]at ej;obtain rfl:=Option.some.inj ej;omega
 ·obtain⟨h1,rfl⟩:=List.getElem?_eq_some_iff.1 ej
  have:=List.pairwise_iff_getElem.1 hs k j hk h1 (by omega);omega
theorem BG.none(hl:BG recs k i)(hs:recs.Pairwise (fun a b=>a.off<b.off))(hno:∀hk:k<recs.length,recs[k].off≠(i:Int)):BG recs k (i+1)∧∀r∈recs,r.off≠(i:Int):=by
 have hgt:∀(j:Nat) r,k≤j→recs[j]? =some r→(i:Int)<r.off:=fun j r hj ej=>by
  obtain⟨h1,rfl⟩:=List.getElem?_eq_some_iff.1 ej;have hk:k<recs.length:=by omega
  have h2:=hl.hi k recs[k] (Nat.le_refl _) (List.getElem?_eq_getElem hk);have h3:=hno hk;rcases Nat.lt_or_ge k j with h4|h4
  ·have:=List.pairwise_iff_getElem.1 hs k j hk h1 h4
   omega
  ·have:j=k:=by omega
   subst this;omega
 refine⟨⟨hl.le,fun j r hj ej=>by have:=hl.lo j r hj ej;omega,fun j r hj ej=>by have:=hgt j r hj ej;omega⟩,fun r hr e=>?_⟩;obtain⟨j,hj,rfl⟩:=List.mem_iff_getElem.1 hr;rcases Nat.lt_or_ge j k with h1|h1
 ·have:=hl.lo j _ h1 (List.getElem?_eq_getElem hj);omega
 ·have:=hgt j _ h1 (List.getElem?_eq_getElem hj);omega
theorem BG.done(hl:BG recs k n)(hh:∀r∈recs,r.off<(n:Int)):k=recs.length:=by
 rcases Nat.lt_or_ge k recs.length with h1|h1
 ·have h2:=hl.hi k recs[k] (Nat.le_refl _) (List.getElem?_eq_getElem h1)
  have h3:=hh recs[k] (List.getElem_mem _);omega
 ·have:=hl.le;omega
def JZ(all recs:List Bt.Rec)(gone:List Bool)(h i:Nat)(j:Nat):Prop:=gone[j]? =some true∨(h≤j∧j<i∧∃r,all[j]? =some r∧r∉recs)
theorem gq.MQ(hw:gq all gone may dn h n recs){r:Bt.Rec}(hr:r∈recs)(e:r.off=(i:Int))(hi:i<n)(hia:i<all.length)(hig:i<gone.length):all[i]=r∧gone[i]=false:=by
 obtain⟨h1,h2, -⟩:=hw.at hr e;rw[List.getElem?_eq_getElem hia]at h1;rw[List.getElem?_eq_getElem hig]at h2;exact⟨Option.some.inj h1,Option.some.inj h2⟩
theorem gq.Qg(hw:gq all gone may dn h n recs)(hno:∀r∈recs,r.off≠(i:Int))(hh:h≤i)(hia:i<all.length)(him:i<may.length):may[i]=true∧all[i]∉recs:=by
 have h1:=List.getElem?_eq_getElem hia;have h2:=hw.off i _ h1;have h3:all[i]∉recs:=fun hm=>hno _ hm h2
 rcases hw.out i _ hh h1 with h4|h4
 ·exact absurd h4 h3
 ·rw[List.getElem?_eq_getElem him]at h4
  exact⟨Option.some.inj h4,h3⟩
theorem Qh{g:List Bool}(hg:∀j:Nat,g[j]? =some true↔JZ all recs gone h i j) {r:Bt.Rec} (h1:all[i]? =some r) (h2:r∈recs):∀j:Nat,g[j]? =some true↔JZ all recs gone h (i+1) j:=by
 intro j;rw[hg j];constructor
 ·rintro(h3|⟨h3,h4,h5⟩)
  ·exact .inl h3
  ·exact .inr ⟨h3,by omega,h5⟩
 ·rintro(h3|⟨h3,h4,q,h5,h6⟩)
  ·exact .inl h3
  ·rcases Nat.lt_or_ge j i with h7|h7
   ·exact .inr ⟨h3,h7,q,h5,h6⟩
   ·have:j=i:=by omega
    subst this;rw[h1]at h5;obtain rfl:=Option.some.inj h5;exact absurd h2 h6
theorem TJ{g:List Bool}(hg:∀j:Nat,g[j]? =some true↔JZ all recs gone h i j) {r:Bt.Rec} (h1:all[i]? =some r) (h2:r∉recs) (hh:h≤i) (hl:i<g.length):∀j:Nat,(g.set i true)[j]? =some true↔JZ all recs gone h (i+1) j:=by
 intro j;rw[List.getElem?_set];by_cases hj:i=j
 ·subst hj
  simp only[if_pos rfl,if_pos hl];exact⟨fun _=> .inr ⟨hh,by omega,r,h1,h2⟩,fun _=>rfl⟩
 ·rw[if_neg hj,hg j]
  constructor
  ·rintro(h3|⟨h3,h4,h5⟩)
   ·exact .inl h3
   ·exact .inr ⟨h3,by omega,h5⟩
  ·rintro(h3|⟨h3,h4,h5⟩)
   ·exact .inl h3
   ·exact .inr ⟨h3,by omega,h5⟩
end
end Lg
end
section
open Go.RowKit Go.Maps
open Dk (DA FA aH)
open Sg (Chain flat ae)
namespace Lg
structure Ib(A:DA)(room:Nat)(dir:ByteArray)(st n:Nat)(ss0:List (Nat×List Bt.aB))(m:Nat×List Bt.aB):Prop where
 disk:rF A room dir (ss0++[m])
 chains:∀p∈ss0++[m],Chain p.1 p.2
 chain:Chain st (af (ss0++[m]))
 next:ae m.1 m.2=n
 lK:∀x∈af (ss0++[m]),x.fin≤n
 st:st≤n
theorem Ib.ok{A:DA}{room:Nat}{dir:ByteArray}{st n:Nat}{ss0:List (Nat×List Bt.aB)}{m:Nat×List Bt.aB}(h:Ib A room dir st n ss0 m)(hl:(ss0++[m]).length≤1000):sW A dir (ss0++[m]):=
 ⟨h.disk.base,fun p hp=>vC (h.disk.bytes hp),h.chains,hl⟩
theorem XL{A:DA}{room:Nat}{dir:ByteArray}{ss:List (Nat×List Bt.aB)}(h:rF A room dir ss){p:Nat×List Bt.aB}(hp:p∈ss):(A.sync (bJ dir p.1)).1=0∧rF (A.sync (bJ dir p.1)).2 room dir ss:=by
 obtain⟨f,hf,hb⟩:=vC (h.bytes hp);have e:A.sync (bJ dir p.1)=(0,A.upd (bJ dir p.1) (fun f=>{f with safe:=f.bytes.length})):=by
  unfold DA.sync;have h1:A.has (bJ dir p.1)=true:=by rw[Dk.kz,hf];rfl
  rw[fQ h.lim,h1,if_neg (by simp),if_neg (by simp),jb h.lim]
 rw[e];refine⟨rfl,h.lim,h.room,?_,h.base,h.nd⟩;have:(A.upd (bJ dir p.1) (fun f=>{f with safe:=f.bytes.length})).files.map (fun f=>(f.name,f.bytes))=A.files.map (fun f=>(f.name,f.bytes)):=by
  unfold DA.upd Dk.fO;simp only[List.map_map];apply List.map_congr_left;intro x _;simp only[Function.comp];split<;>rfl
 rw[this];exact h.files
theorem vS(f:List UInt8→Int)(now ak:Int)(ss:List (Nat×List Bt.aB)):af (ss.map (fun p=>(p.1,p.2.map (bn f now ak))))=(af ss).map (bn f now ak):=by
 induction ss with
 |nil=>rfl
 |cons p r ih=>rw[List.map_cons,gQ,gQ,List.map_append,ih]
theorem Ib.compact{A:DA}{room:Nat}{dir:ByteArray}{st n hi:Nat}{ss0:List (Nat×List Bt.aB)}{m:Nat×List Bt.aB}(h:Ib A room dir st n ss0 m)(hok:∀n,n≤1099511627776→Dk.nameB (aN (Sn.nameB dir n))=true∧Dk.nameB (Sn.nameB dir n)=true)(hl:(ss0++[m]).length<200)(hf:(flat (af (ss0++[m]))).length≤hi)(hr:2*hi≤room)(v:LV)(now ak:Int)(f:List UInt8→Int)(hfl:f=dQ (aK (af (ss0++[m])))):
 ∃A' v',CompactS A dir v ss0 m now ak=(fU f now ak (af ss0),0,A',v',ss0.map (fun p=>(p.1,p.2.map (bn f now ak)))++[m])∧v'.start=v.start∧v'.down=v.down∧Ib A' room dir st n (ss0.map (fun p=>(p.1,p.2.map (bn f now ak)))) m∧(flat (af (ss0.map (fun p=>(p.1,p.2.map (bn f now ak)))++[m]))).length≤hi:=by
 obtain⟨s1,s2⟩:=XL h.disk (p:=m) (by simp);have hno:∀w:LV,fF 0 w=w:=fun w=>by unfold fF;rw[if_neg (by omega)]
 have hcs:∀p∈ss0,Chain p.1 p.2:=fun p hp=>h.chains p (by simp[hp])
 obtain⟨k1,k2,k3⟩:=D6 (f:=f) (now:=now) (ak:=ak) hok hi ss0 [] [m] (A.sync (bJ dir m.1)).2 (by simpa using s2) (by simpa using hl) hcs (by simpa using hf) hr;have hch:=h.chain;rw[aV,Sg.dM]at hch;have ahK:Chain st (af (ss0.map (fun p=>(p.1,p.2.map (bn f now ak)))++[m])):=by
  rw[aV,vS,Sg.dM,uy];exact⟨iO f now ak hch.1,hch.2⟩
 have hsf:=qI f now ak hch.1;refine⟨_,jH 0 v (ae m.1 m.2),?_,?_,?_,⟨by simpa using k2,fun p hp=>?_,ahK,h.next,fun x hx=>?_,h.st⟩,?_⟩
 ·unfold CompactS dS
  rw[show A.sync (Sn.nameB dir m.1).data.toList=A.sync (bJ dir m.1)from rfl,s1,if_neg (by simp),←hfl];simp only;rw[k1,k3,hno,hno]
 ·unfold jH;split<;>rfl
 ·unfold jH;split<;>rfl
 ·rcases List.mem_append.1 hp with hp|hp
  ·obtain⟨q,hq,rfl⟩:=List.mem_map.1 hp
   exact iO f now ak (hcs q hq)
  ·exact h.chains p (by simp[List.mem_singleton.1 hp])
 ·rw[aV,vS]at hx
  rcases List.mem_append.1 hx with hx|hx
  ·obtain⟨y,hy,rfl⟩:=List.mem_map.1 hx
   exact h.lK y (by rw[aV];exact List.mem_append_left _ hy)
  ·exact h.lK x (by rw[aV];exact List.mem_append_right _ hx)
 ·rw[aV,Sg.aP,List.length_append]at hf⊢
  rw[vS];omega
def I5(f:List UInt8→Int)(now ak:Int)(P Q:List Bt.Rec)(i:Nat):List Bt.Rec:=aU f now ak (P.drop i)++Q.drop (i-P.length)
end Lg
end
section
open Go.RowKit Go.Maps
set_option maxRecDepth 100000
open Dk (DA aj Parts dA aC bQ)
open Sg (aS aA dV Both Came ae flat Chain)
namespace Lg
theorem Ib.few{A:DA}{room:Nat}{dir:ByteArray}{st n:Nat}{ss0:List (Nat×List Bt.aB)}{m:Nat×List Bt.aB}(h:Ib A room dir st n ss0 m):(aK (af (ss0++[m]))).length≤n:=by
 have h1:=jV h.chain;have h2:=pg h.chain;rcases rJ _ (st:Int) (n:Int) h1 (fun r hr=>⟨h2 r hr,by
  obtain⟨x,hx,hr⟩:=List.mem_flatMap.1 hr;have h3:=(kY (Sg.Chain.mem h.chain x hx) r hr).2;have h4:=h.lK x hx;omega⟩)with h|h
 ·rw[h];simp
 ·omega
def XM(w wr:World)(base d lb:Nat)(G:List Nat)(nn:Nat)(ss0:List (Nat×List Bt.aB))(mm:Nat×List Bt.aB):Prop:=
 ∃F gv v ms A,az wr base d F A lb gv aX v ms∧ms.map SM.abs=ss0++[mm]∧Ib A 1048576 aX 0 nn ss0 mm∧(v.start=0∧v.down=false)∧(ss0.length≤20∧(flat (af (ss0++[mm]))).length≤120000)∧Turn G w wr∧∀k∈aJ F lb gv ms,k∈G∨w.heap.size≤k
section
variable {W w wr w':World} {base d lb:Nat} {G:List Nat} {nn mo i:Nat} {ss0:List (Nat×List Bt.aB)} {mm:Nat×List Bt.aB}
theorem XM.still(h:XM w wr base d lb G nn ss0 mm)(ht:Turn [] wr w'):XM w w' base d lb G nn ss0 mm:=by
 obtain⟨F,gv,v,ms,A,h1,h2,h3,h4,h5,h6,h7⟩:=h;exact⟨F,gv,v,ms,A,h1.still ht,h2,h3,h4,h5,h6.same (ht.mono (by simp)),h7⟩
theorem XM.turn(h:XM w wr base d lb G nn ss0 mm):Turn G w wr:=by
 obtain⟨F,gv,v,ms,A,h1,h2,h3,h4,h5,h6,h7⟩:=h;exact h6
theorem XM.inv(h:XM w wr base d lb G nn ss0 mm):∃A,Ib A 1048576 aX 0 nn ss0 mm:=by
 obtain⟨F,gv,v,ms,A,h1,h2,h3,h4,h5,h6,h7⟩:=h;exact⟨A,h3⟩
end
end Lg
end
section
open Go.RowKit Go.Maps
set_option maxRecDepth 100000
attribute [local go_sem] Oper.semAt_some
namespace Lg
end Lg
end
section
open Go.RowKit Go.Maps
set_option maxRecDepth 100000
variable {H:Type} {enc:TypeId×Value→H} {base:Nat} {spare:Nat→Bool} {acV:Bool}
theorem open_int{w:World}{r:Reach}{b0:Nat}{v:Value}{d:DataW H}{ps:List MemPlace}(hv:Value.okWide Tryz.prog w r b0 3 v)(h:DataW.Trod enc Tryz.prog w base spare acV 3 v d ps):∃z:Int,v= .int .i64 z∧ -9223372036854775808≤z∧z≤9223372036854775807:=by
 obtain⟨z,rfl⟩:=WideShapes.okWide_int Tryz.underlying3 hv;obtain⟨n,h⟩:=h;simp only[Value.cells]at h;obtain⟨m,e, -,hw⟩:=DataW.trod_int Tryz.underlying3 h;simp only[List.cons.injEq,and_true,Value.int.injEq,true_and]at e;subst e;exact⟨_,rfl,wf_i64 hw⟩
end
section
open Go.RowKit Go.Maps
set_option maxRecDepth 100000
structure RecssAt(W:World)(v:Value)(rss:List (List Bt.Rec)):Prop where
 form:∃a c,v= .slice a rss.length c∧rss.length≤c∧c≤maxLen
 at_:∀Z,Turn [] W Z→∀j (h:j<rss.length),∃p c sj,v= .slice (some p) rss.length c∧Z.cell? (p.add j)=some sj∧bF Z sj rss[j]
variable {H:Type} {enc:TypeId×Value→H} {base:Nat} {spare:Nat→Bool} {acV:Bool}
end
section
open Go.RowKit Go.Maps
set_option maxRecDepth 100000
attribute [local go_sem] Oper.semAt_some
open Dk (DA aj Parts dA aC bQ)
open Sg (aS aA dV Both Came ae flat Chain)
namespace Lg
section
variable {W w wr:World} {base d lb:Nat} {G:List Nat} {nn:Nat} {ss0:List (Nat×List Bt.aB)} {mm:Nat×List Bt.aB} {mo:Int} {dn:Bool} {i:Nat}
theorem Yg.turn(h:Yg w wr base d lb aX G 1048576 nn ss0 mm mo dn i):Turn G w wr:=by
 obtain⟨F,gv,v,ms,A,h1,h2,h3,h4,h5,h6⟩:=h;exact h5
theorem VT.dst{mo:Nat}(h:VT W wr lb mo i nn)(hi:i≤20):∃ss0 mm G,Yg wr wr W.heap.size W.heap.size lb aX G 1048576 nn ss0 mm (mo:Int) false 0∧ss0.length≤20∧nn≤1200∧dH ss0 mm=0∧∀k∈G,W.heap.size≤k:=by
 obtain⟨⟨F,gv,v,ms0,m,A,ss0,mm,jI,⟨hss,hmm⟩,hgi,⟨hv1,hv2,hv3⟩,hsl,U4,hhk⟩,aah,htw⟩:=h;refine⟨ss0,mm,aJ F lb gv (ms0++[m]),⟨F,gv,v,ms0++[m],A,jI,?_,?_,⟨?_,hv2,hv3⟩,Turn.refl _ _,fun k hk=> .inl hk⟩,by omega,by omega,hhk,fun k hk=>(jI.lt k hk).1⟩
 ·rw[List.map_append,List.map_singleton,hss,hmm,List.drop_zero]
 ·rw[List.drop_zero]
  exact hgi
 ·rw[hv1]
  rfl
end
theorem bF.drop{w:World}{a:Option Addr}{c l:Nat}{rs:List Bt.Rec}(h:bF w (.slice a l c) rs){k:Nat}(hk:k≤rs.length):bF w (.slice (a.map (fun x=>x.add (k*6))) (rs.length-k) (c-k)) (rs.drop k):=by
 obtain⟨a',c',e,h1,h2,h3,h4⟩:=h;simp only[Value.slice.injEq]at e;obtain⟨rfl, -,rfl⟩:=e;refine⟨_,_,by rw[List.length_drop],by rw[List.length_drop];omega,by omega,fun hn=>?_,fun j hj=>?_⟩
 ·have:=h3 (by simpa using hn)
  omega
 ·rw[List.length_drop]at hj
  obtain⟨h5,p,hp,hc⟩:=h4 (k+j) (by omega);subst hp;have e:(rs.drop k)[j]'(by rw[List.length_drop];exact hj)=rs[k+j]:=by simp
  rw[e];refine⟨h5,_,rfl,fun i u hu=>?_⟩;rw[←hc i u hu,add_add,add_add,add_add];congr 2
  omega
theorem qQ{w:World}{base:Nat}{a:Option Addr}{c:Nat}{rs:List Bt.Rec}(h:aO 52 6 recC w base (.slice a rs.length c) rs){j:Nat}(hj:j<rs.length):∃g,a=some ⟨g,0,none⟩∧∀Z,Turn [] w Z→Z.cell? ⟨g,j*6,none⟩=some (.int .i64 rs[j].off)∧Z.cell? ⟨g,j*6+1,none⟩=some (.int .i64 rs[j].time)∧Z.cell? ⟨g,j*6+2,none⟩=some (.bool rs[j].keyed)∧Z.cell? ⟨g,j*6+3,none⟩=some (.string ⟨rs[j].key.toArray⟩)∧Z.cell? ⟨g,j*6+4,none⟩=some (.bool rs[j].gone)∧Z.cell? ⟨g,j*6+5,none⟩=some (.string ⟨rs[j].value.toArray⟩):=by
 obtain⟨g,cap,e,hc, -⟩:=h.at bH (j:=j) hj;simp only[Value.slice.injEq,true_and]at e;obtain⟨rfl,rfl⟩:=e;refine⟨g,rfl,fun Z hZ=>?_⟩;obtain⟨g',cap',e,hc', -⟩:=(h.still hZ).at bH (j:=j) hj;simp only[Value.slice.injEq,Option.some.injEq,Addr.mk.injEq,and_true]at e;obtain⟨rfl, -⟩:=e;exact⟨hc' 0 (by omega),hc' 1 (by omega),hc' 2 (by omega),hc' 3 (by omega),hc' 4 (by omega),hc' 5 (by omega)⟩
def LkS(W wr:World)(base wb d lb:Nat)(mo:Int)(va vg vm ve:Value)(y:LW)(recs:List Bt.Rec)(ov:Value)(h0 n i k:Nat):Prop:=
 ∃g,bY wr base wb d lb mo va vg vm ve {y with gone:=g}∧g.length=n∧(∀j:Nat,g[j]? =some true↔JZ y.all recs y.gone h0 i j)∧BG recs k i∧aO 52 6 recC wr W.heap.size ov recs∧Turn vg.ownBlock.toList W wr
theorem Qi(W:World)(base wb d lb:Nat)(mo:Int)(va vg vm ve:Value)(y:LW)(h:bY W base wb d lb mo va vg vm ve y)(recs:List Bt.Rec)(h0 n:Nat)(dn:Bool)
 (hal:Calls Tryz.prog 29 #[.pointer (some ⟨lb,0,none⟩), .int .i64 300] W fun e w'=>∃ov,e= .returned (.tuple #[ov, .bool true])∧aO 52 6 recC w' W.heap.size ov recs∧Turn [] W w')
 (hst:∀Z,Turn [] W Z→Calls Tryz.prog 20 #[.pointer (some ⟨lb,0,none⟩)] Z fun e w'=>e= .returned (.int .i64 (h0:Int))∧Z=w')
 (hw:gq y.all y.gone y.may dn h0 n recs)(hs:recs.Pairwise (fun a b=>a.off<b.off))(hb:∀r∈recs,(h0:Int)≤r.off∧r.off<(n:Int))(hh:h0≤n)(hn:n≤4000):
 Calls Tryz.prog 11 #[.pointer (some ⟨wb,0,none⟩)] W fun e w'=>∃g,e= .returned (.bool true)∧bY w' base wb d lb mo va vg vm ve {y with gone:=g}∧g.length=n∧(∀j:Nat,g[j]? =some true↔JZ y.all recs y.gone h0 n j)∧Turn vg.ownBlock.toList W w':=by
 have hcs:∀Z,Turn [] W Z→Z.cell? ⟨wb,1,none⟩=some (.pointer (some ⟨lb,0,none⟩))∧wb<Z.heap.size:=fun Z hZ=>by
  obtain⟨c0,c1,c2,c3,c4,c5,c6,c7,c8,c9,hz⟩:=(h.still hZ).cells;exact⟨c1,hz⟩
 obtain⟨q1,z1⟩:=hcs W (Turn.refl _ _);have aqs:vg.ownBlock.toList=vg.ownBlock.toList:=rfl;have H:=hide h;have HAL:=hide hal;have HST:=hide hst;have HW:=hide hw;have HS:=hide hs;have HB:=hide hb;have HC:=hide hcs;clear h hal hst hw hs hb hcs aqs;go_enter Tryz.func11,Tryz.ntmps11
 go_wp2_with fail
 refine HAL.out.mono ?_;rintro e wa ⟨ov,rfl,hov,ht1⟩;obtain⟨oa,oc,hoe,alT,XN⟩:=hov.form;have hmx:maxLen=9223372036854775807:=by simp[maxLen]
 rw[hmx]at XN;subst hoe;have Qq:=hide hov;have HT1:=hide ht1;obtain⟨q1,z1⟩:=HC.out wa ht1;clear hov ht1;go_wp2_with fail
 refine(HST.out wa HT1.out).mono ?_;rintro e wb0 ⟨rfl,rfl⟩;have alU:LkS W wa base wb d lb mo va vg vm ve y recs (.slice oa recs.length oc) h0 n h0 0:=
  ⟨y.gone,H.out.still HT1.out,HW.out.uG,fun j=>⟨fun hj=> .inl hj,fun hj=>hj.elim id (fun hj=>by omega)⟩,BG.start (fun r hr=>(HB.out r hr).1),Qq.out,HT1.out.mono (by simp)⟩
 have aqt:=hide alU;clear alU;go_wp2
 go_loopw [5,6] (fun kv iv wr=>∃k i:Nat,i≤n∧h0≤i∧kv= .int .i64 k∧iv= .int .i64 i∧LkS W wr base wb d lb mo va vg vm ve y recs (.slice oa recs.length oc) h0 n i k) (fun _ iv _=>n-(intOf iv).toNat)
 case atStart=>exact⟨0,h0,hh,Nat.le_refl _,rfl,rfl,aqt.out⟩
 case round=>
  obtain⟨k,i,hi,hhi,rfl,rfl,hls⟩:=hrel;obtain⟨g,Ol,hgl,hgo,hlk,Pe,htw⟩:=hls;obtain⟨c0,c1,c2,c3,c4,c5,c6,c7,c8,c9,hz⟩:=Ol.cells;have hkl:=hlk.le;have hal:=HW.out.len;obtain⟨aa,ca,hva,alV,aqu⟩:=Ol.kT.form;rw[hmx]at aqu;have aan:({y with gone:=g}:LW).all=y.all:=rfl;rw[aan]at hva alV;rw[hal]at hva alV;have VW:=hide hva;have Cj:=hide Ol;have NT:=hide hgo;have Ve:=hide hlk;have dI:=hide Pe;have dO:=hide htw;rw[hva]at c3;clear Ol hgo hlk Pe htw c0 c2 c6 c7 c8 c9 hva aan;by_cases hlt:i<n
  ·have hia:i<y.all.length:=by rw[hal];exact hlt
   by_cases hth:∃hk:k<recs.length,recs[k].off=(i:Int)
   ·obtain⟨hk,he⟩:=hth
    have ag5:=Ve.out.there HS.out hk he;obtain⟨adH,hgf⟩:=HW.out.MQ (List.getElem_mem hk) he hlt hia (by rw[HW.out.uG];exact hlt);have aaw:=Qh NT.out (r:=recs[k]) (by rw[List.getElem?_eq_getElem hia,adH]) (List.getElem_mem hk);have hgi:g[i]'(by rw[hgl];exact hlt)=false:=by
     rw[←Bool.not_eq_true];intro ht;have h1:=(NT.out i).1 (by rw[List.getElem?_eq_getElem (by rw[hgl];exact hlt),ht]);rcases h1 with h1|⟨-,h1, -⟩
     ·rw[List.getElem?_eq_getElem (by rw[HW.out.uG];exact hlt),hgf]at h1
      simp at h1
     ·omega
    obtain⟨go_,rfl,hcr⟩:=qQ dI.out hk;have hra:=Cj.out.kT;rw[VW.out]at hra;have ag6:aO 52 6 recC wr base (.slice aa y.all.length ca) y.all:=by rw[hal];exact hra
    obtain⟨ga,rfl,hca⟩:=qQ ag6 hia;rw[adH]at hca;obtain⟨ag,cg,Cm,Ag,uF⟩:=Cj.out.fV.form;have aff:({y with gone:=g}:LW).gone.length=n:=hgl;rw[hmx]at uF;have hrg:=Cj.out.fV;rw[Cm]at hrg;obtain⟨gg,rfl,hcg⟩:=pJ hrg (j:=i) (by rw[aff];exact hlt);rw[aff]at Cm Ag;obtain⟨r,hr⟩:∃r,r=recs[k]:=⟨_,rfl⟩;rw[←hr]at hcr hca he;have hcc:∀Z,Turn [] wr Z→Z.cell? ⟨wb,3,none⟩=some (.slice (some ⟨ga,0,none⟩) n ca)∧Z.cell? ⟨wb,4,none⟩=some (.slice (some ⟨gg,0,none⟩) n cg)∧wb<Z.heap.size∧Z.cell? ⟨gg,i,none⟩=some (.bool false):=fun Z hZ=>by
     have hc:=(Cj.out.still hZ).cells;refine⟨hc.2.2.2.1.trans (by rw[VW.out]),hc.2.2.2.2.1.trans (by rw[Cm]),hc.2.2.2.2.2.2.2.2.2.2,(hcg Z hZ).trans ?_⟩;exact congrArg (fun b=>some (Value.bool b)) hgi
    have Pg:=hide hcc;have vT:=hide hcr;have HCA:=hide hca;have Vf:=hide aaw;have Vg:=hide ag5;obtain⟨r0,r1,r2,r3,r4,r5⟩:=hcr wr (Turn.refl _ _);rw[he]at r0;have hkk:(k:Int)<(recs.length:Int):=by omega
    have hii:(i:Int)<(n:Int):=by omega
    have Om:=hide Cm;clear hcc hcr hca aaw ag5 hgi hgf adH hra ag6 hrg hcg aff hr Cm;go_wp2
    refine jT [] (by kernel_rfl) rfl ?_;apply Lo.r0 1 rfl 7 (by intro u;conv=>lhs;whnf) rfl
    ·intro a w1 hR e7 K hK
     go_simp
     exact hK _ rfl
    apply Lo.r1 2 rfl 45 0 (fun _=>rfl) rfl (by kernel_rfl)
    ·intro a w1 hR e45 K hK
     go_simp
     exact hK _ rfl
    apply Lo.q0 3 rfl 1 3 rfl rfl (fun _=>rfl) rfl (by intro u;conv=>lhs;whnf) rfl (by kernel_rfl)
    ·intro a w1 hR e3 K hK
     go_simp
     exact hK _ rfl
    apply Lo.q0 4 rfl 1 5 rfl rfl (fun _=>rfl) rfl (by intro u;conv=>lhs;whnf) rfl (by kernel_rfl)
    ·intro a w1 hR e5 K hK
     go_simp
     exact hK _ rfl
    apply Lo.q2 5 rfl 1 47 2 48 3 rfl rfl (fun _=>rfl) rfl (fun _=>rfl) (fun _=>rfl) rfl rfl rfl (by kernel_rfl)
    ·intro a w1 hR e47 e48 K hK
     have h4:(k:Int)<(recs.length:Int):=hkk;go_simp
     exact hK _ rfl
    apply Lo.q1 6 rfl 1 49 4 rfl rfl (fun _=>rfl) rfl (fun _=>rfl) rfl rfl (by kernel_rfl)
    ·intro a w1 hR e49 K hK
     obtain⟨p0,p1,p2,p3,p4,p5⟩:=vT.out w1 hR.dr;go_simp
     exact hK _ rfl
    apply Lo.q0 7 rfl 1 0 rfl rfl (fun _=>rfl) rfl (by intro u;conv=>lhs;whnf) rfl (by kernel_rfl)
    ·intro a w1 hR e0 K hK
     go_simp
     exact hK _ rfl
    apply Lo.q1 8 rfl 1 51 6 rfl rfl (fun _=>rfl) rfl (fun _=>rfl) rfl rfl (by kernel_rfl)
    ·intro a w1 hR e51 K hK
     go_simp
     exact hK _ rfl
    apply Lo.q1 9 rfl 1 52 7 rfl rfl (fun _=>rfl) rfl (fun _=>rfl) rfl rfl (by kernel_rfl)
    ·intro a w1 hR e52 K hK
     go_simp
     exact hK _ rfl
    apply Lo.q1 10 rfl 1 53 8 rfl rfl (fun _=>rfl) rfl (fun _=>rfl) rfl rfl (by kernel_rfl)
    ·intro a w1 hR e53 K hK
     obtain⟨p0, -,p2, -⟩:=Pg.out w1 hR.dr;go_simp
     exact hK _ rfl
    apply Lo.q0 11 rfl 1 6 rfl rfl (fun _=>rfl) rfl (by intro u;conv=>lhs;whnf) rfl (by kernel_rfl)
    ·intro a w1 hR e6 K hK
     go_simp
     exact hK _ rfl
    apply Lo.q2 12 rfl 1 54 9 55 10 rfl rfl (fun _=>rfl) rfl (fun _=>rfl) (fun _=>rfl) rfl rfl rfl (by kernel_rfl)
    ·intro a w1 hR e54 e55 K hK
     go_simp
     exact hK _ rfl
    apply Lo.q1 13 rfl 1 56 11 rfl rfl (fun _=>rfl) rfl (fun _=>rfl) rfl rfl (by kernel_rfl)
    ·intro a w1 hR e56 K hK
     obtain⟨p0,p1,p2,p3,p4,p5⟩:=HCA.out w1 hR.dr;go_simp
     exact hK _ rfl
    refine Lo.df 14 rfl rfl [1,5,12] (.bool (false)) (by kernel_rfl) (fun u w1 hR hF=>?_) (Turn.refl _) ?_
    ·obtain⟨h1,h5,h12, -⟩:=hF
     refine⟨.inl ⟨true,h1,rfl⟩,fun a ha K hK=>?_⟩;have e50:=(ha 50).trans h5;have e57:=(ha 57).trans h12;clear ha h1 h5 h12;go_simp
     refine hK _ ?_;simp
    apply Lo.q1 15 rfl 1 58 13 rfl rfl (fun _=>rfl) rfl (fun _=>rfl) rfl rfl (by kernel_rfl)
    ·intro a w1 hR e58 K hK
     go_simp
     exact hK _ rfl
    apply Lo.q0 16 rfl 14 0 rfl rfl (fun _=>rfl) rfl (by intro u;conv=>lhs;whnf) rfl (by kernel_rfl)
    ·intro a w1 hR e0 K hK
     go_simp
     exact hK _ rfl
    apply Lo.q1 17 rfl 14 60 15 rfl rfl (fun _=>rfl) rfl (fun _=>rfl) rfl rfl (by kernel_rfl)
    ·intro a w1 hR e60 K hK
     go_simp
     exact hK _ rfl
    apply Lo.q1 18 rfl 14 61 16 rfl rfl (fun _=>rfl) rfl (fun _=>rfl) rfl rfl (by kernel_rfl)
    ·intro a w1 hR e61 K hK
     go_simp
     exact hK _ rfl
    apply Lo.q1 19 rfl 14 62 17 rfl rfl (fun _=>rfl) rfl (fun _=>rfl) rfl rfl (by kernel_rfl)
    ·intro a w1 hR e62 K hK
     obtain⟨-,p1,p2, -⟩:=Pg.out w1 hR.dr;go_simp
     exact hK _ rfl
    apply Lo.q0 20 rfl 14 6 rfl rfl (fun _=>rfl) rfl (by intro u;conv=>lhs;whnf) rfl (by kernel_rfl)
    ·intro a w1 hR e6 K hK
     go_simp
     exact hK _ rfl
    apply Lo.q2 21 rfl 14 63 18 64 19 rfl rfl (fun _=>rfl) rfl (fun _=>rfl) (fun _=>rfl) rfl rfl rfl (by kernel_rfl)
    ·intro a w1 hR e63 e64 K hK
     go_simp
     exact hK _ rfl
    apply Lo.q1 22 rfl 14 65 20 rfl rfl (fun _=>rfl) rfl (fun _=>rfl) rfl rfl (by kernel_rfl)
    ·intro a w1 hR e65 K hK
     obtain⟨-, -, -,p3⟩:=Pg.out w1 hR.dr;go_simp
     exact hK _ rfl
    apply Lo.q2 23 rfl 1 59 14 66 21 rfl rfl (fun _=>rfl) rfl (fun _=>rfl) (fun _=>rfl) rfl rfl rfl (by kernel_rfl)
    ·intro a w1 hR e59 e66 K hK
     go_simp
     exact hK _ rfl
    apply Lo.r2 24 rfl 46 1 67 22 (fun _=>rfl) (fun _=>rfl) rfl rfl (by kernel_rfl)
    ·intro a w1 hR e46 e67 K hK
     go_simp
     exact hK _ rfl
    apply Lo.r1 25 rfl 68 23 (fun _=>rfl) rfl (by kernel_rfl)
    ·intro a w1 hR e68 K hK
     go_simp
     exact hK _ rfl
    apply Lo.q0 26 rfl 24 7 rfl rfl (fun _=>rfl) rfl (by intro u;conv=>lhs;whnf) rfl (by kernel_rfl)
    ·intro a w1 hR e7 K hK
     go_simp
     exact hK _ rfl
    apply Lo.q1 27 rfl 24 70 25 rfl rfl (fun _=>rfl) rfl (fun _=>rfl) rfl rfl (by kernel_rfl)
    ·intro a w1 hR e70 K hK
     go_simp
     exact hK _ rfl
    apply Lo.q1 28 rfl 24 71 26 rfl rfl (fun _=>rfl) rfl (fun _=>rfl) rfl rfl (by kernel_rfl)
    ·intro a w1 hR e71 K hK
     go_simp
     exact hK _ rfl
    refine Lo.pass 29 rfl rfl [27] (by kernel_rfl) (Turn.refl _) (fun u w1 hR hF=> .inl ⟨false,hF.1,rfl⟩) ?_;refine Lo.pass 30 rfl rfl [27] (by kernel_rfl) (Turn.refl _) (fun u w1 hR hF=> .inl ⟨false,hF.1,rfl⟩) ?_;refine Lo.pass 31 rfl rfl [27] (by kernel_rfl) (Turn.refl _) (fun u w1 hR hF=> .inl ⟨false,hF.1,rfl⟩) ?_;refine Lo.pass 32 rfl rfl [27] (by kernel_rfl) (Turn.refl _) (fun u w1 hR hF=> .inl ⟨false,hF.1,rfl⟩) ?_;refine Lo.pass 33 rfl rfl [27] (by kernel_rfl) (Turn.refl _) (fun u w1 hR hF=> .inl ⟨false,hF.1,rfl⟩) ?_;refine Lo.pass 34 rfl rfl [27] (by kernel_rfl) (Turn.refl _) (fun u w1 hR hF=> .inl ⟨false,hF.1,rfl⟩) ?_;refine Lo.pass 35 rfl rfl [27] (by kernel_rfl) (Turn.refl _) (fun u w1 hR hF=> .inl ⟨false,hF.1,rfl⟩) ?_;refine Lo.pass 36 rfl rfl [27] (by kernel_rfl) (Turn.refl _) (fun u w1 hR hF=> .inl ⟨false,hF.1,rfl⟩) ?_;apply Lo.q2 37 rfl 24 72 27 80 35 rfl rfl (fun _=>rfl) rfl (fun _=>rfl) (fun _=>rfl) rfl rfl rfl (by kernel_rfl)
    ·intro a w1 hR e72 e80 K hK
     go_simp
     exact hK _ rfl
    apply Lo.r2 38 rfl 69 24 81 36 (fun _=>rfl) (fun _=>rfl) rfl rfl (by kernel_rfl)
    ·intro a w1 hR e69 e81 K hK
     go_simp
     exact hK _ rfl
    refine Lo.done [37] (fun u w1 bI hSd hF=>?_);clear hSd;obtain⟨f37, -⟩:=hF;have d37:u 37=_:=f37;clear f37;simp only[ax,Act.put,List.setIfInBounds_toArray,List.set_cons_succ,List.set_cons_zero,Nat.zero_add,Nat.reduceAdd,d37];have abd:Turn [] wr w1:=bI.dr;have aex:LkS W w1 base wb d lb mo va vg vm ve y recs (.slice (some ⟨go_,0,none⟩) recs.length oc) h0 n (i+1) (k+1):=⟨g,Cj.out.still abd,hgl,Vf.out,Vg.out,dI.out.still abd,dO.out.same (abd.mono (by simp))⟩;have TK:=hide aex;clear abd aex bI r0 r1 r2 r3 r4 r5;go_wp2
    all_goals refine⟨⟨k+1,i+1,by omega,by omega,by go_num,by go_num,TK.out⟩,?_⟩
    all_goals (simp only[intOf];omega)
   ·have hno:∀hk:k<recs.length,recs[k].off≠(i:Int):=fun hk e=>hth ⟨hk,e⟩
    obtain⟨ag5,ait⟩:=Ve.out.none HS.out hno;obtain⟨hmy,hni⟩:=HW.out.Qg ait hhi (by omega) (by rw[HW.out.En];omega);have aaw:=TJ NT.out (List.getElem?_eq_getElem hia) hni hhi (by rw[hgl];exact hlt);obtain⟨am,cm,hvm,aqv,aqw⟩:=Cj.out.nH.form;have VX:({y with gone:=g}:LW).may.length=n:=HW.out.En;rw[hmx]at aqw;have hr:=Cj.out.nH;rw[hvm]at hr;obtain⟨gm,ham,hgm⟩:=pJ hr (j:=i) (by rw[VX];exact hlt);subst ham;rw[VX]at hvm aqv;obtain⟨ag,cg,Cm,Ag,uF⟩:=Cj.out.fV.form;have aff:({y with gone:=g}:LW).gone.length=n:=hgl;rw[hmx]at uF;have hrg:=Cj.out.fV;rw[Cm]at hrg;obtain⟨gg,hag,hgc⟩:=pJ hrg (j:=i) (by rw[aff];exact hlt);subst hag;obtain⟨bg,hbg⟩:∃bg,∀Z,Turn [] wr Z→Z.cell? ⟨gg,i,none⟩=some (.bool bg):=⟨_,hgc⟩;have HGC:=hide hbg;clear hgc hbg;rw[aff]at Cm Ag;have hcm:∀Z,Turn [] wr Z→Z.cell? ⟨wb,5,none⟩=some (.slice (some ⟨gm,0,none⟩) n cm)∧wb<Z.heap.size∧Z.cell? ⟨gm,i,none⟩=some (.bool true)∧Z.cell? ⟨wb,4,none⟩=some (.slice (some ⟨gg,0,none⟩) n cg):=fun Z hZ=>by
     have hc:=(Cj.out.still hZ).cells;refine⟨hc.2.2.2.2.2.1.trans (by rw[hvm]),hc.2.2.2.2.2.2.2.2.2.2,(hgm Z hZ).trans ?_,hc.2.2.2.2.1.trans (by rw[Cm])⟩;exact congrArg (fun b=>some (Value.bool b)) hmy
    have HCM:=hide hcm;have HVM:=hide hvm;have Om:=hide Cm;have Vf:=hide aaw;have Vg:=hide ag5;clear hcm hgm hr hvm hrg aff Cm aaw ag5 hmy hni ait;rcases Nat.lt_or_ge k recs.length with hk|hk
    ·have hne:=hno hk
     obtain⟨go_,rfl,hcr⟩:=qQ dI.out hk;obtain⟨r0, -, -, -, -, -⟩:=hcr wr (Turn.refl _ _);obtain⟨o,ho⟩:∃o,o=recs[k].off:=⟨_,rfl⟩;rw[←ho]at r0 hne;have hkk:(k:Int)<(recs.length:Int):=by omega
     have hdn:(o==(i:Int))=false:=by simpa using hne
     clear hcr ho hne hth hno;go_wp2
     refine jT [] (by kernel_rfl) rfl ?_;apply Lo.r0 1 rfl 7 (by intro u;conv=>lhs;whnf) rfl
     ·intro a w1 hR e7 K hK
      go_simp
      exact hK _ rfl
     apply Lo.r1 2 rfl 45 0 (fun _=>rfl) rfl (by kernel_rfl)
     ·intro a w1 hR e45 K hK
      go_simp
      exact hK _ rfl
     refine Lo.pass 3 rfl rfl [1] (by kernel_rfl) (Turn.refl _) (fun u w1 hR hF=> .inl ⟨false,hF.1,rfl⟩) ?_;refine Lo.pass 4 rfl rfl [1] (by kernel_rfl) (Turn.refl _) (fun u w1 hR hF=> .inl ⟨false,hF.1,rfl⟩) ?_;refine Lo.pass 5 rfl rfl [1] (by kernel_rfl) (Turn.refl _) (fun u w1 hR hF=> .inl ⟨false,hF.1,rfl⟩) ?_;refine Lo.pass 6 rfl rfl [1] (by kernel_rfl) (Turn.refl _) (fun u w1 hR hF=> .inl ⟨false,hF.1,rfl⟩) ?_;refine Lo.pass 7 rfl rfl [1] (by kernel_rfl) (Turn.refl _) (fun u w1 hR hF=> .inl ⟨false,hF.1,rfl⟩) ?_;refine Lo.pass 8 rfl rfl [1] (by kernel_rfl) (Turn.refl _) (fun u w1 hR hF=> .inl ⟨false,hF.1,rfl⟩) ?_;refine Lo.pass 9 rfl rfl [1] (by kernel_rfl) (Turn.refl _) (fun u w1 hR hF=> .inl ⟨false,hF.1,rfl⟩) ?_;refine Lo.pass 10 rfl rfl [1] (by kernel_rfl) (Turn.refl _) (fun u w1 hR hF=> .inl ⟨false,hF.1,rfl⟩) ?_;refine Lo.pass 11 rfl rfl [1] (by kernel_rfl) (Turn.refl _) (fun u w1 hR hF=> .inl ⟨false,hF.1,rfl⟩) ?_;refine Lo.pass 12 rfl rfl [1] (by kernel_rfl) (Turn.refl _) (fun u w1 hR hF=> .inl ⟨false,hF.1,rfl⟩) ?_;refine Lo.pass 13 rfl rfl [1] (by kernel_rfl) (Turn.refl _) (fun u w1 hR hF=> .inl ⟨false,hF.1,rfl⟩) ?_;refine Lo.pass 14 rfl rfl [1] (by kernel_rfl) (Turn.refl _) (fun u w1 hR hF=> .inl ⟨false,hF.1,rfl⟩) ?_;refine Lo.pass 15 rfl rfl [1] (by kernel_rfl) (Turn.refl _) (fun u w1 hR hF=> .inl ⟨false,hF.1,rfl⟩) ?_;refine Lo.pass 16 rfl rfl [14] (by kernel_rfl) (Turn.refl _) (fun u w1 hR hF=> .inr ⟨hF.1,rfl⟩) ?_;refine Lo.pass 17 rfl rfl [14] (by kernel_rfl) (Turn.refl _) (fun u w1 hR hF=> .inr ⟨hF.1,rfl⟩) ?_;refine Lo.pass 18 rfl rfl [14] (by kernel_rfl) (Turn.refl _) (fun u w1 hR hF=> .inr ⟨hF.1,rfl⟩) ?_;refine Lo.pass 19 rfl rfl [14] (by kernel_rfl) (Turn.refl _) (fun u w1 hR hF=> .inr ⟨hF.1,rfl⟩) ?_;refine Lo.pass 20 rfl rfl [14] (by kernel_rfl) (Turn.refl _) (fun u w1 hR hF=> .inr ⟨hF.1,rfl⟩) ?_;refine Lo.pass 21 rfl rfl [14] (by kernel_rfl) (Turn.refl _) (fun u w1 hR hF=> .inr ⟨hF.1,rfl⟩) ?_;refine Lo.pass 22 rfl rfl [14] (by kernel_rfl) (Turn.refl _) (fun u w1 hR hF=> .inr ⟨hF.1,rfl⟩) ?_;refine Lo.pass 23 rfl rfl [1] (by kernel_rfl) (Turn.refl _) (fun u w1 hR hF=> .inl ⟨false,hF.1,rfl⟩) ?_;apply Lo.r2 24 rfl 46 1 67 22 (fun _=>rfl) (fun _=>rfl) rfl rfl (by kernel_rfl)
     ·intro a w1 hR e46 e67 K hK
      go_simp
      exact hK _ rfl
     apply Lo.r1 25 rfl 68 23 (fun _=>rfl) rfl (by kernel_rfl)
     ·intro a w1 hR e68 K hK
      go_simp
      exact hK _ rfl
     apply Lo.q0 26 rfl 24 7 rfl rfl (fun _=>rfl) rfl (by intro u;conv=>lhs;whnf) rfl (by kernel_rfl)
     ·intro a w1 hR e7 K hK
      go_simp
      exact hK _ rfl
     apply Lo.q1 27 rfl 24 70 25 rfl rfl (fun _=>rfl) rfl (fun _=>rfl) rfl rfl (by kernel_rfl)
     ·intro a w1 hR e70 K hK
      go_simp
      exact hK _ rfl
     apply Lo.q1 28 rfl 24 71 26 rfl rfl (fun _=>rfl) rfl (fun _=>rfl) rfl rfl (by kernel_rfl)
     ·intro a w1 hR e71 K hK
      go_simp
      exact hK _ rfl
     apply Lo.q0 29 rfl 27 0 rfl rfl (fun _=>rfl) rfl (by intro u;conv=>lhs;whnf) rfl (by kernel_rfl)
     ·intro a w1 hR e0 K hK
      go_simp
      exact hK _ rfl
     apply Lo.q1 30 rfl 27 73 28 rfl rfl (fun _=>rfl) rfl (fun _=>rfl) rfl rfl (by kernel_rfl)
     ·intro a w1 hR e73 K hK
      go_simp
      exact hK _ rfl
     apply Lo.q1 31 rfl 27 74 29 rfl rfl (fun _=>rfl) rfl (fun _=>rfl) rfl rfl (by kernel_rfl)
     ·intro a w1 hR e74 K hK
      go_simp
      exact hK _ rfl
     apply Lo.q1 32 rfl 27 75 30 rfl rfl (fun _=>rfl) rfl (fun _=>rfl) rfl rfl (by kernel_rfl)
     ·intro a w1 hR e75 K hK
      obtain⟨c5,z5, -, -⟩:=HCM.out w1 hR.dr;go_simp
      exact hK _ rfl
     apply Lo.q0 33 rfl 27 6 rfl rfl (fun _=>rfl) rfl (by intro u;conv=>lhs;whnf) rfl (by kernel_rfl)
     ·intro a w1 hR e6 K hK
      go_simp
      exact hK _ rfl
     apply Lo.q2 34 rfl 27 76 31 77 32 rfl rfl (fun _=>rfl) rfl (fun _=>rfl) (fun _=>rfl) rfl rfl rfl (by kernel_rfl)
     ·intro a w1 hR e76 e77 K hK
      have h33:(i:Int)<(n:Int):=by omega
      go_simp
      exact hK _ rfl
     apply Lo.q1 35 rfl 27 78 33 rfl rfl (fun _=>rfl) rfl (fun _=>rfl) rfl rfl (by kernel_rfl)
     ·intro a w1 hR e78 K hK
      obtain⟨-, -,cmi, -⟩:=HCM.out w1 hR.dr;go_simp
      exact hK _ rfl
     apply Lo.q1 36 rfl 27 79 34 rfl rfl (fun _=>rfl) rfl (fun _=>rfl) rfl rfl (by kernel_rfl)
     ·intro a w1 hR e79 K hK
      go_simp
      exact hK _ rfl
     apply Lo.q2 37 rfl 24 72 27 80 35 rfl rfl (fun _=>rfl) rfl (fun _=>rfl) (fun _=>rfl) rfl rfl rfl (by kernel_rfl)
     ·intro a w1 hR e72 e80 K hK
      go_simp
      exact hK _ rfl
     apply Lo.r2 38 rfl 69 24 81 36 (fun _=>rfl) (fun _=>rfl) rfl rfl (by kernel_rfl)
     ·intro a w1 hR e69 e81 K hK
      go_simp
      exact hK _ rfl
     refine Lo.done [37] (fun u w1 bI hSd hF=>?_);clear hSd;obtain⟨f37, -⟩:=hF;have d37:u 37=_:=f37;clear f37;simp only[ax,Act.put,List.setIfInBounds_toArray,List.set_cons_succ,List.set_cons_zero,Nat.zero_add,Nat.reduceAdd,d37];have abd:Turn [] wr w1:=bI.dr;obtain⟨c5,z5,cmi,c4⟩:=HCM.out w1 abd;have Ic:=Cj.out.still abd;rw[Om.out]at Ic;obtain⟨fg,zg⟩:=Ic.TG i;have cgi:=HGC.out w1 abd;have abw:=Ic.Ia (j:=i) (by show i<g.length;omega) true;have ht2:Turn vg.ownBlock.toList w1 (w1.setCell ⟨gg,i,none⟩ (.bool true)):=(Turn.refl _ _).setCell (.inl (by rw[Om.out];simp[Value.ownBlock])) _;have afg:=dI.out.still abd;have aaC:=afg.kept ht2 (fun q hq hm=>afg.apart (Cj.out.still abd).fV (by decide) q hq (by simpa using hm));have aex:LkS W (w1.setCell ⟨gg,i,none⟩ (.bool true)) base wb d lb mo va vg vm ve y recs (.slice (some ⟨go_,0,none⟩) recs.length oc) h0 n (i+1) k:=⟨g.set i true,by rw[Om.out];exact abw,by simp[hgl],Vf.out,Vg.out,aaC,(dO.out.same (abd.mono (by simp))).same ht2⟩;have hii:(i:Int)<(n:Int):=by omega
     have TK:=hide aex;clear abd aex bI Ic abw ht2 afg aaC cmi c5;go_wp2
     all_goals refine⟨⟨k,i+1,by omega,by omega,by first|rfl|go_num,by go_num,TK.out⟩,?_⟩
     all_goals (simp only[intOf];omega)
    ·obtain rfl:k=recs.length:=by omega
     clear hth hno;go_wp2
     refine jT [] (by kernel_rfl) rfl ?_;apply Lo.r0 1 rfl 7 (by intro u;conv=>lhs;whnf) rfl
     ·intro a w1 hR e7 K hK
      go_simp
      exact hK _ rfl
     apply Lo.r1 2 rfl 45 0 (fun _=>rfl) rfl (by kernel_rfl)
     ·intro a w1 hR e45 K hK
      go_simp
      exact hK _ rfl
     refine Lo.pass 3 rfl rfl [1] (by kernel_rfl) (Turn.refl _) (fun u w1 hR hF=> .inl ⟨false,hF.1,rfl⟩) ?_;refine Lo.pass 4 rfl rfl [1] (by kernel_rfl) (Turn.refl _) (fun u w1 hR hF=> .inl ⟨false,hF.1,rfl⟩) ?_;refine Lo.pass 5 rfl rfl [1] (by kernel_rfl) (Turn.refl _) (fun u w1 hR hF=> .inl ⟨false,hF.1,rfl⟩) ?_;refine Lo.pass 6 rfl rfl [1] (by kernel_rfl) (Turn.refl _) (fun u w1 hR hF=> .inl ⟨false,hF.1,rfl⟩) ?_;refine Lo.pass 7 rfl rfl [1] (by kernel_rfl) (Turn.refl _) (fun u w1 hR hF=> .inl ⟨false,hF.1,rfl⟩) ?_;refine Lo.pass 8 rfl rfl [1] (by kernel_rfl) (Turn.refl _) (fun u w1 hR hF=> .inl ⟨false,hF.1,rfl⟩) ?_;refine Lo.pass 9 rfl rfl [1] (by kernel_rfl) (Turn.refl _) (fun u w1 hR hF=> .inl ⟨false,hF.1,rfl⟩) ?_;refine Lo.pass 10 rfl rfl [1] (by kernel_rfl) (Turn.refl _) (fun u w1 hR hF=> .inl ⟨false,hF.1,rfl⟩) ?_;refine Lo.pass 11 rfl rfl [1] (by kernel_rfl) (Turn.refl _) (fun u w1 hR hF=> .inl ⟨false,hF.1,rfl⟩) ?_;refine Lo.pass 12 rfl rfl [1] (by kernel_rfl) (Turn.refl _) (fun u w1 hR hF=> .inl ⟨false,hF.1,rfl⟩) ?_;refine Lo.pass 13 rfl rfl [1] (by kernel_rfl) (Turn.refl _) (fun u w1 hR hF=> .inl ⟨false,hF.1,rfl⟩) ?_;refine Lo.pass 14 rfl rfl [1] (by kernel_rfl) (Turn.refl _) (fun u w1 hR hF=> .inl ⟨false,hF.1,rfl⟩) ?_;refine Lo.pass 15 rfl rfl [1] (by kernel_rfl) (Turn.refl _) (fun u w1 hR hF=> .inl ⟨false,hF.1,rfl⟩) ?_;refine Lo.pass 16 rfl rfl [14] (by kernel_rfl) (Turn.refl _) (fun u w1 hR hF=> .inr ⟨hF.1,rfl⟩) ?_;refine Lo.pass 17 rfl rfl [14] (by kernel_rfl) (Turn.refl _) (fun u w1 hR hF=> .inr ⟨hF.1,rfl⟩) ?_;refine Lo.pass 18 rfl rfl [14] (by kernel_rfl) (Turn.refl _) (fun u w1 hR hF=> .inr ⟨hF.1,rfl⟩) ?_;refine Lo.pass 19 rfl rfl [14] (by kernel_rfl) (Turn.refl _) (fun u w1 hR hF=> .inr ⟨hF.1,rfl⟩) ?_;refine Lo.pass 20 rfl rfl [14] (by kernel_rfl) (Turn.refl _) (fun u w1 hR hF=> .inr ⟨hF.1,rfl⟩) ?_;refine Lo.pass 21 rfl rfl [14] (by kernel_rfl) (Turn.refl _) (fun u w1 hR hF=> .inr ⟨hF.1,rfl⟩) ?_;refine Lo.pass 22 rfl rfl [14] (by kernel_rfl) (Turn.refl _) (fun u w1 hR hF=> .inr ⟨hF.1,rfl⟩) ?_;refine Lo.pass 23 rfl rfl [1] (by kernel_rfl) (Turn.refl _) (fun u w1 hR hF=> .inl ⟨false,hF.1,rfl⟩) ?_;apply Lo.r2 24 rfl 46 1 67 22 (fun _=>rfl) (fun _=>rfl) rfl rfl (by kernel_rfl)
     ·intro a w1 hR e46 e67 K hK
      go_simp
      exact hK _ rfl
     apply Lo.r1 25 rfl 68 23 (fun _=>rfl) rfl (by kernel_rfl)
     ·intro a w1 hR e68 K hK
      go_simp
      exact hK _ rfl
     apply Lo.q0 26 rfl 24 7 rfl rfl (fun _=>rfl) rfl (by intro u;conv=>lhs;whnf) rfl (by kernel_rfl)
     ·intro a w1 hR e7 K hK
      go_simp
      exact hK _ rfl
     apply Lo.q1 27 rfl 24 70 25 rfl rfl (fun _=>rfl) rfl (fun _=>rfl) rfl rfl (by kernel_rfl)
     ·intro a w1 hR e70 K hK
      go_simp
      exact hK _ rfl
     apply Lo.q1 28 rfl 24 71 26 rfl rfl (fun _=>rfl) rfl (fun _=>rfl) rfl rfl (by kernel_rfl)
     ·intro a w1 hR e71 K hK
      go_simp
      exact hK _ rfl
     apply Lo.q0 29 rfl 27 0 rfl rfl (fun _=>rfl) rfl (by intro u;conv=>lhs;whnf) rfl (by kernel_rfl)
     ·intro a w1 hR e0 K hK
      go_simp
      exact hK _ rfl
     apply Lo.q1 30 rfl 27 73 28 rfl rfl (fun _=>rfl) rfl (fun _=>rfl) rfl rfl (by kernel_rfl)
     ·intro a w1 hR e73 K hK
      go_simp
      exact hK _ rfl
     apply Lo.q1 31 rfl 27 74 29 rfl rfl (fun _=>rfl) rfl (fun _=>rfl) rfl rfl (by kernel_rfl)
     ·intro a w1 hR e74 K hK
      go_simp
      exact hK _ rfl
     apply Lo.q1 32 rfl 27 75 30 rfl rfl (fun _=>rfl) rfl (fun _=>rfl) rfl rfl (by kernel_rfl)
     ·intro a w1 hR e75 K hK
      obtain⟨c5,z5, -, -⟩:=HCM.out w1 hR.dr;go_simp
      exact hK _ rfl
     apply Lo.q0 33 rfl 27 6 rfl rfl (fun _=>rfl) rfl (by intro u;conv=>lhs;whnf) rfl (by kernel_rfl)
     ·intro a w1 hR e6 K hK
      go_simp
      exact hK _ rfl
     apply Lo.q2 34 rfl 27 76 31 77 32 rfl rfl (fun _=>rfl) rfl (fun _=>rfl) (fun _=>rfl) rfl rfl rfl (by kernel_rfl)
     ·intro a w1 hR e76 e77 K hK
      have h33:(i:Int)<(n:Int):=by omega
      go_simp
      exact hK _ rfl
     apply Lo.q1 35 rfl 27 78 33 rfl rfl (fun _=>rfl) rfl (fun _=>rfl) rfl rfl (by kernel_rfl)
     ·intro a w1 hR e78 K hK
      obtain⟨-, -,cmi, -⟩:=HCM.out w1 hR.dr;go_simp
      exact hK _ rfl
     apply Lo.q1 36 rfl 27 79 34 rfl rfl (fun _=>rfl) rfl (fun _=>rfl) rfl rfl (by kernel_rfl)
     ·intro a w1 hR e79 K hK
      go_simp
      exact hK _ rfl
     apply Lo.q2 37 rfl 24 72 27 80 35 rfl rfl (fun _=>rfl) rfl (fun _=>rfl) (fun _=>rfl) rfl rfl rfl (by kernel_rfl)
     ·intro a w1 hR e72 e80 K hK
      go_simp
      exact hK _ rfl
     apply Lo.r2 38 rfl 69 24 81 36 (fun _=>rfl) (fun _=>rfl) rfl rfl (by kernel_rfl)
     ·intro a w1 hR e69 e81 K hK
      go_simp
      exact hK _ rfl
     refine Lo.done [37] (fun u w1 bI hSd hF=>?_);clear hSd;obtain⟨f37, -⟩:=hF;have d37:u 37=_:=f37;clear f37;simp only[ax,Act.put,List.setIfInBounds_toArray,List.set_cons_succ,List.set_cons_zero,Nat.zero_add,Nat.reduceAdd,d37];have abd:Turn [] wr w1:=bI.dr;obtain⟨c5,z5,cmi,c4⟩:=HCM.out w1 abd;have Ic:=Cj.out.still abd;rw[Om.out]at Ic;obtain⟨fg,zg⟩:=Ic.TG i;have cgi:=HGC.out w1 abd;have abw:=Ic.Ia (j:=i) (by show i<g.length;omega) true;have ht2:Turn vg.ownBlock.toList w1 (w1.setCell ⟨gg,i,none⟩ (.bool true)):=(Turn.refl _ _).setCell (.inl (by rw[Om.out];simp[Value.ownBlock])) _;have afg:=dI.out.still abd;have aaC:=afg.kept ht2 (fun q hq hm=>afg.apart (Cj.out.still abd).fV (by decide) q hq (by simpa using hm));have aex:LkS W (w1.setCell ⟨gg,i,none⟩ (.bool true)) base wb d lb mo va vg vm ve y recs (.slice oa recs.length oc) h0 n (i+1) recs.length:=⟨g.set i true,by rw[Om.out];exact abw,by simp[hgl],Vf.out,Vg.out,aaC,(dO.out.same (abd.mono (by simp))).same ht2⟩;have hii:(i:Int)<(n:Int):=by omega
     have TK:=hide aex;clear abd aex bI Ic abw ht2 afg aaC cmi c5;go_wp2
     all_goals refine⟨⟨recs.length,i+1,by omega,by omega,by first|rfl|go_num,by go_num,TK.out⟩,?_⟩
     all_goals (simp only[intOf];omega)
  ·obtain rfl:i=n:=by omega
   have hkd:=Ve.out.done (fun r hr=>(HB.out r hr).2);subst hkd;go_wp2
   go_ret
   exact⟨g,by simp,Cj.out,hgl,NT.out,dO.out⟩
end Lg
end
end Go.Proofs.YtficbckncieabaaGreatDoor
