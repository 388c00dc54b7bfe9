/- Lemmas of the claim, part d of 14. -/
import Derived.Test.YtficbckncieabaaGreatDoorMc
import Derived.Deep.RegionWith
import Derived.Deep.DeepMust
import Derived.Test.YtficbckncieabaaGreatDoorMa
import Derived.Test.YtficbckncieabaaGreatDoorMb
set_option maxHeartbeats 16000000
namespace Go.Proofs.YtficbckncieabaaGreatDoor
section
open Go.RowKit Go.Maps
set_option linter.unusedSimpArgs false
namespace Dk
theorem KF{X Y o o':List Nat}(h:(X++(o++Y)).Nodup)(ho:o'.Nodup)(hs:∀k∈o',k∈o∨(k∉X∧k∉Y)):(X++(o'++Y)).Nodup:=by
 simp only[List.nodup_append,List.mem_append]at*;obtain⟨hX,⟨_,hY,hoY⟩,hXr⟩:=h;refine⟨hX,⟨ho,hY,?_⟩,?_⟩
 ·intro a ha b hb e
  rcases hs a ha with h1|h1
  ·exact hoY a h1 b hb e
  ·exact h1.2 (e▸hb)
 ·intro a ha b hb e
  rcases hb with hb|hb
  ·rcases hs b hb with h1|h1
   ·exact hXr a ha b (.inl h1) e
   ·exact h1.1 (e▸ha)
  ·exact hXr a ha b (.inr hb) e
def fO(l:List FA)(nm:List UInt8)(g:FA→FA):List FA:=l.map (fun f=>if f.name==nm then g f else f)
theorem Q8(l:List FA)(nm:List UInt8)(g:FA→FA):(fO l nm g).length=l.length:=by simp[fO]
theorem Ux(pre post:List FA)(f:FA)(g:FA→FA)(hn:((pre++f::post).map (·.name)).Nodup):fO (pre++f::post) f.name g=pre++g f::post:=by
 have h1:∀x∈pre,(x.name==f.name)=false:=by
  intro x hx;simp only[List.map_append,List.map_cons,List.nodup_append]at hn;have:=hn.2.2 x.name (List.mem_map.2 ⟨x,hx,rfl⟩) f.name (by simp);simpa using this
 have h2:∀x∈post,(x.name==f.name)=false:=by
  intro x hx;simp only[List.map_append,List.map_cons,List.nodup_append,List.nodup_cons]at hn;have:x.name≠f.name:=fun e=>hn.2.1.1 (by rw[←e];exact List.mem_map.2 ⟨x,hx,rfl⟩)
  simpa using this
 unfold fO;rw[List.map_append,List.map_cons];congr 1
 ·conv=>rhs;rw[←List.map_id pre]
  apply List.map_congr_left;intro x hx;simp[h1 x hx]
 ·congr 1
  ·simp
  ·conv=>rhs;rw[←List.map_id post]
   apply List.map_congr_left;intro x hx;simp[h2 x hx]
section
variable {w w':World} {base d:Nat} {F:List Nat} {A A':DA} {aI:Option Nat} {ms:List aF}
theorem qp{nm:List UInt8}{m:aF}(h:bW ms nm=some m):∃pre post,ms=pre++m::post∧m.abs.name=nm:=by
 obtain⟨h1,h2⟩:=qo h;obtain⟨pre,post,e⟩:=List.append_of_mem h1;exact⟨pre,post,e,h2⟩
theorem Parts.BP{pre post:List aF}{m m':aF}(h:Parts w base d F A aI (pre++m::post))(hn:m'.abs.name=m.abs.name)(hb:m'.blk=m.blk)(ht:Turn m.foot w w')(hfa:gK w' base m')
 (aau:∀k∈m'.sl.ownBlock,k∈m.sl.ownBlock∨w.heap.size≤k)(aaz:A'.room=A.room)(ab5:A'.limited=A.limited)(agy:A'.left=A.left)(hf:A'.files=pre.map (·.abs)++m'.abs::post.map (·.abs))(hg:Good A'):
 ∃F',Parts w' base d F' A' aI (pre++m'::post)∧(∀k∈F',k∈F∨k∈m'.sl.ownBlock)∧∀k∈F',k∈F∨w.heap.size≤k:=by
 have hnd:=h.nodup;have hlt:=h.lt;have hlo:=h.low;have hft:=h.foot;have hF:F=(d::(aI.toList++pre.flatMap aF.foot))++(m.foot++post.flatMap aF.foot):=by rw[hft];simp[List.flatMap_append]
 rw[hF]at hnd;have aeT:m.blk∈F:=by rw[hF];simp[aF.foot]
 have aiK:∀k∈m'.foot,k∈m.foot∨(k∉(d::(aI.toList++pre.flatMap aF.foot))∧k∉post.flatMap aF.foot):=by
  intro k hk;simp only[aF.foot,List.mem_cons,Option.mem_toList]at hk;rcases hk with rfl|hk
  ·exact .inl (by simp[aF.foot,hb])
  ·rcases aau k hk with h1|h1
   ·exact .inl (by simp only[aF.foot,List.mem_cons,Option.mem_toList];exact .inr h1)
   ·refine .inr ⟨fun e=>?_,fun e=>?_⟩
    ·have:=hlt k (by rw[hF];exact List.mem_append.2 (.inl e));omega
    ·have:=hlt k (by rw[hF];exact List.mem_append.2 (.inr (List.mem_append.2 (.inr e))));omega
 have an5:m'.foot.Nodup:=by
  simp only[aF.foot,List.nodup_cons,Option.mem_toList];refine⟨fun e=>?_,by cases m'.sl.ownBlock<;>simp⟩;rcases aau _ e with h1|h1
  ·rw[hb]at h1
   have:m.foot.Nodup:=by
    have:=hnd;rw[List.nodup_append,List.nodup_append]at this;exact this.2.1.1
   simp only[aF.foot,List.nodup_cons,Option.mem_toList]at this;exact this.1 h1
  ·rw[hb]at h1;have:=hlt _ aeT;omega
 have hsw:=KF hnd an5 aiK;have abV:∀x,(x∈(d::(aI.toList++pre.flatMap aF.foot))∨x∈post.flatMap aF.foot)→x∉m.foot:=by
  intro x hx e;rw[List.nodup_append,List.nodup_append]at hnd;rcases hx with hx|hx
  ·exact hnd.2.2 x hx x (List.mem_append.2 (.inl e)) rfl
  ·exact hnd.2.1.2.2 x e x hx rfl
 have an6:∀k∈(d::(aI.toList++pre.flatMap aF.foot))++(m'.foot++post.flatMap aF.foot),k∈F∨k∈m'.sl.ownBlock:=by
  intro k hk;rw[hF];simp only[List.mem_append]at hk⊢;rcases hk with hk|hk|hk
  ·exact .inl (.inl hk)
  ·simp only[aF.foot,List.mem_cons,Option.mem_toList]at hk
   rcases hk with rfl|hk
   ·exact .inl (.inr (.inl (by simp[aF.foot,hb])))
   ·exact .inr hk
  ·exact .inl (.inr (.inr hk))
 have hin:∀k∈(d::(aI.toList++pre.flatMap aF.foot))++(m'.foot++post.flatMap aF.foot),k∈F∨w.heap.size≤k:=by
  intro k hk;rw[hF];simp only[List.mem_append]at hk⊢;rcases hk with hk|hk|hk
  ·exact .inl (.inl hk)
  ·simp only[aF.foot,List.mem_cons,Option.mem_toList]at hk
   rcases hk with rfl|hk
   ·exact .inl (.inr (.inl (by simp[aF.foot,hb])))
   ·rcases aau k hk with h1|h1
    ·exact .inl (.inr (.inl (by simp only[aF.foot,List.mem_cons,Option.mem_toList];exact .inr h1)))
    ·exact .inr h1
  ·exact .inl (.inr (.inr hk))
 refine⟨_,{foot:=?_,nodup:=hsw,low:=?_,self:=?_,map:=?_,each:=?_,files:=?_,good:=hg},an6,hin⟩
 ·simp[List.flatMap_append]
 ·intro k hk
  rcases hin k hk with h1|h1
  ·exact hlo k h1
  ·have:=hlo _ aeT;have:=hlt _ aeT;omega
 ·rw[aaz,ab5,agy]
  exact ht.heap h.self (abV d (.inl (by simp)))
 ·refine(h.map.kept ht (fun k hk=>abV k (.inl ?_))).congr ?_
  ·simp only[List.mem_cons,List.mem_append,Option.mem_toList];exact .inr (.inl hk)
  ·simp[hn,hb]
 ·intro x hx
  rcases List.mem_append.1 hx with hx|hx
  ·exact(h.each x (by simp[hx])).kept ht (fun k hk=>abV k (.inl (by simp only[List.mem_cons,List.mem_append,List.mem_flatMap];exact .inr (.inr ⟨x,hx,hk⟩))))
  ·rcases List.mem_cons.1 hx with rfl|hx
   ·exact hfa
   ·exact(h.each x (by simp[hx])).kept ht (fun k hk=>abV k (.inr (List.mem_flatMap.2 ⟨x,hx,hk⟩)))
 ·rw[hf];simp
def DA.upd(A:DA)(nm:List UInt8)(g:FA→FA):DA:={A with files:=fO A.files nm g}
theorem uU{pre post:List aF}{m:aF}(h:Parts w base d F A aI (pre++m::post))(g:FA→FA):(A.upd m.abs.name g).files=pre.map (·.abs)++g m.abs::post.map (·.abs):=by
 have hn:=h.good.names;unfold DA.upd;have hf:=h.files;simp only[List.map_append,List.map_cons]at hf;rw[hf]at hn⊢;exact Ux _ _ _ g hn
theorem Good.upd(h:Good A){nm:List UInt8}{g:FA→FA}(hn:∀f∈A.files,(g f).name=f.name)(hs:∀f∈A.files,f.safe≤f.bytes.length→(g f).safe≤(g f).bytes.length)(hu:aH (fO A.files nm g)≤A.room):Good (A.upd nm g) where
 room:=h.room
 used:=hu
 count:=by simp[DA.upd,Q8];exact h.count
 names:=by
  have:(fO A.files nm g).map (·.name)=A.files.map (·.name):=by
   unfold fO;rw[List.map_map];apply List.map_congr_left;intro f hf;simp only[Function.comp_def];split
   ·exact hn f hf
   ·rfl
  show((fO A.files nm g).map (·.name)).Nodup;rw[this];exact h.names
 short:=by
  intro f hf;obtain⟨f',hf',rfl⟩:=List.mem_map.1 hf;split
  ·rw[hn f' hf'];exact h.short f' hf'
  ·exact h.short f' hf'
 safe:=by
  intro f hf;obtain⟨f',hf',rfl⟩:=List.mem_map.1 hf;split
  ·exact hs f' hf' (h.safe f' hf')
  ·exact h.safe f' hf'
 left:=h.left
def DA.sync(A:DA)(nm:List UInt8):Int×DA:=
 if A.fails then(14,A)
 else if !A.has nm then(7,A.tick)
 else(0,A.tick.upd nm (fun f=>{f with safe:=f.bytes.length}))
theorem OT{l:List FA}{nm:List UInt8}{g:FA→FA}(h:∀f∈l,(g f).bytes.length=f.bytes.length):aH (fO l nm g)=aH l:=by
 unfold aH fO;rw[List.map_map];congr 1
 apply List.map_congr_left;intro f hf;simp only[Function.comp_def];split
 ·exact h f hf
 ·rfl
set_option maxRecDepth 100000 in
theorem ku(h:Parts w base d F A aI ms)(s:ByteArray)(hs:s.size≤maxLen):
 Calls Tryz.prog 72 #[.pointer (some ⟨d,0,none⟩), .string s] w fun e w'=>e= .returned (aC (A.sync s.data.toList).1)∧dA w w' base d F (A.sync s.data.toList).2:=by
 have H:Hid (Parts w base d F A aI ms):=h;have hdF:=h.iT;have aaP:=wG h s.data.toList;clear h;cases hf:A.fails
 case true=>
  have HV:Hid (A.sync s.data.toList=(14,A)):=by show _=_;simp[DA.sync,hf]
  have HF:Hid (A.fails=true):=hf;clear hf aaP;go_enter Tryz.func72,Tryz.ntmps72
  go_wp2_with (go_at_call 69;refine(jL H.out HF.out _).mono ?_;rintro e w' ⟨rfl,rfl⟩;unfold bQ)
  go_ret
  exact⟨by rw[HV.out];rfl,by rw[HV.out];exact dA.none H.out⟩
 case false=>
  have HF:Hid (A.fails=false):=hf;cases hm:bW ms s.data.toList with
  |none=>
   have HV:Hid (A.sync s.data.toList=(7,A.tick)):=by show _=_;simp[DA.sync,hf,aaP,hm]
   have HM:Hid (bW ms s.data.toList=none):=hm;clear hf aaP hm;go_enter Tryz.func72,Tryz.ntmps72
   go_wp2_with (go_at_call 69;refine(dW H.out HF.out _ hs _ HM.out).mono ?_;rintro e w1 ⟨rfl,hp,ht⟩;simp only[o6];unfold bQ)
   go_ret
   exact⟨by rw[HV.out];rfl,by rw[HV.out];exact dA.tick hp hdF ht⟩
  |some m=>
   have HV:Hid (A.sync s.data.toList=(0,A.tick.upd s.data.toList (fun f=>{f with safe:=f.bytes.length}))):=by show _=_;simp[DA.sync,hf,aaP,hm]
   have HM:Hid (bW ms s.data.toList=some m):=hm;clear hf aaP hm;go_enter Tryz.func72,Tryz.ntmps72
   go_wp2_with fail
   refine(dW H.out HF.out _ hs _ HM.out).mono ?_;rintro e w1 ⟨rfl,hp,ht⟩;simp only[o6];have HP:Hid (Parts w1 base d F A.tick aI ms):=hp;obtain⟨pre,post,rfl,hnm⟩:=qp HM.out;have hfa:=hp.each m (by simp);obtain⟨sa,sc,hsl,adq,adO⟩:=hfa.2.form;have cf:w1.cell? ⟨m.blk,0,none⟩=some (.slice sa m.abs.bytes.length sc):=by rw[cell_of hfa.1,hsl];rfl
   have cg:w1.cell? ⟨m.blk,1,none⟩=some (.int .i64 m.abs.safe):=by rw[cell_of hfa.1];rfl
   have ff:w1.frozen? ⟨m.blk,1,none⟩=false:=au hfa.1 1;have OU:Hid (gK w1 base m):=hfa;have HS:Hid (m.sl= .slice sa m.abs.bytes.length sc):=hsl;have Wu:Hid (m.abs.name=s.data.toList):=hnm;clear hp hfa hsl hnm;go_wp2
   go_ret
   have ht2:Turn m.foot w1 (w1.setCell ⟨m.blk,1,none⟩ (.int .i64 m.abs.bytes.length)):=(Turn.refl _ _).setCell (by simp[aF.foot]) _;have acx:gK (w1.setCell ⟨m.blk,1,none⟩ (.int .i64 m.abs.bytes.length)) base ⟨{m.abs with safe:=m.abs.bytes.length},m.blk,m.sl⟩:=by
    refine⟨by rw[heap_set OU.out.1];simp,?_⟩;have hnd:=HP.out.nodup;rw[HP.out.foot]at hnd;simp only[List.flatMap_append,List.flatMap_cons,List.nodup_cons,List.nodup_append,aF.foot,List.mem_append,List.mem_cons]at hnd;exact OU.out.2.kept (S:=[m.blk]) ((Turn.refl _ _).setCell (by simp) _) (by
     intro k hk e;simp only[List.mem_singleton]at e;subst e;exact hnd.2.2.1.2.1.1.1 (by simpa using hk))
   have abj:Good (A.tick.upd m.abs.name (fun f=>{f with safe:=f.bytes.length})):=HP.out.good.upd (fun _ _=>rfl) (fun _ _ _=>Nat.le_refl _) (by rw[OT (g:=fun f=>{f with safe:=f.bytes.length}) (fun _ _=>rfl)];exact HP.out.good.used);obtain⟨F',hP,_,hF'⟩:=HP.out.BP (m':=⟨{m.abs with safe:=m.abs.bytes.length},m.blk,m.sl⟩) rfl rfl ht2 acx (fun k hk=> .inl hk) (A':=A.tick.upd m.abs.name (fun f=>{f with safe:=f.bytes.length})) rfl rfl rfl (uU HP.out _) abj;refine⟨by rw[HV.out];rfl,?_⟩;rw[HV.out,←Wu.out];refine⟨F',⟨_,_,hP⟩,(ht.mono (by simpa using .inl hdF)).trans ht2 (fun k hk=> .inl (HP.out.lH (m:=m) (by simp) hk)),fun k hk=>?_⟩;rcases hF' k hk with h1|h1
   ·exact .inl h1
   ·have:=ht.size;exact .inr (by omega)
end
section
variable {w w':World} {base d:Nat} {F:List Nat} {A A':DA} {aI:Option Nat} {ms:List aF}
def DA.add(A:DA)(nm:List UInt8)(bs:List UInt8):Int×DA:=
 if A.fails then(14,A)
 else if !A.has nm then(7,A.tick)
 else if A.room<aH A.files+bs.length then(12,A.tick)
 else(0,A.tick.upd nm (fun f=>{f with bytes:=f.bytes++bs}))
theorem iD(l r:List FA)(f:FA):aH (l++f::r)=aH l+f.bytes.length+aH r:=by
 simp[aH,List.sum_append];omega
theorem Tryz.Nv:(Tryz.prog.info? 5).map (fun i=>(i.zero,i.size,i.bytes))=some (some (.int .u8 0),1,1):=by kernel_rfl
set_option maxRecDepth 100000 in
theorem add_any(h:Parts w base d F A aI ms)(s:ByteArray)(hs:s.size≤maxLen)(v:Value)(bs:List UInt8)(hxk:∀Z,Turn F w Z→SliceAt Z v (bs.map ah))(hbs:bs.length≤1099511627776):
 Calls Tryz.prog 91 #[.pointer (some ⟨d,0,none⟩), .string s,v] w fun e w'=>e= .returned (aC (A.add s.data.toList bs).1)∧dA w w' base d F (A.add s.data.toList bs).2:=by
 have hx:=hxk w (Turn.refl _ _);have H:Hid (Parts w base d F A aI ms):=h;have hdF:=h.iT;have aaP:=wG h s.data.toList;have aaz:=h.good.room;have Vw:=h.good.used;clear h;cases hf:A.fails
 case true=>
  have HV:Hid (A.add s.data.toList bs=(14,A)):=by show _=_;simp[DA.add,hf]
  have HF:Hid (A.fails=true):=hf;clear hf aaP aaz Vw hx;go_enter Tryz.func91,Tryz.ntmps91
  go_wp2_with (go_at_call 69;refine(jL H.out HF.out _).mono ?_;rintro e w' ⟨rfl,rfl⟩;unfold bQ)
  go_ret
  exact⟨by rw[HV.out];rfl,by rw[HV.out];exact dA.none H.out⟩
 case false=>
  have HF:Hid (A.fails=false):=hf;cases hm:bW ms s.data.toList with
  |none=>
   have HV:Hid (A.add s.data.toList bs=(7,A.tick)):=by show _=_;simp[DA.add,hf,aaP,hm]
   have HM:Hid (bW ms s.data.toList=none):=hm;clear hf aaP hm aaz Vw hx;go_enter Tryz.func91,Tryz.ntmps91
   go_wp2_with (go_at_call 69;refine(dW H.out HF.out _ hs _ HM.out).mono ?_;rintro e w1 ⟨rfl,hp,ht⟩;simp only[o6];unfold bQ)
   go_ret
   exact⟨by rw[HV.out];rfl,by rw[HV.out];exact dA.tick hp hdF ht⟩
  |some m=>
   have HM:Hid (bW ms s.data.toList=some m):=hm;have an7:∃xa xc,v= .slice xa bs.length xc:=by
    rcases hx with⟨rfl,hb⟩|⟨a,c,rfl,_⟩
    ·have:bs=[]:=by simpa using hb
     subst this;exact⟨_,_,rfl⟩
    ·exact⟨some a,c,by simp⟩
   obtain⟨xa,xc,rfl⟩:=an7;have HX:Hid (SliceAt w (.slice xa bs.length xc) (bs.map ah)):=hx;have hwr:IntKind.i64.wrap ((aH A.files:Int)+(bs.length:Int))=(aH A.files:Int)+(bs.length:Int):=by
    rw[IntWalk.i64_left,IntWalk.wrap64_in _ (by omega)]
   by_cases ah3:A.room<aH A.files+bs.length
   ·have HV:Hid (A.add s.data.toList bs=(12,A.tick)):=by show _=_;simp[DA.add,hf,aaP,hm,ah3]
    clear hf aaP hm hx;have hfi:(A.room:Int)<(aH A.files:Int)+bs.length:=by omega
    go_enter Tryz.func91,Tryz.ntmps91
    go_wp2_with fail
    refine(dW H.out HF.out _ hs _ HM.out).mono ?_;rintro e w1 ⟨rfl,hp,ht⟩;simp only[o6];have c0:=hp.c0;rw[jU]at c0;have hu1:∀W,Turn [] w1 W→Calls Tryz.prog 123 #[.pointer (some ⟨d,0,none⟩)] W fun e w'=>e= .returned (.int .i64 (aH A.files))∧Turn [] W w':=by
     intro W hW;have hq:=IM (hp.kept hW (by simp));rw[di]at hq;exact hq
    have HP:Hid (Parts w1 base d F A.tick aI ms):=hp;have HU:Hid (∀W,Turn [] w1 W→Calls Tryz.prog 123 #[.pointer (some ⟨d,0,none⟩)] W fun e w'=>e= .returned (.int .i64 (aH A.files))∧Turn [] W w'):=hu1;clear hp hu1;go_wp2_with fail
    go_region_with (go_at_call 123;refine(HU.out _ (by repeat (first|exact Turn.refl _ _|refine Turn.drew ?_))).mono ?_;rintro e w2 ⟨rfl,ht2⟩;have ht3:Turn [] w1 w2:=Turn.same (by repeat (first|exact Turn.refl _ _|refine Turn.drew ?_)) ht2;have c02:w2.cell? ⟨d,0,none⟩=some (.int .i64 A.room):=by {have hq:=(HP.out.kept ht3 (by simp)).c0;rw[jU]at hq;exact hq})
    all_goals
     go_wp2
     go_ret
     exact⟨by rw[HV.out];rfl,by rw[HV.out];exact dA.tick (HP.out.kept ht3 (by simp)) hdF (ht.trans ht3 (by simp))⟩
   ·have HV:Hid (A.add s.data.toList bs=(0,A.tick.upd s.data.toList (fun f=>{f with bytes:=f.bytes++bs}))):=by show _=_;simp[DA.add,hf,aaP,hm,ah3]
    obtain⟨i0,hi,hz,hz1,hz2⟩:=info_parts Tryz.Nv;clear hf aaP hm hx;have hfi:((aH A.files:Int)+bs.length≤A.room):=by omega
    go_enter Tryz.func91,Tryz.ntmps91
    go_wp2_with fail
    refine(dW H.out HF.out _ hs _ HM.out).mono ?_;rintro e w1 ⟨rfl,hp,ht⟩;simp only[o6];have c0:=hp.c0;rw[jU]at c0;have hu1:∀W,Turn [] w1 W→Calls Tryz.prog 123 #[.pointer (some ⟨d,0,none⟩)] W fun e w'=>e= .returned (.int .i64 (aH A.files))∧Turn [] W w':=by
     intro W hW;have hq:=IM (hp.kept hW (by simp));rw[di]at hq;exact hq
    have HP:Hid (Parts w1 base d F A.tick aI ms):=hp;have HU:Hid (∀W,Turn [] w1 W→Calls Tryz.prog 123 #[.pointer (some ⟨d,0,none⟩)] W fun e w'=>e= .returned (.int .i64 (aH A.files))∧Turn [] W w'):=hu1;clear hp hu1;obtain⟨pre,post,rfl,hnm⟩:=qp HM.out;have Wu:Hid (m.abs.name=s.data.toList):=hnm;clear hnm;go_wp2_with fail
    go_region_with (go_at_call 123;refine(HU.out _ (by repeat (first|exact Turn.refl _ _|refine Turn.drew ?_))).mono ?_;rintro e w2 ⟨rfl,ht2⟩;have ht3:Turn [] w1 w2:=Turn.same (by repeat (first|exact Turn.refl _ _|refine Turn.drew ?_)) ht2;have c02:w2.cell? ⟨d,0,none⟩=some (.int .i64 A.room):=by {have hq:=(HP.out.kept ht3 (by simp)).c0;rw[jU]at hq;exact hq})
    all_goals
     have HP2:Hid (Parts w2 base d F A.tick aI (pre++m::post)):=HP.out.kept ht3 (by simp);have hfa:=HP2.out.each m (by simp);obtain⟨sa,sc,hsl,adq,adO⟩:=hfa.2.form;have cf:w2.cell? ⟨m.blk,0,none⟩=some (.slice sa m.abs.bytes.length sc):=by rw[cell_of hfa.1,hsl];rfl
     have OU:Hid (gK w2 base m):=hfa;have HS:Hid (m.sl= .slice sa m.abs.bytes.length sc):=hsl;have hX2:SliceAt w2 (.slice xa bs.length xc) (bs.map ah):=hxk w2 ((ht.mono (by simpa using .inl hdF)).trans ht3 (by simp));have hml:m.abs.bytes.length≤aH A.files:=by
      have hq:=HP.out.files;rw[di]at hq;rw[hq,List.map_append,List.map_cons,iD];omega
     have hbl:base≤w2.heap.size:=by have:=HP2.out.low d hdF;have:=HP2.out.lt d hdF;omega
     have HX2:Hid (SliceAt w2 (.slice xa bs.length xc) (bs.map ah)):=hX2;have hnb:m.blk∉m.sl.ownBlock.toList:=by
      have hnd:=HP.out.nodup;rw[HP.out.foot]at hnd;simp only[List.flatMap_append,List.flatMap_cons,List.nodup_cons,List.nodup_append,aF.foot]at hnd;exact hnd.2.2.1.2.1.1.1
     have Yd:Hid (m.blk∉m.sl.ownBlock.toList):=hnb;clear hfa hsl hX2 hnb;go_wp2_with (at_builtin;go_must (refine jc _ rfl _ _ 39 rfl 5 base i0 Tryz.underlying39 hi hz hz1 hz2 (.slice sa m.abs.bytes.length sc) (.slice xa bs.length xc) m.abs.bytes bs rfl rfl (by rw[←HS.out];exact OU.out.2) HX2.out (by omega) hbl ?_;intro v3 w3 aaE ht4 hown3;rw[←HS.out]at ht4 hown3;have hb3:=ht4.heap OU.out.1 Yd.out;have cf3:=cell_of hb3 0;have ff3:=au hb3 0;simp only[List.getElem?_toArray,List.getElem?_cons_zero]at cf3;have HB3:Hid (w3.heap[m.blk]? =_):=hb3;clear hb3;obtain⟨a3,c3,hv3,h31,h32⟩:=aaE.form;rw[List.length_append]at hv3;subst hv3;have HR3:Hid (bZ w3 5 base _ (m.abs.bytes++bs)):=aaE;clear aaE))
     go_ret
     have ht5:Turn m.foot w2 (w3.setCell ⟨m.blk,0,none⟩ (.slice a3 (m.abs.bytes.length+bs.length) c3)):=(ht4.mono (by intro k hk;exact .inl (by simp only[aF.foot,List.mem_cons];exact .inr hk))).setCell (by simp[aF.foot]) _;have atM:=ht4.size;have an8:m.blk∉(Value.slice a3 (m.abs.bytes.length+bs.length) c3).ownBlock:=by
      intro e;rcases hown3 _ e with h1|h1
      ·exact Yd.out (by simpa using h1)
      ·have:=lt_of_heap OU.out.1;omega
     have acx:gK (w3.setCell ⟨m.blk,0,none⟩ (.slice a3 (m.abs.bytes.length+bs.length) c3)) base ⟨{m.abs with bytes:=m.abs.bytes++bs},m.blk, .slice a3 (m.abs.bytes.length+bs.length) c3⟩:=
      ⟨by rw[heap_set HB3.out];simp,HR3.out.kept (S:=[m.blk]) ((Turn.refl _ _).setCell (by simp) _) (by intro k hk e;simp only[List.mem_singleton]at e;subst e;exact an8 hk)⟩
     have abj:Good (A.tick.upd m.abs.name (fun f=>{f with bytes:=f.bytes++bs})):=HP.out.good.upd (fun _ _=>rfl) (fun f _ hh=>by show f.safe≤(f.bytes++bs).length;rw[List.length_append];omega) (by
      have hu:=uU HP.out (fun f=>{f with bytes:=f.bytes++bs});have hq:=HP.out.files;have hu2:aH A.files+bs.length≤A.room:=by omega
      have e:fO A.tick.files m.abs.name (fun f=>{f with bytes:=f.bytes++bs})=(A.tick.upd m.abs.name (fun f=>{f with bytes:=f.bytes++bs})).files:=rfl;rw[e,hu,iD,jU];rw[di]at hq;rw[hq,List.map_append,List.map_cons,iD]at hu2;simp only[List.length_append];omega)
     obtain⟨F',hP,_,hF'⟩:=HP2.out.BP (m':=⟨{m.abs with bytes:=m.abs.bytes++bs},m.blk, .slice a3 (m.abs.bytes.length+bs.length) c3⟩) rfl rfl ht5 acx hown3 (A':=A.tick.upd m.abs.name (fun f=>{f with bytes:=f.bytes++bs})) rfl rfl rfl (uU HP.out _) abj;refine⟨by rw[HV.out];rfl,?_⟩;rw[HV.out,←Wu.out];refine⟨F',⟨_,_,hP⟩,((ht.mono (by simpa using .inl hdF)).trans ht3 (by simp)).trans ht5 (fun k hk=> .inl (HP.out.lH (m:=m) (by simp) hk)),fun k hk=>?_⟩;rcases hF' k hk with h1|h1
     ·exact .inl h1
     ·have:=ht.size;have:=ht3.size;exact .inr (by omega)
end
end Dk
end
section
open Go.RowKit Go.Maps
set_option linter.unusedSimpArgs false
set_option linter.unusedVariables false
namespace Dk
section
variable {w w':World} {base d:Nat} {F:List Nat} {A A':DA} {aI:Option Nat} {ms:List aF}
theorem IP(ts:Array TypeId)(t:TypeId)(x y:Int)(w:World):(Builtin.min_ ts t #[.int .i64 x, .int .i64 y]).run Tryz.prog w= .ok (.int .i64 (if y<x then y else x)) w:=by
 simp[Builtin.min_,Builtin.min2]
def nP(sl:Value)(n:Nat):Value:=match sl with
 | .slice a _ _=> .slice a n n
 |v=>v
theorem bZ.cut{w:World}{e base:Nat}{sl:Value}{bs:List UInt8}{n:Nat}(h:bZ w e base sl bs)(hn:n≤bs.length):bZ w e base (nP sl n) (bs.take n):=by
 rcases h with⟨rfl,rfl⟩|⟨g,cap,cur,rfl,hb,hg,h1,h2,h3,h4⟩
 ·have:n=0:=by simpa using hn
  subst this;exact .inl ⟨rfl,rfl⟩
 ·refine .inr ⟨g,n,cur,by simp[nP];omega,hb,hg,by simp;omega,by omega,by omega,?_⟩
  rw[show(bs.take n).length=n by simp;omega];rw[List.map_take,←h4,List.take_take];congr 1;omega
theorem oC(sl:Value)(n:Nat):∀k∈(nP sl n).ownBlock,k∈sl.ownBlock:=by
 intro k hk;unfold nP at hk;split at hk
 ·rename_i a _ _
  cases a<;>simp[Value.ownBlock]at hk⊢
  exact hk
 ·exact hk
set_option maxRecDepth 100000 in
theorem keep_any{m:aF}(h:gK w base m)(hnb:m.blk∉m.sl.ownBlock)(n:Nat)(hn:n≤m.abs.bytes.length)(adL:m.abs.bytes.length≤1048576)(aen:m.abs.safe≤m.abs.bytes.length):
 Calls Tryz.prog 52 #[.pointer (some ⟨m.blk,0,none⟩), .int .i64 n] w fun e w'=>e= .returned (.tuple #[])∧gK w' base ⟨{m.abs with bytes:=m.abs.bytes.take n,safe:=min m.abs.safe n},m.blk,nP m.sl n⟩∧Turn [m.blk] w w':=by
 obtain⟨sa,sc,hsl,adq,adO⟩:=h.2.form;have cf:w.cell? ⟨m.blk,0,none⟩=some (.slice sa m.abs.bytes.length sc):=by rw[cell_of h.1,hsl];rfl
 have cg:w.cell? ⟨m.blk,1,none⟩=some (.int .i64 m.abs.safe):=by rw[cell_of h.1];rfl
 have f0:w.frozen? ⟨m.blk,0,none⟩=false:=au h.1 0;have f1:w.frozen? ⟨m.blk,1,none⟩=false:=au h.1 1;have H:Hid (gK w base m):=h;have HS:Hid (m.sl= .slice sa m.abs.bytes.length sc):=hsl;have Yd:Hid (m.blk∉m.sl.ownBlock):=hnb;have hs3:∀w,(Instr.slice 39 (.slice sa m.abs.bytes.length sc) none (some (.int .i64 (n:Int))) (some (.int .i64 (n:Int)))).run Tryz.prog w= .ok (.slice sa n n) w:=by
  intro w;have hsz:(sizeOf 5).run Tryz.prog w= .ok 1 w:=by kernel_rfl
  simp[Instr.slice,run_underlying Tryz.underlying39,Instr.sliceBounds,run_sliceBound,hsz,Result.andThen,(by omega:n≤sc),Addr.add]
 have ahw:=IP;clear h hsl hnb;have HC:Hid (nP m.sl n= .slice sa n n):=by show _=_;rw[HS.out];rfl
 have HR:Hid (bZ w 5 base (.slice sa n n) (m.abs.bytes.take n)):=by have:=bZ.cut H.out.2 hn;rw[HC.out]at this;exact this
 have aar:∀q:Nat,q=min m.abs.safe n→gK ((w.setCell ⟨m.blk,0,none⟩ (.slice sa n n)).setCell ⟨m.blk,1,none⟩ (.int .i64 (q:Int))) base ⟨{m.abs with bytes:=m.abs.bytes.take n,safe:=min m.abs.safe n},m.blk,nP m.sl n⟩:=by
  intro q hq;refine⟨?_,?_⟩
  ·rw[heap_set (heap_set H.out.1 0 _) 1,HC.out,hq];simp
  ·show bZ _ _ _ (nP m.sl n) (m.abs.bytes.take n)
   rw[HC.out];refine HR.out.kept (S:=[m.blk]) (((Turn.refl _ _).setCell (by simp) _).setCell (by simp) _) ?_;intro k hk e;simp only[List.mem_singleton]at e;subst e;exact Yd.out (oC m.sl n _ (by rw[HC.out];exact hk))
 have aoa:Hid (∀q:Nat,q=min m.abs.safe n→gK ((w.setCell ⟨m.blk,0,none⟩ (.slice sa n n)).setCell ⟨m.blk,1,none⟩ (.int .i64 (q:Int))) base ⟨{m.abs with bytes:=m.abs.bytes.take n,safe:=min m.abs.safe n},m.blk,nP m.sl n⟩):=aar;clear aar;by_cases hsn:(n:Int)<(m.abs.safe:Int)
 all_goals
  go_enter Tryz.func52,Tryz.ntmps52
  go_wp2
  go_end0
  exact⟨rfl,aoa.out _ (by omega),((Turn.refl _ _).setCell (by simp) _).setCell (by simp) _⟩
end
end Dk
end
section
open Go.RowKit Go.Maps
set_option maxRecDepth 100000
set_option linter.unusedSimpArgs false
set_option linter.unusedVariables false
namespace Dk
theorem KG(l:List FA)(nm:List UInt8)(g:FA→FA)(hg:∀f,(g f).name=f.name):(fO l nm g).map (·.name)=l.map (·.name):=by
 unfold fO;rw[List.map_map];apply List.map_congr_left;intro f _;simp only[Function.comp_def];split
 ·exact hg f
 ·rfl
theorem IQ{l:List FA}{nm:List UInt8}{g:FA→FA}(h:∀f∈l,(g f).bytes.length≤f.bytes.length):aH (fO l nm g)≤aH l:=by
 unfold aH fO;induction l with
 |nil=>exact Nat.le_refl _
 |cons a r ih=>
  have ih:=ih (fun f hf=>h f (by simp[hf]));have h1:=h a (by simp);simp only[List.map_cons,List.sum_cons];split<;>omega
section
variable {w w':World} {base d:Nat} {F:List Nat} {A A':DA} {aI:Option Nat} {ms ms':List aF} {mb:Nat}
def DA.file(A:DA)(nm:List UInt8):Option FA:=A.files.find? (fun f=>f.name==nm)
theorem uj(h:Parts w base d F A aI ms)(nm:List UInt8):A.file nm=(bW ms nm).map (·.abs):=by
 unfold DA.file bW;rw[h.files,List.find?_map];rfl
theorem kz(A:DA)(nm:List UInt8):A.has nm=(A.file nm).isSome:=rfl
def DA.sizeOf(A:DA)(nm:List UInt8):Int:=match A.file nm with
 |some f=>f.bytes.length
 |none=> -1
theorem size_any(h:Parts w base d F A aI ms)(s:ByteArray)(hs:s.size≤maxLen):
 Calls Tryz.prog 106 #[.pointer (some ⟨d,0,none⟩), .string s] w fun e w'=>e= .returned (.int .i64 (A.sizeOf s.data.toList))∧w=w':=by
 have c1:=h.c1;have aaF:=h.map.look hs;have xh:=uj h s.data.toList;cases hm:bW ms s.data.toList with
 |none=>
  have HV:Hid (A.sizeOf s.data.toList= -1):=by show _=_;simp[DA.sizeOf,xh,hm]
  rw[hm]at aaF;simp only[uI]at aaF;clear h xh hm;go_enter Tryz.func106,Tryz.ntmps106
  go_wp2
  go_ret
  exact⟨by rw[HV.out];rfl,rfl⟩
 |some m=>
  have HV:Hid (A.sizeOf s.data.toList=m.abs.bytes.length):=by show _=_;simp[DA.sizeOf,xh,hm]
  have hfa:=h.each m (qo hm).1;obtain⟨sa,sc,hsl,adq,adO⟩:=hfa.2.form;have cf:w.cell? ⟨m.blk,0,none⟩=some (.slice sa m.abs.bytes.length sc):=by rw[cell_of hfa.1,hsl];rfl
  rw[hm]at aaF;simp only[uI]at aaF;clear h xh hm hfa hsl;go_enter Tryz.func106,Tryz.ntmps106
  go_wp2
  go_ret
  exact⟨by rw[HV.out];rfl,rfl⟩
def wI(n:Nat)(f:FA):FA:={f with bytes:=f.bytes.take n,safe:=min f.safe n}
def DA.cut(A:DA)(nm:List UInt8)(n:Int):Int×DA:=
 if A.fails then(14,A)
 else match A.file nm with
  |none=>(7,A.tick)
  |some f=>if n<0∨(f.bytes.length:Int)<n then(2,A.tick)else(0,A.tick.upd nm (wI n.toNat))
theorem Uy(h:Parts w base d F A aI ms)(s:ByteArray)(hs:s.size≤maxLen)(n:Int):
 Calls Tryz.prog 109 #[.pointer (some ⟨d,0,none⟩), .string s, .int .i64 n] w fun e w'=>e= .returned (aC (A.cut s.data.toList n).1)∧dA w w' base d F (A.cut s.data.toList n).2:=by
 have H:Hid (Parts w base d F A aI ms):=h;have hdF:=h.iT;have xh:=uj h s.data.toList;clear h;cases hf:A.fails
 case true=>
  have HV:Hid (A.cut s.data.toList n=(14,A)):=by show _=_;simp[DA.cut,hf]
  have HF:Hid (A.fails=true):=hf;clear hf xh;go_enter Tryz.func109,Tryz.ntmps109
  go_wp2_with (go_at_call 69;refine(jL H.out HF.out _).mono ?_;rintro e w' ⟨rfl,rfl⟩;unfold bQ)
  go_ret
  exact⟨by rw[HV.out];rfl,by rw[HV.out];exact dA.none H.out⟩
 case false=>
  have HF:Hid (A.fails=false):=hf;cases hm:bW ms s.data.toList with
  |none=>
   have HV:Hid (A.cut s.data.toList n=(7,A.tick)):=by show _=_;simp[DA.cut,hf,xh,hm]
   have HM:Hid (bW ms s.data.toList=none):=hm;clear hf xh hm;go_enter Tryz.func109,Tryz.ntmps109
   go_wp2_with (go_at_call 69;refine(dW H.out HF.out _ hs _ HM.out).mono ?_;rintro e w1 ⟨rfl,hp,ht⟩;simp only[o6];unfold bQ)
   go_ret
   exact⟨by rw[HV.out];rfl,by rw[HV.out];exact dA.tick hp hdF ht⟩
  |some m=>
   have HM:Hid (bW ms s.data.toList=some m):=hm;by_cases hr:n<0∨(m.abs.bytes.length:Int)<n
   ·have HV:Hid (A.cut s.data.toList n=(2,A.tick)):=by show _=_;simp[DA.cut,hf,xh,hm,hr]
    have HR:Hid (n<0∨(m.abs.bytes.length:Int)<n):=hr;clear hf xh hm hr;by_cases h1:n<0
    all_goals
     have h2:n<0∨(m.abs.bytes.length:Int)<n:=HR.out;go_enter Tryz.func109,Tryz.ntmps109
     go_wp2_with fail
     refine(dW H.out HF.out _ hs _ HM.out).mono ?_;rintro e w1 ⟨rfl,hp,ht⟩;simp only[o6];have HP:Hid (Parts w1 base d F A.tick aI ms):=hp;have hfa:=hp.each m (qo HM.out).1;obtain⟨sa,sc,hsl,adq,adO⟩:=hfa.2.form;have cf:w1.cell? ⟨m.blk,0,none⟩=some (.slice sa m.abs.bytes.length sc):=by rw[cell_of hfa.1,hsl];rfl
     try (have h3:(m.abs.bytes.length:Int)<n:=by(have:=HR.out;omega))
     clear hp hfa hsl h2;go_wp2
     go_ret
     exact⟨by rw[HV.out];rfl,by rw[HV.out];exact dA.tick HP.out hdF ht⟩
   ·have HV:Hid (A.cut s.data.toList n=(0,A.tick.upd s.data.toList (wI n.toNat))):=by show _=_;simp[DA.cut,hf,xh,hm,hr]
    obtain⟨k,rfl⟩:=Int.eq_ofNat_of_zero_le (show 0≤n by omega);have h1:¬(k:Int)<0:=by omega
    have h2:¬(m.abs.bytes.length:Int)<k:=by omega
    have hkn:k≤m.abs.bytes.length:=by omega
    clear hf xh hm hr;go_enter Tryz.func109,Tryz.ntmps109
    go_wp2_with fail
    refine(dW H.out HF.out _ hs _ HM.out).mono ?_;rintro e w1 ⟨rfl,hp,ht⟩;simp only[o6];have HP:Hid (Parts w1 base d F A.tick aI ms):=hp;obtain⟨pre,post,rfl,hnm⟩:=qp HM.out;have hfa:=hp.each m (by simp);obtain⟨sa,sc,hsl,adq,adO⟩:=hfa.2.form;have cf:w1.cell? ⟨m.blk,0,none⟩=some (.slice sa m.abs.bytes.length sc):=by rw[cell_of hfa.1,hsl];rfl
    have OU:Hid (gK w1 base m):=hfa;have Wu:Hid (m.abs.name=s.data.toList):=hnm;have hnb:m.blk∉m.sl.ownBlock:=by
     have hnd:=hp.nodup;rw[hp.foot]at hnd;simp only[List.flatMap_append,List.flatMap_cons,List.nodup_cons,List.nodup_append,aF.foot]at hnd;intro e;exact hnd.2.2.1.2.1.1.1 (by simpa using e)
    have acz:m.abs.bytes.length≤1048576:=by
     have h1:=hp.good.used;have h2:=hp.good.room;rw[hp.files,List.map_append,List.map_cons,iD]at h1;omega
    have aen:=hp.good.safe m.abs (by rw[hp.files];simp);have HB:Hid (m.blk∉m.sl.ownBlock∧m.abs.bytes.length≤1048576∧m.abs.safe≤m.abs.bytes.length):=⟨hnb,acz,aen⟩;clear hp hfa hsl hnm hnb acz aen;go_wp2_with fail
    refine(keep_any OU.out HB.out.1 k hkn HB.out.2.1 HB.out.2.2).mono ?_;rintro e w2 ⟨rfl,aeV,ht2⟩;go_wp2
    go_ret
    have htf:Turn m.foot w1 w2:=ht2.mono (by intro x hx;simp only[List.mem_singleton]at hx;subst hx;exact .inl (by simp[aF.foot]));have abj:Good (A.tick.upd m.abs.name (wI k)):=HP.out.good.upd (fun _ _=>rfl) (fun f _ hh=>by simp only[wI,List.length_take];omega) (Nat.le_trans (IQ (fun f _=>by simp only[wI,List.length_take];omega)) HP.out.good.used);obtain⟨F',hP,abH,_⟩:=HP.out.BP (m':=⟨wI k m.abs,m.blk,nP m.sl k⟩) rfl rfl htf aeV (fun x hx=> .inl (oC m.sl k x hx)) (A':=A.tick.upd m.abs.name (wI k)) rfl rfl rfl (uU HP.out _) abj;refine⟨by rw[HV.out];rfl,?_⟩;rw[HV.out];simp only[Int.toNat_natCast];rw[←Wu.out];refine⟨F',⟨_,_,hP⟩,(ht.mono (by simpa using .inl hdF)).trans htf (fun x hx=> .inl (HP.out.lH (m:=m) (by simp) hx)),fun x hx=> .inl ?_⟩;rcases abH x hx with h1|h1
    ·exact h1
    ·exact HP.out.lH (m:=m) (by simp) (by simp only[aF.foot,List.mem_cons,Option.mem_toList];exact .inr (oC m.sl k x h1))
end
end Dk
end
end Go.Proofs.YtficbckncieabaaGreatDoor
section
namespace Go.Proofs.YtficbckncieabaaGreatDoor.Cr
set_option linter.unusedSimpArgs false
set_option linter.unusedVariables false
theorem xr{a b c:Nat}(h:c^^^a=c^^^b):a=b:=by
 have:=congrArg (c^^^ ·) h;simpa[←Nat.xor_assoc]using this
theorem xl{a b c:Nat}(h:a^^^c=b^^^c):a=b:=xr (c:=c) (by rwa [Nat.xor_comm c,Nat.xor_comm c])
theorem Dn{s:Nat}(h:s<4294967296):(step s).testBit 31=decide (s%2=1):=by
 unfold step;rw[Nat.testBit_xor];have h1:(s/2).testBit 31=false:=Nat.testBit_lt_two_pow (by omega);rw[h1];have:s%2=0∨s%2=1:=by omega
 rcases this with e|e<;>rw[e]<;>decide
theorem Q9{s t:Nat}(hs:s<4294967296)(ht:t<4294967296)(h:step s=step t):s=t:=by
 have h1:s%2=t%2:=by
  have:=(Dn hs).symm.trans ((congrArg (fun x=>Nat.testBit x 31) h).trans (Dn ht));have:=decide_eq_decide.1 this;omega
 have h2:s/2=t/2:=by
  unfold step at h;rw[h1]at h;exact xl h
 omega
theorem E5{s t:Nat}(hs:s<4294967296)(ht:t<4294967296):∀n,steps n s=steps n t→s=t
 |0,h=>h
 |n+1,h=>E5 hs ht n (Q9 (qg hs n) (qg ht n) h)
theorem Rf{s t:Nat}(hs:s<4294967296)(ht:t<4294967296){c d:UInt8}(h:byte s c=byte t d):s^^^c.toNat=t^^^d.toNat:=E5 (Gj hs c) (Gj ht d) 8 h
theorem sum_lt(bs:List UInt8):sum bs<4294967296:=by unfold sum;omega
end Go.Proofs.YtficbckncieabaaGreatDoor.Cr
namespace Go.Proofs.YtficbckncieabaaGreatDoor.Bt
open Go.Proofs.YtficbckncieabaaGreatDoor
set_option linter.unusedSimpArgs false
set_option linter.unusedVariables false
theorem Rh{a b:Nat}(ha:a<4294967296)(hb:b<4294967296)(h:four a=four b):a=b:=by
 have h1:=uP ha [];rw[h,uP hb]at h1;exact h1.symm
theorem dJ{x:aB}(h:aQ x=0):chk x=0∧(body x).length+8≤6000:=by
 unfold aQ at h;split at h
 ·rename_i hc
  split at h
  ·omega
  ·exact⟨hc,by omega⟩
 ·exact absurd h ‹_›
end Go.Proofs.YtficbckncieabaaGreatDoor.Bt
end
namespace Go.Proofs.YtficbckncieabaaGreatDoor
section
set_option maxRecDepth 100000
set_option linter.unusedSimpArgs false
set_option linter.unusedVariables false
theorem oD{x:Bt.aB}(h:Bt.aQ x=0)(more:List UInt8):Bt.fM (Bt.ah x++more)=(Bt.ah x).length:=by
 obtain⟨hc,hl⟩:=Bt.dJ h;have hlx:=Bt.gX x;rw[hlx];unfold Bt.ah;rw[List.append_assoc,List.append_assoc];exact Bt.uP (by omega) _
theorem NC{x:Bt.aB}(h:Bt.aQ x=0)(more:List UInt8):dec (Bt.ah x++more)=(x,(Bt.ah x).length,0):=by
 obtain⟨hc,hl⟩:=Bt.dJ h;have hlx:=Bt.gX x;have hb:=wC x;have hf:=oD h more;have ht:(Bt.ah x++more).take (Bt.ah x).length=Bt.ah x:=by simp
 have hm:IK (Bt.ah x++more)=Bt.body x:=by unfold IK;rw[hf,ht,Bt.uf]
 unfold dec;rw[hm,Bt.EO hc,hf,List.length_append];generalize (Bt.ah x).length=L at*
 rw[if_neg (by omega),if_neg (by omega),if_neg (by omega),if_pos ⟨h,by rw[hf,ht]⟩]
theorem oG{x:Bt.aB}(h:Bt.aQ x=0){k:Nat}(hk:k<(Bt.ah x).length):dec ((Bt.ah x).take k)=(kG,0,12):=by
 obtain⟨hc,hl⟩:=Bt.dJ h;have hlx:=Bt.gX x;have hb:=wC x;have hf:=oD h [];rw[List.append_nil]at hf;have hkl:((Bt.ah x).take k).length=k:=by rw[List.length_take];exact Nat.min_eq_left (Nat.le_of_lt hk)
 unfold dec;rw[hkl];by_cases h8:k<8
 ·rw[if_pos h8]
 ·have hf':Bt.fM ((Bt.ah x).take k)=(Bt.ah x).length:=by
   rw[←hf];unfold Bt.fM;simp only[List.getD_eq_getElem?_getD,List.getElem?_take];rw[if_pos (by omega),if_pos (by omega),if_pos (by omega),if_pos (by omega)]
  rw[hf'];generalize (Bt.ah x).length=L at*
  rw[if_neg h8,if_neg (by omega),if_pos hk]
end
section
set_option linter.unusedSimpArgs false
set_option linter.unusedVariables false
namespace Cr
theorem Ri(a b:Nat):step (a^^^b)=step a^^^step b:=by
 have h1:(a^^^b)/2=a/2^^^b/2:=by
  apply Nat.eq_of_testBit_eq;intro i;simp[Nat.testBit_div_two]
 have h2:(a^^^b)%2=(a%2+b%2)%2:=by
  have hx:=Nat.testBit_xor a b 0;simp only[Nat.testBit_zero]at hx;have ha:a%2=0∨a%2=1:=by omega
  have hb:b%2=0∨b%2=1:=by omega
  have hc:(a^^^b)%2=0∨(a^^^b)%2=1:=by omega
  rcases ha with ha|ha<;>rcases hb with hb|hb<;>rcases hc with hc|hc<;>simp_all
 unfold step;rw[h1,h2];have ha:a%2=0∨a%2=1:=by omega
 have hb:b%2=0∨b%2=1:=by omega
 rcases ha with ha|ha<;>rcases hb with hb|hb<;>rw[ha,hb]
 ·simp
 ·simp[Nat.xor_assoc]
 ·simp only[Nat.mul_one,Nat.mul_zero,Nat.xor_zero,Nat.reduceMod,Nat.reduceAdd]
  rw[Nat.xor_assoc,Nat.xor_assoc,Nat.xor_comm (b/2)]
 ·simp only[Nat.mul_one,Nat.mul_zero,Nat.xor_zero,Nat.reduceMod,Nat.reduceAdd]
  rw[Nat.xor_assoc,Nat.xor_comm (b/2),←Nat.xor_assoc 3988292384,Nat.xor_self,Nat.zero_xor]
theorem E8(a b:Nat):∀n,steps n (a^^^b)=steps n a^^^steps n b
 |0=>rfl
 |n+1=>by rw[steps,E8 a b n,Ri];rfl
theorem KH{s:Nat}(h:s<4294967296)(h2:step s<2147483648):s=2*step s:=by
 have h3:(step s).testBit 31=false:=Nat.testBit_lt_two_pow (by omega);rw[Dn h]at h3;have h4:s%2=0:=by
  have:=of_decide_eq_false h3;omega
 unfold step;rw[h4];simp;omega
theorem sQ{s:Nat}(h:s<4294967296):∀(n k:Nat),k+n≤32→steps n s<2^k→s=2^n*steps n s
 |0,_,_,_=>by simp[steps]
 |n+1,k,hk,hs=>by
  have hs':step (steps n s)<2^k:=hs;have hp:2^k≤2^31:=Nat.pow_le_pow_right (by omega) (by omega);have h1:=KH (qg h n) (by omega);have h2:steps n s<2^(k+1):=by rw[Nat.pow_succ];omega
  have h3:=sQ h n (k+1) (by omega) h2;show s=2^(n+1)*step (steps n s);rw[Nat.pow_succ,Nat.mul_assoc,←h1];exact h3
theorem IU{s t:Nat}(a b:UInt8):byte s a^^^byte t b=steps 8 ((s^^^t)^^^(a.toNat^^^b.toNat)):=by
 unfold byte;rw[←E8];congr 1
 rw[Nat.xor_assoc,Nat.xor_assoc];congr 1
 rw[←Nat.xor_assoc,Nat.xor_comm a.toNat t,Nat.xor_assoc]
theorem xor_zero{a b:Nat}(h:a^^^b=0):a=b:=by
 have:=congrArg (· ^^^b) h;simpa[Nat.xor_assoc]using this
theorem YL{s:Nat}(hs:s<4294967296){a1 a2 a3 b1 b2 b3:UInt8}(h:[a1,a2,a3].foldl byte s=[b1,b2,b3].foldl byte s):a1=b1∧a2=b2∧a3=b3:=by
 simp only[List.foldl_cons,List.foldl_nil]at h;have x8:∀a b:UInt8,a.toNat^^^b.toNat<256:=fun a b=>Nat.xor_lt_two_pow (n:=8) a.toNat_lt b.toNat_lt
 have same:∀{a b:UInt8},a.toNat^^^b.toNat=0→a=b:=fun h=>UInt8.toNat_inj.1 (xor_zero h)
 have lx:∀{a b:Nat},a<4294967296→b<4294967296→a^^^b<4294967296:=fun ha hb=>Nat.xor_lt_two_pow (n:=32) ha hb
 obtain⟨s1,h1⟩:∃x,x=byte s a1:=⟨_,rfl⟩;obtain⟨t1,k1⟩:∃x,x=byte s b1:=⟨_,rfl⟩;obtain⟨s2,h2⟩:∃x,x=byte s1 a2:=⟨_,rfl⟩;obtain⟨t2,k2⟩:∃x,x=byte t1 b2:=⟨_,rfl⟩;have ls1:s1<4294967296:=by rw[h1];exact vV hs _
 have lt1:t1<4294967296:=by rw[k1];exact vV hs _
 have ls2:s2<4294967296:=by rw[h2];exact vV ls1 _
 have lt2:t2<4294967296:=by rw[k2];exact vV lt1 _
 rw[←h1,←k1,←h2,←k2]at h;have e3:s2^^^t2=a3.toNat^^^b3.toNat:=by
  have:=Rf ls2 lt2 h;have h5:(s2^^^a3.toNat)^^^(t2^^^a3.toNat)=(t2^^^b3.toNat)^^^(t2^^^a3.toNat):=by rw[this]
  have l5:s2^^^a3.toNat^^^(t2^^^a3.toNat)=s2^^^t2:=by
   rw[Nat.xor_comm t2,Nat.xor_assoc,←Nat.xor_assoc a3.toNat,Nat.xor_self,Nat.zero_xor]
  have r5:t2^^^b3.toNat^^^(t2^^^a3.toNat)=a3.toNat^^^b3.toNat:=by
   rw[Nat.xor_comm t2 b3.toNat,Nat.xor_assoc,←Nat.xor_assoc t2,Nat.xor_self,Nat.zero_xor,Nat.xor_comm]
  rw[l5,r5]at h5;exact h5
 have d2:s2^^^t2=steps 8 ((s1^^^t1)^^^(a2.toNat^^^b2.toNat)):=by rw[h2,k2];exact IU _ _
 have d1:s1^^^t1=steps 8 (a1.toNat^^^b1.toNat):=by rw[h1,k1,IU,Nat.xor_self,Nat.zero_xor]
 have x1:=x8 a1 b1;have x2:=x8 a2 b2;have x3:=x8 a3 b3;have q2:=sQ (lx (lx ls1 lt1) (Nat.lt_trans x2 (by omega))) 8 8 (by omega) (by rw[←d2,e3];exact x3);rw[←d2,e3]at q2;have w1:s1^^^t1<65536:=by
  have e:s1^^^t1=(2^8*(a3.toNat^^^b3.toNat))^^^(a2.toNat^^^b2.toNat):=by rw[←q2,Nat.xor_assoc (s1^^^t1),Nat.xor_self,Nat.xor_zero]
  rw[e];exact Nat.xor_lt_two_pow (n:=16) (by omega) (by omega)
 have q1:=sQ (Nat.lt_trans x1 (by omega)) 8 16 (by omega) (by rw[←d1];exact w1);rw[←d1]at q1;have z1:s1^^^t1=0:=by omega
 have z0:a1.toNat^^^b1.toNat=0:=by rw[q1,z1]
 rw[z1,Nat.zero_xor]at q2;have z3:a3.toNat^^^b3.toNat=0:=by omega
 have z2:a2.toNat^^^b2.toNat=0:=by rw[q2,z3]
 exact⟨same z0,same z2,same z3⟩
theorem sum3(pre:List UInt8){a1 a2 a3 b1 b2 b3:UInt8}(h:sum (pre++[a1,a2,a3])=sum (pre++[b1,b2,b3])):[a1,a2,a3]=[b1,b2,b3]:=by
 have h1:=xu (pre++[a1,a2,a3]);have h2:=xu (pre++[b1,b2,b3]);have h3:crc (pre++[a1,a2,a3])=crc (pre++[b1,b2,b3]):=by unfold sum at h;omega
 unfold crc at h3;rw[List.foldl_append,List.foldl_append]at h3;obtain⟨rfl,rfl,rfl⟩:=YL (Nh pre _ (by omega)) h3;rfl
end Cr
end
section
set_option linter.unusedSimpArgs false
set_option linter.unusedVariables false
open Go.Proofs.YtficbckncieabaaGreatDoor
namespace Sg
def flat(xs:List Bt.aB):List UInt8:=xs.flatMap Bt.ah
def ae(b:Int)(xs:List Bt.aB):Int:=match xs.getLast? with
 |some x=>x.fin
 |none=>b
def Chain:Int→List Bt.aB→Prop
 |_,[]=>True
 |nx,x::r=>Bt.aQ x=0∧nx≤x.base∧Chain x.fin r
theorem lI(b:Int)(x:Bt.aB)(r:List Bt.aB):ae b (x::r)=ae x.fin r:=by
 unfold ae;cases r with
 |nil=>rfl
 |cons y s=>rw[List.getLast?_cons_cons];cases h:(y::s).getLast? with
  |none=>simp at h
  |some z=>rfl
theorem dG(b:Int)(xs:List Bt.aB)(x:Bt.aB):ae b (xs++[x])=x.fin:=by simp[ae]
theorem dM:∀(xs ys:List Bt.aB) (b:Int),Chain b (xs++ys)↔Chain b xs∧Chain (ae b xs) ys
 |[],ys,b=>by simp[Chain,ae]
 |x::r,ys,b=>by
  rw[List.cons_append,lI];show _∧_∧Chain x.fin (r++ys)↔(_∧_∧Chain x.fin r)∧_;rw[dM r ys x.fin];constructor
  ·rintro⟨a,b,c,d⟩;exact⟨⟨a,b,c⟩,d⟩
  ·rintro⟨⟨a,b,c⟩,d⟩;exact⟨a,b,c,d⟩
theorem kL{b:Int}{xs:List Bt.aB}{x:Bt.aB}(h:Chain b xs)(hx:Bt.aQ x=0)(hb:ae b xs≤x.base):Chain b (xs++[x]):=
 (dM xs [x] b).2 ⟨h,hx,hb,trivial⟩
theorem Chain.take{b:Int}{xs:List Bt.aB}(h:Chain b xs)(n:Nat):Chain b (xs.take n):=by
 rw[←List.take_append_drop n xs]at h;exact((dM _ _ _).1 h).1
theorem Chain.mem:∀{xs:List Bt.aB} {b:Int},Chain b xs→∀x∈xs,Bt.aQ x=0
 |x::r,b,h,y,hy=>by
  rcases List.mem_cons.1 hy with rfl|hy
  ·exact h.1
  ·exact Chain.mem h.2.2 y hy
theorem aP(xs ys:List Bt.aB):flat (xs++ys)=flat xs++flat ys:=by simp[flat]
theorem gB(x:Bt.aB):flat [x]=Bt.ah x:=by simp[flat]
theorem lJ(x:Bt.aB):11≤(Bt.ah x).length:=by have:=wC x;have:=Bt.gX x;omega
theorem dw(xs:List Bt.aB):11*xs.length≤(flat xs).length:=by
 induction xs with
 |nil=>simp[flat]
 |cons x r ih=>
  have:flat (x::r)=Bt.ah x++flat r:=by simp[flat]
  have:=lJ x;simp[*];omega
theorem Dp{b:List UInt8}(h:(dec b).2.2=0):Bt.aQ (dec b).1=0∧(dec b).2.1=(Bt.ah (dec b).1).length∧b=Bt.ah (dec b).1++b.drop (dec b).2.1:=by
 unfold dec at h;split at h
 ·simp at h
 split at h
 ·simp at h
 split at h
 ·simp at h
 rename_i h1 h2 h3
 split at h
 ·rename_i h4
  have e:dec b=(Bt.qU (IK b),Bt.fM b,0):=by
   unfold dec;rw[if_neg h1,if_neg h2,if_neg h3,if_pos h4]
  rw[e];have hl:(Bt.ah (Bt.qU (IK b))).length=Bt.fM b:=by rw[h4.2,List.length_take];omega
  exact⟨h4.1,hl.symm,by show b=_++b.drop (Bt.fM b);rw[h4.2,List.take_append_drop]⟩
 ·simp at h
inductive Scan:Int→List UInt8→List Bt.aB→Prop
 |stop {nx:Int} {b:List UInt8} (h:¬((dec b).2.2=0∧nx≤(dec b).1.base)):Scan nx b []
 |step {nx:Int} {b:List UInt8} {xs:List Bt.aB} (h:(dec b).2.2=0) (h2:nx≤(dec b).1.base) (k:Scan (dec b).1.fin (b.drop (dec b).2.1) xs):Scan nx b ((dec b).1::xs)
theorem Scan.unique:∀{nx:Int} {b:List UInt8} {xs ys:List Bt.aB},Scan nx b xs→Scan nx b ys→xs=ys:=by
 intro nx b xs ys h;induction h generalizing ys with
 |stop h=>
  intro k;cases k with
  |stop _=>rfl
  |step h1 h2 _=>exact absurd ⟨h1,h2⟩ h
 |step h h2 k ih=>
  intro m;cases m with
  |stop h3=>exact absurd ⟨h,h2⟩ h3
  |step _ _ m=>rw[ih m]
theorem Scan.whole{nx:Int}{b:List UInt8}{xs:List Bt.aB}(h:Scan nx b xs):Chain nx xs∧b=flat xs++b.drop (flat xs).length:=by
 induction h with
 |stop h=>exact⟨trivial,by simp[flat]⟩
 | @step nx b xs h h2 k ih=>
   obtain⟨h3,h4,h5⟩:=Dp h;obtain⟨i1,i2⟩:=ih;refine⟨⟨h3,h2,i1⟩,?_⟩;have e:flat ((dec b).1::xs)=Bt.ah (dec b).1++flat xs:=by simp[flat]
   rw[e,List.length_append,←h4];conv=>lhs;rw[h5,i2]
   rw[List.append_assoc,List.drop_drop]
theorem xC:∀{xs:List Bt.aB} {nx:Int} {r:List UInt8},Chain nx xs→¬((dec r).2.2=0∧ae nx xs≤(dec r).1.base)→Scan nx (flat xs++r) xs
 |[],nx,r,_,h=> .stop (by simpa[flat,ae]using h)
 |x::xs,nx,r,hc,h=>by
  have e:flat (x::xs)++r=Bt.ah x++(flat xs++r):=by simp[flat]
  rw[e];have hd:=NC hc.1 (flat xs++r);have h1:(dec (Bt.ah x++(flat xs++r))).1=x:=by rw[hd]
  have h2:(dec (Bt.ah x++(flat xs++r))).2.1=(Bt.ah x).length:=by rw[hd]
  have h3:(dec (Bt.ah x++(flat xs++r))).2.2=0:=by rw[hd]
  have k:=xC (xs:=xs) (nx:=x.fin) (r:=r) hc.2.2 (by rw[lI]at h;exact h);have:=Scan.step (xs:=xs) h3 (by rw[h1];exact hc.2.1) (by rw[h1,h2];simpa using k);rw[h1]at this;exact this
theorem BQ{r:List UInt8}(h:r.length<8):(dec r).2.2≠0:=by unfold dec;rw[if_pos h];simp
theorem uV{xs:List Bt.aB}{nx:Int}(h:Chain nx xs):Scan nx (flat xs) xs:=by
 have:=xC (r:=[]) h (fun e=>BQ (by simp) e.1);simpa using this
theorem qZ{l:List UInt8}{k:Nat}(h:4≤k):Bt.fM (l.take k)=Bt.fM l:=by
 unfold Bt.fM;simp only[List.getD_eq_getElem?_getD,List.getElem?_take];rw[if_pos (by omega),if_pos (by omega),if_pos (by omega),if_pos (by omega)]
theorem YM{α:Type}{l:List α}(h:l.length=3):∃a b c,l=[a,b,c]:=by
 match l,h with
 |[a,b,c],_=>exact⟨a,b,c,rfl⟩
theorem Rj{x:Bt.aB}(h:Bt.aQ x=0){r:List UInt8}(hp:r.take ((Bt.ah x).length-3)=(Bt.ah x).take ((Bt.ah x).length-3))(h0:(dec r).2.2=0):r.take (Bt.ah x).length=Bt.ah x:=by
 obtain⟨hy,hl,hr⟩:=Dp h0;obtain⟨y,hyd⟩:∃y,y=(dec r).1:=⟨_,rfl⟩;rw[←hyd]at hy hl hr;have hL:=lJ x;have hL2:=lJ y;have fx:=oD h [];have fy:=oD hy (r.drop (dec r).2.1);rw[←hr]at fy;rw[List.append_nil]at fx;have e4:Bt.fM r=Bt.fM (Bt.ah x):=by
  rw[←qZ (l:=r) (k:=(Bt.ah x).length-3) (by omega),hp,qZ (by omega)]
 have hll:(Bt.ah y).length=(Bt.ah x).length:=by omega
 have hrt:r.take (Bt.ah x).length=Bt.ah y:=by
  conv=>lhs;rw[hr]
  rw[←hll];simp
 rw[hrt];have ht:(Bt.ah y).take ((Bt.ah x).length-3)=(Bt.ah x).take ((Bt.ah x).length-3):=by
  rw[←hrt,List.take_take,Nat.min_eq_left (by omega),hp]
 have hx8:((Bt.ah x).drop 4).take 4=Bt.four (Cr.sum (Bt.body x)):=by simp[Bt.ah,Bt.four]
 have hy8:((Bt.ah y).drop 4).take 4=Bt.four (Cr.sum (Bt.body y)):=by simp[Bt.ah,Bt.four]
 have e8:((Bt.ah y).drop 4).take 4=((Bt.ah x).drop 4).take 4:=by
  have:=congrArg (fun l=>(l.drop 4).take 4) ht;simp only[List.drop_take,List.take_take]at this;rwa [Nat.min_eq_left (by omega)]at this
 rw[hx8,hy8]at e8;have es:=Bt.Rh (Cr.sum_lt _) (Cr.sum_lt _) e8;have hbx:=Bt.uf x;have hby:=Bt.uf y;obtain⟨a1,a2,a3,ha⟩:=YM (l:=(Bt.ah x).drop ((Bt.ah x).length-3)) (by rw[List.length_drop];omega);obtain⟨b1,b2,b3,hb⟩:=YM (l:=(Bt.ah y).drop ((Bt.ah x).length-3)) (by rw[List.length_drop];omega);have sx:Bt.ah x=(Bt.ah x).take ((Bt.ah x).length-3)++[a1,a2,a3]:=by rw[←ha,List.take_append_drop]
 have sy:Bt.ah y=(Bt.ah x).take ((Bt.ah x).length-3)++[b1,b2,b3]:=by rw[←hb,←ht,List.take_append_drop]
 obtain⟨p,hpd⟩:∃p,p=(Bt.ah x).take ((Bt.ah x).length-3):=⟨_,rfl⟩;have hpl:p.length=(Bt.ah x).length-3:=by rw[hpd,List.length_take];omega
 rw[←hpd]at sx sy;have dx:Bt.body x=p.drop 8++[a1,a2,a3]:=by
  have:=congrArg (List.drop 8) sx;rw[List.drop_append_of_le_length (by omega),hbx]at this;exact this
 have dy:Bt.body y=p.drop 8++[b1,b2,b3]:=by
  have:=congrArg (List.drop 8) sy;rw[List.drop_append_of_le_length (by omega),hby]at this;exact this
 rw[dx,dy]at es;have:=Cr.sum3 _ es;rw[sx,sy,this]
theorem Uz{x:Bt.aB}(h:Bt.aQ x=0){c:Nat}(hc:c<(Bt.ah x).length){more:List UInt8}(hm:more.length≤3)(hn:((Bt.ah x).take c++more).take (Bt.ah x).length≠Bt.ah x):(dec ((Bt.ah x).take c++more)).2.2≠0:=by
 intro h0;have hL:=lJ x;have hlt:((Bt.ah x).take c).length=c:=by rw[List.length_take];omega
 by_cases h3:(Bt.ah x).length-3≤c
 ·refine hn (Rj h ?_ h0)
  rw[List.take_append_of_le_length (by omega),List.take_take,Nat.min_eq_left h3]
 ·obtain⟨hy,hl,hr⟩:=Dp h0
  have fy:=oD hy (((Bt.ah x).take c++more).drop (dec ((Bt.ah x).take c++more)).2.1);rw[←hr]at fy;have aah:=congrArg List.length hr;rw[List.length_append,List.length_append,hlt]at aah;have hy2:=lJ (dec ((Bt.ah x).take c++more)).1;have fx:=oD h [];rw[List.append_nil]at fx;have e4:Bt.fM ((Bt.ah x).take c++more)=Bt.fM (Bt.ah x):=by
   have:Bt.fM (((Bt.ah x).take c++more).take c)=Bt.fM ((Bt.ah x).take c):=by rw[List.take_append_of_le_length (by omega),List.take_take,Nat.min_self]
   rw[qZ (by omega),qZ (by omega)]at this;exact this
  omega
def Wv(was is:List UInt8)(xs:List Bt.aB)(j:Nat):Prop:=(flat (xs.take j)).length≤is.length∧is.take (flat (xs.take j)).length=was.take (flat (xs.take j)).length
theorem qw(xs:List Bt.aB)(j:Nat):(flat xs).take (flat (xs.take j)).length=flat (xs.take j):=by
 have e:flat xs=flat (xs.take j)++flat (xs.drop j):=by rw[←aP,List.take_append_drop]
 rw[e,List.take_left]
theorem torn{b:Int}{xs:List Bt.aB}(hc:Chain b xs){k:Nat}(hk:k≤(flat xs).length){more:List UInt8}(hm:more.length≤3){n:Nat}(hn:n≤xs.length)(hP:Wv (flat xs) ((flat xs).take k++more) xs n)
 (hE:n=xs.length∨¬Wv (flat xs) ((flat xs).take k++more) xs (n+1)):Scan b ((flat xs).take k++more) (xs.take n):=by
 obtain⟨h1,h2⟩:=hP;obtain⟨is,his⟩:∃l,l=(flat xs).take k++more:=⟨_,rfl⟩;rw[←his]at h1 h2 hE⊢;rw[qw]at h2;have aah:is.length=k+more.length:=by rw[his,List.length_append,List.length_take];omega
 have hs:is=flat (xs.take n)++is.drop (flat (xs.take n)).length:=by conv=>lhs;rw[←List.take_append_drop (flat (xs.take n)).length is,h2]
 rw[hs];refine xC (hc.take n) (fun e=>?_);revert e
 rintro⟨e, -⟩;revert e
 have hrl:(is.drop (flat (xs.take n)).length).length=is.length-(flat (xs.take n)).length:=List.length_drop;rcases Nat.lt_or_ge n xs.length with hlt|hge
 ·have hE':=hE.resolve_left (by omega)
  have ab7:flat xs=flat (xs.take n)++(Bt.ah xs[n]++flat (xs.drop (n+1))):=by
   have e:flat xs=flat (xs.take n)++flat (xs.drop n):=by rw[←aP,List.take_append_drop]
   rw[e,List.drop_eq_getElem_cons hlt];rfl
  have aeW:flat (xs.take (n+1))=flat (xs.take n)++Bt.ah xs[n]:=by
   rw[List.take_succ_eq_append_getElem hlt,aP,gB]
  by_cases hkn:k≤(flat (xs.take n)).length
  ·exact BQ (by omega)
  ·obtain⟨c,hcd⟩:∃c,k=(flat (xs.take n)).length+c:=⟨k-(flat (xs.take n)).length,by omega⟩
   have aeo:(flat xs).take k=flat (xs.take n)++(Bt.ah xs[n]++flat (xs.drop (n+1))).take c:=by
    conv=>lhs;rw[ab7,hcd]
    rw[List.take_append,List.take_of_length_le (by omega)];congr 2
    omega
   by_cases hcB:(Bt.ah xs[n]).length≤c
   ·exfalso
    refine hE' ⟨by rw[aeW,List.length_append];omega,?_⟩;rw[his,List.take_append_of_le_length (by rw[List.length_take,aeW,List.length_append];omega),List.take_take,Nat.min_eq_left (by rw[aeW,List.length_append];omega)]
   ·have hr:is.drop (flat (xs.take n)).length=(Bt.ah xs[n]).take c++more:=by
     rw[his,aeo,List.append_assoc,List.drop_left,List.take_append_of_le_length (by omega)]
    rw[hr];refine Uz (hc.mem _ (List.getElem_mem hlt)) (by omega) hm (fun e=>hE' ?_);rw[←hr]at e;have e2:is.take (flat (xs.take (n+1))).length=flat (xs.take (n+1)):=by
     rw[aeW,List.length_append];conv=>lhs;rw[hs]
     rw[List.take_append,List.take_of_length_le (by omega),Nat.add_sub_cancel_left,e]
    refine⟨?_,by rw[e2,qw]⟩;have:=congrArg List.length e2;rw[List.length_take]at this;omega
 ·have:n=xs.length:=by omega
  subst this;rw[List.take_length]at*;exact BQ (by omega)
structure Pl where
 «at»:Nat
 size:Nat
 sum:Nat
 fin:Int
 latest:Int
def ND(l:Int)(rs:List Bt.Rec):Int:=rs.foldl (fun m r=>max m r.time) l
def qx(l:Int)(xs:List Bt.aB):Int:=xs.foldl (fun m x=>ND m x.recs) l
def dV(a:Nat)(l:Int):List Bt.aB→List Pl
 |[]=>[]
 |x::r=>⟨a,(Bt.ah x).length,Cr.sum (Bt.ah x),x.fin,ND l x.recs⟩::dV (a+(Bt.ah x).length) (ND l x.recs) r
theorem gW:∀(xs:List Bt.aB) (a:Nat) (l:Int),(dV a l xs).length=xs.length
 |[],_,_=>rfl
 |x::r,a,l=>by simp[dV,gW r]
theorem Dq:∀(xs:List Bt.aB) (a:Nat) (l:Int) (x:Bt.aB),dV a l (xs++[x])=dV a l xs++[⟨a+(flat xs).length,(Bt.ah x).length,Cr.sum (Bt.ah x),x.fin,ND (qx l xs) x.recs⟩]
 |[],a,l,x=>by simp[dV,flat,qx]
 |y::r,a,l,x=>by
  rw[List.cons_append,dV,dV,Dq r,List.cons_append];have:(flat (y::r)).length=(Bt.ah y).length+(flat r).length:=by simp[flat]
  rw[this,Nat.add_assoc];rfl
theorem KI(l:Int)(xs:List Bt.aB)(x:Bt.aB):qx l (xs++[x])=ND (qx l xs) x.recs:=by simp[qx]
theorem Rk(xs:List Bt.aB){k:Nat}(hk:k<xs.length):(dV 0 (-1) xs)[k]? =some ⟨(flat (xs.take k)).length,(Bt.ah xs[k]).length,Cr.sum (Bt.ah xs[k]),xs[k].fin,qx (-1) (xs.take (k+1))⟩:=by
 have aux:∀(xs:List Bt.aB) (k:Nat) (hk:k<xs.length) (a:Nat) (l:Int),(dV a l xs)[k]? =some ⟨a+(flat (xs.take k)).length,(Bt.ah xs[k]).length,Cr.sum (Bt.ah xs[k]),xs[k].fin,qx l (xs.take (k+1))⟩:=by
  intro xs;induction xs with
  |nil=>intro k hk;simp at hk
  |cons x r ih=>
   intro k hk a l;cases k with
   |zero=>simp[dV,flat,qx]
   |succ k=>
    have hk':k<r.length:=by simpa using hk
    rw[dV,List.getElem?_cons_succ,ih k hk'];have:(flat ((x::r).take (k+1))).length=(Bt.ah x).length+(flat (r.take k)).length:=by simp[flat]
    rw[this,Nat.add_assoc];simp[qx]
 have:=aux xs k hk 0 (-1);rw[Nat.zero_add]at this;exact this
end Sg
end
section
open Go.RowKit Go.Maps
set_option maxRecDepth 100000
set_option linter.unusedSimpArgs false
set_option linter.unusedVariables false
attribute [local go_sem] Oper.semAt_some
namespace Sg
def Dt(p:Pl):List Value:=[.int .i64 p.at, .int .i64 p.size, .int .i64 p.sum, .int .i64 p.fin, .int .i64 p.latest]
theorem wJ:∀p,(Dt p).length=5:=fun _=>rfl
def zU(p:Pl):Value:= .agg (Dt p).toArray
def Rl:Pl:=⟨0,0,0,0,0⟩
structure aS(w:World)(base d sb:Nat)(sv:Value)(file:ByteArray)(b0:Int)(ps:List Pl):Prop where
 box:w.heap[sb]? =some (.cells #[.pointer (some ⟨d,0,none⟩), .string file, .int .i64 b0,sv] 87 (0,0))
 row:aO 110 5 Dt w base sv ps
 low:base≤sb
def aA(sb:Nat)(sv:Value):List Nat:=sb::sv.ownBlock.toList
section
variable {w w':World} {base d sb:Nat} {sv:Value} {file:ByteArray} {b0:Int} {ps:List Pl}
theorem aS.kept{S:List Nat}(h:aS w base d sb sv file b0 ps)(ht:Turn S w w')(hn:∀k∈aA sb sv,k∉S):aS w' base d sb sv file b0 ps:=
 ⟨ht.heap h.box (hn sb (by simp[aA])),h.row.kept ht (fun k hk=>hn k (by simp[aA];exact .inr (by simpa using hk))),h.low⟩
theorem aS.still(h:aS w base d sb sv file b0 ps)(ht:Turn [] w w'):aS w' base d sb sv file b0 ps:=h.kept ht (by simp)
theorem aS.lt(h:aS w base d sb sv file b0 ps):∀k∈aA sb sv,base≤k∧k<w.heap.size:=by
 intro k hk;simp only[aA,List.mem_cons,Option.mem_toList]at hk;rcases hk with rfl|hk
 ·exact⟨h.low,lt_of_heap h.box⟩
 ·exact h.row.lt k hk
theorem aS.c0(h:aS w base d sb sv file b0 ps):w.cell? ⟨sb,0,none⟩=some (.pointer (some ⟨d,0,none⟩)):=by rw[cell_of h.box];rfl
theorem aS.c1(h:aS w base d sb sv file b0 ps):w.cell? ⟨sb,1,none⟩=some (.string file):=by rw[cell_of h.box];rfl
theorem aS.c2(h:aS w base d sb sv file b0 ps):w.cell? ⟨sb,2,none⟩=some (.int .i64 b0):=by rw[cell_of h.box];rfl
theorem aS.c3(h:aS w base d sb sv file b0 ps):w.cell? ⟨sb,3,none⟩=some sv:=by rw[cell_of h.box];rfl
theorem aS.fr(h:aS w base d sb sv file b0 ps)(i:Nat):w.frozen? ⟨sb,i,none⟩=false:=au h.box i
end
theorem Rn(w:World):(sizeOf 110).run Tryz.prog w= .ok 5 w:=by kernel_rfl
theorem YN(w:World):(isAgg 110).run Tryz.prog w= .ok true w:=by kernel_rfl
theorem NF{w:World}{a:Addr}{p:Pl}(h:∀i,i<5→w.cell? (a.add i)=(Dt p)[i]?):(loadVar 110 a).run Tryz.prog w= .ok (zU p) w:=by
 have c0:w.cell? (a.add 0)=some (.int .i64 p.at):=h 0 (by omega);have c1:w.cell? (a.add 1)=some (.int .i64 p.size):=h 1 (by omega);have c2:w.cell? (a.add 2)=some (.int .i64 p.sum):=h 2 (by omega);have c3:w.cell? (a.add 3)=some (.int .i64 p.fin):=h 3 (by omega);have c4:w.cell? (a.add 4)=some (.int .i64 p.latest):=h 4 (by omega);simp[loadVar,YN,Rn,Result.andThen,loadCells,loadCellsFrom,zU,Dt,c0,c1,c2,c3,c4]
theorem Du{w:World}{Y:Nat}{p:Pl}(h:w.heap[Y]? =some (.cells (Dt p).toArray 110 (0,0))):(loadVar 110 ⟨Y,0,none⟩).run Tryz.prog w= .ok (zU p) w:=by
 refine NF fun i hi=>?_
 rw[addr_add,cell_of h];simp
theorem NG{w:World}{base:Nat}{sv:Value}{ps:List Pl}(h:aO 110 5 Dt w base sv ps){j:Nat}(hj:j<ps.length):
 ∃g cap,sv= .slice (some ⟨g,0,none⟩) ps.length cap∧(loadVar 110 ⟨g,j*5,none⟩).run Tryz.prog w= .ok (zU ps[j]) w:=by
 obtain⟨g,cap,e,hc,_⟩:=h.at wJ hj;refine⟨g,cap,e,NF fun i hi=>?_⟩;have:(⟨g,j*5,none⟩:Addr).add i=⟨g,j*5+i,none⟩:=by unfold Addr.add;split<;>simp_all
 rw[this];exact hc i hi
def Dv(w:World)(X:Nat)(p:Pl):World:=((((w.setCell ⟨X,0,none⟩ (.int .i64 p.at)).setCell ⟨X,1,none⟩ (.int .i64 p.size)).setCell ⟨X,2,none⟩ (.int .i64 p.sum)).setCell ⟨X,3,none⟩ (.int .i64 p.fin)).setCell ⟨X,4,none⟩ (.int .i64 p.latest)
theorem Wx{w:World}{X:Nat}{a0 a1 a2 a3 a4:Value}(h:w.heap[X]? =some (.cells #[a0,a1,a2,a3,a4] 110 (0,0))) (p:Pl):
 (loadVar 110 ⟨X,0,none⟩).run Tryz.prog (Dv w X p)= .ok (zU p) (Dv w X p)∧(Dv w X p).heap[X]? =some (.cells (Dt p).toArray 110 (0,0))∧Turn [X] w (Dv w X p):=by
 have hy:(Dv w X p).heap[X]? =some (.cells (Dt p).toArray 110 (0,0)):=by
  have:=heap_set (heap_set (heap_set (heap_set (heap_set h 0 (.int .i64 p.at)) 1 (.int .i64 p.size)) 2 (.int .i64 p.sum)) 3 (.int .i64 p.fin)) 4 (.int .i64 p.latest);simpa[Dv,Dt]using this
 exact⟨Du hy,hy,(((((Turn.refl [X] w).setCell (.inl (by simp)) _).setCell (.inl (by simp)) _).setCell (.inl (by simp)) _).setCell (.inl (by simp)) _).setCell (.inl (by simp)) _⟩
theorem last_none(w:World)(base d sb:Nat)(sv:Value)(file:ByteArray)(b0:Int)(h:aS w base d sb sv file b0 []):
 Calls Tryz.prog 61 #[.pointer (some ⟨sb,0,none⟩)] w fun e w'=>e= .returned (.tuple #[zU Rl, .bool false])∧Turn [] w w':=by
 obtain⟨a,c,hsv, -, -⟩:=h.row.form;subst hsv;have c3:=h.c3;simp only[List.length_nil]at c3;have hlt:=lt_of_heap h.box;clear h;go_enter Tryz.func61,Tryz.ntmps61
 go_wp2
 have hld:(loadVar 110 ⟨w.heap.size,0,none⟩).run Tryz.prog (w.alloc (.cells #[.int .i64 0, .int .i64 0, .int .i64 0, .int .i64 0, .int .i64 0] 110))= .ok (zU Rl) (w.alloc (.cells #[.int .i64 0, .int .i64 0, .int .i64 0, .int .i64 0, .int .i64 0] 110)):=Du (p:=Rl) (ai w _);refine bodyPost_ret (v:= .tuple #[zU Rl, .bool false]) ?_ rfl ⟨rfl,(Turn.refl [] w).alloc _⟩;simp[results,Tryz.results61,asAddr,hld,Result.andThen]
theorem OV(w:World)(base d sb:Nat)(sv:Value)(file:ByteArray)(b0:Int)(ps:List Pl)(p:Pl)(h:aS w base d sb sv file b0 (ps++[p]))(hl:ps.length≤1000000):
 Calls Tryz.prog 61 #[.pointer (some ⟨sb,0,none⟩)] w fun e w'=>e= .returned (.tuple #[zU p, .bool true])∧Turn [] w w':=by
 obtain⟨g,cap,hsv,hld⟩:=NG h.row (j:=ps.length) (by simp);subst hsv;have c3:=h.c3;simp only[List.length_append,List.length_singleton]at c3;have hlt:=lt_of_heap h.box;have HS:=hide h;clear h hld;go_enter Tryz.func61,Tryz.ntmps61
 go_wp2
 obtain⟨wr,hwr⟩:∃wr,wr=w.alloc (.cells #[.int .i64 0, .int .i64 0, .int .i64 0, .int .i64 0, .int .i64 0] 110):=⟨_,rfl⟩;rw[←hwr];have hX:wr.heap[w.heap.size]? =some (.cells #[.int .i64 0, .int .i64 0, .int .i64 0, .int .i64 0, .int .i64 0] 110 (0,0)):=by rw[hwr];exact ai w _
 have HT:Hid (Turn [] w wr):=by rw[hwr];exact(Turn.refl [] w).alloc _
 have hXs:w.heap.size<wr.heap.size:=lt_of_heap hX;have HX:=hide hX;clear hwr hX c3;refine gU 12 [] (by kernel_rfl) rfl ?_;apply Lo.r0 1 rfl 0 (by intro u;conv=>lhs;whnf) rfl
 ·intro a w1 hR e0 K hK
  go_simp
  exact hK _ rfl
 apply Lo.r1 2 rfl 11 0 (fun _=>rfl) rfl (by kernel_rfl)
 ·intro a w1 hR e11 K hK
  go_simp
  exact hK _ rfl
 apply Lo.r1 3 rfl 12 1 (fun _=>rfl) rfl (by kernel_rfl)
 ·intro a w1 hR e12 K hK
  go_simp
  exact hK _ rfl
 apply Lo.r1 4 rfl 13 2 (fun _=>rfl) rfl (by kernel_rfl)
 ·intro a w1 hR e13 K hK
  have c3:=(HS.out.still (HT.out.same ((Turn.refl [] wr).drew.same hR))).c3;simp only[List.length_append,List.length_singleton]at c3;go_simp
  exact hK _ rfl
 apply Lo.r0 5 rfl 0 (by intro u;conv=>lhs;whnf) rfl
 ·intro a w1 hR e0 K hK
  go_simp
  exact hK _ rfl
 apply Lo.r1 6 rfl 15 4 (fun _=>rfl) rfl (by kernel_rfl)
 ·intro a w1 hR e15 K hK
  go_simp
  exact hK _ rfl
 apply Lo.r1 7 rfl 16 5 (fun _=>rfl) rfl (by kernel_rfl)
 ·intro a w1 hR e16 K hK
  go_simp
  exact hK _ rfl
 apply Lo.r1 8 rfl 17 6 (fun _=>rfl) rfl (by kernel_rfl)
 ·intro a w1 hR e17 K hK
  have c3:=(HS.out.still (HT.out.same ((Turn.refl [] wr).drew.same hR))).c3;simp only[List.length_append,List.length_singleton]at c3;go_simp
  exact hK _ rfl
 apply Lo.r1 9 rfl 18 7 (fun _=>rfl) rfl (by kernel_rfl)
 ·intro a w1 hR e18 K hK
  go_simp
  exact hK _ rfl
 refine Lo.df 10 rfl rfl [8] (.int .i64 (ps.length:Int)) (by kernel_rfl) (fun u w1 hR hF=>?_) (Turn.refl _) ?_
 ·obtain⟨h8, -⟩:=hF
  refine⟨rfl,fun a ha K hK=>?_⟩;have e19:=(ha 19).trans h8;clear ha h8;go_simp
  refine hK _ ?_;rw[IntWalk.i64_left,IntWalk.wrap64_in _ (by omega)]
 refine Lo.df 11 rfl rfl [3,9] (.pointer (some ⟨g,ps.length*5,none⟩)) (by kernel_rfl) (fun u w1 hR hF=>?_) (Turn.refl _) ?_
 ·obtain⟨h3,h9, -⟩:=hF
  refine⟨rfl,fun a ha K hK=>?_⟩;have e14:=(ha 14).trans h3;have e20:=(ha 20).trans h9;clear ha h3 h9;have h10:(ps.length:Int)<ps.length+1:=by omega
  go_simp
  exact hK _ rfl
 refine Lo.df 12 rfl rfl [10] (zU p) (by kernel_rfl) (fun u w1 hR hF=>?_) (Turn.refl _) ?_
 ·obtain⟨h10, -⟩:=hF
  refine⟨rfl,fun a ha K hK=>?_⟩;have e21:=(ha 21).trans h10;clear ha h10;have hc:∀i,i<5→w1.cell? ⟨g,ps.length*5+i,none⟩=(Dt p)[i]? :=by
   obtain⟨g',cap',e,hc,_⟩:=(HS.out.still (HT.out.same ((Turn.refl [] wr).drew.same hR))).row.at wJ (j:=ps.length) (by simp);simp at e;obtain⟨rfl,rfl⟩:=e;simpa using hc
  have k0:w1.cell? ⟨g,ps.length*5,none⟩=some (.int .i64 p.at):=hc 0 (by omega);have k1:w1.cell? ⟨g,ps.length*5+1,none⟩=some (.int .i64 p.size):=hc 1 (by omega);have k2:w1.cell? ⟨g,ps.length*5+2,none⟩=some (.int .i64 p.sum):=hc 2 (by omega);have k3:w1.cell? ⟨g,ps.length*5+3,none⟩=some (.int .i64 p.fin):=hc 3 (by omega);have k4:w1.cell? ⟨g,ps.length*5+4,none⟩=some (.int .i64 p.latest):=hc 4 (by omega);clear hc;go_simp
  exact hK _ rfl
 refine Lo.done [11] (fun u w1 bI hSd hF=>?_);clear hSd;obtain⟨f11, -⟩:=hF;have d11:u 11=_:=f11;clear f11;simp only[List.take_succ_cons,List.take_zero,List.drop_succ_cons,List.drop_zero,ax,Act.put,List.setIfInBounds_toArray,List.set_cons_succ,List.set_cons_zero,Nat.zero_add,Nat.reduceAdd,d11];have ht1:Turn [] w w1:=HT.out.same ((Turn.refl [] wr).drew.same bI);have hY:=bI.heap (show wr.drew.heap[w.heap.size]? =_ from HX.out) (by simp)
 have hXw:=lt_of_heap hY;have y0:w1.cell? ⟨w.heap.size,0,none⟩=some (.int .i64 0):=by simpa using cell_of hY 0
 have y1:w1.cell? ⟨w.heap.size,1,none⟩=some (.int .i64 0):=by simpa using cell_of hY 1
 have y2:w1.cell? ⟨w.heap.size,2,none⟩=some (.int .i64 0):=by simpa using cell_of hY 2
 have y3:w1.cell? ⟨w.heap.size,3,none⟩=some (.int .i64 0):=by simpa using cell_of hY 3
 have y4:w1.cell? ⟨w.heap.size,4,none⟩=some (.int .i64 0):=by simpa using cell_of hY 4
 have q0:w1.frozen? ⟨w.heap.size,0,none⟩=false:=au hY 0;have q1:w1.frozen? ⟨w.heap.size,1,none⟩=false:=au hY 1;have q2:w1.frozen? ⟨w.heap.size,2,none⟩=false:=au hY 2;have q3:w1.frozen? ⟨w.heap.size,3,none⟩=false:=au hY 3;have q4:w1.frozen? ⟨w.heap.size,4,none⟩=false:=au hY 4;have HY:=hide hY;have HT1:=hide ht1;clear hY ht1 bI hXs;clear d11;rw[show zU p= .agg #[.int .i64 p.at, .int .i64 p.size, .int .i64 p.sum, .int .i64 p.fin, .int .i64 p.latest]from rfl];go_wp2
 obtain⟨hld, -,ht2⟩:=Wx HY.out p;unfold Dv at hld ht2;refine bodyPost_ret (v:= .tuple #[zU p, .bool true]) (by simp[results,Tryz.results61,asAddr,hld,Result.andThen]) rfl ⟨rfl,HT1.out.trans ht2 (fun k hk=> .inr (by simp at hk;omega))⟩
def lastOf(ps:List Pl):Pl:=ps.getLast?.getD Rl
theorem last_any(w:World)(base d sb:Nat)(sv:Value)(file:ByteArray)(b0:Int)(ps:List Pl)(h:aS w base d sb sv file b0 ps)(hl:ps.length≤1000000):
 Calls Tryz.prog 61 #[.pointer (some ⟨sb,0,none⟩)] w fun e w'=>e= .returned (.tuple #[zU (lastOf ps), .bool !ps.isEmpty])∧Turn [] w w':=by
 rcases List.eq_nil_or_concat ps with rfl|⟨qs,p,rfl⟩
 ·exact last_none w base d sb sv file b0 h
 ·rw[List.concat_eq_append]at h hl⊢
  have:=OV w base d sb sv file b0 qs p h (by simp at hl;omega);have e1:lastOf (qs++[p])=p:=by simp[lastOf]
  have e2:(!(qs++[p]).isEmpty)=true:=by simp
  rw[e1,e2];exact this
def o7(b0:Int)(ps:List Pl):Int:=if ps.isEmpty then b0 else(lastOf ps).fin
def nR(ps:List Pl):Nat:=(lastOf ps).at+(lastOf ps).size
def iL(ps:List Pl):Int:=if ps.isEmpty then-1 else(lastOf ps).latest
theorem next_any(w:World)(base d sb:Nat)(sv:Value)(file:ByteArray)(b0:Int)(ps:List Pl)(h:aS w base d sb sv file b0 ps)(hl:ps.length≤1000000):
 Calls Tryz.prog 35 #[.pointer (some ⟨sb,0,none⟩)] w fun e w'=>e= .returned (.int .i64 (o7 b0 ps))∧Turn [] w w':=by
 have HS:=hide h;have hlt:=lt_of_heap h.box;have hla:=last_any w base d sb sv file b0 ps h hl;unfold zU Dt at hla;cases hb:ps.isEmpty with
 |true=>
  have HN:Hid (o7 b0 ps=b0):=by show _=_;simp[o7,hb]
  rw[hb]at hla;clear h hb;go_enter Tryz.func35,Tryz.ntmps35
  go_wp2_with fail
  refine hla.mono ?_;rintro e w1 ⟨rfl,ht1⟩;have c2:=(HS.out.still ht1).c2;have agB:=lt_of_heap (HS.out.still ht1).box;have HT1:=hide ht1;clear ht1 hla;go_wp2
  go_ret
  exact⟨nU HN.out.symm,HT1.out.alloc _⟩
 |false=>
  have HN:Hid (o7 b0 ps=(lastOf ps).fin):=by show _=_;simp[o7,hb]
  rw[hb]at hla;clear h hb;go_enter Tryz.func35,Tryz.ntmps35
  go_wp2_with fail
  refine hla.mono ?_;rintro e w1 ⟨rfl,ht1⟩;have HT1:=hide ht1;clear ht1 hla;go_wp2
  go_ret
  exact⟨nU HN.out.symm,HT1.out.alloc _⟩
theorem rf(w:World)(base d sb:Nat)(sv:Value)(file:ByteArray)(b0:Int)(ps:List Pl)(h:aS w base d sb sv file b0 ps)(hl:ps.length≤1000000):
 Calls Tryz.prog 46 #[.pointer (some ⟨sb,0,none⟩)] w fun e w'=>e= .returned (.int .i64 (iL ps))∧Turn [] w w':=by
 have HS:=hide h;have hlt:=lt_of_heap h.box;have hla:=last_any w base d sb sv file b0 ps h hl;unfold zU Dt at hla;cases hb:ps.isEmpty with
 |true=>
  have HN:Hid (iL ps= -1):=by show _=_;simp[iL,hb]
  rw[hb]at hla;clear h hb;go_enter Tryz.func46,Tryz.ntmps46
  go_wp2_with fail
  refine hla.mono ?_;rintro e w1 ⟨rfl,ht1⟩;have HT1:=hide ht1;clear ht1 hla;go_wp2
  go_ret
  exact⟨nU HN.out.symm,HT1.out.alloc _⟩
 |false=>
  have HN:Hid (iL ps=(lastOf ps).latest):=by show _=_;simp[iL,hb]
  rw[hb]at hla;clear h hb;go_enter Tryz.func46,Tryz.ntmps46
  go_wp2_with fail
  refine hla.mono ?_;rintro e w1 ⟨rfl,ht1⟩;have HT1:=hide ht1;clear ht1 hla;go_wp2
  go_ret
  exact⟨nU HN.out.symm,HT1.out.alloc _⟩
theorem size_any(w:World)(base d sb:Nat)(sv:Value)(file:ByteArray)(b0:Int)(ps:List Pl)(h:aS w base d sb sv file b0 ps)(hl:ps.length≤1000000)(hs:nR ps≤1099511627776):
 Calls Tryz.prog 48 #[.pointer (some ⟨sb,0,none⟩)] w fun e w'=>e= .returned (.int .i64 (nR ps))∧Turn [] w w':=by
 have hla:=last_any w base d sb sv file b0 ps h hl;unfold zU Dt at hla;unfold nR at hs⊢;clear h;go_enter Tryz.func48,Tryz.ntmps48
 go_wp2_with fail
 refine hla.mono ?_;rintro e w1 ⟨rfl,ht1⟩;have HT1:=hide ht1;clear ht1 hla;go_wp2
 go_ret
 exact⟨nU (by omega),HT1.out.alloc _⟩
theorem jP(w:World)(base d sb:Nat)(sv:Value)(file:ByteArray)(b0:Int)(ps:List Pl)(h:aS w base d sb sv file b0 ps):
 Calls Tryz.prog 18 #[.pointer (some ⟨sb,0,none⟩)] w fun e w'=>e= .returned (.int .i64 b0)∧w=w':=by
 have c2:=h.c2;clear h;go_enter Tryz.func18,Tryz.ntmps18
 go_wp2
 go_ret
 exact⟨rfl,rfl⟩
theorem uX(xs:List Bt.aB)(x:Bt.aB):lastOf (dV 0 (-1) (xs++[x]))=⟨(flat xs).length,(Bt.ah x).length,Cr.sum (Bt.ah x),x.fin,qx (-1) (xs++[x])⟩:=by
 unfold lastOf;rw[Dq,List.getLast?_concat,Nat.zero_add,KI];rfl
theorem Fa(xs:List Bt.aB):(dV 0 (-1) xs).isEmpty=xs.isEmpty:=by cases xs<;>rfl
theorem qy(b0:Int)(xs:List Bt.aB):o7 b0 (dV 0 (-1) xs)=ae b0 xs:=by
 rcases List.eq_nil_or_concat xs with rfl|⟨ys,x,rfl⟩
 ·rfl
 ·rw[List.concat_eq_append];unfold o7;rw[Fa,uX,dG];simp
theorem dP(xs:List Bt.aB):nR (dV 0 (-1) xs)=(flat xs).length:=by
 rcases List.eq_nil_or_concat xs with rfl|⟨ys,x,rfl⟩
 ·rfl
 ·rw[List.concat_eq_append];unfold nR;rw[uX,aP,List.length_append,gB]
theorem IV(xs:List Bt.aB):iL (dV 0 (-1) xs)=qx (-1) xs:=by
 rcases List.eq_nil_or_concat xs with rfl|⟨ys,x,rfl⟩
 ·rfl
 ·rw[List.concat_eq_append];unfold iL;rw[Fa,uX];simp
theorem Tryz.Wy:(Tryz.prog.info? 110).map (fun i=>(i.zero,i.size,i.bytes))=some (some (.agg #[.int .i64 0, .int .i64 0, .int .i64 0, .int .i64 0, .int .i64 0]),5,40):=by kernel_rfl
theorem WA(w:World)(base:Nat)(v:Value)(xs:List Pl)(x:Pl)(k:Nat)(Pe:aO 110 5 Dt w base v xs)(hk:w.heap[k]? =some (.cells (Dt x).toArray 110 (0,0))) (aah:xs.length≤1000000) (aas:base≤w.heap.size):
 ∃v' w',(Builtin.append_ #[85,85] 85 #[v, .slice (some ⟨k,0,none⟩) 1 1]).run Tryz.prog w= .ok v' w'∧aO 110 5 Dt w' base v' (xs++[x])∧Turn v.ownBlock.toList w w'∧(∀j∈v'.ownBlock,j∈v.ownBlock∨w.heap.size≤j):=by
 obtain⟨i,hi,e⟩:=Option.map_eq_some_iff.1 Tryz.Wy;simp only[Prod.mk.injEq]at e;exact jB (P:=Tryz.prog) 85 85 Tryz.underlying85 i _ hi e.1 (by rfl) e.2.1 (by omega) wJ (fun x u hu=>by simp[Dt]at hu;rcases hu with rfl|rfl|rfl|rfl|rfl<;>rfl) w base v xs x k Pe hk aah aas
theorem Ro(l:Int)(rs:List Bt.Rec){k:Nat}(hk:k<rs.length):ND l (rs.take (k+1))=max (ND l (rs.take k)) rs[k].time:=by
 unfold ND;rw[List.take_succ_eq_append_getElem hk,List.foldl_append];rfl
theorem WB(a b:Int):(if a<b then b else a)=max a b:=by split<;>omega
theorem note_any(w:World)(base d sb:Nat)(sv:Value)(file:ByteArray)(b0:Int)(ps:List Pl)(h:aS w base d sb sv file b0 ps)(hl:ps.length≤999999)(hz:nR ps≤1099511627776)
 (vb:Value)(bs:List UInt8)(hb:∀Z,Turn (aA sb sv) w Z→BytesAt Z vb bs)(hbl:bs.length≤1099511627776)(xb xf:Int)(va:Value)(rs:List Bt.Rec)(hr:bF w va rs):
 Calls Tryz.prog 92 #[.pointer (some ⟨sb,0,none⟩), .agg #[.int .i64 xb, .int .i64 xf,va],vb] w fun e w'=>e= .returned (.tuple #[])∧
  ∃sv',aS w' base d sb sv' file b0 (ps++[⟨nR ps,bs.length,Cr.sum bs,xf,ND (iL ps) rs⟩])∧Turn (aA sb sv) w w'∧∀k∈aA sb sv',k∈aA sb sv∨w.heap.size≤k:=by
 obtain⟨ra,rc,rfl,Dw,wK,aob,NH⟩:=hr.form;have hmx:maxLen=9223372036854775807:=by simp[maxLen]
 rw[hmx]at wK;obtain⟨ba,bc,rfl,GG,GH, -⟩:=(hb w (Turn.refl _ _)).form;rw[hmx]at GH;have HR:=hide hr;have HS:=hide h;have HB:=hide hb;have hsb:=lt_of_heap h.box;clear h hr hb aob;go_enter Tryz.func92,Tryz.ntmps92
 go_wp2_with fail
 have ht0:Turn [] w (w.alloc (.cells #[.int .i64 xb, .int .i64 xf, .slice ra rs.length rc] 71)):=(Turn.refl [] w).alloc _;refine(rf _ base d sb sv file b0 ps (HS.out.still ht0) (by omega)).mono ?_;rintro e w1 ⟨rfl,ht1⟩;have hbx:=ht1.heap (ai w (.cells #[.int .i64 xb, .int .i64 xf, .slice ra rs.length rc] 71)) (by simp);have BR:=hide hbx;have HT1:=hide (ht0.same ht1);have agn:=lt_of_heap hbx;have k2:w1.cell? ⟨w.heap.size,2,none⟩=some (.slice ra rs.length rc):=by simpa using cell_of hbx 2
 clear ht0 ht1 hbx;go_wp2
 go_loopw [6,14] (fun t i wr=>∃k:Nat,k≤rs.length∧i= .int .i64 k∧t= .int .i64 (ND (iL ps) (rs.take k))∧Turn [] w1 wr) (fun _ i _=>rs.length-(intOf i).toNat)
 case atStart=>exact⟨0,Nat.zero_le _,rfl,rfl,Turn.refl _ _⟩
 case round=>
  obtain⟨k,hk,rfl,rfl,ht⟩:=hrel;have dO:=hide ht;clear ht;by_cases hlt:k<rs.length
  ·obtain⟨p,rfl⟩:=NH k hlt
   obtain⟨g0,g1,g2,g3,g4,g5⟩:=(HR.out.still (HT1.out.same dO.out)).six hlt;obtain⟨r,hre⟩:∃r,r=rs[k]:=⟨_,rfl⟩;have Rq:=hide (Ro (iL ps) rs hlt);rw[←hre]at g0 g1 g2 g3 g4 g5 Rq;clear hre;go_wp2
   all_goals refine⟨⟨k+1,by omega,by go_num,by first|(rw[Rq.out];done)|(rw[Rq.out];exact congrArg _ (WB _ _)),dO.out.alloc _⟩,?_⟩
   all_goals (simp only[intOf];omega)
  ·obtain rfl:k=rs.length:=by omega
   rw[List.take_length];obtain⟨lt,aeX⟩:∃lt,lt=ND (iL ps) rs:=⟨_,rfl⟩;rw[←aeX];obtain⟨xa,xc,hsv,hxl,hxm⟩:=HS.out.row.form;subst hsv;rw[hmx]at hxm;have HL:Hid (lt=ND (iL ps) rs):=aeX;have HT2:=hide (HT1.out.same dO.out);have Rt:=hide (dO.out.heap BR.out (by simp));have aau:sb∉(Value.slice xa ps.length xc).ownBlock:=fun hk=>by
    rcases HS.out.row with⟨e, -⟩|⟨g,cap,cur,e,hb',hg, -⟩
    ·rw[e]at hk;simp[Value.ownBlock]at hk
    ·rw[e]at hk
     simp[Value.ownBlock]at hk;subst hk;have:=HS.out.box;rw[hg]at this;simp at this
   have abK:∀Z,Turn (Value.slice xa ps.length xc).ownBlock.toList wr Z→(Z.heap[sb]? =some (.cells #[.pointer (some ⟨d,0,none⟩), .string file, .int .i64 b0, .slice xa ps.length xc] 87 (0,0))∧Z.cell? ⟨sb,3,none⟩=some (.slice xa ps.length xc))∧
    (Z.heap[w.heap.size]? =some (.cells #[.int .i64 xb, .int .i64 xf, .slice ra rs.length rc] 71 (0,0))∧Z.cell? ⟨w.heap.size,1,none⟩=some (.int .i64 xf))∧BytesAt Z (.slice ba bs.length bc) bs∧(sb<Z.heap.size∧w.heap.size<Z.heap.size)∧Turn (aA sb (.slice xa ps.length xc)) w Z:=by
    intro Z hZ;have h1:=hZ.heap (HS.out.still HT2.out).box (by simpa using aau);have h2:=hZ.heap Rt.out (fun hm=>by have:=(HS.out.row.lt _ (by simpa using hm)).2;omega);have ht:Turn (aA sb (.slice xa ps.length xc)) w Z:=(HT2.out.mono (by simp)).trans hZ (fun k hk=> .inl (by simp[aA];exact .inr (by simpa using hk)));exact⟨⟨h1,by rw[cell_of h1];rfl⟩,⟨h2,by rw[cell_of h2];rfl⟩,HB.out Z ht,⟨lt_of_heap h1,lt_of_heap h2⟩,ht⟩
   have HC:=hide abK;have aei:=hide aau;obtain⟨np,hnp⟩:∃np:Pl,np=⟨nR ps,bs.length,Cr.sum bs,xf,lt⟩:=⟨_,rfl⟩;have HNP:=hide hnp;clear abK aau aeX hnp hlt k2 agn;go_wp2
   refine bP 19 (Turn (Value.slice xa ps.length xc).ownBlock.toList) (Turn []) (fun k w=>match k with|0=>(fun w=>aS w base d sb (.slice xa ps.length xc) file b0 ps) w|1=>(fun w=>aS w base d sb (.slice xa ps.length xc) file b0 ps) w|_=>(fun w=>w.heap[sb]? =some (.cells #[.pointer (some ⟨d,0,none⟩), .string file, .int .i64 b0, .slice xa ps.length xc] 87 (0,0))) w) [6,16] (by kernel_rfl) (by kernel_rfl) (by kernel_rfl) (by kernel_rfl) (by kernel_rfl) (by kernel_rfl) (Nat.le_of_ble_eq_true rfl) (by decide) rfl (Turn.refl _) (fun _ _ _ h k=>h.same k) (fun _ _ h=>h.mono (by simp)) ?_ ?_ ?_
   ·intro k a b hk hR
    match k,hk with
    |0,hk=>
     have hk:=(show(fun w=>aS w base d sb (.slice xa ps.length xc) file b0 ps) a from hk);dsimp only at hk;show(fun w=>aS w base d sb (.slice xa ps.length xc) file b0 ps) b;dsimp only;first|exact hk.still hR|exact hR.heap hk (by simp)
    |1,hk=>
     have hk:=(show(fun w=>aS w base d sb (.slice xa ps.length xc) file b0 ps) a from hk);dsimp only at hk;show(fun w=>aS w base d sb (.slice xa ps.length xc) file b0 ps) b;dsimp only;first|exact hk.still hR|exact hR.heap hk (by simp)
    |_+2,hk=>
     have hk:=(show(fun w=>w.heap[sb]? =some (.cells #[.pointer (some ⟨d,0,none⟩), .string file, .int .i64 b0, .slice xa ps.length xc] 87 (0,0))) a from hk)
     dsimp only at hk;show(fun w=>w.heap[sb]? =some (.cells #[.pointer (some ⟨d,0,none⟩), .string file, .int .i64 b0, .slice xa ps.length xc] 87 (0,0))) b
     dsimp only;first|exact hk.still hR|exact hR.heap hk (by simp)
   ·show(fun w=>aS w base d sb (.slice xa ps.length xc) file b0 ps) _
    dsimp only;exact(HS.out.still HT2.out).still ((Turn.refl [] _).drew)
   apply Lo.r0 1 rfl 0 (by intro u;conv=>lhs;whnf) rfl
   ·intro a w1 hR e0 K hK
    go_simp
    exact hK _ rfl
   apply Lo.r0 2 rfl 0 (by intro u;conv=>lhs;whnf) rfl
   ·intro a w1 hR e0 K hK
    go_simp
    exact hK _ rfl
   apply Lo.r1 3 rfl 24 1 (fun _=>rfl) rfl (by kernel_rfl)
   ·intro a w1 hR e24 K hK
    go_simp
    exact hK _ rfl
   apply Lo.r1 4 rfl 25 2 (fun _=>rfl) rfl (by kernel_rfl)
   ·intro a w1 hR e25 K hK
    go_simp
    exact hK _ rfl
   apply Lo.r1 5 rfl 26 3 (fun _=>rfl) rfl (by kernel_rfl)
   ·intro a w1 hR e26 K hK
    obtain⟨⟨-,c3⟩, -, -,⟨z1,z2⟩, -⟩:=HC.out w1 hR.dr;go_simp
    exact hK _ rfl
   apply Lo.r0 6 rfl 0 (by intro u;conv=>lhs;whnf) rfl
   ·intro a w1 hR e0 K hK
    go_simp
    exact hK _ rfl
   refine Lo.je 7 rfl 0 rfl [5] (fun y _=>y= .int .i64 (nR ps:Nat)) (by kernel_rfl) (fun x w w' h hR=>?_) (.inr (fun x w w' h hR=>by exact h)) (fun u w1 hR hS hF=>?_) ?_
   ·exact h
   ·obtain⟨h5, -⟩:=hF
    have hS:=(show(fun w=>aS w base d sb (.slice xa ps.length xc) file b0 ps) w1 from hS);dsimp only at hS;refine⟨rfl,fun a ha K hK=>?_⟩;have e28:=(ha 28).trans h5;clear ha h5;go_simp
    refine(size_any _ base d sb _ file b0 ps hS (by omega) hz).mono ?_;rintro e w2 ⟨rfl,ht2⟩;exact hK _ _ rfl (ht2.mono (by simp)) (hS.still ht2)
   apply Lo.r0 8 rfl 2 (by intro u;conv=>lhs;whnf) rfl
   ·intro a w1 hR e2 K hK
    go_simp
    exact hK _ rfl
   apply Lo.r1 9 rfl 30 7 (fun _=>rfl) rfl (by kernel_rfl)
   ·intro a w1 hR e30 K hK
    go_simp
    exact hK _ rfl
   apply Lo.r0 10 rfl 2 (by intro u;conv=>lhs;whnf) rfl
   ·intro a w1 hR e2 K hK
    go_simp
    exact hK _ rfl
   refine Lo.run 11 rfl rfl [9] (fun y _=>y= .int .i64 (Cr.sum bs:Nat)) (by kernel_rfl) (fun x w w' h hR=>?_) (fun _ _ h=>h.mono (by simp)) (fun u w1 hR hF=>?_) ?_
   ·exact h
   ·obtain⟨h9, -⟩:=hF
    refine⟨rfl,fun a ha K hK=>?_⟩;have e32:=(ha 32).trans h9;clear ha h9;have hby:=(HC.out w1 hR.dr).2.2.1;go_simp
    refine(sum_any _ _ bs hby.slice (by omega)).mono ?_;rintro e w2 ⟨rfl,rfl⟩;exact hK _ _ rfl (Turn.refl _ _)
   apply Lo.r0 12 rfl 4 (by intro u;conv=>lhs;whnf) rfl
   ·intro a w1 hR e4 K hK
    go_simp
    exact hK _ rfl
   apply Lo.r1 13 rfl 34 11 (fun _=>rfl) rfl (by kernel_rfl)
   ·intro a w1 hR e34 K hK
    obtain⟨-,⟨-,cx⟩, -,⟨z1,z2⟩, -⟩:=HC.out w1 hR.dr;go_simp
    exact hK _ rfl
   apply Lo.r0 14 rfl 6 (by intro u;conv=>lhs;whnf) rfl
   ·intro a w1 hR e6 K hK
    go_simp
    exact hK _ rfl
   refine Lo.df 15 rfl rfl [6,8,10,12,13] (zU np) (by kernel_rfl) (fun u w1 hR hF=>?_) (Turn.refl _) ?_
   ·obtain⟨h6,h8,h10,h12,h13, -⟩:=hF
    refine⟨rfl,fun a ha K hK=>?_⟩;have e29:a.tmps.getD 29 undef=u 6:=ha 29;have e31:=(ha 31).trans h8;have e33:a.tmps.getD 33 undef=u 10:=ha 33;have e35:=(ha 35).trans h12;have e36:=(ha 36).trans h13;have h6:=(show(fun y _=>y= .int .i64 (nR ps:Nat)) (u 6) w1 from h6);dsimp only at h6;have h10:=(show(fun y _=>y= .int .i64 (Cr.sum bs:Nat)) (u 10) w1 from h10);dsimp only at h10;clear ha h8 h12 h13;rw[h6]at e29;rw[h10]at e33;rw[Array.getD_eq_getD_getElem?]at e29 e31 e33 e35 e36;go_simp
    refine hK _ ?_;rw[HNP.out];rfl
   refine Lo.run 16 rfl rfl [14] (fun x w'=>∃k,x= .slice (some ⟨k,0,none⟩) 1 1∧w'.heap[k]? =some (.cells (Dt np).toArray 110 (0,0))∧wr.heap.size≤k) (by kernel_rfl) (fun x w w' h hR=>?_) (fun _ _ h=>h.mono (by simp)) (fun u w1 hR hF=>?_) ?_
   ·obtain⟨k,h1,h2,h3⟩:=h;exact⟨k,h1,hR.heap h2 (fun hm=>by have:=((HS.out.still HT2.out).row.lt k (by simpa using hm)).2;omega),h3⟩
   ·obtain⟨h14, -⟩:=hF
    refine⟨rfl,fun a ha K hK=>?_⟩;have e37:=(ha 37).trans h14;clear ha h14;have e37':a.tmps[37]?.getD undef= .agg #[.int .i64 np.at, .int .i64 np.size, .int .i64 np.sum, .int .i64 np.fin, .int .i64 np.latest]:=by rw[←Array.getD_eq_getD_getElem?,e37];rfl
    go_simp
    exact hK _ _ ⟨w1.heap.size,rfl,ai w1 _,hR.size⟩ ((Turn.refl [] _).alloc _)
   refine Lo.je 17 rfl 1 rfl [4,15] (fun x w'=>aO 110 5 Dt w' base x (ps++[np])∧∀j∈x.ownBlock,j∈(Value.slice xa ps.length xc).ownBlock∨wr.heap.size≤j) (by kernel_rfl) (fun x w w' h hR=>?_) (.inl (by kernel_rfl)) (fun u w1 hR hS hF=>?_) ?_
   ·exact⟨h.1.still hR,h.2⟩
   ·obtain⟨h4,h15, -⟩:=hF
    have hS:=(show(fun w=>aS w base d sb (.slice xa ps.length xc) file b0 ps) w1 from hS);dsimp only at hS;refine⟨rfl,fun a ha K hK=>?_⟩;have e27:=(ha 27).trans h4;have e38:a.tmps.getD 38 undef=u 15:=ha 38;have h15:=(show(fun x w'=>∃k,x= .slice (some ⟨k,0,none⟩) 1 1∧w'.heap[k]? =some (.cells (Dt np).toArray 110 (0,0))∧wr.heap.size≤k) (u 15) w1 from h15)
    dsimp only at h15;clear ha h4;obtain⟨kk,akw,akx,atS⟩:=h15;rw[akw]at e38;obtain⟨v7,w7,hr7,aai,ht7,aaq⟩:=WA w1 base (.slice xa ps.length xc) ps np kk hS.row akx (by omega) (by have:=hS.low;have:=lt_of_heap hS.box;omega);have aiN:=hR.size;have ac0:=ht7.heap hS.box (by simpa using aei.out);clear akw akx;exact yB rfl e27 e38 hr7 (hK _ _ ⟨aai,fun j hj=>(aaq j hj).elim .inl (fun h=> .inr (Nat.le_trans aiN h))⟩ ht7 ac0)
   apply Lo.r1 18 rfl 23 0 (fun _=>rfl) rfl (by kernel_rfl)
   ·intro a w1 hR e23 K hK
    go_simp
    exact hK _ rfl
   apply Lo.r1 19 rfl 40 17 (fun _=>rfl) rfl (by kernel_rfl)
   ·intro a w1 hR e40 K hK
    go_simp
    exact hK _ rfl
   refine Lo.done [16,18] (fun u w1 bI hSd hF=>?_);have hSd:=(show(fun w=>w.heap[sb]? =some (.cells #[.pointer (some ⟨d,0,none⟩), .string file, .int .i64 b0, .slice xa ps.length xc] 87 (0,0))) w1 from hSd)
   dsimp only at hSd;obtain⟨f16,f18, -⟩:=hF;have d16:=(show(fun x w'=>aO 110 5 Dt w' base x (ps++[np])∧∀j∈x.ownBlock,j∈(Value.slice xa ps.length xc).ownBlock∨wr.heap.size≤j) (u 16) w1 from f16);dsimp only at d16;have d18:u 18=_:=f18;clear f16 f18;simp only[List.take_succ_cons,List.take_zero,List.drop_succ_cons,List.drop_zero,ax,Act.put,List.setIfInBounds_toArray,List.set_cons_succ,List.set_cons_zero,Nat.zero_add,Nat.reduceAdd,d18];obtain⟨aai,aaq⟩:=d16;obtain⟨ya,yc,hyv, -, -⟩:=aai.form;rw[hyv]at aai aaq⊢;rw[List.length_append,List.length_singleton]at aai aaq⊢;have ht7:Turn (Value.slice xa ps.length xc).ownBlock.toList wr w1:=bI.dr;obtain⟨⟨acf,c3⟩, -, -,⟨z1, -⟩,htw⟩:=HC.out w1 ht7;have f3:w1.frozen? ⟨sb,3,none⟩=false:=au acf 3;have hws:w.heap.size≤wr.heap.size:=HT2.out.size;have hrn:sb∉(Value.slice ya (ps.length+1) yc).ownBlock:=fun hk=>(aaq sb hk).elim (fun h=>aei.out h) (fun h=>by omega)
   have lF:=hide aai;have adD:=hide aaq;have aoc:=hide htw;have aod:=hide acf;have Ye:=hide hrn;clear aai aaq ht7 acf htw hrn bI hSd hyv d18;go_wp2
   go_end0
   have e:np=⟨nR ps,bs.length,Cr.sum bs,xf,ND (iL ps) rs⟩:=by rw[HNP.out,HL.out]
   have hts:Turn [sb] w1 (w1.setCell ⟨sb,3,none⟩ (.slice ya (ps.length+1) yc)):=(Turn.refl _ _).setCell (.inl (by simp)) _;rw[←e];refine⟨rfl,_,⟨by simpa using heap_set aod.out 3 _,lF.out.kept hts (fun k hk=>by simp only[List.mem_singleton];intro e;subst e;exact Ye.out hk),HS.out.low⟩,aoc.out.trans hts (fun k hk=> .inl (by simp at hk;subst hk;simp[aA])),fun k hk=>?_⟩;simp only[aA,List.mem_cons,Option.mem_toList]at hk⊢;rcases hk with rfl|hk
   ·exact .inl (.inl rfl)
   ·rcases adD.out k hk with h|h
    ·exact .inl (.inr h)
    ·exact .inr (Nat.le_trans hws h)
end Sg
end
section
open Go.RowKit Go.Maps
set_option maxRecDepth 100000
set_option linter.unusedSimpArgs false
set_option linter.unusedVariables false
attribute [local go_sem] Oper.semAt_some
open Dk (DA aj Parts dA aC bQ)
namespace Sg
structure Both(w:World)(base d:Nat)(F:List Nat)(A:DA)(sb:Nat)(sv:Value)(file:ByteArray)(b0:Int)(ps:List Pl):Prop where
 disk:aj w base d F A
 jh:aS w base d sb sv file b0 ps
 sep:∀k∈aA sb sv,k∉F
section
variable {w w':World} {base d sb:Nat} {F:List Nat} {A:DA} {sv:Value} {file:ByteArray} {b0:Int} {ps:List Pl}
theorem Both.kept{S:List Nat}(h:Both w base d F A sb sv file b0 ps)(ht:Turn S w w')(h1:∀k∈F,k∉S)(h2:∀k∈aA sb sv,k∉S):Both w' base d F A sb sv file b0 ps:=
 ⟨h.disk.kept ht h1,h.jh.kept ht h2,h.sep⟩
theorem Both.still(h:Both w base d F A sb sv file b0 ps)(ht:Turn [] w w'):Both w' base d F A sb sv file b0 ps:=h.kept ht (by simp) (by simp)
end
def Came(w w':World)(base d:Nat)(F:List Nat)(A':DA)(sb:Nat)(sv:Value)(file:ByteArray)(b0:Int)(ps':List Pl):Prop:=
 ∃F' sv',Both w' base d F' A' sb sv' file b0 ps'∧Turn (F++aA sb sv) w w'∧(∀k∈F',k∈F∨w.heap.size≤k)∧∀k∈aA sb sv',k∈aA sb sv∨w.heap.size≤k
def Ru(ps:List Pl)(x:Bt.aB):Pl:=⟨nR ps,(Bt.ah x).length,Cr.sum (Bt.ah x),x.fin,ND (iL ps) x.recs⟩
def OW(c:Int)(ps:List Pl)(p:Pl):List Pl:=if c=0 then ps++[p]else ps
theorem Dx(xs:List Bt.aB)(x:Bt.aB):dV 0 (-1) xs++[Ru (dV 0 (-1) xs) x]=dV 0 (-1) (xs++[x]):=by
 rw[Dq,Ru,dP,IV,Nat.zero_add]
theorem add_any(w:World)(base d:Nat)(F:List Nat)(A:DA)(sb:Nat)(sv:Value)(file:ByteArray)(b0:Int)(ps:List Pl)(h:Both w base d F A sb sv file b0 ps)(hfs:file.size≤maxLen)(hl:ps.length≤999999)(hz:nR ps≤1099511627776)
 (va:Value)(x:Bt.aB)(hx:yt w (.agg #[.int .i64 x.base, .int .i64 x.fin,va]) x)(hxs:∀k∈va.ownBlock,k<w.heap.size→k∉F∧k∉aA sb sv):
 Calls Tryz.prog 58 #[.pointer (some ⟨sb,0,none⟩), .agg #[.int .i64 x.base, .int .i64 x.fin,va]] w fun e w'=>
  (Bt.aQ x≠0∧e= .returned (aC (Bt.aQ x))∧Turn [] w w')∨(Bt.aQ x=0∧x.base<o7 b0 ps∧e= .returned (aC 10)∧Turn [] w w')∨
  (Bt.aQ x=0∧o7 b0 ps≤x.base∧e= .returned (aC (A.add file.data.toList (Bt.ah x)).1)∧Came w w' base d F (A.add file.data.toList (Bt.ah x)).2 sb sv file b0 (OW (A.add file.data.toList (Bt.ah x)).1 ps (Ru ps x))):=by
 have BR:=hide hx;obtain⟨sv0,agC,hr,b1,b2,f1,f2⟩:=hx;simp only[Value.agg.injEq,Array.mk.injEq,List.cons.injEq,Value.int.injEq,true_and,and_true]at agC;subst agC;have HB:=hide h;have KJ:=hide hxs;have HR:=hide hr;have hmx:maxLen=9223372036854775807:=by simp[maxLen]
 have hsb:=lt_of_heap h.jh.box;clear h hxs hr;go_enter Tryz.func58,Tryz.ntmps58
 go_wp2_with fail
 have ht0:Turn [] w (w.alloc (.cells #[.int .i64 x.base, .int .i64 x.fin,va] 71)):=(Turn.refl [] w).alloc _;have hbb:yt (w.alloc (.cells #[.int .i64 x.base, .int .i64 x.fin,va] 71)) (.agg #[.int .i64 x.base, .int .i64 x.fin,va]) x:=⟨va,rfl,HR.out.still ht0,b1,b2,f1,f2⟩;refine(Gv _ _ x hbb).mono ?_;rintro e w1 ⟨vb,rfl,ht1,aa2⟩;have hX:=ht1.heap (ai w (.cells #[.int .i64 x.base, .int .i64 x.fin,va] 71)) (by simp);have HX:=hide hX;have HT1:=hide (ht0.same ht1);have dI:=hide aa2;have agn:=lt_of_heap hX;clear ht0 hbb ht1 aa2 hX;by_cases he:Bt.aQ x=0
 ·have Vx:As.oN (Bt.aQ x)= .nilIface:=by rw[he];rfl
  have aa2:=dI.out;unfold encR at aa2;rw[if_pos he]at aa2;obtain⟨ba,bc,hvb,GG,GH⟩:=aa2.form;subst hvb;have HE:=hide he;have YO:=hide aa2;rw[Vx];clear he Vx aa2 dI;go_wp2
  obtain⟨nx,hnx⟩:∃nx,nx=o7 b0 ps:=⟨_,rfl⟩;have Ey:=hide hnx;clear hnx;refine gU 4 [] (by kernel_rfl) rfl ?_;apply Lo.r0 1 rfl 3 (by intro u;conv=>lhs;whnf) rfl
  ·intro a w1 hR e3 K hK
   go_simp
   exact hK _ rfl
  apply Lo.r1 2 rfl 16 0 (fun _=>rfl) rfl (by kernel_rfl)
  ·intro a w1 hR e16 K hK
   have hX:=hR.dr.heap HX.out (by simp);have c0:w1.cell? ⟨w.heap.size,0,none⟩=some (.int .i64 x.base):=by rw[cell_of hX];rfl
   have z1:=lt_of_heap hX;go_simp
   exact hK _ rfl
  apply Lo.r0 3 rfl 0 (by intro u;conv=>lhs;whnf) rfl
  ·intro a w1 hR e0 K hK
   go_simp
   exact hK _ rfl
  refine Lo.run 4 rfl rfl [2] (fun y _=>y= .int .i64 nx) (by kernel_rfl) (fun x w w' h hR=>?_) (fun _ _ h=>h) (fun u w1 hR hF=>?_) ?_
  ·exact h
  ·obtain⟨h2, -⟩:=hF
   refine⟨rfl,fun a ha K hK=>?_⟩;have e18:=(ha 18).trans h2;clear ha h2;go_simp
   refine(next_any _ base d sb sv file b0 ps (HB.out.jh.still (HT1.out.same hR.dr)) (by omega)).mono ?_;rintro e w2 ⟨rfl,ht2⟩;exact hK _ _ (by rw[Ey.out]) ht2
  refine Lo.done [1,3] (fun u w1 bI hSd hF=>?_);clear hSd;obtain⟨f1,f3, -⟩:=hF;have d1:u 1=_:=f1;have d3:=(show(fun y _=>y= .int .i64 nx) (u 3) w1 from f3);dsimp only at d3;clear f1 f3;simp only[List.take_succ_cons,List.take_zero,List.drop_succ_cons,List.drop_zero,ax,Act.put,List.setIfInBounds_toArray,List.set_cons_succ,List.set_cons_zero,Nat.zero_add,Nat.reduceAdd,d1];rw[d3];have HT2:=hide (HT1.out.same bI.dr);have HX2:=hide (bI.dr.heap HX.out (by simp));have IW:=hide (YO.out.kept bI.dr (by simp));clear d1 d3 bI;by_cases hlt:x.base<nx
  ·have sN:=hide hlt
   go_wp2
   go_ret
   exact .inr (.inl ⟨HE.out,by rw[←Ey.out];exact sN.out,rfl,HT2.out⟩)
  ·have sN:=hide hlt
   go_wp2
   refine gU 9 [] (by kernel_rfl) rfl ?_;apply Lo.r0 1 rfl 0 (by intro u;conv=>lhs;whnf) rfl
   ·intro a w1 hR e0 K hK
    go_simp
    exact hK _ rfl
   apply Lo.r1 2 rfl 22 0 (fun _=>rfl) rfl (by kernel_rfl)
   ·intro a w1 hR e22 K hK
    go_simp
    exact hK _ rfl
   apply Lo.r1 3 rfl 23 1 (fun _=>rfl) rfl (by kernel_rfl)
   ·intro a w1 hR e23 K hK
    go_simp
    exact hK _ rfl
   apply Lo.r1 4 rfl 24 2 (fun _=>rfl) rfl (by kernel_rfl)
   ·intro a w1 hR e24 K hK
    have hS:=HB.out.jh.still (HT2.out.same hR.dr);have c0:=hS.c0;have z1:=lt_of_heap hS.box;go_simp
    exact hK _ rfl
   apply Lo.r0 5 rfl 0 (by intro u;conv=>lhs;whnf) rfl
   ·intro a w1 hR e0 K hK
    go_simp
    exact hK _ rfl
   apply Lo.r1 6 rfl 26 4 (fun _=>rfl) rfl (by kernel_rfl)
   ·intro a w1 hR e26 K hK
    go_simp
    exact hK _ rfl
   apply Lo.r1 7 rfl 27 5 (fun _=>rfl) rfl (by kernel_rfl)
   ·intro a w1 hR e27 K hK
    go_simp
    exact hK _ rfl
   apply Lo.r1 8 rfl 28 6 (fun _=>rfl) rfl (by kernel_rfl)
   ·intro a w1 hR e28 K hK
    have hS:=HB.out.jh.still (HT2.out.same hR.dr);have c1:=hS.c1;have z1:=lt_of_heap hS.box;go_simp
    exact hK _ rfl
   apply Lo.r0 9 rfl 5 (by intro u;conv=>lhs;whnf) rfl
   ·intro a w1 hR e5 K hK
    go_simp
    exact hK _ rfl
   refine Lo.done [3,7,8] (fun u w1 bI hSd hF=>?_);clear hSd;obtain⟨f3,f7,f8, -⟩:=hF;have d3:u 3=_:=f3;have d7:u 7=_:=f7;have d8:u 8=_:=f8;clear f3 f7 f8;simp only[List.take_succ_cons,List.take_zero,List.drop_succ_cons,List.drop_zero,ax,Act.put,List.setIfInBounds_toArray,List.set_cons_succ,List.set_cons_zero,Nat.zero_add,Nat.reduceAdd,d3,d7,d8];have HT3:=hide (HT2.out.same bI.dr);have HX3:=hide (bI.dr.heap HX2.out (by simp));have Dy:=hide (IW.out.kept bI.dr (by simp));clear d3 d7 d8 bI;have IX:=HB.out.still HT3.out;obtain⟨aI,ms,aeY⟩:=IX.disk;have EE:∀k∈F,k<w.heap.size:=HB.out.disk.lt;have YP:∀k∈aA sb sv,base≤k∧k<w.heap.size:=HB.out.jh.lt;have hws:=HT1.out.size;have Rw:∀k∈(Value.slice ba (Bt.ah x).length bc).ownBlock,w.heap.size≤k:=fun k hk=>by
    have:=(Dy.out.lt k hk).1;simp at this;omega
   have hsl:∀Z,Turn F w1 Z→SliceAt Z (.slice ba (Bt.ah x).length bc) ((Bt.ah x).map ah):=fun Z hZ=>
    Dy.out.cells.kept hZ (fun k hk hm=>by have:=Rw k hk;have:=EE k hm;omega)
   have hen:(Bt.ah x).length≤6000:=by have:=(Bt.dJ HE.out).2;rw[Bt.gX];exact this
   have Ua:=hide hsl;have aeX:nx≤x.base:=sN.out;have HGE:Hid (o7 b0 ps≤x.base):=by rw[Ey.out]at aeX;exact aeX
   have Ub:=hide Rw;have HF:=hide EE;have HG:=hide YP;clear hsl aeX Rw EE YP IX GG GH;go_wp2_with fail
   refine(Dk.add_any aeY file hfs _ (Bt.ah x) Ua.out (by omega)).mono ?_;rintro e w2 ⟨rfl,F',hd2,ht2,hf2⟩;have aky:=HT3.out.size;have aiP:∀k∈aA sb sv,k∉F':=fun k hk hm=>(hf2 k hm).elim (fun h=>HB.out.sep k hk h) (fun h=>by have:=(HG.out k hk).2;omega)
   have hX2:=ht2.heap HX3.out (fun hm=>by have:=HF.out _ hm;omega);have hs2:=(HB.out.jh.still HT3.out).kept ht2 (fun k hk=>HB.out.sep k hk);have aiQ:Turn F w w2:=(HT3.out.mono (by simp)).same ht2;obtain⟨c,hc⟩:∃c,c=(A.add file.data.toList (Bt.ah x)).1:=⟨_,rfl⟩;obtain⟨A2,hA2⟩:∃A2,A2=(A.add file.data.toList (Bt.ah x)).2:=⟨_,rfl⟩;have OL:=hide hc;have WC:=hide hA2;rw[←hA2]at hd2;rw[←hc];have HD2:=hide hd2;have aoh:=hide ht2;have HF2:=hide hf2;have WE:=hide aiP;have HS2:=hide hs2;have UA:=hide aiQ;by_cases hc0:c=0
   ·have hr0:aC c= .nilIface:=by rw[hc0];rfl
    have k0:w2.cell? ⟨w.heap.size,0,none⟩=some (.int .i64 x.base):=by rw[cell_of hX2];rfl
    have k1:w2.cell? ⟨w.heap.size,1,none⟩=some (.int .i64 x.fin):=by rw[cell_of hX2];rfl
    have k2:w2.cell? ⟨w.heap.size,2,none⟩=some va:=by rw[cell_of hX2];rfl
    have z2:=lt_of_heap hX2;have HC0:=hide hc0;have HR0:=hide hr0;rw[hr0];clear hc hA2 hd2 ht2 hf2 aiP hs2 aiQ hX2 hc0 hr0 aeY;go_wp2_with fail
    refine(note_any w2 base d sb sv file b0 ps HS2.out hl hz _ (Bt.ah x) (fun Z hZ=>?_) (by omega) x.base x.fin va x.recs (HR.out.kept UA.out (fun k hk hlt=>(KJ.out k hk hlt).1))).mono ?_
    ·exact((Dy.out.kept aoh.out (fun k hk hm=>by have:=Ub.out k hk;have:=HF.out k hm;omega)).kept hZ (fun k hk hm=>by have:=Ub.out k hk;have:=(HG.out k hm).2;omega)).bytes
    rintro e w3 ⟨rfl,sv',adr,ht3,hg⟩;go_wp2
    go_ret
    refine .inr (.inr ⟨HE.out,HGE.out,by rw[←OL.out,HR0.out];rfl,F',sv',⟨by rw[←WC.out];exact HD2.out.kept ht3 (fun k hk hm=>WE.out k hm hk),?_,fun k hk hm=>?_⟩,?_,fun k hk=>(HF2.out k hk).imp_right (Nat.le_trans aky),fun k hk=>(hg k hk).imp_right (Nat.le_trans UA.out.size)⟩)
    ·rw[←OL.out,HC0.out];exact adr
    ·rcases hg k hk with h|h
     ·exact WE.out k h hm
     ·have:=HD2.out.lt k hm;omega
    ·exact(UA.out.mono (fun k hk=> .inl (List.mem_append_left _ hk))).trans ht3 (fun k hk=> .inl (List.mem_append_right _ hk))
   ·have hr0:aC c= .iface 45 (.int .i64 c):=by unfold aC;rw[if_neg hc0];rfl
    have HC0:=hide hc0;have HR0:=hide hr0;rw[hr0];clear hc hA2 hd2 ht2 hf2 aiP hs2 aiQ hX2 hc0 hr0 aeY;go_wp2
    go_ret
    refine .inr (.inr ⟨HE.out,HGE.out,by rw[←OL.out,HR0.out];rfl,F',sv,⟨by rw[←WC.out];exact HD2.out,?_,WE.out⟩,UA.out.mono (fun k hk=> .inl (List.mem_append_left _ hk)),fun k hk=>(HF2.out k hk).imp_right (Nat.le_trans aky),fun k hk=> .inl hk⟩);unfold OW;rw[←OL.out,if_neg HC0.out];exact HS2.out
 ·have Vx:As.oN (Bt.aQ x)=aC (Bt.aQ x):=rfl
  have hne:aC (Bt.aQ x)= .iface 45 (.int .i64 (Bt.aQ x)):=by unfold aC;rw[if_neg he];rfl
  rw[Vx,hne];have BU:=hide hne;have HE:=hide he;clear Vx hne he dI;go_wp2
  go_ret
  exact .inl ⟨HE.out,by rw[BU.out];rfl,HT1.out⟩
end Sg
end
section
open Go.RowKit Go.Maps
set_option maxRecDepth 100000
set_option linter.unusedSimpArgs false
set_option linter.unusedVariables false
attribute [local go_sem] Oper.semAt_some
namespace Sg
def WG:Value→Nat
 | .slice _ n _=>n
 |_=>0
structure FSt(w wr:World)(base d sb:Nat)(sv:Value)(file:ByteArray)(b0:Int)(pre:List Bt.aB)(l:List UInt8)(dn:List Bt.aB)(sv':Value)(l':List UInt8)(bv:Value):Prop where
 scan:∀xs,Scan (ae b0 (pre++dn)) l' xs→Scan (ae b0 pre) l (dn++xs)
 bytes:BytesAt wr bv l'
 own:∀k∈bv.ownBlock,k<w.heap.size→k∉aA sb sv
 own2:∀k∈bv.ownBlock,k<wr.heap.size→k∉aA sb sv'
 jh:aS wr base d sb sv' file b0 (dV 0 (-1) (pre++dn))
 turn:Turn (aA sb sv) w wr
 foot:∀k∈aA sb sv',k∈aA sb sv∨w.heap.size≤k
 len:l'.length+(flat dn).length≤l.length
theorem KL{a:Option Addr}{n c m e:Nat}:∀k∈(Value.slice (nV a n c) m e).ownBlock,∃q r,k∈(Value.slice a q r).ownBlock:=by
 intro k hk;refine⟨0,0,?_⟩;cases a with
 |none=>unfold nV at hk;split at hk<;>simp[Value.ownBlock]at hk
 |some p=>
  unfold nV at hk;split at hk
  ·simpa[Value.ownBlock]using hk
  ·simp[Value.ownBlock,add_block]at hk⊢;exact hk
theorem OX{a:Option Addr}{n m c e k:Nat}(h:k∈(Value.slice a n c).ownBlock):k∈(Value.slice a m e).ownBlock:=by
 cases a<;>simp[Value.ownBlock]at h⊢;exact h
theorem Dz(w:World)(base d sb:Nat)(sv:Value)(file:ByteArray)(b0:Int)(pre:List Bt.aB)(h:aS w base d sb sv file b0 (dV 0 (-1) pre))(bv:Value)(l:List UInt8)(hb:BytesAt w bv l)
 (ho:∀k∈bv.ownBlock,k<w.heap.size→k∉aA sb sv)(hl:(flat pre).length+l.length≤2000000):
 Calls Tryz.prog 107 #[.pointer (some ⟨sb,0,none⟩),bv] w fun e w'=>e= .returned (.tuple #[])∧
  ∃xs sv',Scan (ae b0 pre) l xs∧aS w' base d sb sv' file b0 (dV 0 (-1) (pre++xs))∧Turn (aA sb sv) w w'∧∀k∈aA sb sv',k∈aA sb sv∨w.heap.size≤k:=by
 have HST:Hid (FSt w w base d sb sv file b0 pre l [] sv l bv):=⟨fun xs h=>by simpa using h,hb,ho,ho,by simpa using h,Turn.refl _ _,fun k hk=> .inl hk,by simp[flat]⟩;have hmx:maxLen=9223372036854775807:=by simp[maxLen]
 clear h hb ho;go_enter Tryz.func107,Tryz.ntmps107
 go_wp2
 go_loopw [1] (fun bv wr=>∃dn sv' l',FSt w wr base d sb sv file b0 pre l dn sv' l' bv) (fun bv _=>WG bv)
 case atStart=>exact⟨[],sv,l,HST.out⟩
 case round=>
  obtain⟨dn,sv',l',hst⟩:=hrel;obtain⟨ba,bc,rfl,hlc,hcm, -⟩:=hst.bytes.form;rw[hmx]at hcm;have HS:=hide hst;have hll:=hst.len;have hfl:=dw (pre++dn);have hfa:(flat (pre++dn)).length=(flat pre).length+(flat dn).length:=by rw[aP,List.length_append]
  clear hst HST;go_wp2_with fail
  refine(Uu wr _ l' HS.out.bytes (by omega)).mono ?_;rintro e wa ⟨rv,rfl,aaK,ht1⟩;obtain⟨ra,rc,TZ,Dw,wK, -⟩:=aaK.form;obtain⟨x,hx⟩:∃x,x=(dec l').1:=⟨_,rfl⟩;obtain⟨sz,hsz⟩:∃sz,sz=(dec l').2.1:=⟨_,rfl⟩;obtain⟨er,her⟩:∃er,er=(dec l').2.2:=⟨_,rfl⟩;have HX:=hide hx;have Rx:=hide hsz;have QX:=hide her;rw[←hx]at aaK TZ;subst TZ;rw[←hx,←hsz,←her];have sS:=hide aaK;have HT1:=hide ht1;clear hx hsz her aaK ht1 Dw wK;obtain⟨nx,hnx⟩:∃nx,nx=o7 b0 (dV 0 (-1) (pre++dn)):=⟨_,rfl⟩;have Ey:=hide hnx;clear hnx;by_cases he:er=0
  ·have hen:As.oN er= .nilIface:=by rw[he];rfl
   rw[hen];have HE:=hide he;clear hen he;obtain⟨ac1,ac2,agD⟩:=Dp (b:=l') (by rw[←QX.out,HE.out]);rw[←HX.out]at ac1 ac2 agD;rw[←Rx.out]at ac2 agD;have arB:=lJ x;have hsl:sz≤l'.length:=by
    have:=congrArg List.length agD;rw[List.length_append]at this;omega
   have aas:=(Bt.jX (Bt.dJ ac1).1);have atT:=hide ac1;have KN:=hide ac2;have aoi:=hide agD;clear ac1 ac2 agD;go_wp2
   obtain⟨w2,hw2⟩:∃w2,w2=wa.alloc (.cells #[.int .i64 x.base, .int .i64 x.fin, .slice ra x.recs.length rc] 71):=⟨_,rfl⟩;rw[←hw2];have hB2:w2.heap[wa.heap.size]? =some (.cells #[.int .i64 x.base, .int .i64 x.fin, .slice ra x.recs.length rc] 71 (0,0)):=by rw[hw2];exact ai wa _
   have HT2:Hid (Turn [] wr w2):=by show Turn _ _ _;rw[hw2];exact HT1.out.alloc _
   have adQ:Hid (Turn [] wa w2):=by show Turn _ _ _;rw[hw2];exact(Turn.refl [] wa).alloc _
   have HB2:=hide hB2;clear hw2 hB2;refine jT [] (by kernel_rfl) rfl ?_;apply Lo.r0 1 rfl 6 (by intro u;conv=>lhs;whnf) rfl
   ·intro a w1 hR e6 K hK
    go_simp
    exact hK _ rfl
   apply Lo.r1 2 rfl 13 0 (fun _=>rfl) rfl (by kernel_rfl)
   ·intro a w1 hR e13 K hK
    go_simp
    exact hK _ rfl
   apply Lo.r1 3 rfl 14 1 (fun _=>rfl) rfl (by kernel_rfl)
   ·intro a w1 hR e14 K hK
    go_simp
    exact hK _ rfl
   apply Lo.q0 4 rfl 2 4 rfl rfl (fun _=>rfl) rfl (by intro u;conv=>lhs;whnf) rfl (by kernel_rfl)
   ·intro a w1 hR e4 K hK
    go_simp
    exact hK _ rfl
   apply Lo.q1 5 rfl 2 16 3 rfl rfl (fun _=>rfl) rfl (fun _=>rfl) rfl rfl (by kernel_rfl)
   ·intro a w1 hR e16 K hK
    have hB:=hR.dr.heap HB2.out (by simp);have c0:w1.cell? ⟨wa.heap.size,0,none⟩=some (.int .i64 x.base):=by rw[cell_of hB];rfl
    have z1:=lt_of_heap hB;go_simp
    exact hK _ rfl
   apply Lo.q0 6 rfl 2 0 rfl rfl (fun _=>rfl) rfl (by intro u;conv=>lhs;whnf) rfl (by kernel_rfl)
   ·intro a w1 hR e0 K hK
    go_simp
    exact hK _ rfl
   refine Lo.run 7 rfl rfl [2,5] (fun y _=>y= .int .i64 nx) (by kernel_rfl) (fun x w w' h hR=>?_) (fun _ _ h=>h) (fun u w1 hR hF=>?_) ?_
   ·exact h
   ·obtain⟨h2,h5, -⟩:=hF
    refine⟨.inl ⟨false,h2,rfl⟩,fun a ha K hK=>?_⟩;have e18:=(ha 18).trans h5;clear ha h2 h5;go_simp
    refine(next_any _ base d sb sv' file b0 _ (HS.out.jh.still (HT2.out.same hR.dr)) (by rw[gW];omega)).mono ?_;rintro e w3 ⟨rfl,ht3⟩;exact hK _ _ (by rw[Ey.out]) ht3
   refine Lo.df 8 rfl rfl [2,4,6] (.bool (decide (x.base<nx))) (by kernel_rfl) (fun u w1 hR hF=>?_) (Turn.refl _) ?_
   ·obtain⟨h2,h4,h6, -⟩:=hF
    refine⟨.inl ⟨false,h2,rfl⟩,fun a ha K hK=>?_⟩;have e17:=(ha 17).trans h4;have e19:a.tmps.getD 19 undef=u 6:=ha 19;have h6:=(show(fun y _=>y= .int .i64 nx) (u 6) w1 from h6);dsimp only at h6;clear ha h2 h4;rw[h6]at e19;go_simp
    exact hK _ rfl
   refine Lo.df 9 rfl rfl [2,7] (.bool (decide (x.base<nx))) (by kernel_rfl) (fun u w1 hR hF=>?_) (Turn.refl _) ?_
   ·obtain⟨h2,h7, -⟩:=hF
    refine⟨rfl,fun a ha K hK=>?_⟩;have e15:=(ha 15).trans h2;have e20:=(ha 20).trans h7;clear ha h2 h7;go_simp
    exact hK _ rfl
   refine Lo.done [8] (fun u w1 bI hSd hF=>?_);clear hSd;obtain⟨f8, -⟩:=hF;have d8:u 8=_:=f8;clear f8;simp only[ax,Act.put,List.setIfInBounds_toArray,List.set_cons_succ,List.set_cons_zero,Nat.zero_add,Nat.reduceAdd,d8];have HT3:=hide bI.dr;have HB3:=hide (bI.dr.heap HB2.out (by simp));clear d8 bI;by_cases hlt:x.base<nx
   ·have sN:=hide hlt
    go_wp2
    refine bodyPost_ret (v:= .tuple #[]) (by simp[results,Tryz.results107]) rfl ?_;have htw:Turn [] wr w1:=HT2.out.same HT3.out;refine⟨rfl,dn++[],sv',HS.out.scan [] (.stop ?_),?_,HS.out.turn.trans htw (by simp),HS.out.foot⟩
    ·rintro⟨-,h2⟩
     rw[←HX.out,←qy,←Ey.out]at h2;have:=sN.out;omega
    ·rw[List.append_nil];exact HS.out.jh.still htw
   ·have sN:=hide hlt
    go_wp2
    refine gU 5 [] (by kernel_rfl) rfl ?_;apply Lo.r0 1 rfl 0 (by intro u;conv=>lhs;whnf) rfl
    ·intro a w1 hR e0 K hK
     go_simp
     exact hK _ rfl
    apply Lo.r0 2 rfl 4 (by intro u;conv=>lhs;whnf) rfl
    ·intro a w1 hR e4 K hK
     have hB:=hR.dr.heap HB3.out (by simp);have c0:w1.cell? ⟨wa.heap.size,0,none⟩=some (.int .i64 x.base):=by rw[cell_of hB];rfl
     have c1:w1.cell? ⟨wa.heap.size,1,none⟩=some (.int .i64 x.fin):=by rw[cell_of hB];rfl
     have c2:w1.cell? ⟨wa.heap.size,2,none⟩=some (.slice ra x.recs.length rc):=by rw[cell_of hB];rfl
     have z1:=lt_of_heap hB;go_simp
     exact hK _ rfl
    apply Lo.r0 3 rfl 1 (by intro u;conv=>lhs;whnf) rfl
    ·intro a w1 hR e1 K hK
     go_simp
     exact hK _ rfl
    apply Lo.r0 4 rfl 5 (by intro u;conv=>lhs;whnf) rfl
    ·intro a w1 hR e5 K hK
     go_simp
     exact hK _ rfl
    refine Lo.df 5 rfl rfl [2,3] (.slice ba sz bc) (by kernel_rfl) (fun u w1 hR hF=>?_) (Turn.refl _) ?_
    ·obtain⟨h2,h3, -⟩:=hF
     refine⟨rfl,fun a ha K hK=>?_⟩;have e24:=(ha 24).trans h2;have e25:=(ha 25).trans h3;clear ha h2 h3;have hrt:∀w,(Instr.slice 39 (.slice ba l'.length bc) none (some (.int .i64 (sz:Int))) none).run Tryz.prog w= .ok (.slice ba sz bc) w:=fun w=> @Gi ba l'.length bc sz (by omega) w
     go_simp
     exact hK _ rfl
    refine Lo.done [0,1,4] (fun u w1 bI hSd hF=>?_);clear hSd;obtain⟨f0,f1,f4, -⟩:=hF;have d0:u 0=_:=f0;have d1:u 1=_:=f1;have d4:u 4=_:=f4;clear f0 f1 f4;simp only[List.take_succ_cons,List.take_zero,List.drop_succ_cons,List.drop_zero,ax,Act.put,List.setIfInBounds_toArray,List.set_cons_succ,List.set_cons_zero,Nat.zero_add,Nat.reduceAdd,d0,d1,d4];have htw:Turn [] wr w1:=HT2.out.same (HT3.out.same bI.dr);have YQ:Turn [] wa w1:=adQ.out.same (HT3.out.same bI.dr);have dO:=hide htw;have YR:=hide (sS.out.still YQ);clear d0 d1 d4 bI htw YQ;have WH:l'≠[]:=fun e=>by have e2:=KN.out;rw[e]at hsl;simp at hsl;omega
    have Vy:=HS.out.bytes.lt WH;have htk:l'.take sz=Bt.ah x:=by
     have:=aoi.out;have e2:=KN.out;conv=>lhs;rw[this,e2]
     simp
    have QV:=hide htk;have HOL:=hide Vy;have BU:=hide WH;clear htk Vy WH;have akz:∀Z,Turn (aA sb sv') w1 Z→BytesAt Z (.slice ba sz bc) (Bt.ah x):=fun Z hZ=>by
     have h1:=(HS.out.bytes.still dO.out).kept hZ (fun k hk _=>HS.out.own2 k hk (HOL.out k hk));have h2:=BytesAt.take (n:=sz) h1 hsl;rw[QV.out]at h2;exact h2
    have hln:(dV 0 (-1) (pre++dn)).length≤999999:=by rw[gW];omega
    have hlz:nR (dV 0 (-1) (pre++dn))≤1099511627776:=by rw[dP];omega
    have hle:(Bt.ah x).length≤1099511627776:=by rw[←KN.out];omega
    have hn:=note_any w1 base d sb sv' file b0 _ (HS.out.jh.still dO.out) hln hlz (.slice ba sz bc) (Bt.ah x) akz hle x.base x.fin _ x.recs YR.out;have HN:=hide hn;clear akz hln hlz hle hn;go_wp2_with fail
    refine HN.out.mono ?_;rintro e w5 ⟨rfl,sv5,ah4,ht5,hg5⟩;have YS:=hide ah4;have HT5:=hide ht5;have HG5:=hide hg5;have hrf:∀w,(Instr.slice 39 (.slice ba l'.length bc) (some (.int .i64 (sz:Int))) none none).run Tryz.prog w= .ok (.slice (nV ba sz bc) (l'.length-sz) (bc-sz)) w:=fun w=>rZ ba l'.length bc sz hsl w
    clear ah4 ht5 hg5;go_wp2
    all_goals refine⟨⟨dn++[x],sv5,l'.drop sz,?_⟩,?_⟩
    ·have agE:Turn (aA sb sv') wr w5:=(dO.out.mono (by simp)).trans HT5.out (fun k hk=> .inl hk)
     have adE:∀k∈(Value.slice (nV ba sz bc) (l'.length-sz) (bc-sz)).ownBlock,k∈(Value.slice ba l'.length bc).ownBlock:=fun k hk=>by
      obtain⟨q,r,h⟩:=KL k hk;exact OX h
     have hby:=(HS.out.bytes.still dO.out).kept HT5.out (fun k hk _=>HS.out.own2 k hk (HOL.out k hk));have aok:=BytesAt.drop (n:=sz) hby hsl;have hap:dV 0 (-1) (pre++dn)++[Ru (dV 0 (-1) (pre++dn)) x]=dV 0 (-1) (pre++(dn++[x])):=by rw[Dx,List.append_assoc]
     refine⟨fun xs hs=>?_,aok,fun k hk hlt=>HS.out.own k (adE k hk) hlt,fun k hk hlt hm=>?_,by rw[←hap];exact YS.out,HS.out.turn.trans agE (fun k hk=>?_),fun k hk=>?_,?_⟩
     ·have h1:=HS.out.scan (x::xs) ?_
      ·simpa using h1
      ·have h2:=Scan.step (nx:=ae b0 (pre++dn)) (b:=l') (xs:=xs) (by rw[←QX.out,HE.out]) (by rw[←HX.out,←qy,←Ey.out];exact sN.out) (by rw[←HX.out,←Rx.out];rw[←List.append_assoc,dG]at hs;exact hs)
       rw[←HX.out]at h2;exact h2
     ·have hk1:=adE k hk
      have hk2:=HOL.out k hk1;rcases HG5.out k hm with h|h
      ·exact HS.out.own2 k hk1 hk2 h
      ·have:=dO.out.size;omega
     ·exact(HS.out.foot k hk)
     ·rcases HG5.out k hk with h|h
      ·exact HS.out.foot k h
      ·exact .inr (Nat.le_trans (HS.out.turn.trans (dO.out.mono (by simp)) (fun k hk=> .inl hk)).size h)
     ·rw[aP,List.length_append,gB,List.length_drop,←KN.out];omega
    ·show(l'.length-sz)<l'.length
     have:=KN.out;omega
  ·have hen:As.oN er= .iface 45 (.int .i64 er):=by unfold As.oN;rw[if_neg he]
   rw[hen];have HE:=hide he;clear hen he;go_wp2
   refine jT [] (by kernel_rfl) rfl ?_;apply Lo.r0 1 rfl 6 (by intro u;conv=>lhs;whnf) rfl
   ·intro a w1 hR e6 K hK
    go_simp
    exact hK _ rfl
   apply Lo.r1 2 rfl 13 0 (fun _=>rfl) rfl (by kernel_rfl)
   ·intro a w1 hR e13 K hK
    go_simp
    exact hK _ rfl
   apply Lo.r1 3 rfl 14 1 (fun _=>rfl) rfl (by kernel_rfl)
   ·intro a w1 hR e14 K hK
    go_simp
    exact hK _ rfl
   refine Lo.pass 4 rfl rfl [2] (by kernel_rfl) (Turn.refl _) (fun u w1 hR hF=> .inl ⟨true,hF.1,rfl⟩) ?_;refine Lo.pass 5 rfl rfl [2] (by kernel_rfl) (Turn.refl _) (fun u w1 hR hF=> .inl ⟨true,hF.1,rfl⟩) ?_;refine Lo.pass 6 rfl rfl [2] (by kernel_rfl) (Turn.refl _) (fun u w1 hR hF=> .inl ⟨true,hF.1,rfl⟩) ?_;refine Lo.pass 7 rfl rfl [2] (by kernel_rfl) (Turn.refl _) (fun u w1 hR hF=> .inl ⟨true,hF.1,rfl⟩) ?_;refine Lo.pass 8 rfl rfl [2] (by kernel_rfl) (Turn.refl _) (fun u w1 hR hF=> .inl ⟨true,hF.1,rfl⟩) ?_;apply Lo.r2 9 rfl 15 2 20 7 (fun _=>rfl) (fun _=>rfl) rfl rfl (by kernel_rfl)
   ·intro a w1 hR e15 e20 K hK
    go_simp
    exact hK _ rfl
   refine Lo.done [8] (fun u w1 bI hSd hF=>?_);clear hSd;obtain⟨f8, -⟩:=hF;have d8:u 8=_:=f8;clear f8;simp only[ax,Act.put,List.setIfInBounds_toArray,List.set_cons_succ,List.set_cons_zero,Nat.zero_add,Nat.reduceAdd,d8];clear d8;go_wp2
   refine bodyPost_ret (v:= .tuple #[]) (by simp[results,Tryz.results107]) rfl ?_;have htw:Turn [] wr w1:=(HT1.out.alloc _).drew.same bI;refine⟨rfl,dn++[],sv',HS.out.scan [] (.stop ?_),?_,HS.out.turn.trans htw (by simp),HS.out.foot⟩
   ·rintro⟨h2, -⟩
    rw[←QX.out]at h2;exact HE.out h2
   ·rw[List.append_nil];exact HS.out.jh.still htw
end Sg
end
end Go.Proofs.YtficbckncieabaaGreatDoor
