/- The wheel: take. -/
import Derived.Test.YtcficgpknokpbaaDoorWhe
namespace Go.Proofs.YtcficgpknokpbaaDoor.Wh
open Go.RowKit Go.Maps
set_option maxRecDepth 100000
set_option linter.unusedSimpArgs false
set_option linter.unusedVariables false
attribute [local go_sem] Oper.semAt_some

set_option maxHeartbeats 2000000 in
theorem take_any (w : World) (base b now : Nat) (mref : Option Nat) (all : List Tm) (sv : Nat → Value) (sl : Nat → List Tm) (h : WAt w base b now mref all sv sl) (hn : now ≤ 1099511627776) (t : Nat) (ht : t ≤ 1099511627776) (j : Nat) (hj : j = slotJ now t) (hl : (sl j).length ≤ 1000000)
    (hnd : (all.map (·.2)).Nodup) (hwf : ∀ x ∈ sl j, (Lit.int .i64 x.1).wf = true ∧ (Lit.int .i64 x.2).wf = true) (hmm : sl j ≠ [] → ∃ mb, mref = some mb)
    (G : Nat) (bv : Value) (goes : Tm → Bool) (eg : ∀ args w, (callFunc G args).run Tryd.prog w = .ok (.enter G args) w)
    (hG : ∀ Z, Turn (b :: (mref.toList ++ (sv j).ownBlock.toList)) w Z → ∀ x ∈ sl j, Calls Tryd.prog G #[tmV x, bv] Z fun e w' => e = .returned (.bool (goes x)) ∧ Turn [] Z w') :
    Calls Tryd.prog 14 #[.pointer (some ⟨b, 0, none⟩), .int .i64 t, .func (.func G) #[] #[bv]] w fun e w' => ∃ ga gc v', e = .returned (.slice ga (goneT goes (sl j)).length gc) ∧ TR w' base (.slice ga (goneT goes (sl j)).length gc) (goneT goes (sl j)) ∧ (∀ k ∈ (Value.slice ga (goneT goes (sl j)).length gc).ownBlock, w.heap.size ≤ k) ∧
      WAt w' base b now mref (dropAll all (goneT goes (sl j))) (setF sv j v') (setF sl j (staysT goes (sl j))) ∧ Turn (b :: (mref.toList ++ (sv j).ownBlock.toList)) w w' ∧ (∀ k ∈ v'.ownBlock, k ∈ (sv j).ownBlock) := by
  have hj448 : j < 448 := by rw [hj]; exact slotJ_lt hn ht
  have H := hide h
  obtain ⟨sa, sc, hsv, hlc, hcm⟩ := (h.rows j hj448).form
  have hmx : maxLen = 9223372036854775807 := by simp [maxLen]
  rw [hmx] at hcm
  have hbase : base ≤ w.heap.size := by have := h.lo; have := h.blt; omega
  obtain ⟨L, hL⟩ : ∃ L, L = sl j := ⟨_, rfl⟩
  have hrow : TR w base (.slice sa L.length sc) L := by rw [hL, ← hsv]; exact h.rows j hj448
  rw [← hL] at hsv hl hlc hwf hmm hG
  have hslot := slot_any w b now mref sv h.cells hn t ht
  rw [← hj] at hslot
  obtain ⟨F, hF⟩ : ∃ F, F = mref.toList ++ (sv j).ownBlock.toList := ⟨_, rfl⟩
  rw [← hF] at hG
  have hbF : b ∉ F := by
    rw [hF]
    intro hm
    rcases List.mem_append.1 hm with hm | hm
    · exact h.map_b (by simpa using hm)
    · exact h.row_b hj448 (by simpa using hm)
  have hce : ∀ Z, Turn F w Z → Z.cell? ⟨b, 2 + j, none⟩ = some (.slice sa L.length sc) ∧ Z.cell? ⟨b, 1, none⟩ = some (.map mref) ∧ b < Z.heap.size ∧ Z.frozen? ⟨b, 2 + j, none⟩ = false := fun Z hZ => by
    have hk := h.cells.kept hZ hbF
    exact ⟨by rw [hk.slot hj448, hsv], hk.head.2.1, hk.head.2.2.2, hk.head.2.2.1 _⟩
  have HCE := hide hce
  have HROW := hide hrow
  have HSV := hide hsv
  have HLE := hide hl
  have HB := hide hbase
  have HSL := hide hslot
  have HL := hide hL
  have HWF := hide hwf
  have HMM := hide hmm
  have HG := hide hG
  have HF := hide hF
  have HBF := hide hbF
  have HJ := hide hj448
  have HND := hide hnd
  have hn2 : L.length ≤ 1000000 := hl
  clear h hj hsv hcm hce hrow hl hbase hslot hL hwf hmm hG hF hbF hj448 hnd hmx
  go_enter Tryd.func14, Tryd.ntmps14
  go_wp2_with fail
  refine HSL.out.mono ?_
  rintro e w1 ⟨rfl, ht1⟩
  have HT1 := hide (ht1.mono (T := F) (by simp))
  have HR1 := hide (HROW.out.still ht1)
  have HM1 := hide (H.out.map.still ht1)
  obtain ⟨c0, c1, z0, f0⟩ := HCE.out w1 HT1.out
  clear ht1 HSL
  go_wp2
  go_loopw [8, 9, 23] (fun gv sv9 iv wr => ∃ (k : Nat) (ga : Option Addr) (gc : Nat) (mid : List Tm), k ≤ L.length ∧ iv = .int .i64 (k : Int) ∧ gv = .slice ga (goneT goes (L.take k)).length gc ∧ TR wr base (.slice ga (goneT goes (L.take k)).length gc) (goneT goes (L.take k)) ∧ (∀ q ∈ (Value.slice ga (goneT goes (L.take k)).length gc).ownBlock, w.heap.size ≤ q) ∧
      sv9 = .slice sa (staysT goes (L.take k)).length sc ∧ (staysT goes (L.take k)).length + mid.length = k ∧ TR wr base (.slice sa L.length sc) (staysT goes (L.take k) ++ mid ++ L.drop k) ∧ TMap wr mref (dropAll all (goneT goes (L.take k))) ∧ Turn F w wr) (fun _ _ iv _ => L.length - (intOf iv).toNat)
  case atStart => exact ⟨0, none, 0, [], Nat.zero_le _, rfl, rfl, .inl ⟨rfl, rfl⟩, by simp [Value.ownBlock, goneT], rfl, rfl, by simpa [staysT] using HR1.out, by simpa [goneT, dropAll] using HM1.out, HT1.out⟩
  case round =>
    obtain ⟨k, ga, gc, mid, hk, rfl, rfl, hgr, hgo, rfl, hlen, hrow, hmap, htw⟩ := hrel
    obtain ⟨gs, hgs⟩ : ∃ gs, gs = goneT goes (L.take k) := ⟨_, rfl⟩
    obtain ⟨ss, hss⟩ : ∃ ss, ss = staysT goes (L.take k) := ⟨_, rfl⟩
    rw [← hgs] at hgr hgo hmap ⊢
    rw [← hss] at hlen hrow ⊢
    have HGS := hide hgs
    have HSS := hide hss
    have HGR := hide hgr
    have HGO := hide hgo
    have HLN := hide hlen
    have HRW := hide hrow
    have HMP := hide hmap
    have HTW := hide htw
    clear hgs hss hgr hgo hlen hrow hmap htw
    by_cases hlt : k < L.length
    · have hlt1 : (k : Int) < L.length := by omega
      obtain ⟨x, hx⟩ : ∃ x, x = L[k] := ⟨_, rfl⟩
      have hxm : x ∈ L := by rw [hx]; exact List.getElem_mem _
      obtain ⟨M, hM⟩ : ∃ M, M = ss ++ mid ++ L.drop k := ⟨_, rfl⟩
      have hrow := HRW.out
      rw [← hM] at hrow
      have hkM : k < M.length := by rw [← hrow.len]; exact hlt
      have hMx : M[k] = x := by
        refine get_split (P := ss ++ mid) (R := L.drop (k + 1)) (by rw [hM, List.drop_eq_getElem_cons hlt, hx]) ?_ _
        rw [List.length_append]; exact HLN.out.symm
      obtain ⟨g, cap, e, -, -⟩ := hrow.at tmC_len hkM
      simp only [Value.slice.injEq] at e
      obtain ⟨rfl, -, rfl⟩ := e
      obtain ⟨q0, q1, -, -, zg⟩ := TR.two hrow hkM hMx
      obtain ⟨mb, rfl⟩ := HMM.out (by intro e; rw [e] at hlt; exact absurd hlt (by simp))
      have HX := hide hx
      have HM := hide hM
      have HROWM := hide hrow
      clear hx hM hrow hMx hkM
      obtain ⟨wx, hwx⟩ : ∃ wx, wx = wr.alloc (.cells (tmC x).toArray 52) := ⟨_, rfl⟩
      have htx : Turn [] wr wx := by rw [hwx]; exact (Turn.refl [] wr).alloc _
      have hbx : wx.heap[wr.heap.size]? = some (.cells (tmC x).toArray 52 (0, 0)) := by rw [hwx]; exact heap_new wr _
      have HWX := hide hwx
      have HTX := hide htx
      have hcall := HG.out wx ((HTW.out.mono (T := b :: F) (fun k hk => .inl (List.mem_cons_of_mem _ hk))).same (htx.mono (by simp))) x hxm
      have HCALL := hide hcall
      clear htx hcall
      have hgF : g ∈ F := by rw [HF.out, HSV.out]; exact List.mem_append.2 (.inr (by simp [Value.ownBlock]))
      have hmbF : mb ∈ F := by rw [HF.out]; exact List.mem_append.2 (.inl (by simp))
      have hglt : g < w.heap.size := (HROW.out.lt g (by simp [Value.ownBlock])).2
      have hmlt : mb < w.heap.size := H.out.map.lt mb (by simp)
      have hgm : g ≠ mb := fun e => H.out.row_m HJ.out g (by rw [HSV.out]; simp [Value.ownBlock]) (by rw [e]; simp)
      have HGF := hide hgF
      have HMF := hide hmbF
      have HGM := hide hgm
      have wfx := HWF.out x hxm
      have HWFX := hide wfx
      clear hgF hmbF hgm hxm wfx
      unfold tmV at *
      go_wp2_with fail
      rw [show wr.alloc (.cells #[.int .i64 x.1, .int .i64 x.2] 52) = wx from HWX.out.symm]
      refine HCALL.out.mono ?_
      rintro e w2 ⟨rfl, ht2⟩
      have hbx2 := ht2.heap hbx (by simp)
      have hT2 : Turn [] wr w2 := HTX.out.same ht2
      have HBX := hide hbx2
      have HT2 := hide hT2
      clear ht2 hbx hbx2 hT2 q0 q1 zg c0 c1 z0 f0 HWX HTX HCALL
      have r0 : w2.cell? ⟨wr.heap.size, 0, none⟩ = some (.int .i64 x.1) := by rw [cell_of HBX.out]; rfl
      have r1 : w2.cell? ⟨wr.heap.size, 1, none⟩ = some (.int .i64 x.2) := by rw [cell_of HBX.out]; rfl
      have zb := lt_of_heap HBX.out
      have hws := HTW.out.size
      have hws2 := HT2.out.size
      have hal : Turn [] w2 (w2.alloc (.cells (tmC x).toArray 52)) := (Turn.refl [] w2).alloc _
      have hgsn := gone_snoc goes L hlt
      have hssn := stays_snoc goes L hlt
      rw [← HX.out, ← HGS.out] at hgsn
      rw [← HX.out, ← HSS.out] at hssn
      have hgl := gone_le goes L k
      rw [← HGS.out] at hgl
      have hdr : L.drop k = x :: L.drop (k + 1) := by rw [HX.out]; exact List.drop_eq_getElem_cons hlt
      cases hgx : goes x
      · rw [hgx, if_neg (by simp)] at hgsn hssn
        have hrw := HROWM.out.still (HT2.out.same hal)
        have hML : M.length = L.length := (HROWM.out.len).symm
        obtain ⟨w7, hr7, hrow7, ht7⟩ := app_room _ base g L.length sc M ss.length x w2.heap.size hrw (by rw [hML]; have := HLN.out; omega) (heap_new w2 _)
        obtain ⟨y, mid', hym, hml⟩ : ∃ y mid', mid ++ [x] = y :: mid' ∧ mid'.length = mid.length := by
          cases mid with
          | nil => exact ⟨x, [], rfl, rfl⟩
          | cons m0 mt => exact ⟨m0, mt ++ [x], rfl, by simp⟩
        have hset : M.set ss.length x = (ss ++ [x]) ++ mid' ++ L.drop (k + 1) := by
          have : M = ss ++ y :: (mid' ++ L.drop (k + 1)) := by
            rw [HM.out, hdr, show ss ++ mid ++ x :: L.drop (k + 1) = ss ++ ((mid ++ [x]) ++ L.drop (k + 1)) by simp, hym]
            rfl
          rw [this, List.set_append_right _ _ (Nat.le_refl _), Nat.sub_self, List.set_cons_zero]
          simp
        rw [hset] at hrow7
        have hT7 : Turn [g] wr w7 := ((HT2.out.same hal).mono (by simp)).same ht7
        have p1 : TR w7 base (.slice ga gs.length gc) gs := HGR.out.kept hT7 (fun q hq hm => by
          obtain rfl := List.mem_singleton.1 hm
          have := HGO.out q hq
          omega)
        have p2 : TMap w7 (some mb) (dropAll all gs) := HMP.out.kept hT7 (fun q hq hm => by
          obtain rfl := List.mem_singleton.1 hm
          simp at hq
          exact HGM.out hq.symm)
        have p3 : Turn F w w7 := HTW.out.same (hT7.mono (fun q hq => by obtain rfl := List.mem_singleton.1 hq; exact .inl HGF.out))
        have HR7 := hide hr7
        have HROW7 := hide hrow7
        have P1 := hide p1
        have P2 := hide p2
        have P3 := hide p3
        have HGN := hide hgsn
        have HSN := hide hssn
        have HMLN := hide hml
        clear hal hgsn hssn hgl hdr hgx hrw hML hr7 hrow7 ht7 hym hml hset hT7 p1 p2 p3
        go_wp2_with (at_builtin; go_must (refine wpList_appT rfl rfl rfl rfl HR7.out ?_))
        have pl : (ss ++ [x]).length = ss.length + 1 := by simp
        refine ⟨⟨k + 1, ga, gc, mid', by omega, by go_num, ?_, ?_, ?_, ?_, ?_, ?_, ?_, P3.out⟩, by simp only [intOf]; omega⟩
        · rw [HGN.out]
        · rw [HGN.out]; exact P1.out
        · rw [HGN.out]; exact HGO.out
        · rw [HSN.out, pl]
        · rw [HSN.out, pl, HMLN.out]; have := HLN.out; omega
        · rw [HSN.out]; exact HROW7.out
        · rw [HGN.out]; exact P2.out
      · rw [hgx, if_pos rfl] at hgsn hssn
        have hgw := HGR.out.still (HT2.out.same hal)
        obtain ⟨v7, w7, hr7, hrow7, ht7, hown7⟩ := app_tm _ base (.slice ga gs.length gc) gs x w2.heap.size hgw (heap_new w2 _) (by omega) (by have := hal.size; have := HB.out; omega)
        obtain ⟨va, vc, hve, -, -⟩ := hrow7.form
        rw [List.length_append, List.length_singleton] at hve
        subst hve
        have hgol : ∀ q ∈ (Value.slice ga gs.length gc).ownBlock.toList, w.heap.size ≤ q ∧ q < wr.heap.size := fun q hq => ⟨HGO.out q (by simpa using hq), (HGR.out.lt q (by simpa using hq)).2⟩
        have hvo : ∀ q ∈ (Value.slice va (gs.length + 1) vc).ownBlock, w.heap.size ≤ q := fun q hq => by
          rcases hown7 q hq with h1 | h1
          · exact HGO.out q h1
          · have := hal.size; omega
        have hT7 : Turn (Value.slice ga gs.length gc).ownBlock.toList wr w7 := ((HT2.out.same hal).mono (by simp)).same ht7
        have p3 : Turn F w w7 := HTW.out.trans hT7 (fun q hq => .inr (hgol q hq).1)
        have p1 : TR w7 base (.slice (some ⟨g, 0, none⟩) L.length sc) M := HROWM.out.kept hT7 (fun q hq hm => by
          simp [Value.ownBlock] at hq
          subst hq
          have := (hgol g hm).1
          omega)
        have p2 : TMap w7 (some mb) (dropAll all gs) := HMP.out.kept hT7 (fun q hq hm => by
          simp at hq
          subst hq
          have := (hgol mb hm).1
          omega)
        have p4 : w7.heap[wr.heap.size]? = some (.cells (tmC x).toArray 52 (0, 0)) := ht7.heap (hal.heap HBX.out (by simp)) (fun hm => by have := (hgol _ hm).2; omega)
        have HR7 := hide hr7
        have HROW7 := hide hrow7
        have P1 := hide p1
        have P2 := hide p2
        have P3 := hide p3
        have P4 := hide p4
        have HVO := hide hvo
        have HGN := hide hgsn
        have HSN := hide hssn
        have HDR := hide hdr
        clear hal hgsn hssn hgl hdr hgx hgw hr7 hrow7 ht7 hown7 hT7 p1 p2 p3 p4 hgol hvo
        go_wp2_with (at_builtin; go_must (refine wpList_appT rfl rfl rfl rfl HR7.out ?_))
        refine wp_region_tail 6 (Turn []) (by kernel_rfl) (by kernel_rfl) (by kernel_rfl) (by kernel_rfl) (by kernel_rfl) (Nat.le_of_ble_eq_true rfl) rfl (Turn.refl _) (fun _ _ _ h k => h.same k) ?_
        apply Lo.runx 1 rfl rfl [] (by kernel_rfl) (Turn.refl _)
        apply Exists.intro; apply And.intro
        · intro u w1 hR hF
          clear hF
          refine ⟨rfl, fun a ha K hK => ?_⟩
          have e0 := ha 0
          conv at e0 => rhs; whnf
          clear ha
          go_simp
          refine hK _ ?_; rfl
        apply Lo.runx 2 rfl rfl [0] (by kernel_rfl) (Turn.refl _)
        apply Exists.intro; apply And.intro
        · intro u w1 hR hF
          obtain ⟨h0, -⟩ := hF
          refine ⟨rfl, fun a ha K hK => ?_⟩
          have e34 := (ha 34).trans h0
          clear ha h0
          go_simp
          refine hK _ ?_; rfl
        apply Lo.runx 3 rfl rfl [1] (by kernel_rfl) (Turn.refl _)
        apply Exists.intro; apply And.intro
        · intro u w1 hR hF
          obtain ⟨h1, -⟩ := hF
          refine ⟨rfl, fun a ha K hK => ?_⟩
          have e35 := (ha 35).trans h1
          clear ha h1
          go_simp
          refine hK _ ?_; rfl
        apply Lo.runx 4 rfl rfl [2] (by kernel_rfl) (Turn.refl _)
        apply Exists.intro; apply And.intro
        · intro u w1 hR hF
          obtain ⟨h2, -⟩ := hF
          refine ⟨rfl, fun a ha K hK => ?_⟩
          have e36 := (ha 36).trans h2
          clear ha h2
          obtain ⟨c0, c1, z0, f0⟩ := HCE.out w1 (P3.out.same (((Turn.refl F w7).drew).same (hR.mono (by simp))))
          go_simp
          refine hK _ ?_; rfl
        apply Lo.runx 5 rfl rfl [] (by kernel_rfl) (Turn.refl _)
        apply Exists.intro; apply And.intro
        · intro u w1 hR hF
          clear hF
          refine ⟨rfl, fun a ha K hK => ?_⟩
          have e11 := ha 11
          conv at e11 => rhs; whnf
          clear ha
          go_simp
          refine hK _ ?_; rfl
        refine Lo.runv 6 rfl rfl [4] (.int .i64 x.2) (by kernel_rfl) (fun u w1 hR hF => ?_) (Turn.refl _) ?_
        · obtain ⟨h4, -⟩ := hF
          refine ⟨rfl, fun a ha K hK => ?_⟩
          have e38 := (ha 38).trans h4
          clear ha h4
          have hbb := (((Turn.refl [] w7).drew).same hR).heap P4.out (by simp)
          have d1 : w1.cell? ⟨wr.heap.size, 1, none⟩ = some (.int .i64 x.2) := by rw [cell_of hbb]; rfl
          have zb := lt_of_heap hbb
          go_simp
          refine hK _ ?_
          rfl
        refine Lo.done [3, 5] (fun u w1 hRd hSd hF => ?_)
        clear hSd
        obtain ⟨f3, f5, -⟩ := hF
        have d3 : u 3 = _ := f3
        have d5 : u 5 = _ := f5
        clear f3 f5
        simp only [List.take_succ_cons, List.take_zero, List.drop_succ_cons, List.drop_zero, putFrom, Act.put, List.setIfInBounds_toArray, List.set_cons_succ, List.set_cons_zero, Nat.zero_add, Nat.reduceAdd, d3, d5]
        have hT8 : Turn [] w7 w1 := ((Turn.refl [] w7).drew).same hRd
        obtain ⟨wy, rfl⟩ : ∃ wy, wy = w1 := ⟨_, rfl⟩
        obtain ⟨w8, hr8, hm8, ht8⟩ := TMap.del (P2.out.still hT8) (nodup_sub (dropAll_sub gs all) HND.out) HWFX.out.2 0
        rw [← dropAll_snoc] at hm8
        have hT9 : Turn [mb] w7 w8 := (hT8.mono (by simp)).same ht8
        have p1 : TR w8 base (.slice va (gs.length + 1) vc) (gs ++ [x]) := HROW7.out.kept hT9 (fun q hq hm => by
          obtain rfl := List.mem_singleton.1 hm
          have := HVO.out q hq
          omega)
        have p2 : TR w8 base (.slice (some ⟨g, 0, none⟩) L.length sc) M := P1.out.kept hT9 (fun q hq hm => by
          obtain rfl := List.mem_singleton.1 hm
          simp [Value.ownBlock] at hq
          exact HGM.out hq)
        have p3 : Turn F w w8 := P3.out.same (hT9.mono (fun q hq => by obtain rfl := List.mem_singleton.1 hq; exact .inl HMF.out))
        have HR8 := hide hr8
        have HM8 := hide hm8
        have Q1 := hide p1
        have Q2 := hide p2
        have Q3 := hide p3
        have pl : (gs ++ [x]).length = gs.length + 1 := by simp
        have hME : M = ss ++ (mid ++ [x]) ++ L.drop (k + 1) := by rw [HM.out, HDR.out]; simp
        have HME := hide hME
        have HR8' := hr8
        clear hr8 hm8 ht8 hT8 hT9 p1 p2 p3 hRd d3 d5 hME
        go_wp2
        refine ⟨⟨k + 1, va, vc, mid ++ [x], by omega, by go_num, ?_, ?_, ?_, ?_, ?_, ?_, ?_, Q3.out⟩, by simp only [intOf]; omega⟩
        · rw [HGN.out, pl]
        · rw [HGN.out, pl]; exact Q1.out
        · rw [HGN.out, pl]; exact HVO.out
        · rw [HSN.out]
        · rw [HSN.out, List.length_append, List.length_singleton]; have := HLN.out; omega
        · rw [HSN.out, ← HME.out]; exact Q2.out
        · rw [HGN.out]; exact HM8.out
    · obtain rfl : k = L.length := by omega
      have hlt1 : ¬ (L.length : Int) < L.length := by omega
      rw [List.take_length] at HGS HSS
      rw [List.drop_length, List.append_nil] at HRW
      obtain ⟨c0, c1, z0, f0⟩ := HCE.out wr HTW.out
      have hsle : ss.length ≤ L.length := by have := HLN.out; omega
      have hfin : ∀ v', TR wr base v' ss → (∀ q ∈ v'.ownBlock, q ∈ (sv j).ownBlock) → TR (wr.setCell ⟨b, 2 + j, none⟩ v') base (.slice ga gs.length gc) gs ∧ WAt (wr.setCell ⟨b, 2 + j, none⟩ v') base b now mref (dropAll all gs) (setF sv j v') (setF sl j ss) ∧ Turn (b :: (mref.toList ++ (sv j).ownBlock.toList)) w (wr.setCell ⟨b, 2 + j, none⟩ v') := fun v' hr hv => by
        have hset : Turn [b] wr (wr.setCell ⟨b, 2 + j, none⟩ v') := (Turn.refl [b] wr).setCell (.inl (by simp)) v'
        have hT : Turn (b :: (mref.toList ++ (sv j).ownBlock.toList)) w (wr.setCell ⟨b, 2 + j, none⟩ v') := by
          rw [← HF.out]
          exact (HTW.out.mono (fun q hq => .inl (List.mem_cons_of_mem _ hq))).setCell (.inl (by simp)) v'
        refine ⟨HGR.out.kept hset (fun q hq hm => ?_), H.out.setAll HJ.out hT ((H.out.cells.kept HTW.out HBF.out).setSlot HJ.out v') (HMP.out.kept hset (fun q hq hm => ?_)) (hr.kept hset (fun q hq hm => ?_)) (fun q hq => .inl (hv q hq)), hT⟩
        · obtain rfl := List.mem_singleton.1 hm
          have h1 := HGO.out q hq
          have h2 := H.out.blt
          omega
        · obtain rfl := List.mem_singleton.1 hm
          exact H.out.map_b hq
        · obtain rfl := List.mem_singleton.1 hm
          exact H.out.row_b HJ.out (hv q hq)
      have HFIN := hide hfin
      clear hfin
      have hgsj : goneT goes (sl j) = gs := by rw [← HL.out]; exact HGS.out.symm
      have hssj : staysT goes (sl j) = ss := by rw [← HL.out]; exact HSS.out.symm
      have HGJ := hide hgsj
      have HSJ := hide hssj
      clear hgsj hssj
      by_cases hs0 : ss.length = 0
      · have hs1 : (ss.length : Int) = 0 := by omega
        have hss0 : ss = [] := List.eq_nil_of_length_eq_zero hs0
        obtain ⟨f1, f2, f3⟩ := HFIN.out (.slice none 0 0) (.inl ⟨rfl, hss0⟩) (by simp [Value.ownBlock])
        have F1 := hide f1
        have F2 := hide f2
        have F3 := hide f3
        have HS0 := hide hss0
        clear f1 f2 f3 hss0 hs0
        go_wp2
        go_ret
        rw [HGJ.out, HSJ.out]
        exact ⟨ga, gc, rfl, F1.out, HGO.out, _, F2.out, F3.out, by simp [Value.ownBlock]⟩
      · have hs1 : ¬ (ss.length : Int) = 0 := by omega
        have hpre := TR.pre HRW.out (by omega)
        have hown : ∀ q ∈ (Value.slice sa ss.length sc).ownBlock, q ∈ (sv j).ownBlock := fun q hq => by
          rw [HSV.out]
          cases sa <;> exact hq
        obtain ⟨f1, f2, f3⟩ := HFIN.out _ hpre hown
        have F1 := hide f1
        have F2 := hide f2
        have F3 := hide f3
        have HOW := hide hown
        clear f1 f2 f3 hs0 hpre hown
        go_wp2
        go_ret
        rw [HGJ.out, HSJ.out]
        exact ⟨ga, gc, rfl, F1.out, HGO.out, _, F2.out, F3.out, HOW.out⟩
end Go.Proofs.YtcficgpknokpbaaDoor.Wh
