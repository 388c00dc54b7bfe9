/- The wheel: Advance. -/
import Derived.Test.YtcficgpknokpbaaDoorWhk
import Derived.Shelf.Abstract
namespace Go.Proofs.YtcficgpknokpbaaDoor.Wh
open Go.RowKit Go.Maps Go.Shelf
set_option maxRecDepth 100000
set_option linter.unusedSimpArgs false
set_option linter.unusedVariables false
attribute [local go_sem] Oper.semAt_some

def inZ (z : Int) : List Value := [.int .i64 z]
theorem inZ_len : ∀ z, (inZ z).length = 1 := fun _ => rfl
/-- A row of ints. -/
abbrev IR (w : World) (base : Nat) (v : Value) (l : List Int) : Prop := GRow 3 1 inZ w base v l
theorem infoZ : (Tryd.prog.info? 3).map (fun i => (i.zero.map (fun z => z.cells.size), i.size, i.bytes)) = some (some 1, 1, 8) := by kernel_rfl
theorem infoZ_parts : ∃ i z, Tryd.prog.info? 3 = some i ∧ i.zero = some z ∧ z.cells.size = 1 ∧ i.size = 1 ∧ i.bytes ≤ 1000 := by
  have h := infoZ
  cases hi : Tryd.prog.info? 3 with
  | none => rw [hi] at h; cases h
  | some i =>
    rw [hi] at h
    simp only [Option.map_some, Option.some.injEq, Prod.mk.injEq, Option.map_eq_some_iff] at h
    obtain ⟨⟨z, hz, hz2⟩, h2, h3⟩ := h
    exact ⟨i, z, rfl, hz, hz2, h2, by omega⟩
theorem app_z (w : World) (base : Nat) (v : Value) (xs : List Int) (x : Int) (k : Nat) (hrow : IR w base v xs) (hk : w.heap[k]? = some (.cells (inZ x).toArray 3 (0, 0))) (hlen : xs.length ≤ 1000000) (hbase : base ≤ w.heap.size) :
    ∃ v' w', (Builtin.append_ #[40, 40] 40 #[v, .slice (some ⟨k, 0, none⟩) 1 1]).run Tryd.prog w = .ok v' w' ∧ IR w' base v' (xs ++ [x]) ∧ Turn v.ownBlock.toList w w' ∧ (∀ j ∈ v'.ownBlock, j ∈ v.ownBlock ∨ w.heap.size ≤ j) := by
  obtain ⟨i, z, hi, hz, hzs, hs, hb⟩ := infoZ_parts
  exact run_append_g (P := Tryd.prog) 40 40 Tryd.underlying40 i z hi hz hzs hs hb inZ_len (by intro x u hu; simp [inZ] at hu; subst hu; rfl) w base v xs x k hrow hk hlen hbase
/-- A row of ints lies apart from a wheel. -/
theorem WheelAt.ir {w : World} {base b now base' : Nat} {F : List Nat} {all : List Tm} (h : WheelAt w base b F now all) {v : Value} {l : List Int} (hr : IR w base' v l) : ∀ q ∈ v.ownBlock, q ∉ F := by
  obtain ⟨mref, sv, sl, h1, h2, rfl⟩ := h
  intro q hq hm
  rcases hr with ⟨rfl, -⟩ | ⟨g, cap, cur, rfl, -, hg, -⟩
  · simp [Value.ownBlock] at hq
  · simp [Value.ownBlock] at hq
    subst hq
    rcases mem_wfoot.1 hm with rfl | hm | ⟨j, hj, hm⟩
    · obtain ⟨cur2, h3, -⟩ := h1.cells.cur
      rw [h3] at hg
      simp at hg
    · exact h1.map.ne hg hm
    · rcases h1.rows j hj with ⟨e, -⟩ | ⟨g', cap', cur', e, -, hg', -⟩
      · rw [e] at hm; simp [Value.ownBlock] at hm
      · rw [e] at hm
        simp [Value.ownBlock] at hm
        subst hm
        rw [hg] at hg'
        simp at hg'
theorem eg_due : ∀ args w, (callFunc 17 args).run Tryd.prog w = .ok (.enter 17 args) w := enters_of Tryd.func17 (by kernel_rfl) rfl
theorem due_any (w : World) (B : Nat) (to : Int) (hB : w.cell? ⟨B, 0, none⟩ = some (.int .i64 to)) (x : Tm) : Calls Tryd.prog 17 #[tmV x, .pointer (some ⟨B, 0, none⟩)] w fun e w' => e = .returned (.bool (decide (x.1 ≤ to))) ∧ Turn [] w w' := by
  have zB := World.block_lt_of_cell? w _ hB
  simp only at zB
  unfold tmV
  go_enter Tryd.func17, Tryd.ntmps17
  go_wp2
  go_ret
  exact ⟨rfl, (Turn.refl _ _).alloc _⟩
set_option maxHeartbeats 2000000 in
theorem adv_any (w : World) (base b now : Nat) (F : List Nat) (all : List Tm) (h : WheelAt w base b F now all) (to : Nat) (hn : now ≤ to) (hto : to ≤ 1099511627776) :
    Calls Tryd.prog 8 #[.pointer (some ⟨b, 0, none⟩), .int .i64 to] w fun e w' => ∃ ia ic D F', e = .returned (.tuple #[.slice ia (D.map (·.2)).length ic, .nilIface]) ∧ Stb (all.filter (fun x => decide (x.1 ≤ (to : Int)))) D ∧ IR w' w.heap.size (.slice ia (D.map (·.2)).length ic) (D.map (·.2)) ∧ WheelAt w' base b F' to (all.filter (fun x => !decide (x.1 ≤ (to : Int)))) ∧ Turn F w w' ∧ ∀ q ∈ F', q ∈ F ∨ w.heap.size ≤ q := by
  obtain ⟨mref, sv, sl, hW, hI, rfl⟩ := h
  obtain ⟨w0, hw0⟩ : ∃ w0, w0 = w.alloc (.cells #[.int .i64 to] 3) := ⟨_, rfl⟩
  have hal : Turn [] w w0 := by rw [hw0]; exact (Turn.refl [] w).alloc _
  have hbox : w0.heap[w.heap.size]? = some (.cells #[.int .i64 to] 3 (0, 0)) := by rw [hw0]; exact heap_new w _
  have hsz0 : w.heap.size < w0.heap.size := lt_of_heap hbox
  have hW0 := hW.still hal
  have HWZ := hide hW0
  have hce : ∀ Z, Turn [] w0 Z → (Z.cell? ⟨b, 0, none⟩ = some (.int .i64 now) ∧ b < Z.heap.size) ∧ Z.cell? ⟨w.heap.size, 0, none⟩ = some (.int .i64 to) ∧ w.heap.size < Z.heap.size := fun Z hZ => by
    have hh := (hW0.still hZ).cells.head
    have hb := hZ.heap hbox (by simp)
    exact ⟨⟨hh.1, hh.2.2.2⟩, by rw [cell_of hb]; rfl, lt_of_heap hb⟩
  have HC := hide hce
  have HW := hide hW
  have HI := hide hI
  have HB0 := hide hbox
  have HAL := hide hal
  have HW0 := hide hw0
  have hnt : ¬ (to : Int) < now := by omega
  have htm : ¬ (to : Int) > 1099511627776 := by omega
  have hmf : ∀ (fn : Fn) (first cap : Array Value) (w : World), (Instr.makeFunc fn first cap).run Tryd.prog w = .ok (.func fn first cap) w := fun _ _ _ _ => rfl
  clear hal hbox hW hI hce hW0 hw0
  go_enter Tryd.func8, Tryd.ntmps8
  go_wp2
  rw [show w.alloc (.cells #[.int .i64 to] 3) = w0 from HW0.out.symm]
  refine wp_region_loose (Turn []) (by kernel_rfl) (by kernel_rfl) (by kernel_rfl) (by kernel_rfl) rfl (Turn.refl _) (fun _ _ _ h k => h.same k) ?_
  refine Lo.runv 1 rfl rfl [] (.int .i64 (to : Int)) (by kernel_rfl) (fun u w1 hR hF => ?_) (Turn.refl _) ?_
  · clear hF
    refine ⟨rfl, fun a ha K hK => ?_⟩
    have e3 := ha 3
    conv at e3 => rhs; whnf
    clear ha
    obtain ⟨⟨c0, z0⟩, c1, z1⟩ := HC.out w1 (((Turn.refl [] _).drew).same hR)
    go_simp
    refine hK _ ?_
    rfl
  apply Lo.runx 2 rfl rfl [] (by kernel_rfl) (Turn.refl _)
  apply Exists.intro; apply And.intro
  · intro u w1 hR hF
    clear hF
    refine ⟨rfl, fun a ha K hK => ?_⟩
    have e0 := ha 0
    conv at e0 => rhs; whnf
    clear ha
    go_simp
    refine hK _ ?_; rfl
  apply Lo.runx 3 rfl rfl [1] (by kernel_rfl) (Turn.refl _)
  apply Exists.intro; apply And.intro
  · intro u w1 hR hF
    obtain ⟨h1, -⟩ := hF
    refine ⟨rfl, fun a ha K hK => ?_⟩
    have e11 := (ha 11).trans h1
    clear ha h1
    obtain ⟨⟨c0, z0⟩, c1, z1⟩ := HC.out w1 (((Turn.refl [] _).drew).same hR)
    go_simp
    refine hK _ ?_; rfl
  apply Lo.runx 4 rfl rfl [2] (by kernel_rfl) (Turn.refl _)
  apply Exists.intro; apply And.intro
  · intro u w1 hR hF
    obtain ⟨h2, -⟩ := hF
    refine ⟨rfl, fun a ha K hK => ?_⟩
    have e12 := (ha 12).trans h2
    clear ha h2
    go_simp
    refine hK _ ?_; rfl
  refine Lo.runv 5 rfl rfl [3] (.int .i64 (now : Int)) (by kernel_rfl) (fun u w1 hR hF => ?_) (Turn.refl _) ?_
  · obtain ⟨h3, -⟩ := hF
    refine ⟨rfl, fun a ha K hK => ?_⟩
    have e13 := (ha 13).trans h3
    clear ha h3
    obtain ⟨⟨c0, z0⟩, c1, z1⟩ := HC.out w1 (((Turn.refl [] _).drew).same hR)
    go_simp
    refine hK _ ?_
    rfl
  refine Lo.runv 6 rfl rfl [0, 4] (.bool (false)) (by kernel_rfl) (fun u w1 hR hF => ?_) (Turn.refl _) ?_
  · obtain ⟨h0, h4, -⟩ := hF
    refine ⟨rfl, fun a ha K hK => ?_⟩
    have e10 := (ha 10).trans h0
    have e14 := (ha 14).trans h4
    clear ha h0 h4
    go_simp
    refine hK _ ?_
    simp; omega
  apply Lo.runx 7 rfl rfl [5] (by kernel_rfl) (Turn.refl _)
  apply Exists.intro; apply And.intro
  · intro u w1 hR hF
    obtain ⟨h5, -⟩ := hF
    refine ⟨rfl, fun a ha K hK => ?_⟩
    have e15 := (ha 15).trans h5
    clear ha h5
    go_simp
    refine hK _ ?_; rfl
  refine Lo.runv 8 rfl rfl [6] (.int .i64 (to : Int)) (by kernel_rfl) (fun u w1 hR hF => ?_) (Turn.refl _) ?_
  · obtain ⟨h6, -⟩ := hF
    refine ⟨.inl ⟨false, h6, rfl⟩, fun a ha K hK => ?_⟩
    have e3 := ha 3
    conv at e3 => rhs; whnf
    clear ha h6
    obtain ⟨⟨c0, z0⟩, c1, z1⟩ := HC.out w1 (((Turn.refl [] _).drew).same hR)
    go_simp
    refine hK _ ?_
    rfl
  refine Lo.runv 9 rfl rfl [6, 7] (.bool (false)) (by kernel_rfl) (fun u w1 hR hF => ?_) (Turn.refl _) ?_
  · obtain ⟨h6, h7, -⟩ := hF
    refine ⟨.inl ⟨false, h6, rfl⟩, fun a ha K hK => ?_⟩
    have e17 := (ha 17).trans h7
    clear ha h6 h7
    go_simp
    refine hK _ ?_
    simp; omega
  apply Lo.runx 10 rfl rfl [6, 8] (by kernel_rfl) (Turn.refl _)
  apply Exists.intro; apply And.intro
  · intro u w1 hR hF
    obtain ⟨h6, h8, -⟩ := hF
    refine ⟨rfl, fun a ha K hK => ?_⟩
    have e16 := (ha 16).trans h6
    have e18 := (ha 18).trans h8
    clear ha h6 h8
    go_simp
    refine hK _ ?_; rfl
  refine Lo.done [9] (fun u w1 hRd hSd hF => ?_)
  clear hSd
  obtain ⟨f9, -⟩ := hF
  have d9 : u 9 = _ := f9
  clear f9
  simp only [putFrom, Act.put, List.setIfInBounds_toArray, List.set_cons_succ, List.set_cons_zero, Nat.zero_add, Nat.reduceAdd, d9]
  have hT1 : Turn [] w0 w1 := ((Turn.refl [] w0).drew).same hRd
  obtain ⟨wa, rfl⟩ : ∃ wa, wa = w1 := ⟨_, rfl⟩
  have HT1 := hide hT1
  have hreach := reach_any wa base b now to mref all sv sl (HWZ.out.still hT1) HI.out hn hto
  have HRE := hide hreach
  obtain ⟨⟨c0, z0⟩, c1, z1⟩ := HC.out wa hT1
  have hFlt : ∀ q ∈ wfoot b mref sv, q < w.heap.size := fun q hq => (HW.out.foot_lt q hq).2
  have HFL := hide hFlt
  clear hT1 hreach hRd d9 hFlt
  go_wp2_with fail
  refine HRE.out.mono ?_
  rintro e w2 ⟨rfl, sv', sl', hW2, hI2, ht2, hf2⟩
  clear c0 z0 c1 z1 HRE
  have hbx2 : w2.heap[w.heap.size]? = some (.cells #[.int .i64 to] 3 (0, 0)) := ht2.heap (HT1.out.heap HB0.out (by simp)) (fun hm => by have := HFL.out _ hm; omega)
  obtain ⟨j, hj⟩ : ∃ j, j = slotJ to to := ⟨_, rfl⟩
  have hj448 : j < 448 := by rw [hj]; exact slotJ_lt hto hto
  have hjlen := hI2.slen hj448
  obtain ⟨goes, hgoes⟩ : ∃ goes : Tm → Bool, goes = fun x => decide (x.1 ≤ (to : Int)) := ⟨_, rfl⟩
  have htake := take_any w2 base b to mref all sv' sl' hW2 hto to hto j hj (by omega) hI2.nd
    (fun x hx => by
      have hxa := (hI2.mem hj448 hx).1
      obtain ⟨h1, h2, h3⟩ := hI2.ok x hxa
      refine ⟨?_, h3⟩
      have : x.1 = ((x.1.toNat : Nat) : Int) := by omega
      rw [this]
      exact wf_of (by omega))
    (fun hne => by
      cases hmr : mref with
      | some mb => exact ⟨mb, rfl⟩
      | none =>
        exfalso
        obtain ⟨x, hx⟩ := List.exists_mem_of_ne_nil _ hne
        have hxa := (hI2.mem hj448 hx).1
        have hm := hW2.map
        rw [hmr] at hm
        have : all = [] := hm
        rw [this] at hxa
        simp at hxa)
    17 (.pointer (some ⟨w.heap.size, 0, none⟩)) goes eg_due
    (fun Z hZ x hx => by
      rw [hgoes]
      refine due_any Z w.heap.size to ?_ x
      have hb := hZ.heap hbx2 (fun hm => by
        rcases List.mem_cons.1 hm with e | hm
        · have := HW.out.blt; omega
        · rcases List.mem_append.1 hm with hm | hm
          · have := HW.out.map.lt w.heap.size (by simpa using hm); omega
          · have h1 := (hW2.rows j hj448).lt w.heap.size (by simpa using hm)
            have h2 := hf2 w.heap.size (mem_wfoot.2 (.inr (.inr ⟨j, hj448, by simpa using hm⟩)))
            rcases h2 with h2 | h2
            · have := HFL.out _ h2; omega
            · have := HT1.out.size; omega)
      rw [cell_of hb]; rfl)
  have HTK := hide htake
  have c1 : w2.cell? ⟨w.heap.size, 0, none⟩ = some (.int .i64 to) := by rw [cell_of hbx2]; rfl
  have z1 := lt_of_heap hbx2
  have HW2 := hide hW2
  have HI2 := hide hI2
  have HT2 := hide ht2
  have HF2 := hide hf2
  have HGO := hide hgoes
  have HJ := hide hj
  clear htake hW2 hI2 ht2 hf2 hbx2 hgoes hj
  go_wp2_with fail
  refine HTK.out.mono ?_
  rintro e w3 ⟨ga, gc, v', rfl, hgr, hgo, hW3, ht3, hv3⟩
  clear c1 z1 HTK
  obtain ⟨gone, hgone⟩ : ∃ gone, gone = goneT goes (sl' j) := ⟨_, rfl⟩
  rw [← hgone] at hgr hgo hW3 ⊢
  have hgl : gone.length ≤ 10000 := by
    rw [hgone]
    exact Nat.le_trans (List.length_filter_le _ _) hjlen
  have hdue : Sq gone (all.filter (fun x => decide (x.1 ≤ (to : Int)))) := by
    rw [hgone, HGO.out, HJ.out]
    exact due_slot HI2.out
  have hdrop : dropAll all gone = all.filter (fun x => !decide (x.1 ≤ (to : Int))) := dropAll_due (p := fun x => decide (x.1 ≤ (to : Int))) HI.out.nd hdue.perm
  rw [hdrop] at hW3
  have hI3 := due_inv HI2.out
  rw [← HJ.out, ← HGO.out] at hI3
  have hsort := sort_any w3 base gc ga gone hgr (by omega)
  have HSO := hide hsort
  have HW3 := hide hW3
  have HI3 := hide hI3
  have HT3 := hide ht3
  have HDU := hide hdue
  have HGN := hide hgo
  have HV3 := hide hv3
  clear hsort hW3 hI3 ht3 hdue hgr hgo hdrop hgone hv3
  unfold fnT at HSO
  go_wp2_with fail
  refine HSO.out.mono ?_
  rintro e w4 ⟨rfl, ⟨D, hD, hdr⟩, ht4⟩
  have hDl : D.length = gone.length := hD.length
  have hstb : Stb (all.filter (fun x => decide (x.1 ≤ (to : Int)))) D := ⟨hD.srt, HDU.out.symm.trans hD.sq⟩
  rw [← hDl] at hdr ht4 hgl
  have HDR := hide hdr
  have HT4 := hide ht4
  have HST := hide hstb
  have HDL := hide hDl
  have hw4 := ht4.size
  clear hdr ht4 hstb hD HSO
  rw [← hDl]
  clear hDl
  go_wp2
  go_loopw [7, 32] (fun sv7 kv wr => ∃ (k : Nat) (ia : Option Addr) (ic : Nat), k ≤ D.length ∧ kv = .int .i64 (k : Int) ∧ sv7 = .slice ia k ic ∧ IR wr w4.heap.size (.slice ia k ic) ((D.take k).map (·.2)) ∧ Turn [] w4 wr) (fun _ kv _ => D.length - (intOf kv).toNat)
  case atStart => exact ⟨0, none, 0, Nat.zero_le _, rfl, rfl, .inl ⟨rfl, by simp⟩, Turn.refl _ _⟩
  case round =>
    obtain ⟨k, ia, ic, hk, rfl, rfl, hir, htw⟩ := hrel
    have HIR := hide hir
    have HTW := hide htw
    clear hir htw
    by_cases hlt : k < D.length
    · have hlt1 : (k : Int) < D.length := by omega
      obtain ⟨x, hx⟩ : ∃ x, x = D[k] := ⟨_, rfl⟩
      have hrow := HDR.out.still HTW.out
      obtain ⟨g, cap, e, -, -⟩ := hrow.at tmC_len hlt
      simp only [Value.slice.injEq, true_and] at e
      obtain ⟨rfl, rfl⟩ := e
      obtain ⟨q0, q1, -, -, zg⟩ := TR.two hrow hlt hx.symm
      have hal : Turn [] wr ((wr.alloc (.cells #[.int .i64 x.1, .int .i64 x.2] 52)).alloc (.cells #[.int .i64 x.2] 3)) := ((Turn.refl [] wr).alloc _).alloc _
      have hln : ((D.take k).map (·.2)).length = k := by rw [List.length_map, List.length_take]; omega
      obtain ⟨v7, w7, hr7, hrow7, ht7, hown7⟩ := app_z _ w4.heap.size (.slice ia k ic) _ x.2 (wr.heap.size + 1) (HIR.out.still hal) (by
        have := heap_new (wr.alloc (.cells #[.int .i64 x.1, .int .i64 x.2] 52)) (.cells #[.int .i64 x.2] 3)
        rw [World.size_alloc] at this
        exact this) (by rw [hln]; omega) (by have := hal.size; have := HTW.out.size; omega)
      have hsn : (D.take (k + 1)).map (·.2) = (D.take k).map (·.2) ++ [x.2] := by
        rw [List.take_succ_eq_append_getElem hlt, List.map_append, hx]; rfl
      rw [← hsn] at hrow7
      obtain ⟨va, vc, hve, -, -⟩ := hrow7.form
      have hln2 : ((D.take (k + 1)).map (·.2)).length = k + 1 := by rw [List.length_map, List.length_take]; omega
      rw [hln2] at hve
      subst hve
      have hT7 : Turn [] w4 w7 := (HTW.out.same hal).trans ht7 (fun q hq => .inr (HIR.out.lt q (by simpa using hq)).1)
      have HR7 := hide hr7
      have HROW7 := hide hrow7
      have HT7 := hide hT7
      clear hx hrow hal hln hr7 hrow7 ht7 hown7 hsn hln2 hT7
      go_wp2_with (at_builtin; go_must (refine wpList_appT rfl rfl rfl rfl HR7.out ?_))
      all_goals first
        | exact ⟨⟨k + 1, va, vc, by omega, by go_num, rfl, HROW7.out, HT7.out⟩, by simp only [intOf]; omega⟩
    · obtain rfl : k = D.length := by omega
      have hfin : IR wr w.heap.size (.slice ia (D.map (·.2)).length ic) (D.map (·.2)) := by
        have := HIR.out
        rw [List.take_length] at this
        rw [List.length_map]
        have hh := HT4.out.size
        refine this.base_le ?_
        have h1 := HAL.out.size
        have h2 := HT1.out.size
        have h3 := HT2.out.size
        have h4 := HT3.out.size
        omega
      have HFIN := hide hfin
      clear hfin
      go_wp2
      go_ret2
      have s1 := HAL.out.size
      have s2 := HT1.out.size
      have s3 := HT2.out.size
      have s4 := HT3.out.size
      have hfoot : ∀ q ∈ wfoot b mref (setF sv' j v'), q ∈ wfoot b mref sv' := fun q hq => by
        rcases mem_wfoot.1 hq with rfl | hq | ⟨i, hi, hq⟩
        · exact mem_wfoot.2 (.inl rfl)
        · exact mem_wfoot.2 (.inr (.inl hq))
        · by_cases e : i = j
          · subst e
            rw [setF_same] at hq
            exact mem_wfoot.2 (.inr (.inr ⟨i, hi, HV3.out q hq⟩))
          · rw [setF_other _ _ e] at hq
            exact mem_wfoot.2 (.inr (.inr ⟨i, hi, hq⟩))
      have hwh : WheelAt wr base b (wfoot b mref (setF sv' j v')) to (all.filter (fun x => !decide (x.1 ≤ (to : Int)))) := by
        refine ⟨mref, _, _, (HW3.out.kept HT4.out (fun q hq hm => ?_)).still HTW.out, HI3.out, rfl⟩
        have h1 := HGN.out q (by
          have h9 := HDL.out
          rw [h9] at hm
          simpa using hm)
        have h2 := (HW2.out.foot_lt q (hfoot q hq)).2
        omega
      refine ⟨ia, ic, D, rfl, HST.out, by simpa using HFIN.out, _, hwh, ?_, ?_⟩
      · have a1 : Turn (wfoot b mref sv) w wa := (HAL.out.same HT1.out).mono (by simp)
        have a2 : Turn (wfoot b mref sv) w w2 := a1.same HT2.out
        have a3 : Turn (wfoot b mref sv) w w3 := a2.trans HT3.out (fun q hq => by
          have hq' : q ∈ wfoot b mref sv' := by
            rcases List.mem_cons.1 hq with rfl | hq
            · exact mem_wfoot.2 (.inl rfl)
            · rcases List.mem_append.1 hq with hq | hq
              · exact mem_wfoot.2 (.inr (.inl (by simpa using hq)))
              · exact mem_wfoot.2 (.inr (.inr ⟨j, hj448, by simpa using hq⟩))
          exact (HF2.out q hq').imp (fun h => h) (fun h => by omega))
        have a4 : Turn (wfoot b mref sv) w w4 := a3.trans HT4.out (fun q hq => .inr (by
          have h1 := HGN.out q (by
            have h9 := HDL.out
            rw [h9] at hq
            simpa using hq)
          omega))
        exact a4.same (HTW.out.mono (by simp))
      · intro q hq
        exact (HF2.out q (hfoot q hq)).imp (fun h => h) (fun h => by omega)
end Go.Proofs.YtcficgpknokpbaaDoor.Wh
