/- The document's disk: its six operations. -/
import Derived.Test.YtlcgcckllecjpaaDoorRAbs
import Derived.Test.YtlcgcckllecjpaaDoorLoose
import Derived.Test.YtlcgcckllecjpaaDoorPutN
import Derived.Test.YtlcgcckllecjpaaDoorAppB
namespace Go.Proofs.YtlcgcckllecjpaaDoor.Dk
open Go.RowKit Go.Maps
set_option maxRecDepth 100000
set_option linter.unusedSimpArgs false
set_option linter.unusedVariables false

set_option maxHeartbeats 8000000 in
theorem do_rename {w : World} {r : Nat} {sv : Value} {ms : List RM} {A : DA} (h : Ref w r sv ms A) (hg : Good A) (nm to : List UInt8) (hnm : nm.length ≤ 1000000) (hto : to.length ≤ 1000000) (bv : Value) (n : Int) :
    Calls Tryd.prog 17 #[.pointer (some ⟨r, 0, none⟩), .string { data := #[114, 101, 110, 97, 109, 101] }, .string ⟨nm.toArray⟩, .string ⟨to.toArray⟩, bv, .int .i64 n] w fun e w' => e = .returned (.int .i64 (A.rename nm ⟨to.toArray⟩).1) ∧ RDid w w' r sv ms (A.rename nm ⟨to.toArray⟩).2 := by
  obtain ⟨a, c, rfl, hlc, hcm⟩ := h.mem.form
  have hmx : maxLen = 9223372036854775807 := by simp [maxLen]
  rw [hmx] at hcm
  have H := hide h
  have HGD := hide hg
  obtain ⟨c0, c1, c2⟩ := h.mem.c
  obtain ⟨f0, f1, f2⟩ := h.mem.f
  obtain ⟨b1, b2⟩ := leftOf_bound hg
  have hlf := leftOf_fails hg
  by_cases hf : A.fails = true
  · have e : (A.rename nm ⟨to.toArray⟩) = (14, A) := by unfold DA.rename; rw [if_pos hf]
    rw [e]
    rw [hlf.2 hf] at c2
    clear h hg hf hlf e f0 f1 f2 b1 b2
    go_enter Tryd.func17, Tryd.ntmps17
    go_wp2
    go_ret
    exact ⟨rfl, H.out.did (Turn.refl _ _)⟩
  · obtain ⟨L, hL⟩ : ∃ L, leftOf A = L := ⟨_, rfl⟩
    have hlt := leftOf_tick hg hf
    have hL0 : ¬ L = 0 := by rw [← hL]; exact fun e => hf (hlf.1 e)
    rw [hL] at c2 hlt b1 b2
    have HMEM : Hid (RefAt w r (.slice a ms.length c) ms A.room L) := hL ▸ h.mem
    have HF : Hid (¬ A.fails = true) := hf
    have HLT := hide hlt
    have hl200 := h.len hg
    clear h hg hf hlf hL hlt
    by_cases hp : 0 < L
    · obtain ⟨w1, hw1⟩ : ∃ w1, w1 = (w.setCell ⟨r, 2, none⟩ (.int .i64 (L - 1))) := ⟨_, rfl⟩
      have HR1 : Hid (Ref w1 r (.slice a ms.length c) ms A.tick) := hw1 ▸ (⟨by rw [tick_room]; exact (by rw [show leftOf A.tick = L - 1 by rw [HLT.out, if_pos hp]]; exact HMEM.out.setLeft (L - 1)), by rw [tick_files]; exact H.out.files⟩ : Ref (w.setCell ⟨r, 2, none⟩ (.int .i64 (L - 1))) r (.slice a ms.length c) ms A.tick)
      have HT1 : Hid (Turn [r] w w1) := by rw [hw1]; exact (Turn.refl [r] w).setCell (.inl (by simp)) _
      have HW1 := hide hw1
      clear HMEM HLT hw1
      go_enter Tryd.func17, Tryd.ntmps17
      go_wp2_with fail
      clear c0 c1 c2 f0 f1 f2
      rw [← HW1.out]
      clear HW1
      have HI := hide (at_any HR1.out.mem (by omega) nm)
      unfold idxI at HI
      rcases hi : idxM ms nm with _ | k
      · have e : (A.rename nm ⟨to.toArray⟩) = (7, A.tick) := by
          have hff := idx_none hi
          unfold DA.rename
          rw [if_neg HF.out]
          rw [findR_file H.out.files, hff]; rfl
        have HE := hide e
        rw [hi] at HI
        clear e hi
        refine HI.out.mono ?_
        rintro e w2 ⟨rfl, ht2⟩
        have HT2 := hide (HT1.out.trans ht2 (by simp))
        have HR2 := hide (HR1.out.still ht2)
        clear ht2 HI

        go_wp2
        go_ret
        rw [HE.out]
        exact ⟨rfl, HR2.out.did HT2.out⟩
      · obtain ⟨hk, hfd, hname⟩ := idx_some hi
        have hfile : A.file nm = some ms[k].abs := by rw [findR_file H.out.files, hfd]; rfl
        rw [hi] at HI
        have HN := hide (fun w => refName_any ⟨to.toArray⟩ w (by simp [ByteArray.size, maxLen]; omega))
        cases hnb : nameB ⟨to.toArray⟩
        · have e : (A.rename nm ⟨to.toArray⟩) = (5, A.tick) := by
            unfold DA.rename
            rw [if_neg HF.out, hfile]
            simp only
            rw [if_pos (by rw [hnb]; rfl)]
          have HE := hide e
          rw [hnb] at HN
          clear e hi hfd hname hfile hnb
          refine HI.out.mono ?_
          rintro e w2 ⟨rfl, ht2⟩
          have HT2 := hide (HT1.out.trans ht2 (by simp))
          have HR2 := hide (HR1.out.still ht2)
          clear ht2 HI
          obtain ⟨c0, c1, c2⟩ := HR2.out.mem.c
          obtain ⟨p, rfl, g0, g1, g2, q, d, hq, hqd, hdm⟩ := HR2.out.mem.three hk
          have g1' : w2.cell? ⟨(p.add (k * 3)).block, (p.add (k * 3)).off + 1, none⟩ = some (.slice ms[k].a ms[k].abs.bytes.length ms[k].c) := by rw [g1]; rfl
          have e1 := hq
          simp only [RM.sl, Value.slice.injEq] at e1
          obtain ⟨rfl, -, rfl⟩ := e1
          clear g1 hq
          have fz1 := HR2.out.mem.frz hk 1
          have fz2 := HR2.out.mem.frz hk 2
          have hone := H.out.one HGD.out _ (List.getElem_mem hk)
          have hsafe := HGD.out.safe _ (by rw [H.out.files]; exact List.mem_map.2 ⟨_, List.getElem_mem hk, rfl⟩)
          have HNOD := hide (H.out.names HGD.out)
          have HLOW := hide H.out.mem.lt
          have HEACH := hide (HR2.out.mem.each _ (List.getElem_mem hk)).1
          obtain ⟨m, hm⟩ : ∃ m, m = ms[k] := ⟨_, rfl⟩
          rw [← hm] at g0 g1' g2 hqd hdm hone hsafe HEACH
          have HM := hide hm
          clear hm

          go_wp2_with fail
          refine (HN.out _).mono ?_
          rintro e w3 ⟨rfl, rfl⟩
          go_wp2
          go_ret
          rw [HE.out]
          exact ⟨rfl, HR2.out.did HT2.out⟩
        · have e : (A.rename nm ⟨to.toArray⟩) = (0, { A.tick with files := outF (outF A.files nm) to ++ [{ ms[k].abs with name := to }] }) := by
            unfold DA.rename
            rw [if_neg HF.out, hfile]
            simp only
            rw [if_neg (by rw [hnb]; simp)]
          have HE := hide e
          rw [hnb] at HN
          clear e hi hfd hname hfile hnb
          refine HI.out.mono ?_
          rintro e w2 ⟨rfl, ht2⟩
          have HT2 := hide (HT1.out.trans ht2 (by simp))
          have HR2 := hide (HR1.out.still ht2)
          clear ht2 HI
          obtain ⟨c0, c1, c2⟩ := HR2.out.mem.c
          obtain ⟨p, rfl, g0, g1, g2, q, d, hq, hqd, hdm⟩ := HR2.out.mem.three hk
          have g1' : w2.cell? ⟨(p.add (k * 3)).block, (p.add (k * 3)).off + 1, none⟩ = some (.slice ms[k].a ms[k].abs.bytes.length ms[k].c) := by rw [g1]; rfl
          have e1 := hq
          simp only [RM.sl, Value.slice.injEq] at e1
          obtain ⟨rfl, -, rfl⟩ := e1
          clear g1 hq
          have fz1 := HR2.out.mem.frz hk 1
          have fz2 := HR2.out.mem.frz hk 2
          have hone := H.out.one HGD.out _ (List.getElem_mem hk)
          have hsafe := HGD.out.safe _ (by rw [H.out.files]; exact List.mem_map.2 ⟨_, List.getElem_mem hk, rfl⟩)
          have HNOD := hide (H.out.names HGD.out)
          have HLOW := hide H.out.mem.lt
          have HEACH := hide (HR2.out.mem.each _ (List.getElem_mem hk)).1
          obtain ⟨m, hm⟩ : ∃ m, m = ms[k] := ⟨_, rfl⟩
          rw [← hm] at g0 g1' g2 hqd hdm hone hsafe HEACH
          have HM := hide hm
          clear hm

          clear c1 c2
          go_wp2_with fail
          refine (HN.out _).mono ?_
          rintro e w3 ⟨rfl, rfl⟩
          go_wp2_with fail
          have hga := heap_new w2 (.cells #[.string ⟨to.toArray⟩, .slice m.a m.abs.bytes.length m.c, .int .i64 m.abs.safe] 88)
          have HRA := hide (HR2.out.still ((Turn.refl [] w2).alloc (.cells #[.string ⟨to.toArray⟩, .slice m.a m.abs.bytes.length m.c, .int .i64 m.abs.safe] 88)))
          refine (refRemove_any HRA.out.mem (by omega) nm).mono ?_
          rintro e w3 ⟨rfl, s3, hr3, ht3, hl3⟩
          obtain ⟨a3, c3, rfl, -, -⟩ := hr3.form
          have hrlt := HR2.out.mem.lt r (foot_r _ _ _)
          have hgb := ht3.heap hga (by simp; omega)
          have HR3 := hide hr3
          have HL3 := hide hl3
          have HT3 := hide ht3
          clear hr3 hl3 ht3 hga
          go_wp2_with fail
          have hlen3 : (outR ms nm).length ≤ 200 := Nat.le_trans (List.length_filter_le _ _) hl200
          refine (refRemove_any HR3.out (by omega) to).mono ?_
          rintro e w4 ⟨rfl, s4, hr4, ht4, hl4⟩
          obtain ⟨a4, c4, rfl, -, -⟩ := hr4.form
          have hgb4 := ht4.heap hgb (by simp; omega)
          have hlen4 : (outR (outR ms nm) to).length ≤ 200 := Nat.le_trans (List.length_filter_le _ _) hlen3
          have hself := hr4.self
          have hsz3 := HT3.out.size
          have hsz4 := ht4.size
          simp only [World.size_alloc] at hsz3
          have hg4 : w2.heap.size < w4.heap.size := lt_of_heap hgb4
          have hr4l : r < w4.heap.size := by omega
          have hcells : ∀ Z, Turn (Value.slice a4 (outR (outR ms nm) to).length c4).ownBlock.toList w4 Z →
              (Z.cell? ⟨w2.heap.size, 0, none⟩ = some (.string ⟨to.toArray⟩) ∧ Z.cell? ⟨w2.heap.size, 1, none⟩ = some (.slice m.a m.abs.bytes.length m.c) ∧ Z.cell? ⟨w2.heap.size, 2, none⟩ = some (.int .i64 m.abs.safe)) ∧
              (w2.heap.size < Z.heap.size ∧ r < Z.heap.size) ∧ Z.heap[r]? = some (.cells #[.slice a4 (outR (outR ms nm) to).length c4, .int .i64 A.tick.room, .int .i64 (leftOf A.tick)] 33 (0, 0)) := by
            intro Z hZ
            have hg := hZ.heap hgb4 (fun hm => by have := hl4 w2.heap.size (by simpa using hm); omega)
            have hr := hZ.heap hself (fun hm => hr4.rsv (by simpa using hm))
            exact ⟨⟨by rw [cell_of hg]; rfl, by rw [cell_of hg]; rfl, by rw [cell_of hg]; rfl⟩, ⟨lt_of_heap hg, lt_of_heap hr⟩, hr⟩
          have HCELLS := hide hcells
          have HR4 := hide hr4
          have HT24 : Hid (Turn [r] w2 w4) := ((((Turn.refl [] w2).alloc (.cells #[.string ⟨to.toArray⟩, .slice m.a m.abs.bytes.length m.c, .int .i64 m.abs.safe] 88)).mono (T := [r]) (by simp)).same HT3.out).same ht4
          have HT4 := hide (HT2.out.trans (((((Turn.refl [] w2).alloc (.cells #[.string ⟨to.toArray⟩, .slice m.a m.abs.bytes.length m.c, .int .i64 m.abs.safe] 88)).mono (T := [r]) (by simp)).same HT3.out).same ht4) (fun x hx => .inl hx))
          have HL4 := hide hl4
          obtain ⟨⟨k0, k1, k2⟩, ⟨-, -⟩, hs⟩ := hcells w4 (Turn.refl _ _)
          have c4' : w4.cell? ⟨r, 0, none⟩ = some (.slice a4 (outR (outR ms nm) to).length c4) := by rw [cell_of hs]; rfl
          clear hcells hself hgb hgb4 hr4 ht4 hl4 g0 g1' g2 c0 fz1 fz2 hs k0 k1 k2 c4'
          go_wp2
          refine wp_region_loud 8 (Turn (Value.slice a4 (outR (outR ms nm) to).length c4).ownBlock.toList) (Turn []) (fun k w => match k with | 0 => (fun w => GRow 88 3 fileC w 0 (.slice a4 (outR (outR ms nm) to).length c4) (outR (outR ms nm) to)) w | _ => (fun w => GRow 88 3 fileC w 0 (.slice none 0 0) ([] : List RM)) w) [7] (by kernel_rfl) (by kernel_rfl) (by kernel_rfl) (by kernel_rfl) (by kernel_rfl) (by kernel_rfl) (Nat.le_of_ble_eq_true rfl) (by decide) rfl (Turn.refl _) (fun _ _ _ h k => h.same k) (fun _ _ h => h.mono (by simp)) ?_ ?_ ?_
          · intro k a b hk hR
            match k, hk with
            | 0, hk =>
              have hk := (show (fun w => GRow 88 3 fileC w 0 (.slice a4 (outR (outR ms nm) to).length c4) (outR (outR ms nm) to)) a from hk)
              dsimp only at hk
              show (fun w => GRow 88 3 fileC w 0 (.slice a4 (outR (outR ms nm) to).length c4) (outR (outR ms nm) to)) b
              dsimp only
              exact hk.still hR
            | _ + 1, hk =>
              have hk := (show (fun w => GRow 88 3 fileC w 0 (.slice none 0 0) ([] : List RM)) a from hk)
              dsimp only at hk
              show (fun w => GRow 88 3 fileC w 0 (.slice none 0 0) ([] : List RM)) b
              dsimp only
              exact hk.still hR
          · show (fun w => GRow 88 3 fileC w 0 (.slice a4 (outR (outR ms nm) to).length c4) (outR (outR ms nm) to)) _
            dsimp only
            exact HR4.out.row.still ((Turn.refl [] _).drew)
          apply Lo.runx 1 rfl rfl [] (by kernel_rfl) (Turn.refl _)
          apply Exists.intro; apply And.intro
          · intro u w1 hR hF
            clear hF
            refine ⟨rfl, fun a ha K hK => ?_⟩
            have e0 := ha 0
            conv at e0 => rhs; whnf
            clear ha
            go_simp
            refine hK _ ?_; rfl
          apply Lo.runx 2 rfl rfl [] (by kernel_rfl) (Turn.refl _)
          apply Exists.intro; apply And.intro
          · intro u w1 hR hF
            clear hF
            refine ⟨rfl, fun a ha K hK => ?_⟩
            have e0 := ha 0
            conv at e0 => rhs; whnf
            clear ha
            go_simp
            refine hK _ ?_; rfl
          apply Lo.runx 3 rfl rfl [1] (by kernel_rfl) (Turn.refl _)
          apply Exists.intro; apply And.intro
          · intro u w1 hR hF
            obtain ⟨h1, -⟩ := hF
            refine ⟨rfl, fun a ha K hK => ?_⟩
            have e154 := (ha 154).trans h1
            clear ha h1
            go_simp
            refine hK _ ?_; rfl
          apply Lo.runx 4 rfl rfl [2] (by kernel_rfl) (Turn.refl _)
          apply Exists.intro; apply And.intro
          · intro u w1 hR hF
            obtain ⟨h2, -⟩ := hF
            refine ⟨rfl, fun a ha K hK => ?_⟩
            have e155 := (ha 155).trans h2
            clear ha h2
            go_simp
            refine hK _ ?_; rfl
          apply Lo.runx 5 rfl rfl [3] (by kernel_rfl) (Turn.refl _)
          apply Exists.intro; apply And.intro
          · intro u w1 hR hF
            obtain ⟨h3, -⟩ := hF
            refine ⟨rfl, fun a ha K hK => ?_⟩
            have e156 := (ha 156).trans h3
            clear ha h3
            obtain ⟨⟨k0, k1, k2⟩, ⟨z1, z2⟩, hs⟩ := HCELLS.out w1 (((Turn.refl _ _).drew).same hR)
            have c0 : w1.cell? ⟨r, 0, none⟩ = some (.slice a4 (outR (outR ms nm) to).length c4) := by rw [cell_of hs]; rfl
            go_simp
            refine hK _ ?_; rfl
          apply Lo.runx 6 rfl rfl [] (by kernel_rfl) (Turn.refl _)
          apply Exists.intro; apply And.intro
          · intro u w1 hR hF
            clear hF
            refine ⟨rfl, fun a ha K hK => ?_⟩
            have e15 := ha 15
            conv at e15 => rhs; whnf
            clear ha
            obtain ⟨⟨k0, k1, k2⟩, ⟨z1, z2⟩, hs⟩ := HCELLS.out w1 (((Turn.refl _ _).drew).same hR)
            go_simp
            refine hK _ ?_; rfl
          refine Lo.run 7 rfl rfl [5] (fun x w' => ∃ k, x = .slice (some ⟨k, 0, none⟩) 1 1 ∧ w'.heap[k]? = some (.cells (fileC ⟨{ m.abs with name := to }, m.a, m.c⟩).toArray 88 (0, 0)) ∧ w4.heap.size ≤ k) (by kernel_rfl) (fun x w w' h hR => ?_) (fun _ _ h => h.mono (by simp)) (fun u w1 hR hF => ?_) ?_
          · obtain ⟨k, h1, h2, h3⟩ := h; exact ⟨k, h1, hR.heap h2 (fun hm => by have := (HR4.out.row.lt k (by simpa using hm)).2; omega), h3⟩
          · obtain ⟨h5, -⟩ := hF
            refine ⟨rfl, fun a ha K hK => ?_⟩
            have e158 := (ha 158).trans h5
            clear ha h5
            have e158' : a.tmps[158]?.getD undef = .agg #[.string ⟨to.toArray⟩, .slice m.a m.abs.bytes.length m.c, .int .i64 m.abs.safe] := by rw [← Array.getD_eq_getD_getElem?, e158]
            go_simp
            exact hK _ _ ⟨w1.heap.size, rfl, heap_new w1 _, hR.size⟩ ((Turn.refl [] _).alloc _)
          refine Lo.noisy 8 rfl 0 rfl [4, 6] (fun x w' => GRow 88 3 fileC w' 0 x (outR (outR ms nm) to ++ [⟨{ m.abs with name := to }, m.a, m.c⟩]) ∧ ∀ j ∈ x.ownBlock, j ∈ (Value.slice a4 (outR (outR ms nm) to).length c4).ownBlock ∨ w4.heap.size ≤ j) (by kernel_rfl) (fun x w w' h hR => ?_) (.inl (by kernel_rfl)) (fun u w1 hR hS hF => ?_) ?_
          · exact ⟨h.1.still hR, h.2⟩
          · obtain ⟨h4, h6, -⟩ := hF
            have hS := (show (fun w => GRow 88 3 fileC w 0 (.slice a4 (outR (outR ms nm) to).length c4) (outR (outR ms nm) to)) w1 from hS)
            dsimp only at hS
            refine ⟨rfl, fun a ha K hK => ?_⟩
            have e157 := (ha 157).trans h4
            have e159 : a.tmps.getD 159 undef = u 6 := ha 159
            have h6 := (show (fun x w' => ∃ k, x = .slice (some ⟨k, 0, none⟩) 1 1 ∧ w'.heap[k]? = some (.cells (fileC ⟨{ m.abs with name := to }, m.a, m.c⟩).toArray 88 (0, 0)) ∧ w4.heap.size ≤ k) (u 6) w1 from h6)
            dsimp only at h6
            clear ha h4
            obtain ⟨kk, hx6, hc6, hk6⟩ := h6
            rw [hx6] at e159
            obtain ⟨v7, w7, hr7, hrow7, ht7, hown7⟩ := app_file w1 0 (.slice a4 (outR (outR ms nm) to).length c4) (outR (outR ms nm) to) ⟨{ m.abs with name := to }, m.a, m.c⟩ kk hS hc6 (by omega) (Nat.zero_le _)
            have hsz7 := hR.size
            clear hx6 hc6
            exact oper_append rfl e157 e159 hr7 (hK _ _ ⟨hrow7, fun j hj => (hown7 j hj).elim .inl (fun h => .inr (Nat.le_trans hsz7 h))⟩ ht7 (.inl ⟨rfl, rfl⟩))
          refine Lo.done [0, 7] (fun u w1 hRd hSd hF => ?_)
          have hSd := (show (fun w => GRow 88 3 fileC w 0 (.slice none 0 0) ([] : List RM)) w1 from hSd)
          dsimp only at hSd
          obtain ⟨f0, f7, -⟩ := hF
          have d0 : u 0 = _ := f0
          have d7 := (show (fun x w' => GRow 88 3 fileC w' 0 x (outR (outR ms nm) to ++ [⟨{ m.abs with name := to }, m.a, m.c⟩]) ∧ ∀ j ∈ x.ownBlock, j ∈ (Value.slice a4 (outR (outR ms nm) to).length c4).ownBlock ∨ w4.heap.size ≤ j) (u 7) w1 from f7)
          dsimp only at d7
          clear f0 f7
          simp only [List.take_succ_cons, List.take_zero, List.drop_succ_cons, List.drop_zero, putFrom, Act.put, List.setIfInBounds_toArray, List.set_cons_succ, List.set_cons_zero, Nat.zero_add, Nat.reduceAdd, d0]
          obtain ⟨hrow7, hown7⟩ := d7
          obtain ⟨xa, xc, hxv, -, -⟩ := hrow7.form
          rw [hxv] at hrow7 hown7 ⊢
          rw [List.length_append, List.length_singleton] at hrow7 hown7 ⊢
          have ht7 : Turn (Value.slice a4 (outR (outR ms nm) to).length c4).ownBlock.toList w4 w1 := ((Turn.refl _ _).drew).same hRd
          obtain ⟨-, ⟨z1, z2⟩, hs⟩ := HCELLS.out w1 ht7
          have c7 : w1.cell? ⟨r, 0, none⟩ = some (.slice a4 (outR (outR ms nm) to).length c4) := by rw [cell_of hs]; rfl
          have f0 : w1.frozen? ⟨r, 0, none⟩ = false := frozen_of hs 0
          have hrn : r ∉ (Value.slice xa ((outR (outR ms nm) to).length + 1) xc).ownBlock := fun hk => (hown7 r hk).elim (fun h => HR4.out.rsv h) (fun h => by omega)
          have HROW7 := hide hrow7
          have HOWN7 := hide hown7
          have HT7 := hide ht7
          have HS7 := hide hs
          have HRN := hide hrn
          clear hrow7 hown7 ht7 hs hrn hRd hSd hxv
          go_wp2
          go_ret
          rw [HE.out]
          have hown4 : ∀ j ∈ m.sl.ownBlock, j < w2.heap.size ∧ j ≠ r := fun j hj => by
            have := (HR2.out.mem.each _ (List.getElem_mem hk)).2 j (by rw [← HM.out]; exact hj)
            exact ⟨this.1, this.2.1⟩
          refine ⟨rfl, .slice xa ((outR (outR ms nm) to).length + 1) xc, outR (outR ms nm) to ++ [⟨{ m.abs with name := to }, m.a, m.c⟩], ⟨?_, ?_⟩, ?_, ?_⟩
          · show RefAt _ r _ _ A.tick.room (leftOf A.tick)
            refine RefAt.mkRow HS7.out HROW7.out HRN.out (fun q hq => ?_)
            rcases List.mem_append.1 hq with hq | hq
            · have he := HR4.out.each q hq
              refine ⟨he.1.kept HT7.out (fun k hk _ => by simpa using (he.2 k hk).2.2), fun k hk => ⟨Nat.lt_of_lt_of_le (he.2 k hk).1 HT7.out.size, (he.2 k hk).2.1, fun h => ?_⟩⟩
              rcases HOWN7.out k h with h | h
              · exact (he.2 k hk).2.2 h
              · have := (he.2 k hk).1; omega
            · simp only [List.mem_singleton] at hq
              subst hq
              have hn4 : ∀ j ∈ m.sl.ownBlock, j ∉ (Value.slice a4 (outR (outR ms nm) to).length c4).ownBlock := fun j hj h => by
                have := HL4.out j h; have := (hown4 j hj).1; omega
              refine ⟨(HEACH.out.kept HT24.out (fun j hj _ => by simpa using (hown4 j hj).2)).kept HT7.out (fun j hj _ => by simpa using hn4 j hj), fun j hj => ?_⟩
              have h1 := hown4 j hj
              refine ⟨Nat.lt_of_lt_of_le h1.1 (Nat.le_trans HT24.out.size HT7.out.size), h1.2, fun h => ?_⟩
              rcases HOWN7.out j h with h | h
              · exact hn4 j hj h
              · have := HT24.out.size; omega
          · show outF (outF A.files nm) to ++ _ = _
            rw [H.out.files, ← HM.out, List.map_append]
            congr 1
            unfold outF outR
            rw [List.filter_map, List.filter_map]; rfl
          · refine (HT4.out.mono (fun x hx => .inl (by simp at hx; subst hx; exact foot_r _ _ _))).trans ((HT7.out.mono (T := r :: (Value.slice a4 (outR (outR ms nm) to).length c4).ownBlock.toList) (fun x hx => .inl (by simp; exact .inr (by simpa using hx)))).setCell (.inl (by simp)) _) (fun x hx => ?_)
            rcases List.mem_cons.1 hx with rfl | hx
            · exact .inl (foot_r _ _ _)
            · have := HL4.out x (by simpa using hx); have := HT2.out.size; exact .inr (by omega)
          · intro j hj
            have hz2 := HT2.out.size
            have hz4 := HT24.out.size
            simp only [RFoot, List.mem_cons, List.mem_append, List.mem_flatMap] at hj ⊢
            rcases hj with rfl | hj | ⟨q, hq, hj⟩
            · exact .inl (.inl rfl)
            · rcases HOWN7.out j (by simpa using hj) with h | h
              · have := HL4.out j h; exact .inr (by omega)
              · exact .inr (by omega)
            · rcases hq with hq | hq
              · exact .inl (.inr (.inr ⟨q, (List.mem_filter.1 (List.mem_filter.1 hq).1).1, hj⟩))
              · have hq : q = ⟨{ m.abs with name := to }, m.a, m.c⟩ := by simpa using hq
                subst hq
                exact .inl (.inr (.inr ⟨m, by rw [HM.out]; exact List.getElem_mem hk, hj⟩))
    · obtain ⟨w1, hw1⟩ : ∃ w1, w1 = w := ⟨_, rfl⟩
      have HR1 : Hid (Ref w1 r (.slice a ms.length c) ms A.tick) := hw1 ▸ (⟨by rw [tick_room]; exact by rw [show leftOf A.tick = L by rw [HLT.out, if_neg hp]]; exact HMEM.out, by rw [tick_files]; exact H.out.files⟩ : Ref w r (.slice a ms.length c) ms A.tick)
      have HT1 : Hid (Turn [r] w w1) := by rw [hw1]; exact Turn.refl [r] w
      have HW1 := hide hw1
      clear HMEM HLT hw1
      go_enter Tryd.func17, Tryd.ntmps17
      go_wp2_with fail
      clear c0 c1 c2 f0 f1 f2
      rw [← HW1.out]
      clear HW1
      have HI := hide (at_any HR1.out.mem (by omega) nm)
      unfold idxI at HI
      rcases hi : idxM ms nm with _ | k
      · have e : (A.rename nm ⟨to.toArray⟩) = (7, A.tick) := by
          have hff := idx_none hi
          unfold DA.rename
          rw [if_neg HF.out]
          rw [findR_file H.out.files, hff]; rfl
        have HE := hide e
        rw [hi] at HI
        clear e hi
        refine HI.out.mono ?_
        rintro e w2 ⟨rfl, ht2⟩
        have HT2 := hide (HT1.out.trans ht2 (by simp))
        have HR2 := hide (HR1.out.still ht2)
        clear ht2 HI

        go_wp2
        go_ret
        rw [HE.out]
        exact ⟨rfl, HR2.out.did HT2.out⟩
      · obtain ⟨hk, hfd, hname⟩ := idx_some hi
        have hfile : A.file nm = some ms[k].abs := by rw [findR_file H.out.files, hfd]; rfl
        rw [hi] at HI
        have HN := hide (fun w => refName_any ⟨to.toArray⟩ w (by simp [ByteArray.size, maxLen]; omega))
        cases hnb : nameB ⟨to.toArray⟩
        · have e : (A.rename nm ⟨to.toArray⟩) = (5, A.tick) := by
            unfold DA.rename
            rw [if_neg HF.out, hfile]
            simp only
            rw [if_pos (by rw [hnb]; rfl)]
          have HE := hide e
          rw [hnb] at HN
          clear e hi hfd hname hfile hnb
          refine HI.out.mono ?_
          rintro e w2 ⟨rfl, ht2⟩
          have HT2 := hide (HT1.out.trans ht2 (by simp))
          have HR2 := hide (HR1.out.still ht2)
          clear ht2 HI
          obtain ⟨c0, c1, c2⟩ := HR2.out.mem.c
          obtain ⟨p, rfl, g0, g1, g2, q, d, hq, hqd, hdm⟩ := HR2.out.mem.three hk
          have g1' : w2.cell? ⟨(p.add (k * 3)).block, (p.add (k * 3)).off + 1, none⟩ = some (.slice ms[k].a ms[k].abs.bytes.length ms[k].c) := by rw [g1]; rfl
          have e1 := hq
          simp only [RM.sl, Value.slice.injEq] at e1
          obtain ⟨rfl, -, rfl⟩ := e1
          clear g1 hq
          have fz1 := HR2.out.mem.frz hk 1
          have fz2 := HR2.out.mem.frz hk 2
          have hone := H.out.one HGD.out _ (List.getElem_mem hk)
          have hsafe := HGD.out.safe _ (by rw [H.out.files]; exact List.mem_map.2 ⟨_, List.getElem_mem hk, rfl⟩)
          have HNOD := hide (H.out.names HGD.out)
          have HLOW := hide H.out.mem.lt
          have HEACH := hide (HR2.out.mem.each _ (List.getElem_mem hk)).1
          obtain ⟨m, hm⟩ : ∃ m, m = ms[k] := ⟨_, rfl⟩
          rw [← hm] at g0 g1' g2 hqd hdm hone hsafe HEACH
          have HM := hide hm
          clear hm

          go_wp2_with fail
          refine (HN.out _).mono ?_
          rintro e w3 ⟨rfl, rfl⟩
          go_wp2
          go_ret
          rw [HE.out]
          exact ⟨rfl, HR2.out.did HT2.out⟩
        · have e : (A.rename nm ⟨to.toArray⟩) = (0, { A.tick with files := outF (outF A.files nm) to ++ [{ ms[k].abs with name := to }] }) := by
            unfold DA.rename
            rw [if_neg HF.out, hfile]
            simp only
            rw [if_neg (by rw [hnb]; simp)]
          have HE := hide e
          rw [hnb] at HN
          clear e hi hfd hname hfile hnb
          refine HI.out.mono ?_
          rintro e w2 ⟨rfl, ht2⟩
          have HT2 := hide (HT1.out.trans ht2 (by simp))
          have HR2 := hide (HR1.out.still ht2)
          clear ht2 HI
          obtain ⟨c0, c1, c2⟩ := HR2.out.mem.c
          obtain ⟨p, rfl, g0, g1, g2, q, d, hq, hqd, hdm⟩ := HR2.out.mem.three hk
          have g1' : w2.cell? ⟨(p.add (k * 3)).block, (p.add (k * 3)).off + 1, none⟩ = some (.slice ms[k].a ms[k].abs.bytes.length ms[k].c) := by rw [g1]; rfl
          have e1 := hq
          simp only [RM.sl, Value.slice.injEq] at e1
          obtain ⟨rfl, -, rfl⟩ := e1
          clear g1 hq
          have fz1 := HR2.out.mem.frz hk 1
          have fz2 := HR2.out.mem.frz hk 2
          have hone := H.out.one HGD.out _ (List.getElem_mem hk)
          have hsafe := HGD.out.safe _ (by rw [H.out.files]; exact List.mem_map.2 ⟨_, List.getElem_mem hk, rfl⟩)
          have HNOD := hide (H.out.names HGD.out)
          have HLOW := hide H.out.mem.lt
          have HEACH := hide (HR2.out.mem.each _ (List.getElem_mem hk)).1
          obtain ⟨m, hm⟩ : ∃ m, m = ms[k] := ⟨_, rfl⟩
          rw [← hm] at g0 g1' g2 hqd hdm hone hsafe HEACH
          have HM := hide hm
          clear hm

          clear c1 c2
          go_wp2_with fail
          refine (HN.out _).mono ?_
          rintro e w3 ⟨rfl, rfl⟩
          go_wp2_with fail
          have hga := heap_new w2 (.cells #[.string ⟨to.toArray⟩, .slice m.a m.abs.bytes.length m.c, .int .i64 m.abs.safe] 88)
          have HRA := hide (HR2.out.still ((Turn.refl [] w2).alloc (.cells #[.string ⟨to.toArray⟩, .slice m.a m.abs.bytes.length m.c, .int .i64 m.abs.safe] 88)))
          refine (refRemove_any HRA.out.mem (by omega) nm).mono ?_
          rintro e w3 ⟨rfl, s3, hr3, ht3, hl3⟩
          obtain ⟨a3, c3, rfl, -, -⟩ := hr3.form
          have hrlt := HR2.out.mem.lt r (foot_r _ _ _)
          have hgb := ht3.heap hga (by simp; omega)
          have HR3 := hide hr3
          have HL3 := hide hl3
          have HT3 := hide ht3
          clear hr3 hl3 ht3 hga
          go_wp2_with fail
          have hlen3 : (outR ms nm).length ≤ 200 := Nat.le_trans (List.length_filter_le _ _) hl200
          refine (refRemove_any HR3.out (by omega) to).mono ?_
          rintro e w4 ⟨rfl, s4, hr4, ht4, hl4⟩
          obtain ⟨a4, c4, rfl, -, -⟩ := hr4.form
          have hgb4 := ht4.heap hgb (by simp; omega)
          have hlen4 : (outR (outR ms nm) to).length ≤ 200 := Nat.le_trans (List.length_filter_le _ _) hlen3
          have hself := hr4.self
          have hsz3 := HT3.out.size
          have hsz4 := ht4.size
          simp only [World.size_alloc] at hsz3
          have hg4 : w2.heap.size < w4.heap.size := lt_of_heap hgb4
          have hr4l : r < w4.heap.size := by omega
          have hcells : ∀ Z, Turn (Value.slice a4 (outR (outR ms nm) to).length c4).ownBlock.toList w4 Z →
              (Z.cell? ⟨w2.heap.size, 0, none⟩ = some (.string ⟨to.toArray⟩) ∧ Z.cell? ⟨w2.heap.size, 1, none⟩ = some (.slice m.a m.abs.bytes.length m.c) ∧ Z.cell? ⟨w2.heap.size, 2, none⟩ = some (.int .i64 m.abs.safe)) ∧
              (w2.heap.size < Z.heap.size ∧ r < Z.heap.size) ∧ Z.heap[r]? = some (.cells #[.slice a4 (outR (outR ms nm) to).length c4, .int .i64 A.tick.room, .int .i64 (leftOf A.tick)] 33 (0, 0)) := by
            intro Z hZ
            have hg := hZ.heap hgb4 (fun hm => by have := hl4 w2.heap.size (by simpa using hm); omega)
            have hr := hZ.heap hself (fun hm => hr4.rsv (by simpa using hm))
            exact ⟨⟨by rw [cell_of hg]; rfl, by rw [cell_of hg]; rfl, by rw [cell_of hg]; rfl⟩, ⟨lt_of_heap hg, lt_of_heap hr⟩, hr⟩
          have HCELLS := hide hcells
          have HR4 := hide hr4
          have HT24 : Hid (Turn [r] w2 w4) := ((((Turn.refl [] w2).alloc (.cells #[.string ⟨to.toArray⟩, .slice m.a m.abs.bytes.length m.c, .int .i64 m.abs.safe] 88)).mono (T := [r]) (by simp)).same HT3.out).same ht4
          have HT4 := hide (HT2.out.trans (((((Turn.refl [] w2).alloc (.cells #[.string ⟨to.toArray⟩, .slice m.a m.abs.bytes.length m.c, .int .i64 m.abs.safe] 88)).mono (T := [r]) (by simp)).same HT3.out).same ht4) (fun x hx => .inl hx))
          have HL4 := hide hl4
          obtain ⟨⟨k0, k1, k2⟩, ⟨-, -⟩, hs⟩ := hcells w4 (Turn.refl _ _)
          have c4' : w4.cell? ⟨r, 0, none⟩ = some (.slice a4 (outR (outR ms nm) to).length c4) := by rw [cell_of hs]; rfl
          clear hcells hself hgb hgb4 hr4 ht4 hl4 g0 g1' g2 c0 fz1 fz2 hs k0 k1 k2 c4'
          go_wp2
          refine wp_region_loud 8 (Turn (Value.slice a4 (outR (outR ms nm) to).length c4).ownBlock.toList) (Turn []) (fun k w => match k with | 0 => (fun w => GRow 88 3 fileC w 0 (.slice a4 (outR (outR ms nm) to).length c4) (outR (outR ms nm) to)) w | _ => (fun w => GRow 88 3 fileC w 0 (.slice none 0 0) ([] : List RM)) w) [7] (by kernel_rfl) (by kernel_rfl) (by kernel_rfl) (by kernel_rfl) (by kernel_rfl) (by kernel_rfl) (Nat.le_of_ble_eq_true rfl) (by decide) rfl (Turn.refl _) (fun _ _ _ h k => h.same k) (fun _ _ h => h.mono (by simp)) ?_ ?_ ?_
          · intro k a b hk hR
            match k, hk with
            | 0, hk =>
              have hk := (show (fun w => GRow 88 3 fileC w 0 (.slice a4 (outR (outR ms nm) to).length c4) (outR (outR ms nm) to)) a from hk)
              dsimp only at hk
              show (fun w => GRow 88 3 fileC w 0 (.slice a4 (outR (outR ms nm) to).length c4) (outR (outR ms nm) to)) b
              dsimp only
              exact hk.still hR
            | _ + 1, hk =>
              have hk := (show (fun w => GRow 88 3 fileC w 0 (.slice none 0 0) ([] : List RM)) a from hk)
              dsimp only at hk
              show (fun w => GRow 88 3 fileC w 0 (.slice none 0 0) ([] : List RM)) b
              dsimp only
              exact hk.still hR
          · show (fun w => GRow 88 3 fileC w 0 (.slice a4 (outR (outR ms nm) to).length c4) (outR (outR ms nm) to)) _
            dsimp only
            exact HR4.out.row.still ((Turn.refl [] _).drew)
          apply Lo.runx 1 rfl rfl [] (by kernel_rfl) (Turn.refl _)
          apply Exists.intro; apply And.intro
          · intro u w1 hR hF
            clear hF
            refine ⟨rfl, fun a ha K hK => ?_⟩
            have e0 := ha 0
            conv at e0 => rhs; whnf
            clear ha
            go_simp
            refine hK _ ?_; rfl
          apply Lo.runx 2 rfl rfl [] (by kernel_rfl) (Turn.refl _)
          apply Exists.intro; apply And.intro
          · intro u w1 hR hF
            clear hF
            refine ⟨rfl, fun a ha K hK => ?_⟩
            have e0 := ha 0
            conv at e0 => rhs; whnf
            clear ha
            go_simp
            refine hK _ ?_; rfl
          apply Lo.runx 3 rfl rfl [1] (by kernel_rfl) (Turn.refl _)
          apply Exists.intro; apply And.intro
          · intro u w1 hR hF
            obtain ⟨h1, -⟩ := hF
            refine ⟨rfl, fun a ha K hK => ?_⟩
            have e154 := (ha 154).trans h1
            clear ha h1
            go_simp
            refine hK _ ?_; rfl
          apply Lo.runx 4 rfl rfl [2] (by kernel_rfl) (Turn.refl _)
          apply Exists.intro; apply And.intro
          · intro u w1 hR hF
            obtain ⟨h2, -⟩ := hF
            refine ⟨rfl, fun a ha K hK => ?_⟩
            have e155 := (ha 155).trans h2
            clear ha h2
            go_simp
            refine hK _ ?_; rfl
          apply Lo.runx 5 rfl rfl [3] (by kernel_rfl) (Turn.refl _)
          apply Exists.intro; apply And.intro
          · intro u w1 hR hF
            obtain ⟨h3, -⟩ := hF
            refine ⟨rfl, fun a ha K hK => ?_⟩
            have e156 := (ha 156).trans h3
            clear ha h3
            obtain ⟨⟨k0, k1, k2⟩, ⟨z1, z2⟩, hs⟩ := HCELLS.out w1 (((Turn.refl _ _).drew).same hR)
            have c0 : w1.cell? ⟨r, 0, none⟩ = some (.slice a4 (outR (outR ms nm) to).length c4) := by rw [cell_of hs]; rfl
            go_simp
            refine hK _ ?_; rfl
          apply Lo.runx 6 rfl rfl [] (by kernel_rfl) (Turn.refl _)
          apply Exists.intro; apply And.intro
          · intro u w1 hR hF
            clear hF
            refine ⟨rfl, fun a ha K hK => ?_⟩
            have e15 := ha 15
            conv at e15 => rhs; whnf
            clear ha
            obtain ⟨⟨k0, k1, k2⟩, ⟨z1, z2⟩, hs⟩ := HCELLS.out w1 (((Turn.refl _ _).drew).same hR)
            go_simp
            refine hK _ ?_; rfl
          refine Lo.run 7 rfl rfl [5] (fun x w' => ∃ k, x = .slice (some ⟨k, 0, none⟩) 1 1 ∧ w'.heap[k]? = some (.cells (fileC ⟨{ m.abs with name := to }, m.a, m.c⟩).toArray 88 (0, 0)) ∧ w4.heap.size ≤ k) (by kernel_rfl) (fun x w w' h hR => ?_) (fun _ _ h => h.mono (by simp)) (fun u w1 hR hF => ?_) ?_
          · obtain ⟨k, h1, h2, h3⟩ := h; exact ⟨k, h1, hR.heap h2 (fun hm => by have := (HR4.out.row.lt k (by simpa using hm)).2; omega), h3⟩
          · obtain ⟨h5, -⟩ := hF
            refine ⟨rfl, fun a ha K hK => ?_⟩
            have e158 := (ha 158).trans h5
            clear ha h5
            have e158' : a.tmps[158]?.getD undef = .agg #[.string ⟨to.toArray⟩, .slice m.a m.abs.bytes.length m.c, .int .i64 m.abs.safe] := by rw [← Array.getD_eq_getD_getElem?, e158]
            go_simp
            exact hK _ _ ⟨w1.heap.size, rfl, heap_new w1 _, hR.size⟩ ((Turn.refl [] _).alloc _)
          refine Lo.noisy 8 rfl 0 rfl [4, 6] (fun x w' => GRow 88 3 fileC w' 0 x (outR (outR ms nm) to ++ [⟨{ m.abs with name := to }, m.a, m.c⟩]) ∧ ∀ j ∈ x.ownBlock, j ∈ (Value.slice a4 (outR (outR ms nm) to).length c4).ownBlock ∨ w4.heap.size ≤ j) (by kernel_rfl) (fun x w w' h hR => ?_) (.inl (by kernel_rfl)) (fun u w1 hR hS hF => ?_) ?_
          · exact ⟨h.1.still hR, h.2⟩
          · obtain ⟨h4, h6, -⟩ := hF
            have hS := (show (fun w => GRow 88 3 fileC w 0 (.slice a4 (outR (outR ms nm) to).length c4) (outR (outR ms nm) to)) w1 from hS)
            dsimp only at hS
            refine ⟨rfl, fun a ha K hK => ?_⟩
            have e157 := (ha 157).trans h4
            have e159 : a.tmps.getD 159 undef = u 6 := ha 159
            have h6 := (show (fun x w' => ∃ k, x = .slice (some ⟨k, 0, none⟩) 1 1 ∧ w'.heap[k]? = some (.cells (fileC ⟨{ m.abs with name := to }, m.a, m.c⟩).toArray 88 (0, 0)) ∧ w4.heap.size ≤ k) (u 6) w1 from h6)
            dsimp only at h6
            clear ha h4
            obtain ⟨kk, hx6, hc6, hk6⟩ := h6
            rw [hx6] at e159
            obtain ⟨v7, w7, hr7, hrow7, ht7, hown7⟩ := app_file w1 0 (.slice a4 (outR (outR ms nm) to).length c4) (outR (outR ms nm) to) ⟨{ m.abs with name := to }, m.a, m.c⟩ kk hS hc6 (by omega) (Nat.zero_le _)
            have hsz7 := hR.size
            clear hx6 hc6
            exact oper_append rfl e157 e159 hr7 (hK _ _ ⟨hrow7, fun j hj => (hown7 j hj).elim .inl (fun h => .inr (Nat.le_trans hsz7 h))⟩ ht7 (.inl ⟨rfl, rfl⟩))
          refine Lo.done [0, 7] (fun u w1 hRd hSd hF => ?_)
          have hSd := (show (fun w => GRow 88 3 fileC w 0 (.slice none 0 0) ([] : List RM)) w1 from hSd)
          dsimp only at hSd
          obtain ⟨f0, f7, -⟩ := hF
          have d0 : u 0 = _ := f0
          have d7 := (show (fun x w' => GRow 88 3 fileC w' 0 x (outR (outR ms nm) to ++ [⟨{ m.abs with name := to }, m.a, m.c⟩]) ∧ ∀ j ∈ x.ownBlock, j ∈ (Value.slice a4 (outR (outR ms nm) to).length c4).ownBlock ∨ w4.heap.size ≤ j) (u 7) w1 from f7)
          dsimp only at d7
          clear f0 f7
          simp only [List.take_succ_cons, List.take_zero, List.drop_succ_cons, List.drop_zero, putFrom, Act.put, List.setIfInBounds_toArray, List.set_cons_succ, List.set_cons_zero, Nat.zero_add, Nat.reduceAdd, d0]
          obtain ⟨hrow7, hown7⟩ := d7
          obtain ⟨xa, xc, hxv, -, -⟩ := hrow7.form
          rw [hxv] at hrow7 hown7 ⊢
          rw [List.length_append, List.length_singleton] at hrow7 hown7 ⊢
          have ht7 : Turn (Value.slice a4 (outR (outR ms nm) to).length c4).ownBlock.toList w4 w1 := ((Turn.refl _ _).drew).same hRd
          obtain ⟨-, ⟨z1, z2⟩, hs⟩ := HCELLS.out w1 ht7
          have c7 : w1.cell? ⟨r, 0, none⟩ = some (.slice a4 (outR (outR ms nm) to).length c4) := by rw [cell_of hs]; rfl
          have f0 : w1.frozen? ⟨r, 0, none⟩ = false := frozen_of hs 0
          have hrn : r ∉ (Value.slice xa ((outR (outR ms nm) to).length + 1) xc).ownBlock := fun hk => (hown7 r hk).elim (fun h => HR4.out.rsv h) (fun h => by omega)
          have HROW7 := hide hrow7
          have HOWN7 := hide hown7
          have HT7 := hide ht7
          have HS7 := hide hs
          have HRN := hide hrn
          clear hrow7 hown7 ht7 hs hrn hRd hSd hxv
          go_wp2
          go_ret
          rw [HE.out]
          have hown4 : ∀ j ∈ m.sl.ownBlock, j < w2.heap.size ∧ j ≠ r := fun j hj => by
            have := (HR2.out.mem.each _ (List.getElem_mem hk)).2 j (by rw [← HM.out]; exact hj)
            exact ⟨this.1, this.2.1⟩
          refine ⟨rfl, .slice xa ((outR (outR ms nm) to).length + 1) xc, outR (outR ms nm) to ++ [⟨{ m.abs with name := to }, m.a, m.c⟩], ⟨?_, ?_⟩, ?_, ?_⟩
          · show RefAt _ r _ _ A.tick.room (leftOf A.tick)
            refine RefAt.mkRow HS7.out HROW7.out HRN.out (fun q hq => ?_)
            rcases List.mem_append.1 hq with hq | hq
            · have he := HR4.out.each q hq
              refine ⟨he.1.kept HT7.out (fun k hk _ => by simpa using (he.2 k hk).2.2), fun k hk => ⟨Nat.lt_of_lt_of_le (he.2 k hk).1 HT7.out.size, (he.2 k hk).2.1, fun h => ?_⟩⟩
              rcases HOWN7.out k h with h | h
              · exact (he.2 k hk).2.2 h
              · have := (he.2 k hk).1; omega
            · simp only [List.mem_singleton] at hq
              subst hq
              have hn4 : ∀ j ∈ m.sl.ownBlock, j ∉ (Value.slice a4 (outR (outR ms nm) to).length c4).ownBlock := fun j hj h => by
                have := HL4.out j h; have := (hown4 j hj).1; omega
              refine ⟨(HEACH.out.kept HT24.out (fun j hj _ => by simpa using (hown4 j hj).2)).kept HT7.out (fun j hj _ => by simpa using hn4 j hj), fun j hj => ?_⟩
              have h1 := hown4 j hj
              refine ⟨Nat.lt_of_lt_of_le h1.1 (Nat.le_trans HT24.out.size HT7.out.size), h1.2, fun h => ?_⟩
              rcases HOWN7.out j h with h | h
              · exact hn4 j hj h
              · have := HT24.out.size; omega
          · show outF (outF A.files nm) to ++ _ = _
            rw [H.out.files, ← HM.out, List.map_append]
            congr 1
            unfold outF outR
            rw [List.filter_map, List.filter_map]; rfl
          · refine (HT4.out.mono (fun x hx => .inl (by simp at hx; subst hx; exact foot_r _ _ _))).trans ((HT7.out.mono (T := r :: (Value.slice a4 (outR (outR ms nm) to).length c4).ownBlock.toList) (fun x hx => .inl (by simp; exact .inr (by simpa using hx)))).setCell (.inl (by simp)) _) (fun x hx => ?_)
            rcases List.mem_cons.1 hx with rfl | hx
            · exact .inl (foot_r _ _ _)
            · have := HL4.out x (by simpa using hx); have := HT2.out.size; exact .inr (by omega)
          · intro j hj
            have hz2 := HT2.out.size
            have hz4 := HT24.out.size
            simp only [RFoot, List.mem_cons, List.mem_append, List.mem_flatMap] at hj ⊢
            rcases hj with rfl | hj | ⟨q, hq, hj⟩
            · exact .inl (.inl rfl)
            · rcases HOWN7.out j (by simpa using hj) with h | h
              · have := HL4.out j h; exact .inr (by omega)
              · exact .inr (by omega)
            · rcases hq with hq | hq
              · exact .inl (.inr (.inr ⟨q, (List.mem_filter.1 (List.mem_filter.1 hq).1).1, hj⟩))
              · have hq : q = ⟨{ m.abs with name := to }, m.a, m.c⟩ := by simpa using hq
                subst hq
                exact .inl (.inr (.inr ⟨m, by rw [HM.out]; exact List.getElem_mem hk, hj⟩))
end Go.Proofs.YtlcgcckllecjpaaDoor.Dk
