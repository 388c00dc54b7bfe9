/- The document's disk: its six operations. -/
import Derived.Test.YtlcgcckllecjpaaDoorRAbs
namespace Go.Proofs.YtlcgcckllecjpaaDoor.Dk
open Go.RowKit Go.Maps
set_option maxRecDepth 100000
set_option linter.unusedSimpArgs false
set_option linter.unusedVariables false

set_option maxHeartbeats 8000000 in
theorem do_cut {w : World} {r : Nat} {sv : Value} {ms : List RM} {A : DA} (h : Ref w r sv ms A) (hg : Good A) (nm to : List UInt8) (hnm : nm.length ≤ 1000000) (hto : to.length ≤ 1000000) (bv : Value) (n : Int) (hn63 : n ≤ 9223372036854775807) :
    Calls Tryd.prog 17 #[.pointer (some ⟨r, 0, none⟩), .string { data := #[99, 117, 116] }, .string ⟨nm.toArray⟩, .string ⟨to.toArray⟩, bv, .int .i64 n] w fun e w' => e = .returned (.int .i64 (A.cut nm n).1) ∧ RDid w w' r sv ms (A.cut nm n).2 := by
  obtain ⟨a, c, rfl, hlc, hcm⟩ := h.mem.form
  have hmx : maxLen = 9223372036854775807 := by simp [maxLen]
  rw [hmx] at hcm
  have H := hide h
  have HGD := hide hg
  obtain ⟨c0, c1, c2⟩ := h.mem.c
  obtain ⟨f0, f1, f2⟩ := h.mem.f
  obtain ⟨b1, b2⟩ := leftOf_bound hg
  have hlf := leftOf_fails hg
  by_cases hf : A.fails = true
  · have e : (A.cut nm n) = (14, A) := by unfold DA.cut; rw [if_pos hf]
    rw [e]
    rw [hlf.2 hf] at c2
    clear h hg hf hlf e f0 f1 f2 b1 b2
    go_enter Tryd.func17, Tryd.ntmps17
    go_wp2
    go_ret
    exact ⟨rfl, H.out.did (Turn.refl _ _)⟩
  · obtain ⟨L, hL⟩ : ∃ L, leftOf A = L := ⟨_, rfl⟩
    have hlt := leftOf_tick hg hf
    have hL0 : ¬ L = 0 := by rw [← hL]; exact fun e => hf (hlf.1 e)
    rw [hL] at c2 hlt b1 b2
    have HMEM : Hid (RefAt w r (.slice a ms.length c) ms A.room L) := hL ▸ h.mem
    have HF : Hid (¬ A.fails = true) := hf
    have HLT := hide hlt
    have hl200 := h.len hg
    clear h hg hf hlf hL hlt
    by_cases hp : 0 < L
    · obtain ⟨w1, hw1⟩ : ∃ w1, w1 = (w.setCell ⟨r, 2, none⟩ (.int .i64 (L - 1))) := ⟨_, rfl⟩
      have HR1 : Hid (Ref w1 r (.slice a ms.length c) ms A.tick) := hw1 ▸ (⟨by rw [tick_room]; exact (by rw [show leftOf A.tick = L - 1 by rw [HLT.out, if_pos hp]]; exact HMEM.out.setLeft (L - 1)), by rw [tick_files]; exact H.out.files⟩ : Ref (w.setCell ⟨r, 2, none⟩ (.int .i64 (L - 1))) r (.slice a ms.length c) ms A.tick)
      have HT1 : Hid (Turn [r] w w1) := by rw [hw1]; exact (Turn.refl [r] w).setCell (.inl (by simp)) _
      have HW1 := hide hw1
      clear HMEM HLT hw1
      go_enter Tryd.func17, Tryd.ntmps17
      go_wp2_with fail
      clear c0 c1 c2 f0 f1 f2
      rw [← HW1.out]
      clear HW1
      have HI := hide (at_any HR1.out.mem (by omega) nm)
      unfold idxI at HI
      rcases hi : idxM ms nm with _ | k
      · have e : (A.cut nm n) = (7, A.tick) := by
          have hff := idx_none hi
          unfold DA.cut
          rw [if_neg HF.out]
          rw [findR_file H.out.files, hff]; rfl
        have HE := hide e
        rw [hi] at HI
        clear e hi
        refine HI.out.mono ?_
        rintro e w2 ⟨rfl, ht2⟩
        have HT2 := hide (HT1.out.trans ht2 (by simp))
        have HR2 := hide (HR1.out.still ht2)
        clear ht2 HI

        go_wp2
        go_ret
        rw [HE.out]
        exact ⟨rfl, HR2.out.did HT2.out⟩
      · obtain ⟨hk, hfd, hname⟩ := idx_some hi
        have hfile : A.file nm = some ms[k].abs := by rw [findR_file H.out.files, hfd]; rfl
        by_cases hbad : n < 0 ∨ (ms[k].abs.bytes.length : Int) < n
        · have e : A.cut nm n = (2, A.tick) := by
            unfold DA.cut
            rw [if_neg HF.out, hfile]
            simp only
            rw [if_pos hbad]
          have HE := hide e
          have HNM := hide hname
          rw [hi] at HI
          clear e hi hfd hname hfile
          refine HI.out.mono ?_
          rintro e w2 ⟨rfl, ht2⟩
          have HT2 := hide (HT1.out.trans ht2 (by simp))
          have HR2 := hide (HR1.out.still ht2)
          clear ht2 HI
          obtain ⟨c0, c1, c2⟩ := HR2.out.mem.c
          obtain ⟨p, rfl, g0, g1, g2, q, d, hq, hqd, hdm⟩ := HR2.out.mem.three hk
          have g1' : w2.cell? ⟨(p.add (k * 3)).block, (p.add (k * 3)).off + 1, none⟩ = some (.slice ms[k].a ms[k].abs.bytes.length ms[k].c) := by rw [g1]; rfl
          have e1 := hq
          simp only [RM.sl, Value.slice.injEq] at e1
          obtain ⟨rfl, -, rfl⟩ := e1
          clear g1 hq
          have fz1 := HR2.out.mem.frz hk 1
          have fz2 := HR2.out.mem.frz hk 2
          have hone := H.out.one HGD.out _ (List.getElem_mem hk)
          have hsafe := HGD.out.safe _ (by rw [H.out.files]; exact List.mem_map.2 ⟨_, List.getElem_mem hk, rfl⟩)
          have HNOD := hide (H.out.names HGD.out)
          have HLOW := hide H.out.mem.lt
          have HEACH := hide (HR2.out.mem.each _ (List.getElem_mem hk)).1
          obtain ⟨m, hm⟩ : ∃ m, m = ms[k] := ⟨_, rfl⟩
          rw [← hm] at g0 g1' g2 hqd hdm hone hsafe HEACH
          have HM := hide hm
          clear hm

          rw [← HM.out] at hbad
          by_cases hn0 : n < 0
          · go_wp2
            go_ret
            rw [HE.out]
            exact ⟨rfl, HR2.out.did HT2.out⟩
          · have hn1 : (m.abs.bytes.length : Int) < n := by omega
            go_wp2
            go_ret
            rw [HE.out]
            exact ⟨rfl, HR2.out.did HT2.out⟩
        · obtain ⟨z, rfl⟩ := Int.eq_ofNat_of_zero_le (show 0 ≤ n by omega)
          have e : A.cut nm z = (0, A.tick.upd nm (cut1 z)) := by
            unfold DA.cut
            rw [if_neg HF.out, hfile]
            simp only
            rw [if_neg hbad]
            rfl
          have HE := hide e
          have HNM := hide hname
          have hz : z ≤ ms[k].abs.bytes.length := by omega
          rw [hi] at HI
          clear e hi hfd hname hfile hbad
          refine HI.out.mono ?_
          rintro e w2 ⟨rfl, ht2⟩
          have HT2 := hide (HT1.out.trans ht2 (by simp))
          have HR2 := hide (HR1.out.still ht2)
          clear ht2 HI
          obtain ⟨c0, c1, c2⟩ := HR2.out.mem.c
          obtain ⟨p, rfl, g0, g1, g2, q, d, hq, hqd, hdm⟩ := HR2.out.mem.three hk
          have g1' : w2.cell? ⟨(p.add (k * 3)).block, (p.add (k * 3)).off + 1, none⟩ = some (.slice ms[k].a ms[k].abs.bytes.length ms[k].c) := by rw [g1]; rfl
          have e1 := hq
          simp only [RM.sl, Value.slice.injEq] at e1
          obtain ⟨rfl, -, rfl⟩ := e1
          clear g1 hq
          have fz1 := HR2.out.mem.frz hk 1
          have fz2 := HR2.out.mem.frz hk 2
          have hone := H.out.one HGD.out _ (List.getElem_mem hk)
          have hsafe := HGD.out.safe _ (by rw [H.out.files]; exact List.mem_map.2 ⟨_, List.getElem_mem hk, rfl⟩)
          have HNOD := hide (H.out.names HGD.out)
          have HLOW := hide H.out.mem.lt
          have HEACH := hide (HR2.out.mem.each _ (List.getElem_mem hk)).1
          obtain ⟨m, hm⟩ : ∃ m, m = ms[k] := ⟨_, rfl⟩
          rw [← hm] at g0 g1' g2 hqd hdm hone hsafe HEACH
          have HM := hide hm
          clear hm

          rw [← HM.out] at hz
          have hmin : min (m.abs.safe : Int) (z : Int) = ((min m.abs.safe z : Nat) : Int) := by omega
          have hlen : (m.abs.bytes.take z).length = z := by rw [List.length_take]; exact Nat.min_eq_left hz
          have hbz : BytesAt w2 (.slice m.a z z) (m.abs.bytes.take z) := by
            obtain ⟨x1, x2, x3, x4, x5, x6, x7⟩ := HEACH.out
            simp only [RM.sl, Value.slice.injEq] at x3
            obtain ⟨rfl, -, rfl⟩ := x3
            refine ⟨m.a, z, by rw [hlen], by rw [hlen]; exact Nat.le_refl _, by omega, fun hn => ?_, fun j hj => ?_⟩
            · have := x6 hn; omega
            · rw [hlen] at hj
              obtain ⟨pp, hpp, hc⟩ := x7 j (by omega)
              exact ⟨pp, hpp, by rw [hc]; simp⟩
          have HBZ := hide hbz
          clear hbz
          go_wp2
          go_ret
          rw [HE.out]
          have s1 := setDid (k := k) (i := 1) (u := .slice m.a z z) (m' := ⟨{ m.abs with bytes := m.abs.bytes.take z }, m.a, z⟩) (g := fun f => { f with bytes := f.bytes.take z }) HR2.out HT2.out HLOW.out hk (by omega) (by rw [← HM.out]; simp [fileC, RM.sl, hlen, List.set]) (by simpa [RM.sl, hlen] using HBZ.out) (fun j hj => .inl (by rw [← HM.out]; exact (own_eq _ _ _ _ _) ▸ hj)) (by rw [← HM.out]) HNOD.out
          obtain ⟨r1, t1, o1⟩ := s1
          have s2 := setDid (k := k) (i := 2) (u := .int .i64 (min m.abs.safe z : Nat)) (m' := ⟨{ m.abs with bytes := m.abs.bytes.take z, safe := min m.abs.safe z }, m.a, z⟩) (g := fun f => { f with safe := min f.safe z }) r1 (Turn.refl _ _) r1.mem.lt (by simpa using hk) (by omega) (by simp [fileC, RM.sl, hlen, List.set]) ((r1.mem.each ⟨{ m.abs with bytes := m.abs.bytes.take z }, m.a, z⟩ (List.mem_of_getElem? (i := k) (by simp [hk]))).1) (fun j hj => .inl (by simpa [RM.sl, Value.ownBlock] using hj)) (by simp) (by
            have := HNOD.out
            rw [List.map_set]
            have e2 : (ms.map (·.abs.name)).set k m.abs.name = ms.map (·.abs.name) := by
              rw [HM.out]
              apply List.ext_getElem (by simp)
              intro i h1 h2
              by_cases hik : i = k
              · subst hik; simp
              · rw [List.getElem_set_ne (Ne.symm hik)]
            simp only
            rw [e2]; exact this)
          simp only [List.getElem_set_self, List.set_set] at s2
          obtain ⟨r2, t2, o2⟩ := s2
          have hnm2 : m.abs.name = nm := by rw [HM.out]; exact HNM.out
          have hA : ((A.tick.upd ms[k].abs.name (fun f => { f with bytes := f.bytes.take z })).upd m.abs.name (fun f => { f with safe := min f.safe z })) = A.tick.upd nm (cut1 z) := by
            rw [← HM.out, hnm2]
            exact upd_upd A.tick nm (fun f => { f with bytes := f.bytes.take z }) (fun f => { f with safe := min f.safe z }) (fun f => rfl)
          rw [hA] at r2
          refine ⟨rfl, _, _, r2, t1.trans t2 (fun x hx => o1 x hx), fun x hx => (o2 x hx).elim (fun h => o1 x h) (fun h => .inr (by have := t1.size; omega))⟩
    · obtain ⟨w1, hw1⟩ : ∃ w1, w1 = w := ⟨_, rfl⟩
      have HR1 : Hid (Ref w1 r (.slice a ms.length c) ms A.tick) := hw1 ▸ (⟨by rw [tick_room]; exact by rw [show leftOf A.tick = L by rw [HLT.out, if_neg hp]]; exact HMEM.out, by rw [tick_files]; exact H.out.files⟩ : Ref w r (.slice a ms.length c) ms A.tick)
      have HT1 : Hid (Turn [r] w w1) := by rw [hw1]; exact Turn.refl [r] w
      have HW1 := hide hw1
      clear HMEM HLT hw1
      go_enter Tryd.func17, Tryd.ntmps17
      go_wp2_with fail
      clear c0 c1 c2 f0 f1 f2
      rw [← HW1.out]
      clear HW1
      have HI := hide (at_any HR1.out.mem (by omega) nm)
      unfold idxI at HI
      rcases hi : idxM ms nm with _ | k
      · have e : (A.cut nm n) = (7, A.tick) := by
          have hff := idx_none hi
          unfold DA.cut
          rw [if_neg HF.out]
          rw [findR_file H.out.files, hff]; rfl
        have HE := hide e
        rw [hi] at HI
        clear e hi
        refine HI.out.mono ?_
        rintro e w2 ⟨rfl, ht2⟩
        have HT2 := hide (HT1.out.trans ht2 (by simp))
        have HR2 := hide (HR1.out.still ht2)
        clear ht2 HI

        go_wp2
        go_ret
        rw [HE.out]
        exact ⟨rfl, HR2.out.did HT2.out⟩
      · obtain ⟨hk, hfd, hname⟩ := idx_some hi
        have hfile : A.file nm = some ms[k].abs := by rw [findR_file H.out.files, hfd]; rfl
        by_cases hbad : n < 0 ∨ (ms[k].abs.bytes.length : Int) < n
        · have e : A.cut nm n = (2, A.tick) := by
            unfold DA.cut
            rw [if_neg HF.out, hfile]
            simp only
            rw [if_pos hbad]
          have HE := hide e
          have HNM := hide hname
          rw [hi] at HI
          clear e hi hfd hname hfile
          refine HI.out.mono ?_
          rintro e w2 ⟨rfl, ht2⟩
          have HT2 := hide (HT1.out.trans ht2 (by simp))
          have HR2 := hide (HR1.out.still ht2)
          clear ht2 HI
          obtain ⟨c0, c1, c2⟩ := HR2.out.mem.c
          obtain ⟨p, rfl, g0, g1, g2, q, d, hq, hqd, hdm⟩ := HR2.out.mem.three hk
          have g1' : w2.cell? ⟨(p.add (k * 3)).block, (p.add (k * 3)).off + 1, none⟩ = some (.slice ms[k].a ms[k].abs.bytes.length ms[k].c) := by rw [g1]; rfl
          have e1 := hq
          simp only [RM.sl, Value.slice.injEq] at e1
          obtain ⟨rfl, -, rfl⟩ := e1
          clear g1 hq
          have fz1 := HR2.out.mem.frz hk 1
          have fz2 := HR2.out.mem.frz hk 2
          have hone := H.out.one HGD.out _ (List.getElem_mem hk)
          have hsafe := HGD.out.safe _ (by rw [H.out.files]; exact List.mem_map.2 ⟨_, List.getElem_mem hk, rfl⟩)
          have HNOD := hide (H.out.names HGD.out)
          have HLOW := hide H.out.mem.lt
          have HEACH := hide (HR2.out.mem.each _ (List.getElem_mem hk)).1
          obtain ⟨m, hm⟩ : ∃ m, m = ms[k] := ⟨_, rfl⟩
          rw [← hm] at g0 g1' g2 hqd hdm hone hsafe HEACH
          have HM := hide hm
          clear hm

          rw [← HM.out] at hbad
          by_cases hn0 : n < 0
          · go_wp2
            go_ret
            rw [HE.out]
            exact ⟨rfl, HR2.out.did HT2.out⟩
          · have hn1 : (m.abs.bytes.length : Int) < n := by omega
            go_wp2
            go_ret
            rw [HE.out]
            exact ⟨rfl, HR2.out.did HT2.out⟩
        · obtain ⟨z, rfl⟩ := Int.eq_ofNat_of_zero_le (show 0 ≤ n by omega)
          have e : A.cut nm z = (0, A.tick.upd nm (cut1 z)) := by
            unfold DA.cut
            rw [if_neg HF.out, hfile]
            simp only
            rw [if_neg hbad]
            rfl
          have HE := hide e
          have HNM := hide hname
          have hz : z ≤ ms[k].abs.bytes.length := by omega
          rw [hi] at HI
          clear e hi hfd hname hfile hbad
          refine HI.out.mono ?_
          rintro e w2 ⟨rfl, ht2⟩
          have HT2 := hide (HT1.out.trans ht2 (by simp))
          have HR2 := hide (HR1.out.still ht2)
          clear ht2 HI
          obtain ⟨c0, c1, c2⟩ := HR2.out.mem.c
          obtain ⟨p, rfl, g0, g1, g2, q, d, hq, hqd, hdm⟩ := HR2.out.mem.three hk
          have g1' : w2.cell? ⟨(p.add (k * 3)).block, (p.add (k * 3)).off + 1, none⟩ = some (.slice ms[k].a ms[k].abs.bytes.length ms[k].c) := by rw [g1]; rfl
          have e1 := hq
          simp only [RM.sl, Value.slice.injEq] at e1
          obtain ⟨rfl, -, rfl⟩ := e1
          clear g1 hq
          have fz1 := HR2.out.mem.frz hk 1
          have fz2 := HR2.out.mem.frz hk 2
          have hone := H.out.one HGD.out _ (List.getElem_mem hk)
          have hsafe := HGD.out.safe _ (by rw [H.out.files]; exact List.mem_map.2 ⟨_, List.getElem_mem hk, rfl⟩)
          have HNOD := hide (H.out.names HGD.out)
          have HLOW := hide H.out.mem.lt
          have HEACH := hide (HR2.out.mem.each _ (List.getElem_mem hk)).1
          obtain ⟨m, hm⟩ : ∃ m, m = ms[k] := ⟨_, rfl⟩
          rw [← hm] at g0 g1' g2 hqd hdm hone hsafe HEACH
          have HM := hide hm
          clear hm

          rw [← HM.out] at hz
          have hmin : min (m.abs.safe : Int) (z : Int) = ((min m.abs.safe z : Nat) : Int) := by omega
          have hlen : (m.abs.bytes.take z).length = z := by rw [List.length_take]; exact Nat.min_eq_left hz
          have hbz : BytesAt w2 (.slice m.a z z) (m.abs.bytes.take z) := by
            obtain ⟨x1, x2, x3, x4, x5, x6, x7⟩ := HEACH.out
            simp only [RM.sl, Value.slice.injEq] at x3
            obtain ⟨rfl, -, rfl⟩ := x3
            refine ⟨m.a, z, by rw [hlen], by rw [hlen]; exact Nat.le_refl _, by omega, fun hn => ?_, fun j hj => ?_⟩
            · have := x6 hn; omega
            · rw [hlen] at hj
              obtain ⟨pp, hpp, hc⟩ := x7 j (by omega)
              exact ⟨pp, hpp, by rw [hc]; simp⟩
          have HBZ := hide hbz
          clear hbz
          go_wp2
          go_ret
          rw [HE.out]
          have s1 := setDid (k := k) (i := 1) (u := .slice m.a z z) (m' := ⟨{ m.abs with bytes := m.abs.bytes.take z }, m.a, z⟩) (g := fun f => { f with bytes := f.bytes.take z }) HR2.out HT2.out HLOW.out hk (by omega) (by rw [← HM.out]; simp [fileC, RM.sl, hlen, List.set]) (by simpa [RM.sl, hlen] using HBZ.out) (fun j hj => .inl (by rw [← HM.out]; exact (own_eq _ _ _ _ _) ▸ hj)) (by rw [← HM.out]) HNOD.out
          obtain ⟨r1, t1, o1⟩ := s1
          have s2 := setDid (k := k) (i := 2) (u := .int .i64 (min m.abs.safe z : Nat)) (m' := ⟨{ m.abs with bytes := m.abs.bytes.take z, safe := min m.abs.safe z }, m.a, z⟩) (g := fun f => { f with safe := min f.safe z }) r1 (Turn.refl _ _) r1.mem.lt (by simpa using hk) (by omega) (by simp [fileC, RM.sl, hlen, List.set]) ((r1.mem.each ⟨{ m.abs with bytes := m.abs.bytes.take z }, m.a, z⟩ (List.mem_of_getElem? (i := k) (by simp [hk]))).1) (fun j hj => .inl (by simpa [RM.sl, Value.ownBlock] using hj)) (by simp) (by
            have := HNOD.out
            rw [List.map_set]
            have e2 : (ms.map (·.abs.name)).set k m.abs.name = ms.map (·.abs.name) := by
              rw [HM.out]
              apply List.ext_getElem (by simp)
              intro i h1 h2
              by_cases hik : i = k
              · subst hik; simp
              · rw [List.getElem_set_ne (Ne.symm hik)]
            simp only
            rw [e2]; exact this)
          simp only [List.getElem_set_self, List.set_set] at s2
          obtain ⟨r2, t2, o2⟩ := s2
          have hnm2 : m.abs.name = nm := by rw [HM.out]; exact HNM.out
          have hA : ((A.tick.upd ms[k].abs.name (fun f => { f with bytes := f.bytes.take z })).upd m.abs.name (fun f => { f with safe := min f.safe z })) = A.tick.upd nm (cut1 z) := by
            rw [← HM.out, hnm2]
            exact upd_upd A.tick nm (fun f => { f with bytes := f.bytes.take z }) (fun f => { f with safe := min f.safe z }) (fun f => rfl)
          rw [hA] at r2
          refine ⟨rfl, _, _, r2, t1.trans t2 (fun x hx => o1 x hx), fun x hx => (o2 x hx).elim (fun h => o1 x h) (fun h => .inr (by have := t1.size; omega))⟩
end Go.Proofs.YtlcgcckllecjpaaDoor.Dk
