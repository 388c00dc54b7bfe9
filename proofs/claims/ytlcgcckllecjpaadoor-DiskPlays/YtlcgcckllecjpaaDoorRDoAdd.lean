/- The document's disk: its six operations. -/
import Derived.Test.YtlcgcckllecjpaaDoorRAbs
import Derived.Test.YtlcgcckllecjpaaDoorLoose
import Derived.Test.YtlcgcckllecjpaaDoorPutN
import Derived.Test.YtlcgcckllecjpaaDoorAppB
namespace Go.Proofs.YtlcgcckllecjpaaDoor.Dk
open Go.RowKit Go.Maps
set_option maxRecDepth 100000
set_option linter.unusedSimpArgs false
set_option linter.unusedVariables false

set_option maxHeartbeats 8000000 in
theorem do_add {w : World} {r : Nat} {sv : Value} {ms : List RM} {A : DA} (h : Ref w r sv ms A) (hg : Good A) (nm to : List UInt8) (hnm : nm.length ≤ 1000000) (hto : to.length ≤ 1000000) (bv : Value) (n : Int) (bs : List UInt8) (HB : Hid (∀ Z, Turn (RFoot r sv ms) w Z → BytesAt Z bv bs)) (hbl : bs.length ≤ 1000000000) :
    Calls Tryd.prog 17 #[.pointer (some ⟨r, 0, none⟩), .string { data := #[97, 100, 100] }, .string ⟨nm.toArray⟩, .string ⟨to.toArray⟩, bv, .int .i64 n] w fun e w' => e = .returned (.int .i64 (A.add nm bs).1) ∧ RDid w w' r sv ms (A.add nm bs).2 := by
  obtain ⟨a, c, rfl, hlc, hcm⟩ := h.mem.form
  have hmx : maxLen = 9223372036854775807 := by simp [maxLen]
  rw [hmx] at hcm
  have H := hide h
  have HGD := hide hg
  obtain ⟨c0, c1, c2⟩ := h.mem.c
  obtain ⟨f0, f1, f2⟩ := h.mem.f
  obtain ⟨b1, b2⟩ := leftOf_bound hg
  have hlf := leftOf_fails hg
  by_cases hf : A.fails = true
  · have e : (A.add nm bs) = (14, A) := by unfold DA.add; rw [if_pos hf]
    rw [e]
    rw [hlf.2 hf] at c2
    clear h hg hf hlf e f0 f1 f2 b1 b2
    go_enter Tryd.func17, Tryd.ntmps17
    go_wp2
    go_ret
    exact ⟨rfl, H.out.did (Turn.refl _ _)⟩
  · obtain ⟨L, hL⟩ : ∃ L, leftOf A = L := ⟨_, rfl⟩
    have hlt := leftOf_tick hg hf
    have hL0 : ¬ L = 0 := by rw [← hL]; exact fun e => hf (hlf.1 e)
    rw [hL] at c2 hlt b1 b2
    have HMEM : Hid (RefAt w r (.slice a ms.length c) ms A.room L) := hL ▸ h.mem
    have HF : Hid (¬ A.fails = true) := hf
    have HLT := hide hlt
    have hl200 := h.len hg
    clear h hg hf hlf hL hlt
    by_cases hp : 0 < L
    · obtain ⟨w1, hw1⟩ : ∃ w1, w1 = (w.setCell ⟨r, 2, none⟩ (.int .i64 (L - 1))) := ⟨_, rfl⟩
      have HR1 : Hid (Ref w1 r (.slice a ms.length c) ms A.tick) := hw1 ▸ (⟨by rw [tick_room]; exact (by rw [show leftOf A.tick = L - 1 by rw [HLT.out, if_pos hp]]; exact HMEM.out.setLeft (L - 1)), by rw [tick_files]; exact H.out.files⟩ : Ref (w.setCell ⟨r, 2, none⟩ (.int .i64 (L - 1))) r (.slice a ms.length c) ms A.tick)
      have HT1 : Hid (Turn [r] w w1) := by rw [hw1]; exact (Turn.refl [r] w).setCell (.inl (by simp)) _
      have HW1 := hide hw1
      clear HMEM HLT hw1
      go_enter Tryd.func17, Tryd.ntmps17
      go_wp2_with fail
      clear c0 c1 c2 f0 f1 f2
      rw [← HW1.out]
      clear HW1
      have HI := hide (at_any HR1.out.mem (by omega) nm)
      unfold idxI at HI
      rcases hi : idxM ms nm with _ | k
      · have e : (A.add nm bs) = (7, A.tick) := by
          have hff := idx_none hi
          unfold DA.add
          rw [if_neg HF.out]
          rw [if_pos (by rw [findR_has H.out.files, hff]; rfl)]
        have HE := hide e
        rw [hi] at HI
        clear e hi
        refine HI.out.mono ?_
        rintro e w2 ⟨rfl, ht2⟩
        have HT2 := hide (HT1.out.trans ht2 (by simp))
        have HR2 := hide (HR1.out.still ht2)
        clear ht2 HI

        go_wp2
        go_ret
        rw [HE.out]
        exact ⟨rfl, HR2.out.did HT2.out⟩
      · obtain ⟨hk, hfd, hname⟩ := idx_some hi
        have hhas : A.has nm = true := by rw [findR_has H.out.files, hfd]; rfl
        have HNM := hide hname
        rw [hi] at HI
        by_cases hbig : A.room < usedR ms + bs.length
        · have e : A.add nm bs = (12, A.tick) := by
            unfold DA.add
            rw [if_neg HF.out, if_neg (by rw [hhas]; simp), if_pos (by rw [H.out.files]; exact hbig)]
          have HE := hide e
          have hd : decide ((A.room : Int) < (usedR ms : Int) + bs.length) = true := by simp; omega
          clear e hi hfd hname hhas
          refine HI.out.mono ?_
          rintro e w2 ⟨rfl, ht2⟩
          have HT2 := hide (HT1.out.trans ht2 (by simp))
          have HR2 := hide (HR1.out.still ht2)
          clear ht2 HI
          obtain ⟨c0, c1, c2⟩ := HR2.out.mem.c
          obtain ⟨p, rfl, g0, g1, g2, q, d, hq, hqd, hdm⟩ := HR2.out.mem.three hk
          have g1' : w2.cell? ⟨(p.add (k * 3)).block, (p.add (k * 3)).off + 1, none⟩ = some (.slice ms[k].a ms[k].abs.bytes.length ms[k].c) := by rw [g1]; rfl
          have e1 := hq
          simp only [RM.sl, Value.slice.injEq] at e1
          obtain ⟨rfl, -, rfl⟩ := e1
          clear g1 hq
          have fz1 := HR2.out.mem.frz hk 1
          have fz2 := HR2.out.mem.frz hk 2
          have hone := H.out.one HGD.out _ (List.getElem_mem hk)
          have hsafe := HGD.out.safe _ (by rw [H.out.files]; exact List.mem_map.2 ⟨_, List.getElem_mem hk, rfl⟩)
          have HNOD := hide (H.out.names HGD.out)
          have HLOW := hide H.out.mem.lt
          have HEACH := hide (HR2.out.mem.each _ (List.getElem_mem hk)).1
          obtain ⟨m, hm⟩ : ∃ m, m = ms[k] := ⟨_, rfl⟩
          rw [← hm] at g0 g1' g2 hqd hdm hone hsafe HEACH
          have HM := hide hm
          clear hm

          have hbb := HB.out w2 (HT2.out.mono (fun x hx => .inl (by simp at hx; subst hx; exact foot_r _ _ _)))
          obtain ⟨ab, cb, rfl, hb1, hb2, -⟩ := hbb.form
          clear hbb
          have hus := HR2.out.mem
          have HUS := hide (fun Z (hZ : Turn [] w2 Z) => refUsed_any (hus.still hZ) (by omega) (H.out.used HGD.out))
          have hub := H.out.used HGD.out
          have hrm := HGD.out.room
          have HC1 := hide (fun Z (hZ : Turn [] w2 Z) => (hus.still hZ).c)
          rw [tick_room] at HC1
          clear hus c1 c2 g0 g1' g2 fz1 fz2
          go_wp2
          clear c0
          refine wp_region_loose (Turn []) (by kernel_rfl) (by kernel_rfl) (by kernel_rfl) (by kernel_rfl) rfl (Turn.refl _) (fun _ _ _ h k => h.same k) ?_
          apply Lo.runx 1 rfl rfl [] (by kernel_rfl) (Turn.refl _)
          apply Exists.intro; apply And.intro
          · intro u w1 hR hF
            clear hF
            refine ⟨rfl, fun a ha K hK => ?_⟩
            have e0 := ha 0
            conv at e0 => rhs; whnf
            clear ha
            go_simp
            refine hK _ ?_; rfl
          refine Lo.run 2 rfl rfl [0] (fun x w' => x = .int .i64 (usedR ms : Nat)) (by kernel_rfl) (fun x w w' h hR => ?_) (fun _ _ h => h) (fun u w1 hR hF => ?_) ?_
          · exact h
          · obtain ⟨h0, -⟩ := hF
            refine ⟨rfl, fun a ha K hK => ?_⟩
            have e74 := (ha 74).trans h0
            clear ha h0
            go_simp
            refine (HUS.out w1 (((Turn.refl [] _).drew).same hR)).mono ?_
            rintro e w5 ⟨rfl, ht5⟩
            exact hK _ _ rfl ht5
          apply Lo.runx 3 rfl rfl [] (by kernel_rfl) (Turn.refl _)
          apply Exists.intro; apply And.intro
          · intro u w1 hR hF
            clear hF
            refine ⟨rfl, fun a ha K hK => ?_⟩
            have e4 := ha 4
            conv at e4 => rhs; whnf
            clear ha
            go_simp
            refine hK _ ?_; rfl
          apply Lo.runx 4 rfl rfl [2] (by kernel_rfl) (Turn.refl _)
          apply Exists.intro; apply And.intro
          · intro u w1 hR hF
            obtain ⟨h2, -⟩ := hF
            refine ⟨rfl, fun a ha K hK => ?_⟩
            have e76 := (ha 76).trans h2
            clear ha h2
            go_simp
            refine hK _ ?_; rfl
          apply Lo.runx 5 rfl rfl [1, 3] (by kernel_rfl) (Turn.refl _)
          apply Exists.intro; apply And.intro
          · intro u w1 hR hF
            obtain ⟨h1, h3, -⟩ := hF
            refine ⟨rfl, fun a ha K hK => ?_⟩
            have e75 : a.tmps.getD 75 undef = u 1 := ha 75
            have e77 := (ha 77).trans h3
            have h1 := (show (fun x w' => x = .int .i64 (usedR ms : Nat)) (u 1) w1 from h1)
            dsimp only at h1
            clear ha h3
            go_simp
            refine hK _ ?_; rfl
          apply Lo.runx 6 rfl rfl [] (by kernel_rfl) (Turn.refl _)
          apply Exists.intro; apply And.intro
          · intro u w1 hR hF
            clear hF
            refine ⟨rfl, fun a ha K hK => ?_⟩
            have e0 := ha 0
            conv at e0 => rhs; whnf
            clear ha
            go_simp
            refine hK _ ?_; rfl
          apply Lo.runx 7 rfl rfl [5] (by kernel_rfl) (Turn.refl _)
          apply Exists.intro; apply And.intro
          · intro u w1 hR hF
            obtain ⟨h5, -⟩ := hF
            refine ⟨rfl, fun a ha K hK => ?_⟩
            have e79 := (ha 79).trans h5
            clear ha h5
            go_simp
            refine hK _ ?_; rfl
          apply Lo.runx 8 rfl rfl [6] (by kernel_rfl) (Turn.refl _)
          apply Exists.intro; apply And.intro
          · intro u w1 hR hF
            obtain ⟨h6, -⟩ := hF
            refine ⟨rfl, fun a ha K hK => ?_⟩
            have e80 := (ha 80).trans h6
            clear ha h6
            go_simp
            refine hK _ ?_; rfl
          apply Lo.runx 9 rfl rfl [7] (by kernel_rfl) (Turn.refl _)
          apply Exists.intro; apply And.intro
          · intro u w1 hR hF
            obtain ⟨h7, -⟩ := hF
            refine ⟨rfl, fun a ha K hK => ?_⟩
            have e81 := (ha 81).trans h7
            clear ha h7
            obtain ⟨c0, c1, c2⟩ := HC1.out w1 (((Turn.refl [] _).drew).same hR)
            go_simp
            refine hK _ ?_; rfl
          refine Lo.runv 10 rfl rfl [4, 8] (.bool (true)) (by kernel_rfl) (fun u w1 hR hF => ?_) (Turn.refl _) ?_
          · obtain ⟨h4, h8, -⟩ := hF
            refine ⟨rfl, fun a ha K hK => ?_⟩
            have e78 := (ha 78).trans h4
            have e82 := (ha 82).trans h8
            clear ha h4 h8
            go_simp
            refine hK _ ?_
            rw [IntWalk.i64_left, IntWalk.wrap64_in _ (by omega)]
            simp; omega
          refine Lo.done [9] (fun u w1 hRd hSd hF => ?_)
          clear hSd
          obtain ⟨f9, -⟩ := hF
          have d9 : u 9 = _ := f9
          clear f9
          simp only [putFrom, Act.put, List.setIfInBounds_toArray, List.set_cons_succ, List.set_cons_zero, Nat.zero_add, Nat.reduceAdd, d9]
          go_wp2
          go_ret
          rw [HE.out]
          exact ⟨rfl, (HR2.out.still (((Turn.refl [] _).drew).same hRd)).did (HT2.out.trans (((Turn.refl [] _).drew).same hRd) (by simp))⟩
        · have e : A.add nm bs = (0, A.tick.upd nm (fun f => { f with bytes := f.bytes ++ bs })) := by
            unfold DA.add
            rw [if_neg HF.out, if_neg (by rw [hhas]; simp), if_neg (by rw [H.out.files]; exact hbig)]
          have HE := hide e
          have hlen2 := Ref.one H.out HGD.out _ (List.getElem_mem hk)
          clear e hi hfd hname hhas hlen2
          refine HI.out.mono ?_
          rintro e w2 ⟨rfl, ht2⟩
          have HT2 := hide (HT1.out.trans ht2 (by simp))
          have HR2 := hide (HR1.out.still ht2)
          clear ht2 HI
          obtain ⟨c0, c1, c2⟩ := HR2.out.mem.c
          obtain ⟨p, rfl, g0, g1, g2, q, d, hq, hqd, hdm⟩ := HR2.out.mem.three hk
          have g1' : w2.cell? ⟨(p.add (k * 3)).block, (p.add (k * 3)).off + 1, none⟩ = some (.slice ms[k].a ms[k].abs.bytes.length ms[k].c) := by rw [g1]; rfl
          have e1 := hq
          simp only [RM.sl, Value.slice.injEq] at e1
          obtain ⟨rfl, -, rfl⟩ := e1
          clear g1 hq
          have fz1 := HR2.out.mem.frz hk 1
          have fz2 := HR2.out.mem.frz hk 2
          have hone := H.out.one HGD.out _ (List.getElem_mem hk)
          have hsafe := HGD.out.safe _ (by rw [H.out.files]; exact List.mem_map.2 ⟨_, List.getElem_mem hk, rfl⟩)
          have HNOD := hide (H.out.names HGD.out)
          have HLOW := hide H.out.mem.lt
          have HEACH := hide (HR2.out.mem.each _ (List.getElem_mem hk)).1
          obtain ⟨m, hm⟩ : ∃ m, m = ms[k] := ⟨_, rfl⟩
          rw [← hm] at g0 g1' g2 hqd hdm hone hsafe HEACH
          have HM := hide hm
          clear hm

          have hbb := HB.out w2 (HT2.out.mono (fun x hx => .inl (by simp at hx; subst hx; exact foot_r _ _ _)))
          obtain ⟨ab, cb, rfl, hb1, hb2, -⟩ := hbb.form
          have HBB := hide hbb
          clear hbb
          have hus := HR2.out.mem
          have HUS := hide (fun Z (hZ : Turn [] w2 Z) => refUsed_any (hus.still hZ) (by omega) (H.out.used HGD.out))
          have hub := H.out.used HGD.out
          have hrm := HGD.out.room
          have HC1 := hide (fun Z (hZ : Turn [] w2 Z) => (hus.still hZ).c)
          rw [tick_room] at HC1
          clear hus c1 c2 g0 g1' g2 fz1 fz2
          go_wp2
          clear c0
          refine wp_region_loose (Turn []) (by kernel_rfl) (by kernel_rfl) (by kernel_rfl) (by kernel_rfl) rfl (Turn.refl _) (fun _ _ _ h k => h.same k) ?_
          apply Lo.runx 1 rfl rfl [] (by kernel_rfl) (Turn.refl _)
          apply Exists.intro; apply And.intro
          · intro u w1 hR hF
            clear hF
            refine ⟨rfl, fun a ha K hK => ?_⟩
            have e0 := ha 0
            conv at e0 => rhs; whnf
            clear ha
            go_simp
            refine hK _ ?_; rfl
          refine Lo.run 2 rfl rfl [0] (fun x w' => x = .int .i64 (usedR ms : Nat)) (by kernel_rfl) (fun x w w' h hR => ?_) (fun _ _ h => h) (fun u w1 hR hF => ?_) ?_
          · exact h
          · obtain ⟨h0, -⟩ := hF
            refine ⟨rfl, fun a ha K hK => ?_⟩
            have e74 := (ha 74).trans h0
            clear ha h0
            go_simp
            refine (HUS.out w1 (((Turn.refl [] _).drew).same hR)).mono ?_
            rintro e w5 ⟨rfl, ht5⟩
            exact hK _ _ rfl ht5
          apply Lo.runx 3 rfl rfl [] (by kernel_rfl) (Turn.refl _)
          apply Exists.intro; apply And.intro
          · intro u w1 hR hF
            clear hF
            refine ⟨rfl, fun a ha K hK => ?_⟩
            have e4 := ha 4
            conv at e4 => rhs; whnf
            clear ha
            go_simp
            refine hK _ ?_; rfl
          apply Lo.runx 4 rfl rfl [2] (by kernel_rfl) (Turn.refl _)
          apply Exists.intro; apply And.intro
          · intro u w1 hR hF
            obtain ⟨h2, -⟩ := hF
            refine ⟨rfl, fun a ha K hK => ?_⟩
            have e76 := (ha 76).trans h2
            clear ha h2
            go_simp
            refine hK _ ?_; rfl
          apply Lo.runx 5 rfl rfl [1, 3] (by kernel_rfl) (Turn.refl _)
          apply Exists.intro; apply And.intro
          · intro u w1 hR hF
            obtain ⟨h1, h3, -⟩ := hF
            refine ⟨rfl, fun a ha K hK => ?_⟩
            have e75 : a.tmps.getD 75 undef = u 1 := ha 75
            have e77 := (ha 77).trans h3
            have h1 := (show (fun x w' => x = .int .i64 (usedR ms : Nat)) (u 1) w1 from h1)
            dsimp only at h1
            clear ha h3
            go_simp
            refine hK _ ?_; rfl
          apply Lo.runx 6 rfl rfl [] (by kernel_rfl) (Turn.refl _)
          apply Exists.intro; apply And.intro
          · intro u w1 hR hF
            clear hF
            refine ⟨rfl, fun a ha K hK => ?_⟩
            have e0 := ha 0
            conv at e0 => rhs; whnf
            clear ha
            go_simp
            refine hK _ ?_; rfl
          apply Lo.runx 7 rfl rfl [5] (by kernel_rfl) (Turn.refl _)
          apply Exists.intro; apply And.intro
          · intro u w1 hR hF
            obtain ⟨h5, -⟩ := hF
            refine ⟨rfl, fun a ha K hK => ?_⟩
            have e79 := (ha 79).trans h5
            clear ha h5
            go_simp
            refine hK _ ?_; rfl
          apply Lo.runx 8 rfl rfl [6] (by kernel_rfl) (Turn.refl _)
          apply Exists.intro; apply And.intro
          · intro u w1 hR hF
            obtain ⟨h6, -⟩ := hF
            refine ⟨rfl, fun a ha K hK => ?_⟩
            have e80 := (ha 80).trans h6
            clear ha h6
            go_simp
            refine hK _ ?_; rfl
          apply Lo.runx 9 rfl rfl [7] (by kernel_rfl) (Turn.refl _)
          apply Exists.intro; apply And.intro
          · intro u w1 hR hF
            obtain ⟨h7, -⟩ := hF
            refine ⟨rfl, fun a ha K hK => ?_⟩
            have e81 := (ha 81).trans h7
            clear ha h7
            obtain ⟨c0, c1, c2⟩ := HC1.out w1 (((Turn.refl [] _).drew).same hR)
            go_simp
            refine hK _ ?_; rfl
          refine Lo.runv 10 rfl rfl [4, 8] (.bool (false)) (by kernel_rfl) (fun u w1 hR hF => ?_) (Turn.refl _) ?_
          · obtain ⟨h4, h8, -⟩ := hF
            refine ⟨rfl, fun a ha K hK => ?_⟩
            have e78 := (ha 78).trans h4
            have e82 := (ha 82).trans h8
            clear ha h4 h8
            go_simp
            refine hK _ ?_
            rw [IntWalk.i64_left, IntWalk.wrap64_in _ (by omega)]
            simp; omega
          refine Lo.done [9] (fun u w1 hRd hSd hF => ?_)
          clear hSd
          obtain ⟨f9, -⟩ := hF
          have d9 : u 9 = _ := f9
          clear f9
          simp only [putFrom, Act.put, List.setIfInBounds_toArray, List.set_cons_succ, List.set_cons_zero, Nat.zero_add, Nat.reduceAdd, d9]
          have HTZ : Hid (Turn [] w2 w1) := (((Turn.refl [] _).drew).same hRd)
          clear hRd HUS HC1
          obtain ⟨wz, hwz⟩ : ∃ wz, wz = w1 := ⟨_, rfl⟩
          rw [← hwz] at HTZ ⊢
          clear hwz d9
          have HRZ := hide (HR2.out.still HTZ.out)
          have HTZ2 := hide (HT2.out.trans HTZ.out (by simp))
          obtain ⟨v4, w4, hr4, hrow4, ht4, hown4⟩ := app_bytes (wz.alloc (.cells #[] 5)) wz.heap.size (.slice (some ⟨wz.heap.size, 0, none⟩) 0 0) (.slice m.a m.abs.bytes.length m.c) [] m.abs.bytes
            (.inr ⟨wz.heap.size, 0, #[], rfl, Nat.le_refl _, heap_new wz _, Nat.le_refl _, Nat.le_refl _, by simp [maxLen], rfl⟩) ((HEACH.out.still (HTZ.out.alloc _)).slice) (by simp; omega) (by simp)
          rw [List.nil_append] at hrow4
          have ht34 : Turn [] wz w4 := ((Turn.refl [] wz).alloc (.cells #[] 5)).trans ht4 (fun k hk => .inr (by simp [Value.ownBlock] at hk; omega))
          obtain ⟨v5, w5, hr5, hrow5, ht5, hown5⟩ := app_bytes w4 wz.heap.size v4 (.slice ab bs.length cb) m.abs.bytes bs hrow4 ((HBB.out.still (HTZ.out.same ht34)).slice) (by omega) (by have := ht34.size; omega)
          have ht35 : Turn [] wz w5 := ht34.trans ht5 (fun k hk => .inr (hrow4.lt k (by simpa using hk)).1)
          obtain ⟨a4, c4, rfl, -, -, -⟩ := hrow4.bytes.form
          obtain ⟨a5, c5, rfl, hc5, hm5, -⟩ := hrow5.bytes.form
          have hlow5 := hrow5.lt
          have hby5 := hrow5.bytes
          rw [List.length_append] at hr5 hlow5
          obtain ⟨-, -, e3, -⟩ := (⟨trivial, trivial, ((HRZ.out.still ((Turn.refl [] wz).alloc (.cells #[] 5))).mem.three hk), trivial⟩ : True ∧ True ∧ _ ∧ True)
          obtain ⟨p', hp', g0, g1, g2, -⟩ := e3
          cases hp'
          have g1' : (wz.alloc (.cells #[] 5)).cell? ⟨(p.add (k * 3)).block, (p.add (k * 3)).off + 1, none⟩ = some (.slice m.a m.abs.bytes.length m.c) := by rw [g1, ← HM.out]; rfl
          clear g0 g1 g2
          have HR5 := hide (HRZ.out.still ht35)
          obtain ⟨p', hp', -, x1, -, -⟩ := HR5.out.mem.three hk
          cases hp'
          have fz5 := HR5.out.mem.frz hk 1
          have HAR4 := hide hr4
          have HAR5 := hide hr5
          have HLOW5 := hide hlow5
          have HBY5 := hide hby5
          have HT35 := hide ht35
          clear hr4 hrow4 ht4 hown4 hr5 hrow5 ht5 hown5 ht34 ht35 hlow5 hby5
          go_wp2_with (at_builtin; go_must (first | (refine wpList_append_told rfl rfl rfl rfl HAR4.out ?_; clear HAR4) | refine wpList_append_told rfl rfl rfl rfl HAR5.out ?_))
          go_ret
          rw [HE.out]
          have hszz := HTZ2.out.size
          have := setDid (k := k) (i := 1) (u := .slice a5 (m.abs.bytes.length + bs.length) c5) (m' := ⟨{ m.abs with bytes := m.abs.bytes ++ bs }, a5, c5⟩) (g := fun f => { f with bytes := f.bytes ++ bs }) HR5.out (HTZ2.out.trans HT35.out (by simp)) HLOW.out hk (by omega) (by rw [← HM.out]; simp [fileC, RM.sl, List.set]) (by simpa [RM.sl] using HBY5.out) (fun j hj => .inr (by
            have hj' : j ∈ (Value.slice a5 (m.abs.bytes.length + bs.length) c5).ownBlock := own_eq _ _ _ _ _ ▸ hj
            have := HLOW5.out j hj'; omega)) (by rw [← HM.out]) HNOD.out
          rw [HNM.out] at this
          exact ⟨rfl, _, _, this⟩
    · obtain ⟨w1, hw1⟩ : ∃ w1, w1 = w := ⟨_, rfl⟩
      have HR1 : Hid (Ref w1 r (.slice a ms.length c) ms A.tick) := hw1 ▸ (⟨by rw [tick_room]; exact by rw [show leftOf A.tick = L by rw [HLT.out, if_neg hp]]; exact HMEM.out, by rw [tick_files]; exact H.out.files⟩ : Ref w r (.slice a ms.length c) ms A.tick)
      have HT1 : Hid (Turn [r] w w1) := by rw [hw1]; exact Turn.refl [r] w
      have HW1 := hide hw1
      clear HMEM HLT hw1
      go_enter Tryd.func17, Tryd.ntmps17
      go_wp2_with fail
      clear c0 c1 c2 f0 f1 f2
      rw [← HW1.out]
      clear HW1
      have HI := hide (at_any HR1.out.mem (by omega) nm)
      unfold idxI at HI
      rcases hi : idxM ms nm with _ | k
      · have e : (A.add nm bs) = (7, A.tick) := by
          have hff := idx_none hi
          unfold DA.add
          rw [if_neg HF.out]
          rw [if_pos (by rw [findR_has H.out.files, hff]; rfl)]
        have HE := hide e
        rw [hi] at HI
        clear e hi
        refine HI.out.mono ?_
        rintro e w2 ⟨rfl, ht2⟩
        have HT2 := hide (HT1.out.trans ht2 (by simp))
        have HR2 := hide (HR1.out.still ht2)
        clear ht2 HI

        go_wp2
        go_ret
        rw [HE.out]
        exact ⟨rfl, HR2.out.did HT2.out⟩
      · obtain ⟨hk, hfd, hname⟩ := idx_some hi
        have hhas : A.has nm = true := by rw [findR_has H.out.files, hfd]; rfl
        have HNM := hide hname
        rw [hi] at HI
        by_cases hbig : A.room < usedR ms + bs.length
        · have e : A.add nm bs = (12, A.tick) := by
            unfold DA.add
            rw [if_neg HF.out, if_neg (by rw [hhas]; simp), if_pos (by rw [H.out.files]; exact hbig)]
          have HE := hide e
          have hd : decide ((A.room : Int) < (usedR ms : Int) + bs.length) = true := by simp; omega
          clear e hi hfd hname hhas
          refine HI.out.mono ?_
          rintro e w2 ⟨rfl, ht2⟩
          have HT2 := hide (HT1.out.trans ht2 (by simp))
          have HR2 := hide (HR1.out.still ht2)
          clear ht2 HI
          obtain ⟨c0, c1, c2⟩ := HR2.out.mem.c
          obtain ⟨p, rfl, g0, g1, g2, q, d, hq, hqd, hdm⟩ := HR2.out.mem.three hk
          have g1' : w2.cell? ⟨(p.add (k * 3)).block, (p.add (k * 3)).off + 1, none⟩ = some (.slice ms[k].a ms[k].abs.bytes.length ms[k].c) := by rw [g1]; rfl
          have e1 := hq
          simp only [RM.sl, Value.slice.injEq] at e1
          obtain ⟨rfl, -, rfl⟩ := e1
          clear g1 hq
          have fz1 := HR2.out.mem.frz hk 1
          have fz2 := HR2.out.mem.frz hk 2
          have hone := H.out.one HGD.out _ (List.getElem_mem hk)
          have hsafe := HGD.out.safe _ (by rw [H.out.files]; exact List.mem_map.2 ⟨_, List.getElem_mem hk, rfl⟩)
          have HNOD := hide (H.out.names HGD.out)
          have HLOW := hide H.out.mem.lt
          have HEACH := hide (HR2.out.mem.each _ (List.getElem_mem hk)).1
          obtain ⟨m, hm⟩ : ∃ m, m = ms[k] := ⟨_, rfl⟩
          rw [← hm] at g0 g1' g2 hqd hdm hone hsafe HEACH
          have HM := hide hm
          clear hm

          have hbb := HB.out w2 (HT2.out.mono (fun x hx => .inl (by simp at hx; subst hx; exact foot_r _ _ _)))
          obtain ⟨ab, cb, rfl, hb1, hb2, -⟩ := hbb.form
          clear hbb
          have hus := HR2.out.mem
          have HUS := hide (fun Z (hZ : Turn [] w2 Z) => refUsed_any (hus.still hZ) (by omega) (H.out.used HGD.out))
          have hub := H.out.used HGD.out
          have hrm := HGD.out.room
          have HC1 := hide (fun Z (hZ : Turn [] w2 Z) => (hus.still hZ).c)
          rw [tick_room] at HC1
          clear hus c1 c2 g0 g1' g2 fz1 fz2
          go_wp2
          clear c0
          refine wp_region_loose (Turn []) (by kernel_rfl) (by kernel_rfl) (by kernel_rfl) (by kernel_rfl) rfl (Turn.refl _) (fun _ _ _ h k => h.same k) ?_
          apply Lo.runx 1 rfl rfl [] (by kernel_rfl) (Turn.refl _)
          apply Exists.intro; apply And.intro
          · intro u w1 hR hF
            clear hF
            refine ⟨rfl, fun a ha K hK => ?_⟩
            have e0 := ha 0
            conv at e0 => rhs; whnf
            clear ha
            go_simp
            refine hK _ ?_; rfl
          refine Lo.run 2 rfl rfl [0] (fun x w' => x = .int .i64 (usedR ms : Nat)) (by kernel_rfl) (fun x w w' h hR => ?_) (fun _ _ h => h) (fun u w1 hR hF => ?_) ?_
          · exact h
          · obtain ⟨h0, -⟩ := hF
            refine ⟨rfl, fun a ha K hK => ?_⟩
            have e74 := (ha 74).trans h0
            clear ha h0
            go_simp
            refine (HUS.out w1 (((Turn.refl [] _).drew).same hR)).mono ?_
            rintro e w5 ⟨rfl, ht5⟩
            exact hK _ _ rfl ht5
          apply Lo.runx 3 rfl rfl [] (by kernel_rfl) (Turn.refl _)
          apply Exists.intro; apply And.intro
          · intro u w1 hR hF
            clear hF
            refine ⟨rfl, fun a ha K hK => ?_⟩
            have e4 := ha 4
            conv at e4 => rhs; whnf
            clear ha
            go_simp
            refine hK _ ?_; rfl
          apply Lo.runx 4 rfl rfl [2] (by kernel_rfl) (Turn.refl _)
          apply Exists.intro; apply And.intro
          · intro u w1 hR hF
            obtain ⟨h2, -⟩ := hF
            refine ⟨rfl, fun a ha K hK => ?_⟩
            have e76 := (ha 76).trans h2
            clear ha h2
            go_simp
            refine hK _ ?_; rfl
          apply Lo.runx 5 rfl rfl [1, 3] (by kernel_rfl) (Turn.refl _)
          apply Exists.intro; apply And.intro
          · intro u w1 hR hF
            obtain ⟨h1, h3, -⟩ := hF
            refine ⟨rfl, fun a ha K hK => ?_⟩
            have e75 : a.tmps.getD 75 undef = u 1 := ha 75
            have e77 := (ha 77).trans h3
            have h1 := (show (fun x w' => x = .int .i64 (usedR ms : Nat)) (u 1) w1 from h1)
            dsimp only at h1
            clear ha h3
            go_simp
            refine hK _ ?_; rfl
          apply Lo.runx 6 rfl rfl [] (by kernel_rfl) (Turn.refl _)
          apply Exists.intro; apply And.intro
          · intro u w1 hR hF
            clear hF
            refine ⟨rfl, fun a ha K hK => ?_⟩
            have e0 := ha 0
            conv at e0 => rhs; whnf
            clear ha
            go_simp
            refine hK _ ?_; rfl
          apply Lo.runx 7 rfl rfl [5] (by kernel_rfl) (Turn.refl _)
          apply Exists.intro; apply And.intro
          · intro u w1 hR hF
            obtain ⟨h5, -⟩ := hF
            refine ⟨rfl, fun a ha K hK => ?_⟩
            have e79 := (ha 79).trans h5
            clear ha h5
            go_simp
            refine hK _ ?_; rfl
          apply Lo.runx 8 rfl rfl [6] (by kernel_rfl) (Turn.refl _)
          apply Exists.intro; apply And.intro
          · intro u w1 hR hF
            obtain ⟨h6, -⟩ := hF
            refine ⟨rfl, fun a ha K hK => ?_⟩
            have e80 := (ha 80).trans h6
            clear ha h6
            go_simp
            refine hK _ ?_; rfl
          apply Lo.runx 9 rfl rfl [7] (by kernel_rfl) (Turn.refl _)
          apply Exists.intro; apply And.intro
          · intro u w1 hR hF
            obtain ⟨h7, -⟩ := hF
            refine ⟨rfl, fun a ha K hK => ?_⟩
            have e81 := (ha 81).trans h7
            clear ha h7
            obtain ⟨c0, c1, c2⟩ := HC1.out w1 (((Turn.refl [] _).drew).same hR)
            go_simp
            refine hK _ ?_; rfl
          refine Lo.runv 10 rfl rfl [4, 8] (.bool (true)) (by kernel_rfl) (fun u w1 hR hF => ?_) (Turn.refl _) ?_
          · obtain ⟨h4, h8, -⟩ := hF
            refine ⟨rfl, fun a ha K hK => ?_⟩
            have e78 := (ha 78).trans h4
            have e82 := (ha 82).trans h8
            clear ha h4 h8
            go_simp
            refine hK _ ?_
            rw [IntWalk.i64_left, IntWalk.wrap64_in _ (by omega)]
            simp; omega
          refine Lo.done [9] (fun u w1 hRd hSd hF => ?_)
          clear hSd
          obtain ⟨f9, -⟩ := hF
          have d9 : u 9 = _ := f9
          clear f9
          simp only [putFrom, Act.put, List.setIfInBounds_toArray, List.set_cons_succ, List.set_cons_zero, Nat.zero_add, Nat.reduceAdd, d9]
          go_wp2
          go_ret
          rw [HE.out]
          exact ⟨rfl, (HR2.out.still (((Turn.refl [] _).drew).same hRd)).did (HT2.out.trans (((Turn.refl [] _).drew).same hRd) (by simp))⟩
        · have e : A.add nm bs = (0, A.tick.upd nm (fun f => { f with bytes := f.bytes ++ bs })) := by
            unfold DA.add
            rw [if_neg HF.out, if_neg (by rw [hhas]; simp), if_neg (by rw [H.out.files]; exact hbig)]
          have HE := hide e
          have hlen2 := Ref.one H.out HGD.out _ (List.getElem_mem hk)
          clear e hi hfd hname hhas hlen2
          refine HI.out.mono ?_
          rintro e w2 ⟨rfl, ht2⟩
          have HT2 := hide (HT1.out.trans ht2 (by simp))
          have HR2 := hide (HR1.out.still ht2)
          clear ht2 HI
          obtain ⟨c0, c1, c2⟩ := HR2.out.mem.c
          obtain ⟨p, rfl, g0, g1, g2, q, d, hq, hqd, hdm⟩ := HR2.out.mem.three hk
          have g1' : w2.cell? ⟨(p.add (k * 3)).block, (p.add (k * 3)).off + 1, none⟩ = some (.slice ms[k].a ms[k].abs.bytes.length ms[k].c) := by rw [g1]; rfl
          have e1 := hq
          simp only [RM.sl, Value.slice.injEq] at e1
          obtain ⟨rfl, -, rfl⟩ := e1
          clear g1 hq
          have fz1 := HR2.out.mem.frz hk 1
          have fz2 := HR2.out.mem.frz hk 2
          have hone := H.out.one HGD.out _ (List.getElem_mem hk)
          have hsafe := HGD.out.safe _ (by rw [H.out.files]; exact List.mem_map.2 ⟨_, List.getElem_mem hk, rfl⟩)
          have HNOD := hide (H.out.names HGD.out)
          have HLOW := hide H.out.mem.lt
          have HEACH := hide (HR2.out.mem.each _ (List.getElem_mem hk)).1
          obtain ⟨m, hm⟩ : ∃ m, m = ms[k] := ⟨_, rfl⟩
          rw [← hm] at g0 g1' g2 hqd hdm hone hsafe HEACH
          have HM := hide hm
          clear hm

          have hbb := HB.out w2 (HT2.out.mono (fun x hx => .inl (by simp at hx; subst hx; exact foot_r _ _ _)))
          obtain ⟨ab, cb, rfl, hb1, hb2, -⟩ := hbb.form
          have HBB := hide hbb
          clear hbb
          have hus := HR2.out.mem
          have HUS := hide (fun Z (hZ : Turn [] w2 Z) => refUsed_any (hus.still hZ) (by omega) (H.out.used HGD.out))
          have hub := H.out.used HGD.out
          have hrm := HGD.out.room
          have HC1 := hide (fun Z (hZ : Turn [] w2 Z) => (hus.still hZ).c)
          rw [tick_room] at HC1
          clear hus c1 c2 g0 g1' g2 fz1 fz2
          go_wp2
          clear c0
          refine wp_region_loose (Turn []) (by kernel_rfl) (by kernel_rfl) (by kernel_rfl) (by kernel_rfl) rfl (Turn.refl _) (fun _ _ _ h k => h.same k) ?_
          apply Lo.runx 1 rfl rfl [] (by kernel_rfl) (Turn.refl _)
          apply Exists.intro; apply And.intro
          · intro u w1 hR hF
            clear hF
            refine ⟨rfl, fun a ha K hK => ?_⟩
            have e0 := ha 0
            conv at e0 => rhs; whnf
            clear ha
            go_simp
            refine hK _ ?_; rfl
          refine Lo.run 2 rfl rfl [0] (fun x w' => x = .int .i64 (usedR ms : Nat)) (by kernel_rfl) (fun x w w' h hR => ?_) (fun _ _ h => h) (fun u w1 hR hF => ?_) ?_
          · exact h
          · obtain ⟨h0, -⟩ := hF
            refine ⟨rfl, fun a ha K hK => ?_⟩
            have e74 := (ha 74).trans h0
            clear ha h0
            go_simp
            refine (HUS.out w1 (((Turn.refl [] _).drew).same hR)).mono ?_
            rintro e w5 ⟨rfl, ht5⟩
            exact hK _ _ rfl ht5
          apply Lo.runx 3 rfl rfl [] (by kernel_rfl) (Turn.refl _)
          apply Exists.intro; apply And.intro
          · intro u w1 hR hF
            clear hF
            refine ⟨rfl, fun a ha K hK => ?_⟩
            have e4 := ha 4
            conv at e4 => rhs; whnf
            clear ha
            go_simp
            refine hK _ ?_; rfl
          apply Lo.runx 4 rfl rfl [2] (by kernel_rfl) (Turn.refl _)
          apply Exists.intro; apply And.intro
          · intro u w1 hR hF
            obtain ⟨h2, -⟩ := hF
            refine ⟨rfl, fun a ha K hK => ?_⟩
            have e76 := (ha 76).trans h2
            clear ha h2
            go_simp
            refine hK _ ?_; rfl
          apply Lo.runx 5 rfl rfl [1, 3] (by kernel_rfl) (Turn.refl _)
          apply Exists.intro; apply And.intro
          · intro u w1 hR hF
            obtain ⟨h1, h3, -⟩ := hF
            refine ⟨rfl, fun a ha K hK => ?_⟩
            have e75 : a.tmps.getD 75 undef = u 1 := ha 75
            have e77 := (ha 77).trans h3
            have h1 := (show (fun x w' => x = .int .i64 (usedR ms : Nat)) (u 1) w1 from h1)
            dsimp only at h1
            clear ha h3
            go_simp
            refine hK _ ?_; rfl
          apply Lo.runx 6 rfl rfl [] (by kernel_rfl) (Turn.refl _)
          apply Exists.intro; apply And.intro
          · intro u w1 hR hF
            clear hF
            refine ⟨rfl, fun a ha K hK => ?_⟩
            have e0 := ha 0
            conv at e0 => rhs; whnf
            clear ha
            go_simp
            refine hK _ ?_; rfl
          apply Lo.runx 7 rfl rfl [5] (by kernel_rfl) (Turn.refl _)
          apply Exists.intro; apply And.intro
          · intro u w1 hR hF
            obtain ⟨h5, -⟩ := hF
            refine ⟨rfl, fun a ha K hK => ?_⟩
            have e79 := (ha 79).trans h5
            clear ha h5
            go_simp
            refine hK _ ?_; rfl
          apply Lo.runx 8 rfl rfl [6] (by kernel_rfl) (Turn.refl _)
          apply Exists.intro; apply And.intro
          · intro u w1 hR hF
            obtain ⟨h6, -⟩ := hF
            refine ⟨rfl, fun a ha K hK => ?_⟩
            have e80 := (ha 80).trans h6
            clear ha h6
            go_simp
            refine hK _ ?_; rfl
          apply Lo.runx 9 rfl rfl [7] (by kernel_rfl) (Turn.refl _)
          apply Exists.intro; apply And.intro
          · intro u w1 hR hF
            obtain ⟨h7, -⟩ := hF
            refine ⟨rfl, fun a ha K hK => ?_⟩
            have e81 := (ha 81).trans h7
            clear ha h7
            obtain ⟨c0, c1, c2⟩ := HC1.out w1 (((Turn.refl [] _).drew).same hR)
            go_simp
            refine hK _ ?_; rfl
          refine Lo.runv 10 rfl rfl [4, 8] (.bool (false)) (by kernel_rfl) (fun u w1 hR hF => ?_) (Turn.refl _) ?_
          · obtain ⟨h4, h8, -⟩ := hF
            refine ⟨rfl, fun a ha K hK => ?_⟩
            have e78 := (ha 78).trans h4
            have e82 := (ha 82).trans h8
            clear ha h4 h8
            go_simp
            refine hK _ ?_
            rw [IntWalk.i64_left, IntWalk.wrap64_in _ (by omega)]
            simp; omega
          refine Lo.done [9] (fun u w1 hRd hSd hF => ?_)
          clear hSd
          obtain ⟨f9, -⟩ := hF
          have d9 : u 9 = _ := f9
          clear f9
          simp only [putFrom, Act.put, List.setIfInBounds_toArray, List.set_cons_succ, List.set_cons_zero, Nat.zero_add, Nat.reduceAdd, d9]
          have HTZ : Hid (Turn [] w2 w1) := (((Turn.refl [] _).drew).same hRd)
          clear hRd HUS HC1
          obtain ⟨wz, hwz⟩ : ∃ wz, wz = w1 := ⟨_, rfl⟩
          rw [← hwz] at HTZ ⊢
          clear hwz d9
          have HRZ := hide (HR2.out.still HTZ.out)
          have HTZ2 := hide (HT2.out.trans HTZ.out (by simp))
          obtain ⟨v4, w4, hr4, hrow4, ht4, hown4⟩ := app_bytes (wz.alloc (.cells #[] 5)) wz.heap.size (.slice (some ⟨wz.heap.size, 0, none⟩) 0 0) (.slice m.a m.abs.bytes.length m.c) [] m.abs.bytes
            (.inr ⟨wz.heap.size, 0, #[], rfl, Nat.le_refl _, heap_new wz _, Nat.le_refl _, Nat.le_refl _, by simp [maxLen], rfl⟩) ((HEACH.out.still (HTZ.out.alloc _)).slice) (by simp; omega) (by simp)
          rw [List.nil_append] at hrow4
          have ht34 : Turn [] wz w4 := ((Turn.refl [] wz).alloc (.cells #[] 5)).trans ht4 (fun k hk => .inr (by simp [Value.ownBlock] at hk; omega))
          obtain ⟨v5, w5, hr5, hrow5, ht5, hown5⟩ := app_bytes w4 wz.heap.size v4 (.slice ab bs.length cb) m.abs.bytes bs hrow4 ((HBB.out.still (HTZ.out.same ht34)).slice) (by omega) (by have := ht34.size; omega)
          have ht35 : Turn [] wz w5 := ht34.trans ht5 (fun k hk => .inr (hrow4.lt k (by simpa using hk)).1)
          obtain ⟨a4, c4, rfl, -, -, -⟩ := hrow4.bytes.form
          obtain ⟨a5, c5, rfl, hc5, hm5, -⟩ := hrow5.bytes.form
          have hlow5 := hrow5.lt
          have hby5 := hrow5.bytes
          rw [List.length_append] at hr5 hlow5
          obtain ⟨-, -, e3, -⟩ := (⟨trivial, trivial, ((HRZ.out.still ((Turn.refl [] wz).alloc (.cells #[] 5))).mem.three hk), trivial⟩ : True ∧ True ∧ _ ∧ True)
          obtain ⟨p', hp', g0, g1, g2, -⟩ := e3
          cases hp'
          have g1' : (wz.alloc (.cells #[] 5)).cell? ⟨(p.add (k * 3)).block, (p.add (k * 3)).off + 1, none⟩ = some (.slice m.a m.abs.bytes.length m.c) := by rw [g1, ← HM.out]; rfl
          clear g0 g1 g2
          have HR5 := hide (HRZ.out.still ht35)
          obtain ⟨p', hp', -, x1, -, -⟩ := HR5.out.mem.three hk
          cases hp'
          have fz5 := HR5.out.mem.frz hk 1
          have HAR4 := hide hr4
          have HAR5 := hide hr5
          have HLOW5 := hide hlow5
          have HBY5 := hide hby5
          have HT35 := hide ht35
          clear hr4 hrow4 ht4 hown4 hr5 hrow5 ht5 hown5 ht34 ht35 hlow5 hby5
          go_wp2_with (at_builtin; go_must (first | (refine wpList_append_told rfl rfl rfl rfl HAR4.out ?_; clear HAR4) | refine wpList_append_told rfl rfl rfl rfl HAR5.out ?_))
          go_ret
          rw [HE.out]
          have hszz := HTZ2.out.size
          have := setDid (k := k) (i := 1) (u := .slice a5 (m.abs.bytes.length + bs.length) c5) (m' := ⟨{ m.abs with bytes := m.abs.bytes ++ bs }, a5, c5⟩) (g := fun f => { f with bytes := f.bytes ++ bs }) HR5.out (HTZ2.out.trans HT35.out (by simp)) HLOW.out hk (by omega) (by rw [← HM.out]; simp [fileC, RM.sl, List.set]) (by simpa [RM.sl] using HBY5.out) (fun j hj => .inr (by
            have hj' : j ∈ (Value.slice a5 (m.abs.bytes.length + bs.length) c5).ownBlock := own_eq _ _ _ _ _ ▸ hj
            have := HLOW5.out j hj'; omega)) (by rw [← HM.out]) HNOD.out
          rw [HNM.out] at this
          exact ⟨rfl, _, _, this⟩
end Go.Proofs.YtlcgcckllecjpaaDoor.Dk
