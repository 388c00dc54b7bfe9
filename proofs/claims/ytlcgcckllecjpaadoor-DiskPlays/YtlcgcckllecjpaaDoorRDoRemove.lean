/- The document's disk: its six operations. -/
import Derived.Test.YtlcgcckllecjpaaDoorRAbs
namespace Go.Proofs.YtlcgcckllecjpaaDoor.Dk
open Go.RowKit Go.Maps
set_option maxRecDepth 100000
set_option linter.unusedSimpArgs false
set_option linter.unusedVariables false

set_option maxHeartbeats 8000000 in
theorem do_remove {w : World} {r : Nat} {sv : Value} {ms : List RM} {A : DA} (h : Ref w r sv ms A) (hg : Good A) (nm to : List UInt8) (hnm : nm.length ≤ 1000000) (hto : to.length ≤ 1000000) (bv : Value) (n : Int) :
    Calls Tryd.prog 17 #[.pointer (some ⟨r, 0, none⟩), .string { data := #[114, 101, 109, 111, 118, 101] }, .string ⟨nm.toArray⟩, .string ⟨to.toArray⟩, bv, .int .i64 n] w fun e w' => e = .returned (.int .i64 (A.remove nm).1) ∧ RDid w w' r sv ms (A.remove nm).2 := by
  obtain ⟨a, c, rfl, hlc, hcm⟩ := h.mem.form
  have hmx : maxLen = 9223372036854775807 := by simp [maxLen]
  rw [hmx] at hcm
  have H := hide h
  have HGD := hide hg
  obtain ⟨c0, c1, c2⟩ := h.mem.c
  obtain ⟨f0, f1, f2⟩ := h.mem.f
  obtain ⟨b1, b2⟩ := leftOf_bound hg
  have hlf := leftOf_fails hg
  by_cases hf : A.fails = true
  · have e : (A.remove nm) = (14, A) := by unfold DA.remove; rw [if_pos hf]
    rw [e]
    rw [hlf.2 hf] at c2
    clear h hg hf hlf e f0 f1 f2 b1 b2
    go_enter Tryd.func17, Tryd.ntmps17
    go_wp2
    go_ret
    exact ⟨rfl, H.out.did (Turn.refl _ _)⟩
  · obtain ⟨L, hL⟩ : ∃ L, leftOf A = L := ⟨_, rfl⟩
    have hlt := leftOf_tick hg hf
    have hL0 : ¬ L = 0 := by rw [← hL]; exact fun e => hf (hlf.1 e)
    rw [hL] at c2 hlt b1 b2
    have HMEM : Hid (RefAt w r (.slice a ms.length c) ms A.room L) := hL ▸ h.mem
    have HF : Hid (¬ A.fails = true) := hf
    have HLT := hide hlt
    have hl200 := h.len hg
    clear h hg hf hlf hL hlt
    by_cases hp : 0 < L
    · obtain ⟨w1, hw1⟩ : ∃ w1, w1 = (w.setCell ⟨r, 2, none⟩ (.int .i64 (L - 1))) := ⟨_, rfl⟩
      have HR1 : Hid (Ref w1 r (.slice a ms.length c) ms A.tick) := hw1 ▸ (⟨by rw [tick_room]; exact (by rw [show leftOf A.tick = L - 1 by rw [HLT.out, if_pos hp]]; exact HMEM.out.setLeft (L - 1)), by rw [tick_files]; exact H.out.files⟩ : Ref (w.setCell ⟨r, 2, none⟩ (.int .i64 (L - 1))) r (.slice a ms.length c) ms A.tick)
      have HT1 : Hid (Turn [r] w w1) := by rw [hw1]; exact (Turn.refl [r] w).setCell (.inl (by simp)) _
      have HW1 := hide hw1
      clear HMEM HLT hw1
      go_enter Tryd.func17, Tryd.ntmps17
      go_wp2_with fail
      clear c0 c1 c2 f0 f1 f2
      rw [← HW1.out]
      clear HW1
      have HI := hide (at_any HR1.out.mem (by omega) nm)
      unfold idxI at HI
      have HLOW := hide H.out.mem.lt
      rcases hi : idxM ms nm with _ | k
      · have e : (A.remove nm) = (7, A.tick) := by
          have hff := idx_none hi
          unfold DA.remove
          rw [if_neg HF.out]
          rw [if_pos (by rw [findR_has H.out.files, hff]; rfl)]
        have HE := hide e
        rw [hi] at HI
        clear e hi
        refine HI.out.mono ?_
        rintro e w2 ⟨rfl, ht2⟩
        have HT2 := hide (HT1.out.trans ht2 (by simp))
        have HR2 := hide (HR1.out.still ht2)
        clear ht2 HI

        go_wp2
        go_ret
        rw [HE.out]
        exact ⟨rfl, HR2.out.did HT2.out⟩
      · obtain ⟨hk, hfd, hname⟩ := idx_some hi
        have e : A.remove nm = (0, { A.tick with files := outF A.files nm }) := by
          unfold DA.remove
          rw [if_neg HF.out, if_neg (by rw [findR_has H.out.files, hfd]; simp)]
        have HE := hide e
        rw [hi] at HI
        clear e hi hfd hname
        refine HI.out.mono ?_
        rintro e w2 ⟨rfl, ht2⟩
        have HT2 := hide (HT1.out.trans ht2 (by simp))
        have HR2 := hide (HR1.out.still ht2)
        clear ht2 HI

        obtain ⟨c0, c1, c2⟩ := HR2.out.mem.c
        obtain ⟨p, rfl, -⟩ := HR2.out.mem.three hk
        go_wp2_with fail
        refine (refRemove_any HR2.out.mem (by omega) nm).mono ?_
        rintro e w3 ⟨rfl, sv', hr3, ht3, hl3⟩
        have HR3 := hide hr3
        have HT3 := hide (HT2.out.same ht3)
        have HL3 := hide hl3
        have HS2 := hide HT2.out.size
        clear hr3 ht3 hl3
        go_wp2
        go_ret
        rw [HE.out]
        refine ⟨rfl, sv', outR ms nm, ⟨HR3.out, ?_⟩, HT3.out.mono (fun x hx => .inl (by simp at hx; subst hx; exact foot_r _ _ _)), ?_⟩
        · show outF A.files nm = _
          rw [H.out.files]; unfold outF outR; rw [List.filter_map]; rfl
        · intro j hj
          simp only [RFoot, List.mem_cons, List.mem_append, List.mem_flatMap] at hj ⊢
          rcases hj with rfl | hj | ⟨m, hm, hj⟩
          · exact .inl (.inl rfl)
          · have := HL3.out j (by simpa using hj); have := HS2.out; exact .inr (by omega)
          · exact .inl (.inr (.inr ⟨m, (List.mem_filter.1 hm).1, hj⟩))
    · obtain ⟨w1, hw1⟩ : ∃ w1, w1 = w := ⟨_, rfl⟩
      have HR1 : Hid (Ref w1 r (.slice a ms.length c) ms A.tick) := hw1 ▸ (⟨by rw [tick_room]; exact by rw [show leftOf A.tick = L by rw [HLT.out, if_neg hp]]; exact HMEM.out, by rw [tick_files]; exact H.out.files⟩ : Ref w r (.slice a ms.length c) ms A.tick)
      have HT1 : Hid (Turn [r] w w1) := by rw [hw1]; exact Turn.refl [r] w
      have HW1 := hide hw1
      clear HMEM HLT hw1
      go_enter Tryd.func17, Tryd.ntmps17
      go_wp2_with fail
      clear c0 c1 c2 f0 f1 f2
      rw [← HW1.out]
      clear HW1
      have HI := hide (at_any HR1.out.mem (by omega) nm)
      unfold idxI at HI
      have HLOW := hide H.out.mem.lt
      rcases hi : idxM ms nm with _ | k
      · have e : (A.remove nm) = (7, A.tick) := by
          have hff := idx_none hi
          unfold DA.remove
          rw [if_neg HF.out]
          rw [if_pos (by rw [findR_has H.out.files, hff]; rfl)]
        have HE := hide e
        rw [hi] at HI
        clear e hi
        refine HI.out.mono ?_
        rintro e w2 ⟨rfl, ht2⟩
        have HT2 := hide (HT1.out.trans ht2 (by simp))
        have HR2 := hide (HR1.out.still ht2)
        clear ht2 HI

        go_wp2
        go_ret
        rw [HE.out]
        exact ⟨rfl, HR2.out.did HT2.out⟩
      · obtain ⟨hk, hfd, hname⟩ := idx_some hi
        have e : A.remove nm = (0, { A.tick with files := outF A.files nm }) := by
          unfold DA.remove
          rw [if_neg HF.out, if_neg (by rw [findR_has H.out.files, hfd]; simp)]
        have HE := hide e
        rw [hi] at HI
        clear e hi hfd hname
        refine HI.out.mono ?_
        rintro e w2 ⟨rfl, ht2⟩
        have HT2 := hide (HT1.out.trans ht2 (by simp))
        have HR2 := hide (HR1.out.still ht2)
        clear ht2 HI

        obtain ⟨c0, c1, c2⟩ := HR2.out.mem.c
        obtain ⟨p, rfl, -⟩ := HR2.out.mem.three hk
        go_wp2_with fail
        refine (refRemove_any HR2.out.mem (by omega) nm).mono ?_
        rintro e w3 ⟨rfl, sv', hr3, ht3, hl3⟩
        have HR3 := hide hr3
        have HT3 := hide (HT2.out.same ht3)
        have HL3 := hide hl3
        have HS2 := hide HT2.out.size
        clear hr3 ht3 hl3
        go_wp2
        go_ret
        rw [HE.out]
        refine ⟨rfl, sv', outR ms nm, ⟨HR3.out, ?_⟩, HT3.out.mono (fun x hx => .inl (by simp at hx; subst hx; exact foot_r _ _ _)), ?_⟩
        · show outF A.files nm = _
          rw [H.out.files]; unfold outF outR; rw [List.filter_map]; rfl
        · intro j hj
          simp only [RFoot, List.mem_cons, List.mem_append, List.mem_flatMap] at hj ⊢
          rcases hj with rfl | hj | ⟨m, hm, hj⟩
          · exact .inl (.inl rfl)
          · have := HL3.out j (by simpa using hj); have := HS2.out; exact .inr (by omega)
          · exact .inl (.inr (.inr ⟨m, (List.mem_filter.1 hm).1, hj⟩))
end Go.Proofs.YtlcgcckllecjpaaDoor.Dk
