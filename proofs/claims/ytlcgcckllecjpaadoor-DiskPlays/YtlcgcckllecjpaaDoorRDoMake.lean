/- The document's disk: its six operations. -/
import Derived.Test.YtlcgcckllecjpaaDoorRAbs
namespace Go.Proofs.YtlcgcckllecjpaaDoor.Dk
open Go.RowKit Go.Maps
set_option maxRecDepth 100000
set_option linter.unusedSimpArgs false
set_option linter.unusedVariables false

set_option maxHeartbeats 8000000 in
theorem do_make {w : World} {r : Nat} {sv : Value} {ms : List RM} {A : DA} (h : Ref w r sv ms A) (hg : Good A) (nm to : List UInt8) (hnm : nm.length ≤ 1000000) (hto : to.length ≤ 1000000) (bv : Value) (n : Int) :
    Calls Tryd.prog 17 #[.pointer (some ⟨r, 0, none⟩), .string { data := #[109, 97, 107, 101] }, .string ⟨nm.toArray⟩, .string ⟨to.toArray⟩, bv, .int .i64 n] w fun e w' => e = .returned (.int .i64 (A.make ⟨nm.toArray⟩).1) ∧ RDid w w' r sv ms (A.make ⟨nm.toArray⟩).2 := by
  obtain ⟨a, c, rfl, hlc, hcm⟩ := h.mem.form
  have hmx : maxLen = 9223372036854775807 := by simp [maxLen]
  rw [hmx] at hcm
  have H := hide h
  have HGD := hide hg
  obtain ⟨c0, c1, c2⟩ := h.mem.c
  obtain ⟨f0, f1, f2⟩ := h.mem.f
  obtain ⟨b1, b2⟩ := leftOf_bound hg
  have hlf := leftOf_fails hg
  by_cases hf : A.fails = true
  · have e : (A.make ⟨nm.toArray⟩) = (14, A) := by unfold DA.make; rw [if_pos hf]
    rw [e]
    rw [hlf.2 hf] at c2
    clear h hg hf hlf e f0 f1 f2 b1 b2
    go_enter Tryd.func17, Tryd.ntmps17
    go_wp2
    go_ret
    exact ⟨rfl, H.out.did (Turn.refl _ _)⟩
  · obtain ⟨L, hL⟩ : ∃ L, leftOf A = L := ⟨_, rfl⟩
    have hlt := leftOf_tick hg hf
    have hL0 : ¬ L = 0 := by rw [← hL]; exact fun e => hf (hlf.1 e)
    rw [hL] at c2 hlt b1 b2
    have HMEM : Hid (RefAt w r (.slice a ms.length c) ms A.room L) := hL ▸ h.mem
    have HF : Hid (¬ A.fails = true) := hf
    have HLT := hide hlt
    have hl200 := h.len hg
    clear h hg hf hlf hL hlt
    by_cases hp : 0 < L
    · obtain ⟨w1, hw1⟩ : ∃ w1, w1 = (w.setCell ⟨r, 2, none⟩ (.int .i64 (L - 1))) := ⟨_, rfl⟩
      have HR1 : Hid (Ref w1 r (.slice a ms.length c) ms A.tick) := hw1 ▸ (⟨by rw [tick_room]; exact (by rw [show leftOf A.tick = L - 1 by rw [HLT.out, if_pos hp]]; exact HMEM.out.setLeft (L - 1)), by rw [tick_files]; exact H.out.files⟩ : Ref (w.setCell ⟨r, 2, none⟩ (.int .i64 (L - 1))) r (.slice a ms.length c) ms A.tick)
      have HT1 : Hid (Turn [r] w w1) := by rw [hw1]; exact (Turn.refl [r] w).setCell (.inl (by simp)) _
      have HW1 := hide hw1
      clear HMEM HLT hw1
      go_enter Tryd.func17, Tryd.ntmps17
      go_wp2_with fail
      clear c0 c1 c2 f0 f1 f2
      rw [← HW1.out]
      clear HW1
      have HI := hide (at_any HR1.out.mem (by omega) nm)
      unfold idxI at HI
      rcases hi : idxM ms nm with _ | k
      · have hhas : A.has nm = false := by rw [findR_has H.out.files, idx_none hi]; rfl
        rw [hi] at HI
        have HH := hide hhas
        clear hi hhas
        cases hnb : nameB ⟨nm.toArray⟩
        · have e : (A.make ⟨nm.toArray⟩) = (5, A.tick) := by unfold DA.make; rw [if_neg HF.out, if_pos (by rw [hnb]; rfl)]
          have HE := hide e
          clear e
          have HN := hide (fun w => refName_any ⟨nm.toArray⟩ w (by simp [ByteArray.size, maxLen]; omega))
          rw [hnb] at HN
          clear hnb
          refine HI.out.mono ?_
          rintro e w2 ⟨rfl, ht2⟩
          have HT2 := hide (HT1.out.trans ht2 (by simp))
          have HR2 := hide (HR1.out.still ht2)
          clear ht2 HI

          go_wp2_with fail
          refine (HN.out _).mono ?_
          rintro e w3 ⟨rfl, rfl⟩
          go_wp2
          go_ret
          rw [HE.out]
          exact ⟨rfl, HR2.out.did HT2.out⟩
        · have HN := hide (fun w => refName_any ⟨nm.toArray⟩ w (by simp [ByteArray.size, maxLen]; omega))
          rw [hnb] at HN
          by_cases hcnt : 200 ≤ ms.length
          · have e : (A.make ⟨nm.toArray⟩) = (4, A.tick) := by
              unfold DA.make
              rw [if_neg HF.out, if_neg (by rw [hnb]; simp), if_neg (by show ¬ A.has nm = true; rw [HH.out]; simp), if_pos (by rw [H.out.files, List.length_map]; exact hcnt)]
            have HE := hide e
            clear e hnb
            refine HI.out.mono ?_
            rintro e w2 ⟨rfl, ht2⟩
            have HT2 := hide (HT1.out.trans ht2 (by simp))
            have HR2 := hide (HR1.out.still ht2)
            clear ht2 HI

            obtain ⟨c0, c1, c2⟩ := HR2.out.mem.c
            go_wp2_with fail
            refine (HN.out _).mono ?_
            rintro e w3 ⟨rfl, rfl⟩
            go_wp2
            go_ret
            rw [HE.out]
            exact ⟨rfl, HR2.out.did HT2.out⟩
          · have e : (A.make ⟨nm.toArray⟩) = (0, { A.tick with files := A.files ++ [⟨nm, [], 0⟩] }) := by
              unfold DA.make
              rw [if_neg HF.out, if_neg (by rw [hnb]; simp), if_neg (by show ¬ A.has nm = true; rw [HH.out]; simp), if_neg (by rw [H.out.files, List.length_map]; exact hcnt)]
            have HE := hide e
            clear e hnb
            refine HI.out.mono ?_
            rintro e w2 ⟨rfl, ht2⟩
            have HT2 := hide (HT1.out.trans ht2 (by simp))
            have HR2 := hide (HR1.out.still ht2)
            clear ht2 HI

            obtain ⟨c0, c1, c2⟩ := HR2.out.mem.c
            have hself := HR2.out.mem.self
            have hrlt := lt_of_heap hself
            obtain ⟨v7, w7, hr7, hrow7, ht7, hown7⟩ := app_file (w2.alloc (.cells #[.string ⟨nm.toArray⟩, .slice none 0 0, .int .i64 0] 88)) 0 (.slice a ms.length c) ms ⟨⟨nm, [], 0⟩, none, 0⟩ w2.heap.size
              (HR2.out.mem.row.still ((Turn.refl [] w2).alloc _)) (heap_new w2 _) (by omega) (Nat.zero_le _)
            have hs1 := (((Turn.refl [] w2).alloc (.cells #[.string ⟨nm.toArray⟩, .slice none 0 0, .int .i64 0] 88)).heap hself (by simp))
            have hs7 := ht7.heap hs1 (fun hm => HR2.out.mem.rsv (by simpa using hm))
            have ht7' : Turn (Value.slice a ms.length c).ownBlock.toList w2 w7 := (((Turn.refl [] w2).alloc (.cells #[.string ⟨nm.toArray⟩, .slice none 0 0, .int .i64 0] 88)).mono (by simp)).same ht7
            have hrn : r ∉ v7.ownBlock := fun hk => (hown7 r hk).elim (fun h => HR2.out.mem.rsv h) (fun h => by simp at h; omega)
            have f0 : w7.frozen? ⟨r, 0, none⟩ = false := frozen_of hs7 0
            have c7 : w7.cell? ⟨r, 0, none⟩ = some (.slice a ms.length c) := by rw [cell_of hs7]; rfl
            obtain ⟨xa, xc, hxv, -, -⟩ := hrow7.form
            subst hxv
            rw [List.length_append, List.length_singleton] at hrow7 hr7 hown7 hrn
            have HR7 := hide hr7
            have HROW7 := hide hrow7
            have HOWN7 := hide hown7
            have HT7 := hide ht7'
            have HS7 := hide hs7
            have HRN := hide hrn
            clear hself hr7 hrow7 ht7 hown7 hs1 hs7 ht7' hrn
            go_wp2_with (first | (go_at_call 51; refine (HN.out _).mono ?_; rintro e w3 ⟨rfl, rfl⟩) | (at_builtin; go_must (refine wpList_append_told rfl rfl rfl rfl HR7.out ?_)))
            go_ret
            rw [HE.out]
            refine ⟨rfl, .slice xa (ms.length + 1) xc, ms ++ [⟨⟨nm, [], 0⟩, none, 0⟩], ⟨?_, ?_⟩, ?_, ?_⟩
            · show RefAt _ r _ _ A.tick.room (leftOf A.tick)
              refine RefAt.mkRow HS7.out HROW7.out HRN.out (fun m hm => ?_)
              rcases List.mem_append.1 hm with hm | hm
              · have he := HR2.out.mem.each m hm
                refine ⟨he.1.kept HT7.out (fun k hk _ => by simpa using (he.2 k hk).2.2), fun k hk => ⟨Nat.lt_of_lt_of_le (he.2 k hk).1 HT7.out.size, (he.2 k hk).2.1, fun h => ?_⟩⟩
                rcases HOWN7.out k h with h | h
                · exact (he.2 k hk).2.2 h
                · simp at h; have := (he.2 k hk).1; omega
              · simp only [List.mem_singleton] at hm
                subst hm
                exact ⟨⟨none, 0, rfl, Nat.le_refl _, Nat.zero_le _, fun _ => rfl, fun j hj => absurd hj (Nat.not_lt_zero _)⟩, fun k hk => by simp [RM.sl, Value.ownBlock] at hk⟩
            · show A.files ++ _ = _
              rw [H.out.files]; simp
            · refine (HT2.out.mono (fun x hx => .inl (by simp at hx; subst hx; exact foot_r _ _ _))).trans ((HT7.out.mono (T := RFoot r (.slice a ms.length c) ms) (fun x hx => .inl (foot_sv (by simpa using hx)))).setCell (.inl (foot_r _ _ _)) _) (fun x hx => .inl hx)
            · intro k hk
              simp only [RFoot, List.mem_cons, List.mem_append, List.mem_flatMap] at hk ⊢
              rcases hk with rfl | hk | ⟨m, hm, hk⟩
              · exact .inl (.inl rfl)
              · rcases HOWN7.out k (by simpa using hk) with h | h
                · exact .inl (.inr (.inl (by simpa using h)))
                · simp at h; have := HT2.out.size; exact .inr (by omega)
              · rcases hm with hm | hm
                · exact .inl (.inr (.inr ⟨m, hm, hk⟩))
                · have hm : m = ⟨⟨nm, [], 0⟩, none, 0⟩ := by simpa using hm
                  subst hm
                  simp [RM.sl, Value.ownBlock] at hk
      · have hhas : A.has nm = true := by rw [findR_has H.out.files]; obtain ⟨hk, hf, -⟩ := idx_some hi; rw [hf]; rfl
        rw [hi] at HI
        have HH := hide hhas
        clear hi hhas
        have HN := hide (fun w => refName_any ⟨nm.toArray⟩ w (by simp [ByteArray.size, maxLen]; omega))
        cases hnb : nameB ⟨nm.toArray⟩
        · have e : (A.make ⟨nm.toArray⟩) = (5, A.tick) := by unfold DA.make; rw [if_neg HF.out, if_pos (by rw [hnb]; rfl)]
          have HE := hide e
          rw [hnb] at HN
          clear e hnb
          refine HI.out.mono ?_
          rintro e w2 ⟨rfl, ht2⟩
          have HT2 := hide (HT1.out.trans ht2 (by simp))
          have HR2 := hide (HR1.out.still ht2)
          clear ht2 HI

          go_wp2_with fail
          refine (HN.out _).mono ?_
          rintro e w3 ⟨rfl, rfl⟩
          go_wp2
          go_ret
          rw [HE.out]
          exact ⟨rfl, HR2.out.did HT2.out⟩
        · have e : (A.make ⟨nm.toArray⟩) = (9, A.tick) := by
            unfold DA.make
            rw [if_neg HF.out, if_neg (by rw [hnb]; simp), if_pos (by show A.has nm = true; rw [HH.out])]
          have HE := hide e
          rw [hnb] at HN
          clear e hnb
          refine HI.out.mono ?_
          rintro e w2 ⟨rfl, ht2⟩
          have HT2 := hide (HT1.out.trans ht2 (by simp))
          have HR2 := hide (HR1.out.still ht2)
          clear ht2 HI

          go_wp2_with fail
          refine (HN.out _).mono ?_
          rintro e w3 ⟨rfl, rfl⟩
          go_wp2
          go_ret
          rw [HE.out]
          exact ⟨rfl, HR2.out.did HT2.out⟩
    · obtain ⟨w1, hw1⟩ : ∃ w1, w1 = w := ⟨_, rfl⟩
      have HR1 : Hid (Ref w1 r (.slice a ms.length c) ms A.tick) := hw1 ▸ (⟨by rw [tick_room]; exact by rw [show leftOf A.tick = L by rw [HLT.out, if_neg hp]]; exact HMEM.out, by rw [tick_files]; exact H.out.files⟩ : Ref w r (.slice a ms.length c) ms A.tick)
      have HT1 : Hid (Turn [r] w w1) := by rw [hw1]; exact Turn.refl [r] w
      have HW1 := hide hw1
      clear HMEM HLT hw1
      go_enter Tryd.func17, Tryd.ntmps17
      go_wp2_with fail
      clear c0 c1 c2 f0 f1 f2
      rw [← HW1.out]
      clear HW1
      have HI := hide (at_any HR1.out.mem (by omega) nm)
      unfold idxI at HI
      rcases hi : idxM ms nm with _ | k
      · have hhas : A.has nm = false := by rw [findR_has H.out.files, idx_none hi]; rfl
        rw [hi] at HI
        have HH := hide hhas
        clear hi hhas
        cases hnb : nameB ⟨nm.toArray⟩
        · have e : (A.make ⟨nm.toArray⟩) = (5, A.tick) := by unfold DA.make; rw [if_neg HF.out, if_pos (by rw [hnb]; rfl)]
          have HE := hide e
          clear e
          have HN := hide (fun w => refName_any ⟨nm.toArray⟩ w (by simp [ByteArray.size, maxLen]; omega))
          rw [hnb] at HN
          clear hnb
          refine HI.out.mono ?_
          rintro e w2 ⟨rfl, ht2⟩
          have HT2 := hide (HT1.out.trans ht2 (by simp))
          have HR2 := hide (HR1.out.still ht2)
          clear ht2 HI

          go_wp2_with fail
          refine (HN.out _).mono ?_
          rintro e w3 ⟨rfl, rfl⟩
          go_wp2
          go_ret
          rw [HE.out]
          exact ⟨rfl, HR2.out.did HT2.out⟩
        · have HN := hide (fun w => refName_any ⟨nm.toArray⟩ w (by simp [ByteArray.size, maxLen]; omega))
          rw [hnb] at HN
          by_cases hcnt : 200 ≤ ms.length
          · have e : (A.make ⟨nm.toArray⟩) = (4, A.tick) := by
              unfold DA.make
              rw [if_neg HF.out, if_neg (by rw [hnb]; simp), if_neg (by show ¬ A.has nm = true; rw [HH.out]; simp), if_pos (by rw [H.out.files, List.length_map]; exact hcnt)]
            have HE := hide e
            clear e hnb
            refine HI.out.mono ?_
            rintro e w2 ⟨rfl, ht2⟩
            have HT2 := hide (HT1.out.trans ht2 (by simp))
            have HR2 := hide (HR1.out.still ht2)
            clear ht2 HI

            obtain ⟨c0, c1, c2⟩ := HR2.out.mem.c
            go_wp2_with fail
            refine (HN.out _).mono ?_
            rintro e w3 ⟨rfl, rfl⟩
            go_wp2
            go_ret
            rw [HE.out]
            exact ⟨rfl, HR2.out.did HT2.out⟩
          · have e : (A.make ⟨nm.toArray⟩) = (0, { A.tick with files := A.files ++ [⟨nm, [], 0⟩] }) := by
              unfold DA.make
              rw [if_neg HF.out, if_neg (by rw [hnb]; simp), if_neg (by show ¬ A.has nm = true; rw [HH.out]; simp), if_neg (by rw [H.out.files, List.length_map]; exact hcnt)]
            have HE := hide e
            clear e hnb
            refine HI.out.mono ?_
            rintro e w2 ⟨rfl, ht2⟩
            have HT2 := hide (HT1.out.trans ht2 (by simp))
            have HR2 := hide (HR1.out.still ht2)
            clear ht2 HI

            obtain ⟨c0, c1, c2⟩ := HR2.out.mem.c
            have hself := HR2.out.mem.self
            have hrlt := lt_of_heap hself
            obtain ⟨v7, w7, hr7, hrow7, ht7, hown7⟩ := app_file (w2.alloc (.cells #[.string ⟨nm.toArray⟩, .slice none 0 0, .int .i64 0] 88)) 0 (.slice a ms.length c) ms ⟨⟨nm, [], 0⟩, none, 0⟩ w2.heap.size
              (HR2.out.mem.row.still ((Turn.refl [] w2).alloc _)) (heap_new w2 _) (by omega) (Nat.zero_le _)
            have hs1 := (((Turn.refl [] w2).alloc (.cells #[.string ⟨nm.toArray⟩, .slice none 0 0, .int .i64 0] 88)).heap hself (by simp))
            have hs7 := ht7.heap hs1 (fun hm => HR2.out.mem.rsv (by simpa using hm))
            have ht7' : Turn (Value.slice a ms.length c).ownBlock.toList w2 w7 := (((Turn.refl [] w2).alloc (.cells #[.string ⟨nm.toArray⟩, .slice none 0 0, .int .i64 0] 88)).mono (by simp)).same ht7
            have hrn : r ∉ v7.ownBlock := fun hk => (hown7 r hk).elim (fun h => HR2.out.mem.rsv h) (fun h => by simp at h; omega)
            have f0 : w7.frozen? ⟨r, 0, none⟩ = false := frozen_of hs7 0
            have c7 : w7.cell? ⟨r, 0, none⟩ = some (.slice a ms.length c) := by rw [cell_of hs7]; rfl
            obtain ⟨xa, xc, hxv, -, -⟩ := hrow7.form
            subst hxv
            rw [List.length_append, List.length_singleton] at hrow7 hr7 hown7 hrn
            have HR7 := hide hr7
            have HROW7 := hide hrow7
            have HOWN7 := hide hown7
            have HT7 := hide ht7'
            have HS7 := hide hs7
            have HRN := hide hrn
            clear hself hr7 hrow7 ht7 hown7 hs1 hs7 ht7' hrn
            go_wp2_with (first | (go_at_call 51; refine (HN.out _).mono ?_; rintro e w3 ⟨rfl, rfl⟩) | (at_builtin; go_must (refine wpList_append_told rfl rfl rfl rfl HR7.out ?_)))
            go_ret
            rw [HE.out]
            refine ⟨rfl, .slice xa (ms.length + 1) xc, ms ++ [⟨⟨nm, [], 0⟩, none, 0⟩], ⟨?_, ?_⟩, ?_, ?_⟩
            · show RefAt _ r _ _ A.tick.room (leftOf A.tick)
              refine RefAt.mkRow HS7.out HROW7.out HRN.out (fun m hm => ?_)
              rcases List.mem_append.1 hm with hm | hm
              · have he := HR2.out.mem.each m hm
                refine ⟨he.1.kept HT7.out (fun k hk _ => by simpa using (he.2 k hk).2.2), fun k hk => ⟨Nat.lt_of_lt_of_le (he.2 k hk).1 HT7.out.size, (he.2 k hk).2.1, fun h => ?_⟩⟩
                rcases HOWN7.out k h with h | h
                · exact (he.2 k hk).2.2 h
                · simp at h; have := (he.2 k hk).1; omega
              · simp only [List.mem_singleton] at hm
                subst hm
                exact ⟨⟨none, 0, rfl, Nat.le_refl _, Nat.zero_le _, fun _ => rfl, fun j hj => absurd hj (Nat.not_lt_zero _)⟩, fun k hk => by simp [RM.sl, Value.ownBlock] at hk⟩
            · show A.files ++ _ = _
              rw [H.out.files]; simp
            · refine (HT2.out.mono (fun x hx => .inl (by simp at hx; subst hx; exact foot_r _ _ _))).trans ((HT7.out.mono (T := RFoot r (.slice a ms.length c) ms) (fun x hx => .inl (foot_sv (by simpa using hx)))).setCell (.inl (foot_r _ _ _)) _) (fun x hx => .inl hx)
            · intro k hk
              simp only [RFoot, List.mem_cons, List.mem_append, List.mem_flatMap] at hk ⊢
              rcases hk with rfl | hk | ⟨m, hm, hk⟩
              · exact .inl (.inl rfl)
              · rcases HOWN7.out k (by simpa using hk) with h | h
                · exact .inl (.inr (.inl (by simpa using h)))
                · simp at h; have := HT2.out.size; exact .inr (by omega)
              · rcases hm with hm | hm
                · exact .inl (.inr (.inr ⟨m, hm, hk⟩))
                · have hm : m = ⟨⟨nm, [], 0⟩, none, 0⟩ := by simpa using hm
                  subst hm
                  simp [RM.sl, Value.ownBlock] at hk
      · have hhas : A.has nm = true := by rw [findR_has H.out.files]; obtain ⟨hk, hf, -⟩ := idx_some hi; rw [hf]; rfl
        rw [hi] at HI
        have HH := hide hhas
        clear hi hhas
        have HN := hide (fun w => refName_any ⟨nm.toArray⟩ w (by simp [ByteArray.size, maxLen]; omega))
        cases hnb : nameB ⟨nm.toArray⟩
        · have e : (A.make ⟨nm.toArray⟩) = (5, A.tick) := by unfold DA.make; rw [if_neg HF.out, if_pos (by rw [hnb]; rfl)]
          have HE := hide e
          rw [hnb] at HN
          clear e hnb
          refine HI.out.mono ?_
          rintro e w2 ⟨rfl, ht2⟩
          have HT2 := hide (HT1.out.trans ht2 (by simp))
          have HR2 := hide (HR1.out.still ht2)
          clear ht2 HI

          go_wp2_with fail
          refine (HN.out _).mono ?_
          rintro e w3 ⟨rfl, rfl⟩
          go_wp2
          go_ret
          rw [HE.out]
          exact ⟨rfl, HR2.out.did HT2.out⟩
        · have e : (A.make ⟨nm.toArray⟩) = (9, A.tick) := by
            unfold DA.make
            rw [if_neg HF.out, if_neg (by rw [hnb]; simp), if_pos (by show A.has nm = true; rw [HH.out])]
          have HE := hide e
          rw [hnb] at HN
          clear e hnb
          refine HI.out.mono ?_
          rintro e w2 ⟨rfl, ht2⟩
          have HT2 := hide (HT1.out.trans ht2 (by simp))
          have HR2 := hide (HR1.out.still ht2)
          clear ht2 HI

          go_wp2_with fail
          refine (HN.out _).mono ?_
          rintro e w3 ⟨rfl, rfl⟩
          go_wp2
          go_ret
          rw [HE.out]
          exact ⟨rfl, HR2.out.did HT2.out⟩
end Go.Proofs.YtlcgcckllecjpaaDoor.Dk
