/- The document's disk: its six operations. -/
import Derived.Test.YtlcgcckllecjpaaDoorRAbs
import Derived.Test.YtlcgcckllecjpaaDoorLoose
import Derived.Test.YtlcgcckllecjpaaDoorPutN
import Derived.Test.YtlcgcckllecjpaaDoorAppB
namespace Go.Proofs.YtlcgcckllecjpaaDoor.Dk
open Go.RowKit Go.Maps
set_option maxRecDepth 100000
set_option linter.unusedSimpArgs false
set_option linter.unusedVariables false

set_option maxHeartbeats 8000000 in
theorem do_make {w : World} {r : Nat} {sv : Value} {ms : List RM} {A : DA} (h : Ref w r sv ms A) (hg : Good A) (nm to : List UInt8) (hnm : nm.length ≤ 1000000) (hto : to.length ≤ 1000000) (bv : Value) (n : Int) :
    Calls Tryd.prog 17 #[.pointer (some ⟨r, 0, none⟩), .string { data := #[109, 97, 107, 101] }, .string ⟨nm.toArray⟩, .string ⟨to.toArray⟩, bv, .int .i64 n] w fun e w' => e = .returned (.int .i64 (A.make ⟨nm.toArray⟩).1) ∧ RDid w w' r sv ms (A.make ⟨nm.toArray⟩).2 := by
  obtain ⟨a, c, rfl, hlc, hcm⟩ := h.mem.form
  have hmx : maxLen = 9223372036854775807 := by simp [maxLen]
  rw [hmx] at hcm
  have H := hide h
  have HGD := hide hg
  obtain ⟨c0, c1, c2⟩ := h.mem.c
  obtain ⟨f0, f1, f2⟩ := h.mem.f
  obtain ⟨b1, b2⟩ := leftOf_bound hg
  have hlf := leftOf_fails hg
  by_cases hf : A.fails = true
  · have e : (A.make ⟨nm.toArray⟩) = (14, A) := by unfold DA.make; rw [if_pos hf]
    rw [e]
    rw [hlf.2 hf] at c2
    clear h hg hf hlf e f0 f1 f2 b1 b2
    go_enter Tryd.func17, Tryd.ntmps17
    go_wp2
    go_ret
    exact ⟨rfl, H.out.did (Turn.refl _ _)⟩
  · obtain ⟨L, hL⟩ : ∃ L, leftOf A = L := ⟨_, rfl⟩
    have hlt := leftOf_tick hg hf
    have hL0 : ¬ L = 0 := by rw [← hL]; exact fun e => hf (hlf.1 e)
    rw [hL] at c2 hlt b1 b2
    have HMEM : Hid (RefAt w r (.slice a ms.length c) ms A.room L) := hL ▸ h.mem
    have HF : Hid (¬ A.fails = true) := hf
    have HLT := hide hlt
    have hl200 := h.len hg
    clear h hg hf hlf hL hlt
    by_cases hp : 0 < L
    · obtain ⟨w1, hw1⟩ : ∃ w1, w1 = (w.setCell ⟨r, 2, none⟩ (.int .i64 (L - 1))) := ⟨_, rfl⟩
      have HR1 : Hid (Ref w1 r (.slice a ms.length c) ms A.tick) := hw1 ▸ (⟨by rw [tick_room]; exact (by rw [show leftOf A.tick = L - 1 by rw [HLT.out, if_pos hp]]; exact HMEM.out.setLeft (L - 1)), by rw [tick_files]; exact H.out.files⟩ : Ref (w.setCell ⟨r, 2, none⟩ (.int .i64 (L - 1))) r (.slice a ms.length c) ms A.tick)
      have HT1 : Hid (Turn [r] w w1) := by rw [hw1]; exact (Turn.refl [r] w).setCell (.inl (by simp)) _
      have HW1 := hide hw1
      clear HMEM HLT hw1
      go_enter Tryd.func17, Tryd.ntmps17
      go_wp2_with fail
      clear c0 c1 c2 f0 f1 f2
      rw [← HW1.out]
      clear HW1
      have HI := hide (at_any HR1.out.mem (by omega) nm)
      unfold idxI at HI
      rcases hi : idxM ms nm with _ | k
      · have hhas : A.has nm = false := by rw [findR_has H.out.files, idx_none hi]; rfl
        rw [hi] at HI
        have HH := hide hhas
        clear hi hhas
        cases hnb : nameB ⟨nm.toArray⟩
        · have e : (A.make ⟨nm.toArray⟩) = (5, A.tick) := by unfold DA.make; rw [if_neg HF.out, if_pos (by rw [hnb]; rfl)]
          have HE := hide e
          clear e
          have HN := hide (fun w => refName_any ⟨nm.toArray⟩ w (by simp [ByteArray.size, maxLen]; omega))
          rw [hnb] at HN
          clear hnb
          refine HI.out.mono ?_
          rintro e w2 ⟨rfl, ht2⟩
          have HT2 := hide (HT1.out.trans ht2 (by simp))
          have HR2 := hide (HR1.out.still ht2)
          clear ht2 HI

          go_wp2_with fail
          refine (HN.out _).mono ?_
          rintro e w3 ⟨rfl, rfl⟩
          go_wp2
          go_ret
          rw [HE.out]
          exact ⟨rfl, HR2.out.did HT2.out⟩
        · have HN := hide (fun w => refName_any ⟨nm.toArray⟩ w (by simp [ByteArray.size, maxLen]; omega))
          rw [hnb] at HN
          by_cases hcnt : 200 ≤ ms.length
          · have e : (A.make ⟨nm.toArray⟩) = (4, A.tick) := by
              unfold DA.make
              rw [if_neg HF.out, if_neg (by rw [hnb]; simp), if_neg (by show ¬ A.has nm = true; rw [HH.out]; simp), if_pos (by rw [H.out.files, List.length_map]; exact hcnt)]
            have HE := hide e
            clear e hnb
            refine HI.out.mono ?_
            rintro e w2 ⟨rfl, ht2⟩
            have HT2 := hide (HT1.out.trans ht2 (by simp))
            have HR2 := hide (HR1.out.still ht2)
            clear ht2 HI

            obtain ⟨c0, c1, c2⟩ := HR2.out.mem.c
            go_wp2_with fail
            refine (HN.out _).mono ?_
            rintro e w3 ⟨rfl, rfl⟩
            go_wp2
            go_ret
            rw [HE.out]
            exact ⟨rfl, HR2.out.did HT2.out⟩
          · have e : (A.make ⟨nm.toArray⟩) = (0, { A.tick with files := A.files ++ [⟨nm, [], 0⟩] }) := by
              unfold DA.make
              rw [if_neg HF.out, if_neg (by rw [hnb]; simp), if_neg (by show ¬ A.has nm = true; rw [HH.out]; simp), if_neg (by rw [H.out.files, List.length_map]; exact hcnt)]
            have HE := hide e
            clear e hnb
            refine HI.out.mono ?_
            rintro e w2 ⟨rfl, ht2⟩
            have HT2 := hide (HT1.out.trans ht2 (by simp))
            have HR2 := hide (HR1.out.still ht2)
            clear ht2 HI

            obtain ⟨c0, c1, c2⟩ := HR2.out.mem.c
            have hself := HR2.out.mem.self
            have hrlt := lt_of_heap hself
            obtain ⟨v7, w7, hr7, hrow7, ht7, hown7⟩ := app_file (w2.alloc (.cells #[.string ⟨nm.toArray⟩, .slice none 0 0, .int .i64 0] 88)) 0 (.slice a ms.length c) ms ⟨⟨nm, [], 0⟩, none, 0⟩ w2.heap.size
              (HR2.out.mem.row.still ((Turn.refl [] w2).alloc _)) (heap_new w2 _) (by omega) (Nat.zero_le _)
            have hs1 := (((Turn.refl [] w2).alloc (.cells #[.string ⟨nm.toArray⟩, .slice none 0 0, .int .i64 0] 88)).heap hself (by simp))
            have hs7 := ht7.heap hs1 (fun hm => HR2.out.mem.rsv (by simpa using hm))
            have ht7' : Turn (Value.slice a ms.length c).ownBlock.toList w2 w7 := (((Turn.refl [] w2).alloc (.cells #[.string ⟨nm.toArray⟩, .slice none 0 0, .int .i64 0] 88)).mono (by simp)).same ht7
            have hrn : r ∉ v7.ownBlock := fun hk => (hown7 r hk).elim (fun h => HR2.out.mem.rsv h) (fun h => by simp at h; omega)
            have f0 : w7.frozen? ⟨r, 0, none⟩ = false := frozen_of hs7 0
            have c7 : w7.cell? ⟨r, 0, none⟩ = some (.slice a ms.length c) := by rw [cell_of hs7]; rfl
            obtain ⟨xa, xc, hxv, -, -⟩ := hrow7.form
            subst hxv
            rw [List.length_append, List.length_singleton] at hrow7 hr7 hown7 hrn
            have HR7 := hide hr7
            have HROW7 := hide hrow7
            have HOWN7 := hide hown7
            have HT7 := hide ht7'
            have HS7 := hide hs7
            have HRN := hide hrn
            clear hself hr7 hrow7 ht7 hown7 hs1 hs7 ht7' hrn
            go_wp2_with (first | (go_at_call 51; refine (HN.out _).mono ?_; rintro e w3 ⟨rfl, rfl⟩) | (at_builtin; go_must (refine wpList_append_told rfl rfl rfl rfl HR7.out ?_)))
            go_ret
            rw [HE.out]
            refine ⟨rfl, .slice xa (ms.length + 1) xc, ms ++ [⟨⟨nm, [], 0⟩, none, 0⟩], ⟨?_, ?_⟩, ?_, ?_⟩
            · show RefAt _ r _ _ A.tick.room (leftOf A.tick)
              refine RefAt.mkRow HS7.out HROW7.out HRN.out (fun m hm => ?_)
              rcases List.mem_append.1 hm with hm | hm
              · have he := HR2.out.mem.each m hm
                refine ⟨he.1.kept HT7.out (fun k hk _ => by simpa using (he.2 k hk).2.2), fun k hk => ⟨Nat.lt_of_lt_of_le (he.2 k hk).1 HT7.out.size, (he.2 k hk).2.1, fun h => ?_⟩⟩
                rcases HOWN7.out k h with h | h
                · exact (he.2 k hk).2.2 h
                · simp at h; have := (he.2 k hk).1; omega
              · simp only [List.mem_singleton] at hm
                subst hm
                exact ⟨⟨none, 0, rfl, Nat.le_refl _, Nat.zero_le _, fun _ => rfl, fun j hj => absurd hj (Nat.not_lt_zero _)⟩, fun k hk => by simp [RM.sl, Value.ownBlock] at hk⟩
            · show A.files ++ _ = _
              rw [H.out.files]; simp
            · refine (HT2.out.mono (fun x hx => .inl (by simp at hx; subst hx; exact foot_r _ _ _))).trans ((HT7.out.mono (T := RFoot r (.slice a ms.length c) ms) (fun x hx => .inl (foot_sv (by simpa using hx)))).setCell (.inl (foot_r _ _ _)) _) (fun x hx => .inl hx)
            · intro k hk
              simp only [RFoot, List.mem_cons, List.mem_append, List.mem_flatMap] at hk ⊢
              rcases hk with rfl | hk | ⟨m, hm, hk⟩
              · exact .inl (.inl rfl)
              · rcases HOWN7.out k (by simpa using hk) with h | h
                · exact .inl (.inr (.inl (by simpa using h)))
                · simp at h; have := HT2.out.size; exact .inr (by omega)
              · rcases hm with hm | hm
                · exact .inl (.inr (.inr ⟨m, hm, hk⟩))
                · have hm : m = ⟨⟨nm, [], 0⟩, none, 0⟩ := by simpa using hm
                  subst hm
                  simp [RM.sl, Value.ownBlock] at hk
      · have hhas : A.has nm = true := by rw [findR_has H.out.files]; obtain ⟨hk, hf, -⟩ := idx_some hi; rw [hf]; rfl
        rw [hi] at HI
        have HH := hide hhas
        clear hi hhas
        have HN := hide (fun w => refName_any ⟨nm.toArray⟩ w (by simp [ByteArray.size, maxLen]; omega))
        cases hnb : nameB ⟨nm.toArray⟩
        · have e : (A.make ⟨nm.toArray⟩) = (5, A.tick) := by unfold DA.make; rw [if_neg HF.out, if_pos (by rw [hnb]; rfl)]
          have HE := hide e
          rw [hnb] at HN
          clear e hnb
          refine HI.out.mono ?_
          rintro e w2 ⟨rfl, ht2⟩
          have HT2 := hide (HT1.out.trans ht2 (by simp))
          have HR2 := hide (HR1.out.still ht2)
          clear ht2 HI

          go_wp2_with fail
          refine (HN.out _).mono ?_
          rintro e w3 ⟨rfl, rfl⟩
          go_wp2
          go_ret
          rw [HE.out]
          exact ⟨rfl, HR2.out.did HT2.out⟩
        · have e : (A.make ⟨nm.toArray⟩) = (9, A.tick) := by
            unfold DA.make
            rw [if_neg HF.out, if_neg (by rw [hnb]; simp), if_pos (by show A.has nm = true; rw [HH.out])]
          have HE := hide e
          rw [hnb] at HN
          clear e hnb
          refine HI.out.mono ?_
          rintro e w2 ⟨rfl, ht2⟩
          have HT2 := hide (HT1.out.trans ht2 (by simp))
          have HR2 := hide (HR1.out.still ht2)
          clear ht2 HI

          go_wp2_with fail
          refine (HN.out _).mono ?_
          rintro e w3 ⟨rfl, rfl⟩
          go_wp2
          go_ret
          rw [HE.out]
          exact ⟨rfl, HR2.out.did HT2.out⟩
    · obtain ⟨w1, hw1⟩ : ∃ w1, w1 = w := ⟨_, rfl⟩
      have HR1 : Hid (Ref w1 r (.slice a ms.length c) ms A.tick) := hw1 ▸ (⟨by rw [tick_room]; exact by rw [show leftOf A.tick = L by rw [HLT.out, if_neg hp]]; exact HMEM.out, by rw [tick_files]; exact H.out.files⟩ : Ref w r (.slice a ms.length c) ms A.tick)
      have HT1 : Hid (Turn [r] w w1) := by rw [hw1]; exact Turn.refl [r] w
      have HW1 := hide hw1
      clear HMEM HLT hw1
      go_enter Tryd.func17, Tryd.ntmps17
      go_wp2_with fail
      clear c0 c1 c2 f0 f1 f2
      rw [← HW1.out]
      clear HW1
      have HI := hide (at_any HR1.out.mem (by omega) nm)
      unfold idxI at HI
      rcases hi : idxM ms nm with _ | k
      · have hhas : A.has nm = false := by rw [findR_has H.out.files, idx_none hi]; rfl
        rw [hi] at HI
        have HH := hide hhas
        clear hi hhas
        cases hnb : nameB ⟨nm.toArray⟩
        · have e : (A.make ⟨nm.toArray⟩) = (5, A.tick) := by unfold DA.make; rw [if_neg HF.out, if_pos (by rw [hnb]; rfl)]
          have HE := hide e
          clear e
          have HN := hide (fun w => refName_any ⟨nm.toArray⟩ w (by simp [ByteArray.size, maxLen]; omega))
          rw [hnb] at HN
          clear hnb
          refine HI.out.mono ?_
          rintro e w2 ⟨rfl, ht2⟩
          have HT2 := hide (HT1.out.trans ht2 (by simp))
          have HR2 := hide (HR1.out.still ht2)
          clear ht2 HI

          go_wp2_with fail
          refine (HN.out _).mono ?_
          rintro e w3 ⟨rfl, rfl⟩
          go_wp2
          go_ret
          rw [HE.out]
          exact ⟨rfl, HR2.out.did HT2.out⟩
        · have HN := hide (fun w => refName_any ⟨nm.toArray⟩ w (by simp [ByteArray.size, maxLen]; omega))
          rw [hnb] at HN
          by_cases hcnt : 200 ≤ ms.length
          · have e : (A.make ⟨nm.toArray⟩) = (4, A.tick) := by
              unfold DA.make
              rw [if_neg HF.out, if_neg (by rw [hnb]; simp), if_neg (by show ¬ A.has nm = true; rw [HH.out]; simp), if_pos (by rw [H.out.files, List.length_map]; exact hcnt)]
            have HE := hide e
            clear e hnb
            refine HI.out.mono ?_
            rintro e w2 ⟨rfl, ht2⟩
            have HT2 := hide (HT1.out.trans ht2 (by simp))
            have HR2 := hide (HR1.out.still ht2)
            clear ht2 HI

            obtain ⟨c0, c1, c2⟩ := HR2.out.mem.c
            go_wp2_with fail
            refine (HN.out _).mono ?_
            rintro e w3 ⟨rfl, rfl⟩
            go_wp2
            go_ret
            rw [HE.out]
            exact ⟨rfl, HR2.out.did HT2.out⟩
          · have e : (A.make ⟨nm.toArray⟩) = (0, { A.tick with files := A.files ++ [⟨nm, [], 0⟩] }) := by
              unfold DA.make
              rw [if_neg HF.out, if_neg (by rw [hnb]; simp), if_neg (by show ¬ A.has nm = true; rw [HH.out]; simp), if_neg (by rw [H.out.files, List.length_map]; exact hcnt)]
            have HE := hide e
            clear e hnb
            refine HI.out.mono ?_
            rintro e w2 ⟨rfl, ht2⟩
            have HT2 := hide (HT1.out.trans ht2 (by simp))
            have HR2 := hide (HR1.out.still ht2)
            clear ht2 HI

            obtain ⟨c0, c1, c2⟩ := HR2.out.mem.c
            have hself := HR2.out.mem.self
            have hrlt := lt_of_heap hself
            obtain ⟨v7, w7, hr7, hrow7, ht7, hown7⟩ := app_file (w2.alloc (.cells #[.string ⟨nm.toArray⟩, .slice none 0 0, .int .i64 0] 88)) 0 (.slice a ms.length c) ms ⟨⟨nm, [], 0⟩, none, 0⟩ w2.heap.size
              (HR2.out.mem.row.still ((Turn.refl [] w2).alloc _)) (heap_new w2 _) (by omega) (Nat.zero_le _)
            have hs1 := (((Turn.refl [] w2).alloc (.cells #[.string ⟨nm.toArray⟩, .slice none 0 0, .int .i64 0] 88)).heap hself (by simp))
            have hs7 := ht7.heap hs1 (fun hm => HR2.out.mem.rsv (by simpa using hm))
            have ht7' : Turn (Value.slice a ms.length c).ownBlock.toList w2 w7 := (((Turn.refl [] w2).alloc (.cells #[.string ⟨nm.toArray⟩, .slice none 0 0, .int .i64 0] 88)).mono (by simp)).same ht7
            have hrn : r ∉ v7.ownBlock := fun hk => (hown7 r hk).elim (fun h => HR2.out.mem.rsv h) (fun h => by simp at h; omega)
            have f0 : w7.frozen? ⟨r, 0, none⟩ = false := frozen_of hs7 0
            have c7 : w7.cell? ⟨r, 0, none⟩ = some (.slice a ms.length c) := by rw [cell_of hs7]; rfl
            obtain ⟨xa, xc, hxv, -, -⟩ := hrow7.form
            subst hxv
            rw [List.length_append, List.length_singleton] at hrow7 hr7 hown7 hrn
            have HR7 := hide hr7
            have HROW7 := hide hrow7
            have HOWN7 := hide hown7
            have HT7 := hide ht7'
            have HS7 := hide hs7
            have HRN := hide hrn
            clear hself hr7 hrow7 ht7 hown7 hs1 hs7 ht7' hrn
            go_wp2_with (first | (go_at_call 51; refine (HN.out _).mono ?_; rintro e w3 ⟨rfl, rfl⟩) | (at_builtin; go_must (refine wpList_append_told rfl rfl rfl rfl HR7.out ?_)))
            go_ret
            rw [HE.out]
            refine ⟨rfl, .slice xa (ms.length + 1) xc, ms ++ [⟨⟨nm, [], 0⟩, none, 0⟩], ⟨?_, ?_⟩, ?_, ?_⟩
            · show RefAt _ r _ _ A.tick.room (leftOf A.tick)
              refine RefAt.mkRow HS7.out HROW7.out HRN.out (fun m hm => ?_)
              rcases List.mem_append.1 hm with hm | hm
              · have he := HR2.out.mem.each m hm
                refine ⟨he.1.kept HT7.out (fun k hk _ => by simpa using (he.2 k hk).2.2), fun k hk => ⟨Nat.lt_of_lt_of_le (he.2 k hk).1 HT7.out.size, (he.2 k hk).2.1, fun h => ?_⟩⟩
                rcases HOWN7.out k h with h | h
                · exact (he.2 k hk).2.2 h
                · simp at h; have := (he.2 k hk).1; omega
              · simp only [List.mem_singleton] at hm
                subst hm
                exact ⟨⟨none, 0, rfl, Nat.le_refl _, Nat.zero_le _, fun _ => rfl, fun j hj => absurd hj (Nat.not_lt_zero _)⟩, fun k hk => by simp [RM.sl, Value.ownBlock] at hk⟩
            · show A.files ++ _ = _
              rw [H.out.files]; simp
            · refine (HT2.out.mono (fun x hx => .inl (by simp at hx; subst hx; exact foot_r _ _ _))).trans ((HT7.out.mono (T := RFoot r (.slice a ms.length c) ms) (fun x hx => .inl (foot_sv (by simpa using hx)))).setCell (.inl (foot_r _ _ _)) _) (fun x hx => .inl hx)
            · intro k hk
              simp only [RFoot, List.mem_cons, List.mem_append, List.mem_flatMap] at hk ⊢
              rcases hk with rfl | hk | ⟨m, hm, hk⟩
              · exact .inl (.inl rfl)
              · rcases HOWN7.out k (by simpa using hk) with h | h
                · exact .inl (.inr (.inl (by simpa using h)))
                · simp at h; have := HT2.out.size; exact .inr (by omega)
              · rcases hm with hm | hm
                · exact .inl (.inr (.inr ⟨m, hm, hk⟩))
                · have hm : m = ⟨⟨nm, [], 0⟩, none, 0⟩ := by simpa using hm
                  subst hm
                  simp [RM.sl, Value.ownBlock] at hk
      · have hhas : A.has nm = true := by rw [findR_has H.out.files]; obtain ⟨hk, hf, -⟩ := idx_some hi; rw [hf]; rfl
        rw [hi] at HI
        have HH := hide hhas
        clear hi hhas
        have HN := hide (fun w => refName_any ⟨nm.toArray⟩ w (by simp [ByteArray.size, maxLen]; omega))
        cases hnb : nameB ⟨nm.toArray⟩
        · have e : (A.make ⟨nm.toArray⟩) = (5, A.tick) := by unfold DA.make; rw [if_neg HF.out, if_pos (by rw [hnb]; rfl)]
          have HE := hide e
          rw [hnb] at HN
          clear e hnb
          refine HI.out.mono ?_
          rintro e w2 ⟨rfl, ht2⟩
          have HT2 := hide (HT1.out.trans ht2 (by simp))
          have HR2 := hide (HR1.out.still ht2)
          clear ht2 HI

          go_wp2_with fail
          refine (HN.out _).mono ?_
          rintro e w3 ⟨rfl, rfl⟩
          go_wp2
          go_ret
          rw [HE.out]
          exact ⟨rfl, HR2.out.did HT2.out⟩
        · have e : (A.make ⟨nm.toArray⟩) = (9, A.tick) := by
            unfold DA.make
            rw [if_neg HF.out, if_neg (by rw [hnb]; simp), if_pos (by show A.has nm = true; rw [HH.out])]
          have HE := hide e
          rw [hnb] at HN
          clear e hnb
          refine HI.out.mono ?_
          rintro e w2 ⟨rfl, ht2⟩
          have HT2 := hide (HT1.out.trans ht2 (by simp))
          have HR2 := hide (HR1.out.still ht2)
          clear ht2 HI

          go_wp2_with fail
          refine (HN.out _).mono ?_
          rintro e w3 ⟨rfl, rfl⟩
          go_wp2
          go_ret
          rw [HE.out]
          exact ⟨rfl, HR2.out.did HT2.out⟩

set_option maxHeartbeats 8000000 in
theorem do_add {w : World} {r : Nat} {sv : Value} {ms : List RM} {A : DA} (h : Ref w r sv ms A) (hg : Good A) (nm to : List UInt8) (hnm : nm.length ≤ 1000000) (hto : to.length ≤ 1000000) (bv : Value) (n : Int) (bs : List UInt8) (HB : Hid (∀ Z, Turn (RFoot r sv ms) w Z → BytesAt Z bv bs)) (hbl : bs.length ≤ 1000000000) :
    Calls Tryd.prog 17 #[.pointer (some ⟨r, 0, none⟩), .string { data := #[97, 100, 100] }, .string ⟨nm.toArray⟩, .string ⟨to.toArray⟩, bv, .int .i64 n] w fun e w' => e = .returned (.int .i64 (A.add nm bs).1) ∧ RDid w w' r sv ms (A.add nm bs).2 := by
  obtain ⟨a, c, rfl, hlc, hcm⟩ := h.mem.form
  have hmx : maxLen = 9223372036854775807 := by simp [maxLen]
  rw [hmx] at hcm
  have H := hide h
  have HGD := hide hg
  obtain ⟨c0, c1, c2⟩ := h.mem.c
  obtain ⟨f0, f1, f2⟩ := h.mem.f
  obtain ⟨b1, b2⟩ := leftOf_bound hg
  have hlf := leftOf_fails hg
  by_cases hf : A.fails = true
  · have e : (A.add nm bs) = (14, A) := by unfold DA.add; rw [if_pos hf]
    rw [e]
    rw [hlf.2 hf] at c2
    clear h hg hf hlf e f0 f1 f2 b1 b2
    go_enter Tryd.func17, Tryd.ntmps17
    go_wp2
    go_ret
    exact ⟨rfl, H.out.did (Turn.refl _ _)⟩
  · obtain ⟨L, hL⟩ : ∃ L, leftOf A = L := ⟨_, rfl⟩
    have hlt := leftOf_tick hg hf
    have hL0 : ¬ L = 0 := by rw [← hL]; exact fun e => hf (hlf.1 e)
    rw [hL] at c2 hlt b1 b2
    have HMEM : Hid (RefAt w r (.slice a ms.length c) ms A.room L) := hL ▸ h.mem
    have HF : Hid (¬ A.fails = true) := hf
    have HLT := hide hlt
    have hl200 := h.len hg
    clear h hg hf hlf hL hlt
    by_cases hp : 0 < L
    · obtain ⟨w1, hw1⟩ : ∃ w1, w1 = (w.setCell ⟨r, 2, none⟩ (.int .i64 (L - 1))) := ⟨_, rfl⟩
      have HR1 : Hid (Ref w1 r (.slice a ms.length c) ms A.tick) := hw1 ▸ (⟨by rw [tick_room]; exact (by rw [show leftOf A.tick = L - 1 by rw [HLT.out, if_pos hp]]; exact HMEM.out.setLeft (L - 1)), by rw [tick_files]; exact H.out.files⟩ : Ref (w.setCell ⟨r, 2, none⟩ (.int .i64 (L - 1))) r (.slice a ms.length c) ms A.tick)
      have HT1 : Hid (Turn [r] w w1) := by rw [hw1]; exact (Turn.refl [r] w).setCell (.inl (by simp)) _
      have HW1 := hide hw1
      clear HMEM HLT hw1
      go_enter Tryd.func17, Tryd.ntmps17
      go_wp2_with fail
      clear c0 c1 c2 f0 f1 f2
      rw [← HW1.out]
      clear HW1
      have HI := hide (at_any HR1.out.mem (by omega) nm)
      unfold idxI at HI
      rcases hi : idxM ms nm with _ | k
      · have e : (A.add nm bs) = (7, A.tick) := by
          have hff := idx_none hi
          unfold DA.add
          rw [if_neg HF.out]
          rw [if_pos (by rw [findR_has H.out.files, hff]; rfl)]
        have HE := hide e
        rw [hi] at HI
        clear e hi
        refine HI.out.mono ?_
        rintro e w2 ⟨rfl, ht2⟩
        have HT2 := hide (HT1.out.trans ht2 (by simp))
        have HR2 := hide (HR1.out.still ht2)
        clear ht2 HI

        go_wp2
        go_ret
        rw [HE.out]
        exact ⟨rfl, HR2.out.did HT2.out⟩
      · obtain ⟨hk, hfd, hname⟩ := idx_some hi
        have hhas : A.has nm = true := by rw [findR_has H.out.files, hfd]; rfl
        have HNM := hide hname
        rw [hi] at HI
        by_cases hbig : A.room < usedR ms + bs.length
        · have e : A.add nm bs = (12, A.tick) := by
            unfold DA.add
            rw [if_neg HF.out, if_neg (by rw [hhas]; simp), if_pos (by rw [H.out.files]; exact hbig)]
          have HE := hide e
          have hd : decide ((A.room : Int) < (usedR ms : Int) + bs.length) = true := by simp; omega
          clear e hi hfd hname hhas
          refine HI.out.mono ?_
          rintro e w2 ⟨rfl, ht2⟩
          have HT2 := hide (HT1.out.trans ht2 (by simp))
          have HR2 := hide (HR1.out.still ht2)
          clear ht2 HI
          obtain ⟨c0, c1, c2⟩ := HR2.out.mem.c
          obtain ⟨p, rfl, g0, g1, g2, q, d, hq, hqd, hdm⟩ := HR2.out.mem.three hk
          have g1' : w2.cell? ⟨(p.add (k * 3)).block, (p.add (k * 3)).off + 1, none⟩ = some (.slice ms[k].a ms[k].abs.bytes.length ms[k].c) := by rw [g1]; rfl
          have e1 := hq
          simp only [RM.sl, Value.slice.injEq] at e1
          obtain ⟨rfl, -, rfl⟩ := e1
          clear g1 hq
          have fz1 := HR2.out.mem.frz hk 1
          have fz2 := HR2.out.mem.frz hk 2
          have hone := H.out.one HGD.out _ (List.getElem_mem hk)
          have hsafe := HGD.out.safe _ (by rw [H.out.files]; exact List.mem_map.2 ⟨_, List.getElem_mem hk, rfl⟩)
          have HNOD := hide (H.out.names HGD.out)
          have HLOW := hide H.out.mem.lt
          have HEACH := hide (HR2.out.mem.each _ (List.getElem_mem hk)).1
          obtain ⟨m, hm⟩ : ∃ m, m = ms[k] := ⟨_, rfl⟩
          rw [← hm] at g0 g1' g2 hqd hdm hone hsafe HEACH
          have HM := hide hm
          clear hm

          have hbb := HB.out w2 (HT2.out.mono (fun x hx => .inl (by simp at hx; subst hx; exact foot_r _ _ _)))
          obtain ⟨ab, cb, rfl, hb1, hb2, -⟩ := hbb.form
          clear hbb
          have hus := HR2.out.mem
          have HUS := hide (fun Z (hZ : Turn [] w2 Z) => refUsed_any (hus.still hZ) (by omega) (H.out.used HGD.out))
          have hub := H.out.used HGD.out
          have hrm := HGD.out.room
          have HC1 := hide (fun Z (hZ : Turn [] w2 Z) => (hus.still hZ).c)
          rw [tick_room] at HC1
          clear hus c1 c2 g0 g1' g2 fz1 fz2
          go_wp2
          clear c0
          refine wp_region_loose (Turn []) (by kernel_rfl) (by kernel_rfl) (by kernel_rfl) (by kernel_rfl) rfl (Turn.refl _) (fun _ _ _ h k => h.same k) ?_
          apply Lo.runx 1 rfl rfl [] (by kernel_rfl) (Turn.refl _)
          apply Exists.intro; apply And.intro
          · intro u w1 hR hF
            clear hF
            refine ⟨rfl, fun a ha K hK => ?_⟩
            have e0 := ha 0
            conv at e0 => rhs; whnf
            clear ha
            go_simp
            refine hK _ ?_; rfl
          refine Lo.run 2 rfl rfl [0] (fun x w' => x = .int .i64 (usedR ms : Nat)) (by kernel_rfl) (fun x w w' h hR => ?_) (fun _ _ h => h) (fun u w1 hR hF => ?_) ?_
          · exact h
          · obtain ⟨h0, -⟩ := hF
            refine ⟨rfl, fun a ha K hK => ?_⟩
            have e74 := (ha 74).trans h0
            clear ha h0
            go_simp
            refine (HUS.out w1 (((Turn.refl [] _).drew).same hR)).mono ?_
            rintro e w5 ⟨rfl, ht5⟩
            exact hK _ _ rfl ht5
          apply Lo.runx 3 rfl rfl [] (by kernel_rfl) (Turn.refl _)
          apply Exists.intro; apply And.intro
          · intro u w1 hR hF
            clear hF
            refine ⟨rfl, fun a ha K hK => ?_⟩
            have e4 := ha 4
            conv at e4 => rhs; whnf
            clear ha
            go_simp
            refine hK _ ?_; rfl
          apply Lo.runx 4 rfl rfl [2] (by kernel_rfl) (Turn.refl _)
          apply Exists.intro; apply And.intro
          · intro u w1 hR hF
            obtain ⟨h2, -⟩ := hF
            refine ⟨rfl, fun a ha K hK => ?_⟩
            have e76 := (ha 76).trans h2
            clear ha h2
            go_simp
            refine hK _ ?_; rfl
          apply Lo.runx 5 rfl rfl [1, 3] (by kernel_rfl) (Turn.refl _)
          apply Exists.intro; apply And.intro
          · intro u w1 hR hF
            obtain ⟨h1, h3, -⟩ := hF
            refine ⟨rfl, fun a ha K hK => ?_⟩
            have e75 : a.tmps.getD 75 undef = u 1 := ha 75
            have e77 := (ha 77).trans h3
            have h1 := (show (fun x w' => x = .int .i64 (usedR ms : Nat)) (u 1) w1 from h1)
            dsimp only at h1
            clear ha h3
            go_simp
            refine hK _ ?_; rfl
          apply Lo.runx 6 rfl rfl [] (by kernel_rfl) (Turn.refl _)
          apply Exists.intro; apply And.intro
          · intro u w1 hR hF
            clear hF
            refine ⟨rfl, fun a ha K hK => ?_⟩
            have e0 := ha 0
            conv at e0 => rhs; whnf
            clear ha
            go_simp
            refine hK _ ?_; rfl
          apply Lo.runx 7 rfl rfl [5] (by kernel_rfl) (Turn.refl _)
          apply Exists.intro; apply And.intro
          · intro u w1 hR hF
            obtain ⟨h5, -⟩ := hF
            refine ⟨rfl, fun a ha K hK => ?_⟩
            have e79 := (ha 79).trans h5
            clear ha h5
            go_simp
            refine hK _ ?_; rfl
          apply Lo.runx 8 rfl rfl [6] (by kernel_rfl) (Turn.refl _)
          apply Exists.intro; apply And.intro
          · intro u w1 hR hF
            obtain ⟨h6, -⟩ := hF
            refine ⟨rfl, fun a ha K hK => ?_⟩
            have e80 := (ha 80).trans h6
            clear ha h6
            go_simp
            refine hK _ ?_; rfl
          apply Lo.runx 9 rfl rfl [7] (by kernel_rfl) (Turn.refl _)
          apply Exists.intro; apply And.intro
          · intro u w1 hR hF
            obtain ⟨h7, -⟩ := hF
            refine ⟨rfl, fun a ha K hK => ?_⟩
            have e81 := (ha 81).trans h7
            clear ha h7
            obtain ⟨c0, c1, c2⟩ := HC1.out w1 (((Turn.refl [] _).drew).same hR)
            go_simp
            refine hK _ ?_; rfl
          refine Lo.runv 10 rfl rfl [4, 8] (.bool (true)) (by kernel_rfl) (fun u w1 hR hF => ?_) (Turn.refl _) ?_
          · obtain ⟨h4, h8, -⟩ := hF
            refine ⟨rfl, fun a ha K hK => ?_⟩
            have e78 := (ha 78).trans h4
            have e82 := (ha 82).trans h8
            clear ha h4 h8
            go_simp
            refine hK _ ?_
            rw [IntWalk.i64_left, IntWalk.wrap64_in _ (by omega)]
            simp; omega
          refine Lo.done [9] (fun u w1 hRd hSd hF => ?_)
          clear hSd
          obtain ⟨f9, -⟩ := hF
          have d9 : u 9 = _ := f9
          clear f9
          simp only [putFrom, Act.put, List.setIfInBounds_toArray, List.set_cons_succ, List.set_cons_zero, Nat.zero_add, Nat.reduceAdd, d9]
          go_wp2
          go_ret
          rw [HE.out]
          exact ⟨rfl, (HR2.out.still (((Turn.refl [] _).drew).same hRd)).did (HT2.out.trans (((Turn.refl [] _).drew).same hRd) (by simp))⟩
        · have e : A.add nm bs = (0, A.tick.upd nm (fun f => { f with bytes := f.bytes ++ bs })) := by
            unfold DA.add
            rw [if_neg HF.out, if_neg (by rw [hhas]; simp), if_neg (by rw [H.out.files]; exact hbig)]
          have HE := hide e
          have hlen2 := Ref.one H.out HGD.out _ (List.getElem_mem hk)
          clear e hi hfd hname hhas hlen2
          refine HI.out.mono ?_
          rintro e w2 ⟨rfl, ht2⟩
          have HT2 := hide (HT1.out.trans ht2 (by simp))
          have HR2 := hide (HR1.out.still ht2)
          clear ht2 HI
          obtain ⟨c0, c1, c2⟩ := HR2.out.mem.c
          obtain ⟨p, rfl, g0, g1, g2, q, d, hq, hqd, hdm⟩ := HR2.out.mem.three hk
          have g1' : w2.cell? ⟨(p.add (k * 3)).block, (p.add (k * 3)).off + 1, none⟩ = some (.slice ms[k].a ms[k].abs.bytes.length ms[k].c) := by rw [g1]; rfl
          have e1 := hq
          simp only [RM.sl, Value.slice.injEq] at e1
          obtain ⟨rfl, -, rfl⟩ := e1
          clear g1 hq
          have fz1 := HR2.out.mem.frz hk 1
          have fz2 := HR2.out.mem.frz hk 2
          have hone := H.out.one HGD.out _ (List.getElem_mem hk)
          have hsafe := HGD.out.safe _ (by rw [H.out.files]; exact List.mem_map.2 ⟨_, List.getElem_mem hk, rfl⟩)
          have HNOD := hide (H.out.names HGD.out)
          have HLOW := hide H.out.mem.lt
          have HEACH := hide (HR2.out.mem.each _ (List.getElem_mem hk)).1
          obtain ⟨m, hm⟩ : ∃ m, m = ms[k] := ⟨_, rfl⟩
          rw [← hm] at g0 g1' g2 hqd hdm hone hsafe HEACH
          have HM := hide hm
          clear hm

          have hbb := HB.out w2 (HT2.out.mono (fun x hx => .inl (by simp at hx; subst hx; exact foot_r _ _ _)))
          obtain ⟨ab, cb, rfl, hb1, hb2, -⟩ := hbb.form
          have HBB := hide hbb
          clear hbb
          have hus := HR2.out.mem
          have HUS := hide (fun Z (hZ : Turn [] w2 Z) => refUsed_any (hus.still hZ) (by omega) (H.out.used HGD.out))
          have hub := H.out.used HGD.out
          have hrm := HGD.out.room
          have HC1 := hide (fun Z (hZ : Turn [] w2 Z) => (hus.still hZ).c)
          rw [tick_room] at HC1
          clear hus c1 c2 g0 g1' g2 fz1 fz2
          go_wp2
          clear c0
          refine wp_region_loose (Turn []) (by kernel_rfl) (by kernel_rfl) (by kernel_rfl) (by kernel_rfl) rfl (Turn.refl _) (fun _ _ _ h k => h.same k) ?_
          apply Lo.runx 1 rfl rfl [] (by kernel_rfl) (Turn.refl _)
          apply Exists.intro; apply And.intro
          · intro u w1 hR hF
            clear hF
            refine ⟨rfl, fun a ha K hK => ?_⟩
            have e0 := ha 0
            conv at e0 => rhs; whnf
            clear ha
            go_simp
            refine hK _ ?_; rfl
          refine Lo.run 2 rfl rfl [0] (fun x w' => x = .int .i64 (usedR ms : Nat)) (by kernel_rfl) (fun x w w' h hR => ?_) (fun _ _ h => h) (fun u w1 hR hF => ?_) ?_
          · exact h
          · obtain ⟨h0, -⟩ := hF
            refine ⟨rfl, fun a ha K hK => ?_⟩
            have e74 := (ha 74).trans h0
            clear ha h0
            go_simp
            refine (HUS.out w1 (((Turn.refl [] _).drew).same hR)).mono ?_
            rintro e w5 ⟨rfl, ht5⟩
            exact hK _ _ rfl ht5
          apply Lo.runx 3 rfl rfl [] (by kernel_rfl) (Turn.refl _)
          apply Exists.intro; apply And.intro
          · intro u w1 hR hF
            clear hF
            refine ⟨rfl, fun a ha K hK => ?_⟩
            have e4 := ha 4
            conv at e4 => rhs; whnf
            clear ha
            go_simp
            refine hK _ ?_; rfl
          apply Lo.runx 4 rfl rfl [2] (by kernel_rfl) (Turn.refl _)
          apply Exists.intro; apply And.intro
          · intro u w1 hR hF
            obtain ⟨h2, -⟩ := hF
            refine ⟨rfl, fun a ha K hK => ?_⟩
            have e76 := (ha 76).trans h2
            clear ha h2
            go_simp
            refine hK _ ?_; rfl
          apply Lo.runx 5 rfl rfl [1, 3] (by kernel_rfl) (Turn.refl _)
          apply Exists.intro; apply And.intro
          · intro u w1 hR hF
            obtain ⟨h1, h3, -⟩ := hF
            refine ⟨rfl, fun a ha K hK => ?_⟩
            have e75 : a.tmps.getD 75 undef = u 1 := ha 75
            have e77 := (ha 77).trans h3
            have h1 := (show (fun x w' => x = .int .i64 (usedR ms : Nat)) (u 1) w1 from h1)
            dsimp only at h1
            clear ha h3
            go_simp
            refine hK _ ?_; rfl
          apply Lo.runx 6 rfl rfl [] (by kernel_rfl) (Turn.refl _)
          apply Exists.intro; apply And.intro
          · intro u w1 hR hF
            clear hF
            refine ⟨rfl, fun a ha K hK => ?_⟩
            have e0 := ha 0
            conv at e0 => rhs; whnf
            clear ha
            go_simp
            refine hK _ ?_; rfl
          apply Lo.runx 7 rfl rfl [5] (by kernel_rfl) (Turn.refl _)
          apply Exists.intro; apply And.intro
          · intro u w1 hR hF
            obtain ⟨h5, -⟩ := hF
            refine ⟨rfl, fun a ha K hK => ?_⟩
            have e79 := (ha 79).trans h5
            clear ha h5
            go_simp
            refine hK _ ?_; rfl
          apply Lo.runx 8 rfl rfl [6] (by kernel_rfl) (Turn.refl _)
          apply Exists.intro; apply And.intro
          · intro u w1 hR hF
            obtain ⟨h6, -⟩ := hF
            refine ⟨rfl, fun a ha K hK => ?_⟩
            have e80 := (ha 80).trans h6
            clear ha h6
            go_simp
            refine hK _ ?_; rfl
          apply Lo.runx 9 rfl rfl [7] (by kernel_rfl) (Turn.refl _)
          apply Exists.intro; apply And.intro
          · intro u w1 hR hF
            obtain ⟨h7, -⟩ := hF
            refine ⟨rfl, fun a ha K hK => ?_⟩
            have e81 := (ha 81).trans h7
            clear ha h7
            obtain ⟨c0, c1, c2⟩ := HC1.out w1 (((Turn.refl [] _).drew).same hR)
            go_simp
            refine hK _ ?_; rfl
          refine Lo.runv 10 rfl rfl [4, 8] (.bool (false)) (by kernel_rfl) (fun u w1 hR hF => ?_) (Turn.refl _) ?_
          · obtain ⟨h4, h8, -⟩ := hF
            refine ⟨rfl, fun a ha K hK => ?_⟩
            have e78 := (ha 78).trans h4
            have e82 := (ha 82).trans h8
            clear ha h4 h8
            go_simp
            refine hK _ ?_
            rw [IntWalk.i64_left, IntWalk.wrap64_in _ (by omega)]
            simp; omega
          refine Lo.done [9] (fun u w1 hRd hSd hF => ?_)
          clear hSd
          obtain ⟨f9, -⟩ := hF
          have d9 : u 9 = _ := f9
          clear f9
          simp only [putFrom, Act.put, List.setIfInBounds_toArray, List.set_cons_succ, List.set_cons_zero, Nat.zero_add, Nat.reduceAdd, d9]
          have HTZ : Hid (Turn [] w2 w1) := (((Turn.refl [] _).drew).same hRd)
          clear hRd HUS HC1
          obtain ⟨wz, hwz⟩ : ∃ wz, wz = w1 := ⟨_, rfl⟩
          rw [← hwz] at HTZ ⊢
          clear hwz d9
          have HRZ := hide (HR2.out.still HTZ.out)
          have HTZ2 := hide (HT2.out.trans HTZ.out (by simp))
          obtain ⟨v4, w4, hr4, hrow4, ht4, hown4⟩ := app_bytes (wz.alloc (.cells #[] 5)) wz.heap.size (.slice (some ⟨wz.heap.size, 0, none⟩) 0 0) (.slice m.a m.abs.bytes.length m.c) [] m.abs.bytes
            (.inr ⟨wz.heap.size, 0, #[], rfl, Nat.le_refl _, heap_new wz _, Nat.le_refl _, Nat.le_refl _, by simp [maxLen], rfl⟩) ((HEACH.out.still (HTZ.out.alloc _)).slice) (by simp; omega) (by simp)
          rw [List.nil_append] at hrow4
          have ht34 : Turn [] wz w4 := ((Turn.refl [] wz).alloc (.cells #[] 5)).trans ht4 (fun k hk => .inr (by simp [Value.ownBlock] at hk; omega))
          obtain ⟨v5, w5, hr5, hrow5, ht5, hown5⟩ := app_bytes w4 wz.heap.size v4 (.slice ab bs.length cb) m.abs.bytes bs hrow4 ((HBB.out.still (HTZ.out.same ht34)).slice) (by omega) (by have := ht34.size; omega)
          have ht35 : Turn [] wz w5 := ht34.trans ht5 (fun k hk => .inr (hrow4.lt k (by simpa using hk)).1)
          obtain ⟨a4, c4, rfl, -, -, -⟩ := hrow4.bytes.form
          obtain ⟨a5, c5, rfl, hc5, hm5, -⟩ := hrow5.bytes.form
          have hlow5 := hrow5.lt
          have hby5 := hrow5.bytes
          rw [List.length_append] at hr5 hlow5
          obtain ⟨-, -, e3, -⟩ := (⟨trivial, trivial, ((HRZ.out.still ((Turn.refl [] wz).alloc (.cells #[] 5))).mem.three hk), trivial⟩ : True ∧ True ∧ _ ∧ True)
          obtain ⟨p', hp', g0, g1, g2, -⟩ := e3
          cases hp'
          have g1' : (wz.alloc (.cells #[] 5)).cell? ⟨(p.add (k * 3)).block, (p.add (k * 3)).off + 1, none⟩ = some (.slice m.a m.abs.bytes.length m.c) := by rw [g1, ← HM.out]; rfl
          clear g0 g1 g2
          have HR5 := hide (HRZ.out.still ht35)
          obtain ⟨p', hp', -, x1, -, -⟩ := HR5.out.mem.three hk
          cases hp'
          have fz5 := HR5.out.mem.frz hk 1
          have HAR4 := hide hr4
          have HAR5 := hide hr5
          have HLOW5 := hide hlow5
          have HBY5 := hide hby5
          have HT35 := hide ht35
          clear hr4 hrow4 ht4 hown4 hr5 hrow5 ht5 hown5 ht34 ht35 hlow5 hby5
          go_wp2_with (at_builtin; go_must (first | (refine wpList_append_told rfl rfl rfl rfl HAR4.out ?_; clear HAR4) | refine wpList_append_told rfl rfl rfl rfl HAR5.out ?_))
          go_ret
          rw [HE.out]
          have hszz := HTZ2.out.size
          have := setDid (k := k) (i := 1) (u := .slice a5 (m.abs.bytes.length + bs.length) c5) (m' := ⟨{ m.abs with bytes := m.abs.bytes ++ bs }, a5, c5⟩) (g := fun f => { f with bytes := f.bytes ++ bs }) HR5.out (HTZ2.out.trans HT35.out (by simp)) HLOW.out hk (by omega) (by rw [← HM.out]; simp [fileC, RM.sl, List.set]) (by simpa [RM.sl] using HBY5.out) (fun j hj => .inr (by
            have hj' : j ∈ (Value.slice a5 (m.abs.bytes.length + bs.length) c5).ownBlock := own_eq _ _ _ _ _ ▸ hj
            have := HLOW5.out j hj'; omega)) (by rw [← HM.out]) HNOD.out
          rw [HNM.out] at this
          exact ⟨rfl, _, _, this⟩
    · obtain ⟨w1, hw1⟩ : ∃ w1, w1 = w := ⟨_, rfl⟩
      have HR1 : Hid (Ref w1 r (.slice a ms.length c) ms A.tick) := hw1 ▸ (⟨by rw [tick_room]; exact by rw [show leftOf A.tick = L by rw [HLT.out, if_neg hp]]; exact HMEM.out, by rw [tick_files]; exact H.out.files⟩ : Ref w r (.slice a ms.length c) ms A.tick)
      have HT1 : Hid (Turn [r] w w1) := by rw [hw1]; exact Turn.refl [r] w
      have HW1 := hide hw1
      clear HMEM HLT hw1
      go_enter Tryd.func17, Tryd.ntmps17
      go_wp2_with fail
      clear c0 c1 c2 f0 f1 f2
      rw [← HW1.out]
      clear HW1
      have HI := hide (at_any HR1.out.mem (by omega) nm)
      unfold idxI at HI
      rcases hi : idxM ms nm with _ | k
      · have e : (A.add nm bs) = (7, A.tick) := by
          have hff := idx_none hi
          unfold DA.add
          rw [if_neg HF.out]
          rw [if_pos (by rw [findR_has H.out.files, hff]; rfl)]
        have HE := hide e
        rw [hi] at HI
        clear e hi
        refine HI.out.mono ?_
        rintro e w2 ⟨rfl, ht2⟩
        have HT2 := hide (HT1.out.trans ht2 (by simp))
        have HR2 := hide (HR1.out.still ht2)
        clear ht2 HI

        go_wp2
        go_ret
        rw [HE.out]
        exact ⟨rfl, HR2.out.did HT2.out⟩
      · obtain ⟨hk, hfd, hname⟩ := idx_some hi
        have hhas : A.has nm = true := by rw [findR_has H.out.files, hfd]; rfl
        have HNM := hide hname
        rw [hi] at HI
        by_cases hbig : A.room < usedR ms + bs.length
        · have e : A.add nm bs = (12, A.tick) := by
            unfold DA.add
            rw [if_neg HF.out, if_neg (by rw [hhas]; simp), if_pos (by rw [H.out.files]; exact hbig)]
          have HE := hide e
          have hd : decide ((A.room : Int) < (usedR ms : Int) + bs.length) = true := by simp; omega
          clear e hi hfd hname hhas
          refine HI.out.mono ?_
          rintro e w2 ⟨rfl, ht2⟩
          have HT2 := hide (HT1.out.trans ht2 (by simp))
          have HR2 := hide (HR1.out.still ht2)
          clear ht2 HI
          obtain ⟨c0, c1, c2⟩ := HR2.out.mem.c
          obtain ⟨p, rfl, g0, g1, g2, q, d, hq, hqd, hdm⟩ := HR2.out.mem.three hk
          have g1' : w2.cell? ⟨(p.add (k * 3)).block, (p.add (k * 3)).off + 1, none⟩ = some (.slice ms[k].a ms[k].abs.bytes.length ms[k].c) := by rw [g1]; rfl
          have e1 := hq
          simp only [RM.sl, Value.slice.injEq] at e1
          obtain ⟨rfl, -, rfl⟩ := e1
          clear g1 hq
          have fz1 := HR2.out.mem.frz hk 1
          have fz2 := HR2.out.mem.frz hk 2
          have hone := H.out.one HGD.out _ (List.getElem_mem hk)
          have hsafe := HGD.out.safe _ (by rw [H.out.files]; exact List.mem_map.2 ⟨_, List.getElem_mem hk, rfl⟩)
          have HNOD := hide (H.out.names HGD.out)
          have HLOW := hide H.out.mem.lt
          have HEACH := hide (HR2.out.mem.each _ (List.getElem_mem hk)).1
          obtain ⟨m, hm⟩ : ∃ m, m = ms[k] := ⟨_, rfl⟩
          rw [← hm] at g0 g1' g2 hqd hdm hone hsafe HEACH
          have HM := hide hm
          clear hm

          have hbb := HB.out w2 (HT2.out.mono (fun x hx => .inl (by simp at hx; subst hx; exact foot_r _ _ _)))
          obtain ⟨ab, cb, rfl, hb1, hb2, -⟩ := hbb.form
          clear hbb
          have hus := HR2.out.mem
          have HUS := hide (fun Z (hZ : Turn [] w2 Z) => refUsed_any (hus.still hZ) (by omega) (H.out.used HGD.out))
          have hub := H.out.used HGD.out
          have hrm := HGD.out.room
          have HC1 := hide (fun Z (hZ : Turn [] w2 Z) => (hus.still hZ).c)
          rw [tick_room] at HC1
          clear hus c1 c2 g0 g1' g2 fz1 fz2
          go_wp2
          clear c0
          refine wp_region_loose (Turn []) (by kernel_rfl) (by kernel_rfl) (by kernel_rfl) (by kernel_rfl) rfl (Turn.refl _) (fun _ _ _ h k => h.same k) ?_
          apply Lo.runx 1 rfl rfl [] (by kernel_rfl) (Turn.refl _)
          apply Exists.intro; apply And.intro
          · intro u w1 hR hF
            clear hF
            refine ⟨rfl, fun a ha K hK => ?_⟩
            have e0 := ha 0
            conv at e0 => rhs; whnf
            clear ha
            go_simp
            refine hK _ ?_; rfl
          refine Lo.run 2 rfl rfl [0] (fun x w' => x = .int .i64 (usedR ms : Nat)) (by kernel_rfl) (fun x w w' h hR => ?_) (fun _ _ h => h) (fun u w1 hR hF => ?_) ?_
          · exact h
          · obtain ⟨h0, -⟩ := hF
            refine ⟨rfl, fun a ha K hK => ?_⟩
            have e74 := (ha 74).trans h0
            clear ha h0
            go_simp
            refine (HUS.out w1 (((Turn.refl [] _).drew).same hR)).mono ?_
            rintro e w5 ⟨rfl, ht5⟩
            exact hK _ _ rfl ht5
          apply Lo.runx 3 rfl rfl [] (by kernel_rfl) (Turn.refl _)
          apply Exists.intro; apply And.intro
          · intro u w1 hR hF
            clear hF
            refine ⟨rfl, fun a ha K hK => ?_⟩
            have e4 := ha 4
            conv at e4 => rhs; whnf
            clear ha
            go_simp
            refine hK _ ?_; rfl
          apply Lo.runx 4 rfl rfl [2] (by kernel_rfl) (Turn.refl _)
          apply Exists.intro; apply And.intro
          · intro u w1 hR hF
            obtain ⟨h2, -⟩ := hF
            refine ⟨rfl, fun a ha K hK => ?_⟩
            have e76 := (ha 76).trans h2
            clear ha h2
            go_simp
            refine hK _ ?_; rfl
          apply Lo.runx 5 rfl rfl [1, 3] (by kernel_rfl) (Turn.refl _)
          apply Exists.intro; apply And.intro
          · intro u w1 hR hF
            obtain ⟨h1, h3, -⟩ := hF
            refine ⟨rfl, fun a ha K hK => ?_⟩
            have e75 : a.tmps.getD 75 undef = u 1 := ha 75
            have e77 := (ha 77).trans h3
            have h1 := (show (fun x w' => x = .int .i64 (usedR ms : Nat)) (u 1) w1 from h1)
            dsimp only at h1
            clear ha h3
            go_simp
            refine hK _ ?_; rfl
          apply Lo.runx 6 rfl rfl [] (by kernel_rfl) (Turn.refl _)
          apply Exists.intro; apply And.intro
          · intro u w1 hR hF
            clear hF
            refine ⟨rfl, fun a ha K hK => ?_⟩
            have e0 := ha 0
            conv at e0 => rhs; whnf
            clear ha
            go_simp
            refine hK _ ?_; rfl
          apply Lo.runx 7 rfl rfl [5] (by kernel_rfl) (Turn.refl _)
          apply Exists.intro; apply And.intro
          · intro u w1 hR hF
            obtain ⟨h5, -⟩ := hF
            refine ⟨rfl, fun a ha K hK => ?_⟩
            have e79 := (ha 79).trans h5
            clear ha h5
            go_simp
            refine hK _ ?_; rfl
          apply Lo.runx 8 rfl rfl [6] (by kernel_rfl) (Turn.refl _)
          apply Exists.intro; apply And.intro
          · intro u w1 hR hF
            obtain ⟨h6, -⟩ := hF
            refine ⟨rfl, fun a ha K hK => ?_⟩
            have e80 := (ha 80).trans h6
            clear ha h6
            go_simp
            refine hK _ ?_; rfl
          apply Lo.runx 9 rfl rfl [7] (by kernel_rfl) (Turn.refl _)
          apply Exists.intro; apply And.intro
          · intro u w1 hR hF
            obtain ⟨h7, -⟩ := hF
            refine ⟨rfl, fun a ha K hK => ?_⟩
            have e81 := (ha 81).trans h7
            clear ha h7
            obtain ⟨c0, c1, c2⟩ := HC1.out w1 (((Turn.refl [] _).drew).same hR)
            go_simp
            refine hK _ ?_; rfl
          refine Lo.runv 10 rfl rfl [4, 8] (.bool (true)) (by kernel_rfl) (fun u w1 hR hF => ?_) (Turn.refl _) ?_
          · obtain ⟨h4, h8, -⟩ := hF
            refine ⟨rfl, fun a ha K hK => ?_⟩
            have e78 := (ha 78).trans h4
            have e82 := (ha 82).trans h8
            clear ha h4 h8
            go_simp
            refine hK _ ?_
            rw [IntWalk.i64_left, IntWalk.wrap64_in _ (by omega)]
            simp; omega
          refine Lo.done [9] (fun u w1 hRd hSd hF => ?_)
          clear hSd
          obtain ⟨f9, -⟩ := hF
          have d9 : u 9 = _ := f9
          clear f9
          simp only [putFrom, Act.put, List.setIfInBounds_toArray, List.set_cons_succ, List.set_cons_zero, Nat.zero_add, Nat.reduceAdd, d9]
          go_wp2
          go_ret
          rw [HE.out]
          exact ⟨rfl, (HR2.out.still (((Turn.refl [] _).drew).same hRd)).did (HT2.out.trans (((Turn.refl [] _).drew).same hRd) (by simp))⟩
        · have e : A.add nm bs = (0, A.tick.upd nm (fun f => { f with bytes := f.bytes ++ bs })) := by
            unfold DA.add
            rw [if_neg HF.out, if_neg (by rw [hhas]; simp), if_neg (by rw [H.out.files]; exact hbig)]
          have HE := hide e
          have hlen2 := Ref.one H.out HGD.out _ (List.getElem_mem hk)
          clear e hi hfd hname hhas hlen2
          refine HI.out.mono ?_
          rintro e w2 ⟨rfl, ht2⟩
          have HT2 := hide (HT1.out.trans ht2 (by simp))
          have HR2 := hide (HR1.out.still ht2)
          clear ht2 HI
          obtain ⟨c0, c1, c2⟩ := HR2.out.mem.c
          obtain ⟨p, rfl, g0, g1, g2, q, d, hq, hqd, hdm⟩ := HR2.out.mem.three hk
          have g1' : w2.cell? ⟨(p.add (k * 3)).block, (p.add (k * 3)).off + 1, none⟩ = some (.slice ms[k].a ms[k].abs.bytes.length ms[k].c) := by rw [g1]; rfl
          have e1 := hq
          simp only [RM.sl, Value.slice.injEq] at e1
          obtain ⟨rfl, -, rfl⟩ := e1
          clear g1 hq
          have fz1 := HR2.out.mem.frz hk 1
          have fz2 := HR2.out.mem.frz hk 2
          have hone := H.out.one HGD.out _ (List.getElem_mem hk)
          have hsafe := HGD.out.safe _ (by rw [H.out.files]; exact List.mem_map.2 ⟨_, List.getElem_mem hk, rfl⟩)
          have HNOD := hide (H.out.names HGD.out)
          have HLOW := hide H.out.mem.lt
          have HEACH := hide (HR2.out.mem.each _ (List.getElem_mem hk)).1
          obtain ⟨m, hm⟩ : ∃ m, m = ms[k] := ⟨_, rfl⟩
          rw [← hm] at g0 g1' g2 hqd hdm hone hsafe HEACH
          have HM := hide hm
          clear hm

          have hbb := HB.out w2 (HT2.out.mono (fun x hx => .inl (by simp at hx; subst hx; exact foot_r _ _ _)))
          obtain ⟨ab, cb, rfl, hb1, hb2, -⟩ := hbb.form
          have HBB := hide hbb
          clear hbb
          have hus := HR2.out.mem
          have HUS := hide (fun Z (hZ : Turn [] w2 Z) => refUsed_any (hus.still hZ) (by omega) (H.out.used HGD.out))
          have hub := H.out.used HGD.out
          have hrm := HGD.out.room
          have HC1 := hide (fun Z (hZ : Turn [] w2 Z) => (hus.still hZ).c)
          rw [tick_room] at HC1
          clear hus c1 c2 g0 g1' g2 fz1 fz2
          go_wp2
          clear c0
          refine wp_region_loose (Turn []) (by kernel_rfl) (by kernel_rfl) (by kernel_rfl) (by kernel_rfl) rfl (Turn.refl _) (fun _ _ _ h k => h.same k) ?_
          apply Lo.runx 1 rfl rfl [] (by kernel_rfl) (Turn.refl _)
          apply Exists.intro; apply And.intro
          · intro u w1 hR hF
            clear hF
            refine ⟨rfl, fun a ha K hK => ?_⟩
            have e0 := ha 0
            conv at e0 => rhs; whnf
            clear ha
            go_simp
            refine hK _ ?_; rfl
          refine Lo.run 2 rfl rfl [0] (fun x w' => x = .int .i64 (usedR ms : Nat)) (by kernel_rfl) (fun x w w' h hR => ?_) (fun _ _ h => h) (fun u w1 hR hF => ?_) ?_
          · exact h
          · obtain ⟨h0, -⟩ := hF
            refine ⟨rfl, fun a ha K hK => ?_⟩
            have e74 := (ha 74).trans h0
            clear ha h0
            go_simp
            refine (HUS.out w1 (((Turn.refl [] _).drew).same hR)).mono ?_
            rintro e w5 ⟨rfl, ht5⟩
            exact hK _ _ rfl ht5
          apply Lo.runx 3 rfl rfl [] (by kernel_rfl) (Turn.refl _)
          apply Exists.intro; apply And.intro
          · intro u w1 hR hF
            clear hF
            refine ⟨rfl, fun a ha K hK => ?_⟩
            have e4 := ha 4
            conv at e4 => rhs; whnf
            clear ha
            go_simp
            refine hK _ ?_; rfl
          apply Lo.runx 4 rfl rfl [2] (by kernel_rfl) (Turn.refl _)
          apply Exists.intro; apply And.intro
          · intro u w1 hR hF
            obtain ⟨h2, -⟩ := hF
            refine ⟨rfl, fun a ha K hK => ?_⟩
            have e76 := (ha 76).trans h2
            clear ha h2
            go_simp
            refine hK _ ?_; rfl
          apply Lo.runx 5 rfl rfl [1, 3] (by kernel_rfl) (Turn.refl _)
          apply Exists.intro; apply And.intro
          · intro u w1 hR hF
            obtain ⟨h1, h3, -⟩ := hF
            refine ⟨rfl, fun a ha K hK => ?_⟩
            have e75 : a.tmps.getD 75 undef = u 1 := ha 75
            have e77 := (ha 77).trans h3
            have h1 := (show (fun x w' => x = .int .i64 (usedR ms : Nat)) (u 1) w1 from h1)
            dsimp only at h1
            clear ha h3
            go_simp
            refine hK _ ?_; rfl
          apply Lo.runx 6 rfl rfl [] (by kernel_rfl) (Turn.refl _)
          apply Exists.intro; apply And.intro
          · intro u w1 hR hF
            clear hF
            refine ⟨rfl, fun a ha K hK => ?_⟩
            have e0 := ha 0
            conv at e0 => rhs; whnf
            clear ha
            go_simp
            refine hK _ ?_; rfl
          apply Lo.runx 7 rfl rfl [5] (by kernel_rfl) (Turn.refl _)
          apply Exists.intro; apply And.intro
          · intro u w1 hR hF
            obtain ⟨h5, -⟩ := hF
            refine ⟨rfl, fun a ha K hK => ?_⟩
            have e79 := (ha 79).trans h5
            clear ha h5
            go_simp
            refine hK _ ?_; rfl
          apply Lo.runx 8 rfl rfl [6] (by kernel_rfl) (Turn.refl _)
          apply Exists.intro; apply And.intro
          · intro u w1 hR hF
            obtain ⟨h6, -⟩ := hF
            refine ⟨rfl, fun a ha K hK => ?_⟩
            have e80 := (ha 80).trans h6
            clear ha h6
            go_simp
            refine hK _ ?_; rfl
          apply Lo.runx 9 rfl rfl [7] (by kernel_rfl) (Turn.refl _)
          apply Exists.intro; apply And.intro
          · intro u w1 hR hF
            obtain ⟨h7, -⟩ := hF
            refine ⟨rfl, fun a ha K hK => ?_⟩
            have e81 := (ha 81).trans h7
            clear ha h7
            obtain ⟨c0, c1, c2⟩ := HC1.out w1 (((Turn.refl [] _).drew).same hR)
            go_simp
            refine hK _ ?_; rfl
          refine Lo.runv 10 rfl rfl [4, 8] (.bool (false)) (by kernel_rfl) (fun u w1 hR hF => ?_) (Turn.refl _) ?_
          · obtain ⟨h4, h8, -⟩ := hF
            refine ⟨rfl, fun a ha K hK => ?_⟩
            have e78 := (ha 78).trans h4
            have e82 := (ha 82).trans h8
            clear ha h4 h8
            go_simp
            refine hK _ ?_
            rw [IntWalk.i64_left, IntWalk.wrap64_in _ (by omega)]
            simp; omega
          refine Lo.done [9] (fun u w1 hRd hSd hF => ?_)
          clear hSd
          obtain ⟨f9, -⟩ := hF
          have d9 : u 9 = _ := f9
          clear f9
          simp only [putFrom, Act.put, List.setIfInBounds_toArray, List.set_cons_succ, List.set_cons_zero, Nat.zero_add, Nat.reduceAdd, d9]
          have HTZ : Hid (Turn [] w2 w1) := (((Turn.refl [] _).drew).same hRd)
          clear hRd HUS HC1
          obtain ⟨wz, hwz⟩ : ∃ wz, wz = w1 := ⟨_, rfl⟩
          rw [← hwz] at HTZ ⊢
          clear hwz d9
          have HRZ := hide (HR2.out.still HTZ.out)
          have HTZ2 := hide (HT2.out.trans HTZ.out (by simp))
          obtain ⟨v4, w4, hr4, hrow4, ht4, hown4⟩ := app_bytes (wz.alloc (.cells #[] 5)) wz.heap.size (.slice (some ⟨wz.heap.size, 0, none⟩) 0 0) (.slice m.a m.abs.bytes.length m.c) [] m.abs.bytes
            (.inr ⟨wz.heap.size, 0, #[], rfl, Nat.le_refl _, heap_new wz _, Nat.le_refl _, Nat.le_refl _, by simp [maxLen], rfl⟩) ((HEACH.out.still (HTZ.out.alloc _)).slice) (by simp; omega) (by simp)
          rw [List.nil_append] at hrow4
          have ht34 : Turn [] wz w4 := ((Turn.refl [] wz).alloc (.cells #[] 5)).trans ht4 (fun k hk => .inr (by simp [Value.ownBlock] at hk; omega))
          obtain ⟨v5, w5, hr5, hrow5, ht5, hown5⟩ := app_bytes w4 wz.heap.size v4 (.slice ab bs.length cb) m.abs.bytes bs hrow4 ((HBB.out.still (HTZ.out.same ht34)).slice) (by omega) (by have := ht34.size; omega)
          have ht35 : Turn [] wz w5 := ht34.trans ht5 (fun k hk => .inr (hrow4.lt k (by simpa using hk)).1)
          obtain ⟨a4, c4, rfl, -, -, -⟩ := hrow4.bytes.form
          obtain ⟨a5, c5, rfl, hc5, hm5, -⟩ := hrow5.bytes.form
          have hlow5 := hrow5.lt
          have hby5 := hrow5.bytes
          rw [List.length_append] at hr5 hlow5
          obtain ⟨-, -, e3, -⟩ := (⟨trivial, trivial, ((HRZ.out.still ((Turn.refl [] wz).alloc (.cells #[] 5))).mem.three hk), trivial⟩ : True ∧ True ∧ _ ∧ True)
          obtain ⟨p', hp', g0, g1, g2, -⟩ := e3
          cases hp'
          have g1' : (wz.alloc (.cells #[] 5)).cell? ⟨(p.add (k * 3)).block, (p.add (k * 3)).off + 1, none⟩ = some (.slice m.a m.abs.bytes.length m.c) := by rw [g1, ← HM.out]; rfl
          clear g0 g1 g2
          have HR5 := hide (HRZ.out.still ht35)
          obtain ⟨p', hp', -, x1, -, -⟩ := HR5.out.mem.three hk
          cases hp'
          have fz5 := HR5.out.mem.frz hk 1
          have HAR4 := hide hr4
          have HAR5 := hide hr5
          have HLOW5 := hide hlow5
          have HBY5 := hide hby5
          have HT35 := hide ht35
          clear hr4 hrow4 ht4 hown4 hr5 hrow5 ht5 hown5 ht34 ht35 hlow5 hby5
          go_wp2_with (at_builtin; go_must (first | (refine wpList_append_told rfl rfl rfl rfl HAR4.out ?_; clear HAR4) | refine wpList_append_told rfl rfl rfl rfl HAR5.out ?_))
          go_ret
          rw [HE.out]
          have hszz := HTZ2.out.size
          have := setDid (k := k) (i := 1) (u := .slice a5 (m.abs.bytes.length + bs.length) c5) (m' := ⟨{ m.abs with bytes := m.abs.bytes ++ bs }, a5, c5⟩) (g := fun f => { f with bytes := f.bytes ++ bs }) HR5.out (HTZ2.out.trans HT35.out (by simp)) HLOW.out hk (by omega) (by rw [← HM.out]; simp [fileC, RM.sl, List.set]) (by simpa [RM.sl] using HBY5.out) (fun j hj => .inr (by
            have hj' : j ∈ (Value.slice a5 (m.abs.bytes.length + bs.length) c5).ownBlock := own_eq _ _ _ _ _ ▸ hj
            have := HLOW5.out j hj'; omega)) (by rw [← HM.out]) HNOD.out
          rw [HNM.out] at this
          exact ⟨rfl, _, _, this⟩

set_option maxHeartbeats 8000000 in
theorem do_cut {w : World} {r : Nat} {sv : Value} {ms : List RM} {A : DA} (h : Ref w r sv ms A) (hg : Good A) (nm to : List UInt8) (hnm : nm.length ≤ 1000000) (hto : to.length ≤ 1000000) (bv : Value) (n : Int) (hn63 : n ≤ 9223372036854775807) :
    Calls Tryd.prog 17 #[.pointer (some ⟨r, 0, none⟩), .string { data := #[99, 117, 116] }, .string ⟨nm.toArray⟩, .string ⟨to.toArray⟩, bv, .int .i64 n] w fun e w' => e = .returned (.int .i64 (A.cut nm n).1) ∧ RDid w w' r sv ms (A.cut nm n).2 := by
  obtain ⟨a, c, rfl, hlc, hcm⟩ := h.mem.form
  have hmx : maxLen = 9223372036854775807 := by simp [maxLen]
  rw [hmx] at hcm
  have H := hide h
  have HGD := hide hg
  obtain ⟨c0, c1, c2⟩ := h.mem.c
  obtain ⟨f0, f1, f2⟩ := h.mem.f
  obtain ⟨b1, b2⟩ := leftOf_bound hg
  have hlf := leftOf_fails hg
  by_cases hf : A.fails = true
  · have e : (A.cut nm n) = (14, A) := by unfold DA.cut; rw [if_pos hf]
    rw [e]
    rw [hlf.2 hf] at c2
    clear h hg hf hlf e f0 f1 f2 b1 b2
    go_enter Tryd.func17, Tryd.ntmps17
    go_wp2
    go_ret
    exact ⟨rfl, H.out.did (Turn.refl _ _)⟩
  · obtain ⟨L, hL⟩ : ∃ L, leftOf A = L := ⟨_, rfl⟩
    have hlt := leftOf_tick hg hf
    have hL0 : ¬ L = 0 := by rw [← hL]; exact fun e => hf (hlf.1 e)
    rw [hL] at c2 hlt b1 b2
    have HMEM : Hid (RefAt w r (.slice a ms.length c) ms A.room L) := hL ▸ h.mem
    have HF : Hid (¬ A.fails = true) := hf
    have HLT := hide hlt
    have hl200 := h.len hg
    clear h hg hf hlf hL hlt
    by_cases hp : 0 < L
    · obtain ⟨w1, hw1⟩ : ∃ w1, w1 = (w.setCell ⟨r, 2, none⟩ (.int .i64 (L - 1))) := ⟨_, rfl⟩
      have HR1 : Hid (Ref w1 r (.slice a ms.length c) ms A.tick) := hw1 ▸ (⟨by rw [tick_room]; exact (by rw [show leftOf A.tick = L - 1 by rw [HLT.out, if_pos hp]]; exact HMEM.out.setLeft (L - 1)), by rw [tick_files]; exact H.out.files⟩ : Ref (w.setCell ⟨r, 2, none⟩ (.int .i64 (L - 1))) r (.slice a ms.length c) ms A.tick)
      have HT1 : Hid (Turn [r] w w1) := by rw [hw1]; exact (Turn.refl [r] w).setCell (.inl (by simp)) _
      have HW1 := hide hw1
      clear HMEM HLT hw1
      go_enter Tryd.func17, Tryd.ntmps17
      go_wp2_with fail
      clear c0 c1 c2 f0 f1 f2
      rw [← HW1.out]
      clear HW1
      have HI := hide (at_any HR1.out.mem (by omega) nm)
      unfold idxI at HI
      rcases hi : idxM ms nm with _ | k
      · have e : (A.cut nm n) = (7, A.tick) := by
          have hff := idx_none hi
          unfold DA.cut
          rw [if_neg HF.out]
          rw [findR_file H.out.files, hff]; rfl
        have HE := hide e
        rw [hi] at HI
        clear e hi
        refine HI.out.mono ?_
        rintro e w2 ⟨rfl, ht2⟩
        have HT2 := hide (HT1.out.trans ht2 (by simp))
        have HR2 := hide (HR1.out.still ht2)
        clear ht2 HI

        go_wp2
        go_ret
        rw [HE.out]
        exact ⟨rfl, HR2.out.did HT2.out⟩
      · obtain ⟨hk, hfd, hname⟩ := idx_some hi
        have hfile : A.file nm = some ms[k].abs := by rw [findR_file H.out.files, hfd]; rfl
        by_cases hbad : n < 0 ∨ (ms[k].abs.bytes.length : Int) < n
        · have e : A.cut nm n = (2, A.tick) := by
            unfold DA.cut
            rw [if_neg HF.out, hfile]
            simp only
            rw [if_pos hbad]
          have HE := hide e
          have HNM := hide hname
          rw [hi] at HI
          clear e hi hfd hname hfile
          refine HI.out.mono ?_
          rintro e w2 ⟨rfl, ht2⟩
          have HT2 := hide (HT1.out.trans ht2 (by simp))
          have HR2 := hide (HR1.out.still ht2)
          clear ht2 HI
          obtain ⟨c0, c1, c2⟩ := HR2.out.mem.c
          obtain ⟨p, rfl, g0, g1, g2, q, d, hq, hqd, hdm⟩ := HR2.out.mem.three hk
          have g1' : w2.cell? ⟨(p.add (k * 3)).block, (p.add (k * 3)).off + 1, none⟩ = some (.slice ms[k].a ms[k].abs.bytes.length ms[k].c) := by rw [g1]; rfl
          have e1 := hq
          simp only [RM.sl, Value.slice.injEq] at e1
          obtain ⟨rfl, -, rfl⟩ := e1
          clear g1 hq
          have fz1 := HR2.out.mem.frz hk 1
          have fz2 := HR2.out.mem.frz hk 2
          have hone := H.out.one HGD.out _ (List.getElem_mem hk)
          have hsafe := HGD.out.safe _ (by rw [H.out.files]; exact List.mem_map.2 ⟨_, List.getElem_mem hk, rfl⟩)
          have HNOD := hide (H.out.names HGD.out)
          have HLOW := hide H.out.mem.lt
          have HEACH := hide (HR2.out.mem.each _ (List.getElem_mem hk)).1
          obtain ⟨m, hm⟩ : ∃ m, m = ms[k] := ⟨_, rfl⟩
          rw [← hm] at g0 g1' g2 hqd hdm hone hsafe HEACH
          have HM := hide hm
          clear hm

          rw [← HM.out] at hbad
          by_cases hn0 : n < 0
          · go_wp2
            go_ret
            rw [HE.out]
            exact ⟨rfl, HR2.out.did HT2.out⟩
          · have hn1 : (m.abs.bytes.length : Int) < n := by omega
            go_wp2
            go_ret
            rw [HE.out]
            exact ⟨rfl, HR2.out.did HT2.out⟩
        · obtain ⟨z, rfl⟩ := Int.eq_ofNat_of_zero_le (show 0 ≤ n by omega)
          have e : A.cut nm z = (0, A.tick.upd nm (cut1 z)) := by
            unfold DA.cut
            rw [if_neg HF.out, hfile]
            simp only
            rw [if_neg hbad]
            rfl
          have HE := hide e
          have HNM := hide hname
          have hz : z ≤ ms[k].abs.bytes.length := by omega
          rw [hi] at HI
          clear e hi hfd hname hfile hbad
          refine HI.out.mono ?_
          rintro e w2 ⟨rfl, ht2⟩
          have HT2 := hide (HT1.out.trans ht2 (by simp))
          have HR2 := hide (HR1.out.still ht2)
          clear ht2 HI
          obtain ⟨c0, c1, c2⟩ := HR2.out.mem.c
          obtain ⟨p, rfl, g0, g1, g2, q, d, hq, hqd, hdm⟩ := HR2.out.mem.three hk
          have g1' : w2.cell? ⟨(p.add (k * 3)).block, (p.add (k * 3)).off + 1, none⟩ = some (.slice ms[k].a ms[k].abs.bytes.length ms[k].c) := by rw [g1]; rfl
          have e1 := hq
          simp only [RM.sl, Value.slice.injEq] at e1
          obtain ⟨rfl, -, rfl⟩ := e1
          clear g1 hq
          have fz1 := HR2.out.mem.frz hk 1
          have fz2 := HR2.out.mem.frz hk 2
          have hone := H.out.one HGD.out _ (List.getElem_mem hk)
          have hsafe := HGD.out.safe _ (by rw [H.out.files]; exact List.mem_map.2 ⟨_, List.getElem_mem hk, rfl⟩)
          have HNOD := hide (H.out.names HGD.out)
          have HLOW := hide H.out.mem.lt
          have HEACH := hide (HR2.out.mem.each _ (List.getElem_mem hk)).1
          obtain ⟨m, hm⟩ : ∃ m, m = ms[k] := ⟨_, rfl⟩
          rw [← hm] at g0 g1' g2 hqd hdm hone hsafe HEACH
          have HM := hide hm
          clear hm

          rw [← HM.out] at hz
          have hmin : min (m.abs.safe : Int) (z : Int) = ((min m.abs.safe z : Nat) : Int) := by omega
          have hlen : (m.abs.bytes.take z).length = z := by rw [List.length_take]; exact Nat.min_eq_left hz
          have hbz : BytesAt w2 (.slice m.a z z) (m.abs.bytes.take z) := by
            obtain ⟨x1, x2, x3, x4, x5, x6, x7⟩ := HEACH.out
            simp only [RM.sl, Value.slice.injEq] at x3
            obtain ⟨rfl, -, rfl⟩ := x3
            refine ⟨m.a, z, by rw [hlen], by rw [hlen]; exact Nat.le_refl _, by omega, fun hn => ?_, fun j hj => ?_⟩
            · have := x6 hn; omega
            · rw [hlen] at hj
              obtain ⟨pp, hpp, hc⟩ := x7 j (by omega)
              exact ⟨pp, hpp, by rw [hc]; simp⟩
          have HBZ := hide hbz
          clear hbz
          go_wp2
          go_ret
          rw [HE.out]
          have s1 := setDid (k := k) (i := 1) (u := .slice m.a z z) (m' := ⟨{ m.abs with bytes := m.abs.bytes.take z }, m.a, z⟩) (g := fun f => { f with bytes := f.bytes.take z }) HR2.out HT2.out HLOW.out hk (by omega) (by rw [← HM.out]; simp [fileC, RM.sl, hlen, List.set]) (by simpa [RM.sl, hlen] using HBZ.out) (fun j hj => .inl (by rw [← HM.out]; exact (own_eq _ _ _ _ _) ▸ hj)) (by rw [← HM.out]) HNOD.out
          obtain ⟨r1, t1, o1⟩ := s1
          have s2 := setDid (k := k) (i := 2) (u := .int .i64 (min m.abs.safe z : Nat)) (m' := ⟨{ m.abs with bytes := m.abs.bytes.take z, safe := min m.abs.safe z }, m.a, z⟩) (g := fun f => { f with safe := min f.safe z }) r1 (Turn.refl _ _) r1.mem.lt (by simpa using hk) (by omega) (by simp [fileC, RM.sl, hlen, List.set]) ((r1.mem.each ⟨{ m.abs with bytes := m.abs.bytes.take z }, m.a, z⟩ (List.mem_of_getElem? (i := k) (by simp [hk]))).1) (fun j hj => .inl (by simpa [RM.sl, Value.ownBlock] using hj)) (by simp) (by
            have := HNOD.out
            rw [List.map_set]
            have e2 : (ms.map (·.abs.name)).set k m.abs.name = ms.map (·.abs.name) := by
              rw [HM.out]
              apply List.ext_getElem (by simp)
              intro i h1 h2
              by_cases hik : i = k
              · subst hik; simp
              · rw [List.getElem_set_ne (Ne.symm hik)]
            simp only
            rw [e2]; exact this)
          simp only [List.getElem_set_self, List.set_set] at s2
          obtain ⟨r2, t2, o2⟩ := s2
          have hnm2 : m.abs.name = nm := by rw [HM.out]; exact HNM.out
          have hA : ((A.tick.upd ms[k].abs.name (fun f => { f with bytes := f.bytes.take z })).upd m.abs.name (fun f => { f with safe := min f.safe z })) = A.tick.upd nm (cut1 z) := by
            rw [← HM.out, hnm2]
            exact upd_upd A.tick nm (fun f => { f with bytes := f.bytes.take z }) (fun f => { f with safe := min f.safe z }) (fun f => rfl)
          rw [hA] at r2
          refine ⟨rfl, _, _, r2, t1.trans t2 (fun x hx => o1 x hx), fun x hx => (o2 x hx).elim (fun h => o1 x h) (fun h => .inr (by have := t1.size; omega))⟩
    · obtain ⟨w1, hw1⟩ : ∃ w1, w1 = w := ⟨_, rfl⟩
      have HR1 : Hid (Ref w1 r (.slice a ms.length c) ms A.tick) := hw1 ▸ (⟨by rw [tick_room]; exact by rw [show leftOf A.tick = L by rw [HLT.out, if_neg hp]]; exact HMEM.out, by rw [tick_files]; exact H.out.files⟩ : Ref w r (.slice a ms.length c) ms A.tick)
      have HT1 : Hid (Turn [r] w w1) := by rw [hw1]; exact Turn.refl [r] w
      have HW1 := hide hw1
      clear HMEM HLT hw1
      go_enter Tryd.func17, Tryd.ntmps17
      go_wp2_with fail
      clear c0 c1 c2 f0 f1 f2
      rw [← HW1.out]
      clear HW1
      have HI := hide (at_any HR1.out.mem (by omega) nm)
      unfold idxI at HI
      rcases hi : idxM ms nm with _ | k
      · have e : (A.cut nm n) = (7, A.tick) := by
          have hff := idx_none hi
          unfold DA.cut
          rw [if_neg HF.out]
          rw [findR_file H.out.files, hff]; rfl
        have HE := hide e
        rw [hi] at HI
        clear e hi
        refine HI.out.mono ?_
        rintro e w2 ⟨rfl, ht2⟩
        have HT2 := hide (HT1.out.trans ht2 (by simp))
        have HR2 := hide (HR1.out.still ht2)
        clear ht2 HI

        go_wp2
        go_ret
        rw [HE.out]
        exact ⟨rfl, HR2.out.did HT2.out⟩
      · obtain ⟨hk, hfd, hname⟩ := idx_some hi
        have hfile : A.file nm = some ms[k].abs := by rw [findR_file H.out.files, hfd]; rfl
        by_cases hbad : n < 0 ∨ (ms[k].abs.bytes.length : Int) < n
        · have e : A.cut nm n = (2, A.tick) := by
            unfold DA.cut
            rw [if_neg HF.out, hfile]
            simp only
            rw [if_pos hbad]
          have HE := hide e
          have HNM := hide hname
          rw [hi] at HI
          clear e hi hfd hname hfile
          refine HI.out.mono ?_
          rintro e w2 ⟨rfl, ht2⟩
          have HT2 := hide (HT1.out.trans ht2 (by simp))
          have HR2 := hide (HR1.out.still ht2)
          clear ht2 HI
          obtain ⟨c0, c1, c2⟩ := HR2.out.mem.c
          obtain ⟨p, rfl, g0, g1, g2, q, d, hq, hqd, hdm⟩ := HR2.out.mem.three hk
          have g1' : w2.cell? ⟨(p.add (k * 3)).block, (p.add (k * 3)).off + 1, none⟩ = some (.slice ms[k].a ms[k].abs.bytes.length ms[k].c) := by rw [g1]; rfl
          have e1 := hq
          simp only [RM.sl, Value.slice.injEq] at e1
          obtain ⟨rfl, -, rfl⟩ := e1
          clear g1 hq
          have fz1 := HR2.out.mem.frz hk 1
          have fz2 := HR2.out.mem.frz hk 2
          have hone := H.out.one HGD.out _ (List.getElem_mem hk)
          have hsafe := HGD.out.safe _ (by rw [H.out.files]; exact List.mem_map.2 ⟨_, List.getElem_mem hk, rfl⟩)
          have HNOD := hide (H.out.names HGD.out)
          have HLOW := hide H.out.mem.lt
          have HEACH := hide (HR2.out.mem.each _ (List.getElem_mem hk)).1
          obtain ⟨m, hm⟩ : ∃ m, m = ms[k] := ⟨_, rfl⟩
          rw [← hm] at g0 g1' g2 hqd hdm hone hsafe HEACH
          have HM := hide hm
          clear hm

          rw [← HM.out] at hbad
          by_cases hn0 : n < 0
          · go_wp2
            go_ret
            rw [HE.out]
            exact ⟨rfl, HR2.out.did HT2.out⟩
          · have hn1 : (m.abs.bytes.length : Int) < n := by omega
            go_wp2
            go_ret
            rw [HE.out]
            exact ⟨rfl, HR2.out.did HT2.out⟩
        · obtain ⟨z, rfl⟩ := Int.eq_ofNat_of_zero_le (show 0 ≤ n by omega)
          have e : A.cut nm z = (0, A.tick.upd nm (cut1 z)) := by
            unfold DA.cut
            rw [if_neg HF.out, hfile]
            simp only
            rw [if_neg hbad]
            rfl
          have HE := hide e
          have HNM := hide hname
          have hz : z ≤ ms[k].abs.bytes.length := by omega
          rw [hi] at HI
          clear e hi hfd hname hfile hbad
          refine HI.out.mono ?_
          rintro e w2 ⟨rfl, ht2⟩
          have HT2 := hide (HT1.out.trans ht2 (by simp))
          have HR2 := hide (HR1.out.still ht2)
          clear ht2 HI
          obtain ⟨c0, c1, c2⟩ := HR2.out.mem.c
          obtain ⟨p, rfl, g0, g1, g2, q, d, hq, hqd, hdm⟩ := HR2.out.mem.three hk
          have g1' : w2.cell? ⟨(p.add (k * 3)).block, (p.add (k * 3)).off + 1, none⟩ = some (.slice ms[k].a ms[k].abs.bytes.length ms[k].c) := by rw [g1]; rfl
          have e1 := hq
          simp only [RM.sl, Value.slice.injEq] at e1
          obtain ⟨rfl, -, rfl⟩ := e1
          clear g1 hq
          have fz1 := HR2.out.mem.frz hk 1
          have fz2 := HR2.out.mem.frz hk 2
          have hone := H.out.one HGD.out _ (List.getElem_mem hk)
          have hsafe := HGD.out.safe _ (by rw [H.out.files]; exact List.mem_map.2 ⟨_, List.getElem_mem hk, rfl⟩)
          have HNOD := hide (H.out.names HGD.out)
          have HLOW := hide H.out.mem.lt
          have HEACH := hide (HR2.out.mem.each _ (List.getElem_mem hk)).1
          obtain ⟨m, hm⟩ : ∃ m, m = ms[k] := ⟨_, rfl⟩
          rw [← hm] at g0 g1' g2 hqd hdm hone hsafe HEACH
          have HM := hide hm
          clear hm

          rw [← HM.out] at hz
          have hmin : min (m.abs.safe : Int) (z : Int) = ((min m.abs.safe z : Nat) : Int) := by omega
          have hlen : (m.abs.bytes.take z).length = z := by rw [List.length_take]; exact Nat.min_eq_left hz
          have hbz : BytesAt w2 (.slice m.a z z) (m.abs.bytes.take z) := by
            obtain ⟨x1, x2, x3, x4, x5, x6, x7⟩ := HEACH.out
            simp only [RM.sl, Value.slice.injEq] at x3
            obtain ⟨rfl, -, rfl⟩ := x3
            refine ⟨m.a, z, by rw [hlen], by rw [hlen]; exact Nat.le_refl _, by omega, fun hn => ?_, fun j hj => ?_⟩
            · have := x6 hn; omega
            · rw [hlen] at hj
              obtain ⟨pp, hpp, hc⟩ := x7 j (by omega)
              exact ⟨pp, hpp, by rw [hc]; simp⟩
          have HBZ := hide hbz
          clear hbz
          go_wp2
          go_ret
          rw [HE.out]
          have s1 := setDid (k := k) (i := 1) (u := .slice m.a z z) (m' := ⟨{ m.abs with bytes := m.abs.bytes.take z }, m.a, z⟩) (g := fun f => { f with bytes := f.bytes.take z }) HR2.out HT2.out HLOW.out hk (by omega) (by rw [← HM.out]; simp [fileC, RM.sl, hlen, List.set]) (by simpa [RM.sl, hlen] using HBZ.out) (fun j hj => .inl (by rw [← HM.out]; exact (own_eq _ _ _ _ _) ▸ hj)) (by rw [← HM.out]) HNOD.out
          obtain ⟨r1, t1, o1⟩ := s1
          have s2 := setDid (k := k) (i := 2) (u := .int .i64 (min m.abs.safe z : Nat)) (m' := ⟨{ m.abs with bytes := m.abs.bytes.take z, safe := min m.abs.safe z }, m.a, z⟩) (g := fun f => { f with safe := min f.safe z }) r1 (Turn.refl _ _) r1.mem.lt (by simpa using hk) (by omega) (by simp [fileC, RM.sl, hlen, List.set]) ((r1.mem.each ⟨{ m.abs with bytes := m.abs.bytes.take z }, m.a, z⟩ (List.mem_of_getElem? (i := k) (by simp [hk]))).1) (fun j hj => .inl (by simpa [RM.sl, Value.ownBlock] using hj)) (by simp) (by
            have := HNOD.out
            rw [List.map_set]
            have e2 : (ms.map (·.abs.name)).set k m.abs.name = ms.map (·.abs.name) := by
              rw [HM.out]
              apply List.ext_getElem (by simp)
              intro i h1 h2
              by_cases hik : i = k
              · subst hik; simp
              · rw [List.getElem_set_ne (Ne.symm hik)]
            simp only
            rw [e2]; exact this)
          simp only [List.getElem_set_self, List.set_set] at s2
          obtain ⟨r2, t2, o2⟩ := s2
          have hnm2 : m.abs.name = nm := by rw [HM.out]; exact HNM.out
          have hA : ((A.tick.upd ms[k].abs.name (fun f => { f with bytes := f.bytes.take z })).upd m.abs.name (fun f => { f with safe := min f.safe z })) = A.tick.upd nm (cut1 z) := by
            rw [← HM.out, hnm2]
            exact upd_upd A.tick nm (fun f => { f with bytes := f.bytes.take z }) (fun f => { f with safe := min f.safe z }) (fun f => rfl)
          rw [hA] at r2
          refine ⟨rfl, _, _, r2, t1.trans t2 (fun x hx => o1 x hx), fun x hx => (o2 x hx).elim (fun h => o1 x h) (fun h => .inr (by have := t1.size; omega))⟩

set_option maxHeartbeats 8000000 in
theorem do_sync {w : World} {r : Nat} {sv : Value} {ms : List RM} {A : DA} (h : Ref w r sv ms A) (hg : Good A) (nm to : List UInt8) (hnm : nm.length ≤ 1000000) (hto : to.length ≤ 1000000) (bv : Value) (n : Int) :
    Calls Tryd.prog 17 #[.pointer (some ⟨r, 0, none⟩), .string { data := #[115, 121, 110, 99] }, .string ⟨nm.toArray⟩, .string ⟨to.toArray⟩, bv, .int .i64 n] w fun e w' => e = .returned (.int .i64 (A.sync nm).1) ∧ RDid w w' r sv ms (A.sync nm).2 := by
  obtain ⟨a, c, rfl, hlc, hcm⟩ := h.mem.form
  have hmx : maxLen = 9223372036854775807 := by simp [maxLen]
  rw [hmx] at hcm
  have H := hide h
  have HGD := hide hg
  obtain ⟨c0, c1, c2⟩ := h.mem.c
  obtain ⟨f0, f1, f2⟩ := h.mem.f
  obtain ⟨b1, b2⟩ := leftOf_bound hg
  have hlf := leftOf_fails hg
  by_cases hf : A.fails = true
  · have e : (A.sync nm) = (14, A) := by unfold DA.sync; rw [if_pos hf]
    rw [e]
    rw [hlf.2 hf] at c2
    clear h hg hf hlf e f0 f1 f2 b1 b2
    go_enter Tryd.func17, Tryd.ntmps17
    go_wp2
    go_ret
    exact ⟨rfl, H.out.did (Turn.refl _ _)⟩
  · obtain ⟨L, hL⟩ : ∃ L, leftOf A = L := ⟨_, rfl⟩
    have hlt := leftOf_tick hg hf
    have hL0 : ¬ L = 0 := by rw [← hL]; exact fun e => hf (hlf.1 e)
    rw [hL] at c2 hlt b1 b2
    have HMEM : Hid (RefAt w r (.slice a ms.length c) ms A.room L) := hL ▸ h.mem
    have HF : Hid (¬ A.fails = true) := hf
    have HLT := hide hlt
    have hl200 := h.len hg
    clear h hg hf hlf hL hlt
    by_cases hp : 0 < L
    · obtain ⟨w1, hw1⟩ : ∃ w1, w1 = (w.setCell ⟨r, 2, none⟩ (.int .i64 (L - 1))) := ⟨_, rfl⟩
      have HR1 : Hid (Ref w1 r (.slice a ms.length c) ms A.tick) := hw1 ▸ (⟨by rw [tick_room]; exact (by rw [show leftOf A.tick = L - 1 by rw [HLT.out, if_pos hp]]; exact HMEM.out.setLeft (L - 1)), by rw [tick_files]; exact H.out.files⟩ : Ref (w.setCell ⟨r, 2, none⟩ (.int .i64 (L - 1))) r (.slice a ms.length c) ms A.tick)
      have HT1 : Hid (Turn [r] w w1) := by rw [hw1]; exact (Turn.refl [r] w).setCell (.inl (by simp)) _
      have HW1 := hide hw1
      clear HMEM HLT hw1
      go_enter Tryd.func17, Tryd.ntmps17
      go_wp2_with fail
      clear c0 c1 c2 f0 f1 f2
      rw [← HW1.out]
      clear HW1
      have HI := hide (at_any HR1.out.mem (by omega) nm)
      unfold idxI at HI
      rcases hi : idxM ms nm with _ | k
      · have e : (A.sync nm) = (7, A.tick) := by
          have hff := idx_none hi
          unfold DA.sync
          rw [if_neg HF.out]
          rw [if_pos (by rw [findR_has H.out.files, hff]; rfl)]
        have HE := hide e
        rw [hi] at HI
        clear e hi
        refine HI.out.mono ?_
        rintro e w2 ⟨rfl, ht2⟩
        have HT2 := hide (HT1.out.trans ht2 (by simp))
        have HR2 := hide (HR1.out.still ht2)
        clear ht2 HI

        go_wp2
        go_ret
        rw [HE.out]
        exact ⟨rfl, HR2.out.did HT2.out⟩
      · obtain ⟨hk, hfd, hname⟩ := idx_some hi
        have e : A.sync nm = (0, A.tick.upd nm (fun f => { f with safe := f.bytes.length })) := by
          unfold DA.sync
          rw [if_neg HF.out, if_neg (by rw [findR_has H.out.files, hfd]; simp)]
        have HE := hide e
        have HNM := hide hname
        rw [hi] at HI
        clear e hi hfd hname
        refine HI.out.mono ?_
        rintro e w2 ⟨rfl, ht2⟩
        have HT2 := hide (HT1.out.trans ht2 (by simp))
        have HR2 := hide (HR1.out.still ht2)
        clear ht2 HI
        obtain ⟨c0, c1, c2⟩ := HR2.out.mem.c
        obtain ⟨p, rfl, g0, g1, g2, q, d, hq, hqd, hdm⟩ := HR2.out.mem.three hk
        have g1' : w2.cell? ⟨(p.add (k * 3)).block, (p.add (k * 3)).off + 1, none⟩ = some (.slice ms[k].a ms[k].abs.bytes.length ms[k].c) := by rw [g1]; rfl
        have e1 := hq
        simp only [RM.sl, Value.slice.injEq] at e1
        obtain ⟨rfl, -, rfl⟩ := e1
        clear g1 hq
        have fz1 := HR2.out.mem.frz hk 1
        have fz2 := HR2.out.mem.frz hk 2
        have hone := H.out.one HGD.out _ (List.getElem_mem hk)
        have hsafe := HGD.out.safe _ (by rw [H.out.files]; exact List.mem_map.2 ⟨_, List.getElem_mem hk, rfl⟩)
        have HNOD := hide (H.out.names HGD.out)
        have HLOW := hide H.out.mem.lt
        have HEACH := hide (HR2.out.mem.each _ (List.getElem_mem hk)).1
        obtain ⟨m, hm⟩ : ∃ m, m = ms[k] := ⟨_, rfl⟩
        rw [← hm] at g0 g1' g2 hqd hdm hone hsafe HEACH
        have HM := hide hm
        clear hm

        go_wp2
        go_ret
        rw [HE.out]
        have := setDid (k := k) (i := 2) (u := .int .i64 m.abs.bytes.length) (m' := { m with abs := { m.abs with safe := m.abs.bytes.length } }) (g := fun f => { f with safe := f.bytes.length }) HR2.out HT2.out HLOW.out hk (by omega) (by rw [← HM.out]; rfl) HEACH.out (fun j hj => .inl (by rw [← HM.out]; exact hj)) (by rw [← HM.out]) HNOD.out
        rw [HNM.out] at this
        exact ⟨rfl, _, _, this⟩
    · obtain ⟨w1, hw1⟩ : ∃ w1, w1 = w := ⟨_, rfl⟩
      have HR1 : Hid (Ref w1 r (.slice a ms.length c) ms A.tick) := hw1 ▸ (⟨by rw [tick_room]; exact by rw [show leftOf A.tick = L by rw [HLT.out, if_neg hp]]; exact HMEM.out, by rw [tick_files]; exact H.out.files⟩ : Ref w r (.slice a ms.length c) ms A.tick)
      have HT1 : Hid (Turn [r] w w1) := by rw [hw1]; exact Turn.refl [r] w
      have HW1 := hide hw1
      clear HMEM HLT hw1
      go_enter Tryd.func17, Tryd.ntmps17
      go_wp2_with fail
      clear c0 c1 c2 f0 f1 f2
      rw [← HW1.out]
      clear HW1
      have HI := hide (at_any HR1.out.mem (by omega) nm)
      unfold idxI at HI
      rcases hi : idxM ms nm with _ | k
      · have e : (A.sync nm) = (7, A.tick) := by
          have hff := idx_none hi
          unfold DA.sync
          rw [if_neg HF.out]
          rw [if_pos (by rw [findR_has H.out.files, hff]; rfl)]
        have HE := hide e
        rw [hi] at HI
        clear e hi
        refine HI.out.mono ?_
        rintro e w2 ⟨rfl, ht2⟩
        have HT2 := hide (HT1.out.trans ht2 (by simp))
        have HR2 := hide (HR1.out.still ht2)
        clear ht2 HI

        go_wp2
        go_ret
        rw [HE.out]
        exact ⟨rfl, HR2.out.did HT2.out⟩
      · obtain ⟨hk, hfd, hname⟩ := idx_some hi
        have e : A.sync nm = (0, A.tick.upd nm (fun f => { f with safe := f.bytes.length })) := by
          unfold DA.sync
          rw [if_neg HF.out, if_neg (by rw [findR_has H.out.files, hfd]; simp)]
        have HE := hide e
        have HNM := hide hname
        rw [hi] at HI
        clear e hi hfd hname
        refine HI.out.mono ?_
        rintro e w2 ⟨rfl, ht2⟩
        have HT2 := hide (HT1.out.trans ht2 (by simp))
        have HR2 := hide (HR1.out.still ht2)
        clear ht2 HI
        obtain ⟨c0, c1, c2⟩ := HR2.out.mem.c
        obtain ⟨p, rfl, g0, g1, g2, q, d, hq, hqd, hdm⟩ := HR2.out.mem.three hk
        have g1' : w2.cell? ⟨(p.add (k * 3)).block, (p.add (k * 3)).off + 1, none⟩ = some (.slice ms[k].a ms[k].abs.bytes.length ms[k].c) := by rw [g1]; rfl
        have e1 := hq
        simp only [RM.sl, Value.slice.injEq] at e1
        obtain ⟨rfl, -, rfl⟩ := e1
        clear g1 hq
        have fz1 := HR2.out.mem.frz hk 1
        have fz2 := HR2.out.mem.frz hk 2
        have hone := H.out.one HGD.out _ (List.getElem_mem hk)
        have hsafe := HGD.out.safe _ (by rw [H.out.files]; exact List.mem_map.2 ⟨_, List.getElem_mem hk, rfl⟩)
        have HNOD := hide (H.out.names HGD.out)
        have HLOW := hide H.out.mem.lt
        have HEACH := hide (HR2.out.mem.each _ (List.getElem_mem hk)).1
        obtain ⟨m, hm⟩ : ∃ m, m = ms[k] := ⟨_, rfl⟩
        rw [← hm] at g0 g1' g2 hqd hdm hone hsafe HEACH
        have HM := hide hm
        clear hm

        go_wp2
        go_ret
        rw [HE.out]
        have := setDid (k := k) (i := 2) (u := .int .i64 m.abs.bytes.length) (m' := { m with abs := { m.abs with safe := m.abs.bytes.length } }) (g := fun f => { f with safe := f.bytes.length }) HR2.out HT2.out HLOW.out hk (by omega) (by rw [← HM.out]; rfl) HEACH.out (fun j hj => .inl (by rw [← HM.out]; exact hj)) (by rw [← HM.out]) HNOD.out
        rw [HNM.out] at this
        exact ⟨rfl, _, _, this⟩

set_option maxHeartbeats 8000000 in
theorem do_rename {w : World} {r : Nat} {sv : Value} {ms : List RM} {A : DA} (h : Ref w r sv ms A) (hg : Good A) (nm to : List UInt8) (hnm : nm.length ≤ 1000000) (hto : to.length ≤ 1000000) (bv : Value) (n : Int) :
    Calls Tryd.prog 17 #[.pointer (some ⟨r, 0, none⟩), .string { data := #[114, 101, 110, 97, 109, 101] }, .string ⟨nm.toArray⟩, .string ⟨to.toArray⟩, bv, .int .i64 n] w fun e w' => e = .returned (.int .i64 (A.rename nm ⟨to.toArray⟩).1) ∧ RDid w w' r sv ms (A.rename nm ⟨to.toArray⟩).2 := by
  obtain ⟨a, c, rfl, hlc, hcm⟩ := h.mem.form
  have hmx : maxLen = 9223372036854775807 := by simp [maxLen]
  rw [hmx] at hcm
  have H := hide h
  have HGD := hide hg
  obtain ⟨c0, c1, c2⟩ := h.mem.c
  obtain ⟨f0, f1, f2⟩ := h.mem.f
  obtain ⟨b1, b2⟩ := leftOf_bound hg
  have hlf := leftOf_fails hg
  by_cases hf : A.fails = true
  · have e : (A.rename nm ⟨to.toArray⟩) = (14, A) := by unfold DA.rename; rw [if_pos hf]
    rw [e]
    rw [hlf.2 hf] at c2
    clear h hg hf hlf e f0 f1 f2 b1 b2
    go_enter Tryd.func17, Tryd.ntmps17
    go_wp2
    go_ret
    exact ⟨rfl, H.out.did (Turn.refl _ _)⟩
  · obtain ⟨L, hL⟩ : ∃ L, leftOf A = L := ⟨_, rfl⟩
    have hlt := leftOf_tick hg hf
    have hL0 : ¬ L = 0 := by rw [← hL]; exact fun e => hf (hlf.1 e)
    rw [hL] at c2 hlt b1 b2
    have HMEM : Hid (RefAt w r (.slice a ms.length c) ms A.room L) := hL ▸ h.mem
    have HF : Hid (¬ A.fails = true) := hf
    have HLT := hide hlt
    have hl200 := h.len hg
    clear h hg hf hlf hL hlt
    by_cases hp : 0 < L
    · obtain ⟨w1, hw1⟩ : ∃ w1, w1 = (w.setCell ⟨r, 2, none⟩ (.int .i64 (L - 1))) := ⟨_, rfl⟩
      have HR1 : Hid (Ref w1 r (.slice a ms.length c) ms A.tick) := hw1 ▸ (⟨by rw [tick_room]; exact (by rw [show leftOf A.tick = L - 1 by rw [HLT.out, if_pos hp]]; exact HMEM.out.setLeft (L - 1)), by rw [tick_files]; exact H.out.files⟩ : Ref (w.setCell ⟨r, 2, none⟩ (.int .i64 (L - 1))) r (.slice a ms.length c) ms A.tick)
      have HT1 : Hid (Turn [r] w w1) := by rw [hw1]; exact (Turn.refl [r] w).setCell (.inl (by simp)) _
      have HW1 := hide hw1
      clear HMEM HLT hw1
      go_enter Tryd.func17, Tryd.ntmps17
      go_wp2_with fail
      clear c0 c1 c2 f0 f1 f2
      rw [← HW1.out]
      clear HW1
      have HI := hide (at_any HR1.out.mem (by omega) nm)
      unfold idxI at HI
      rcases hi : idxM ms nm with _ | k
      · have e : (A.rename nm ⟨to.toArray⟩) = (7, A.tick) := by
          have hff := idx_none hi
          unfold DA.rename
          rw [if_neg HF.out]
          rw [findR_file H.out.files, hff]; rfl
        have HE := hide e
        rw [hi] at HI
        clear e hi
        refine HI.out.mono ?_
        rintro e w2 ⟨rfl, ht2⟩
        have HT2 := hide (HT1.out.trans ht2 (by simp))
        have HR2 := hide (HR1.out.still ht2)
        clear ht2 HI

        go_wp2
        go_ret
        rw [HE.out]
        exact ⟨rfl, HR2.out.did HT2.out⟩
      · obtain ⟨hk, hfd, hname⟩ := idx_some hi
        have hfile : A.file nm = some ms[k].abs := by rw [findR_file H.out.files, hfd]; rfl
        rw [hi] at HI
        have HN := hide (fun w => refName_any ⟨to.toArray⟩ w (by simp [ByteArray.size, maxLen]; omega))
        cases hnb : nameB ⟨to.toArray⟩
        · have e : (A.rename nm ⟨to.toArray⟩) = (5, A.tick) := by
            unfold DA.rename
            rw [if_neg HF.out, hfile]
            simp only
            rw [if_pos (by rw [hnb]; rfl)]
          have HE := hide e
          rw [hnb] at HN
          clear e hi hfd hname hfile hnb
          refine HI.out.mono ?_
          rintro e w2 ⟨rfl, ht2⟩
          have HT2 := hide (HT1.out.trans ht2 (by simp))
          have HR2 := hide (HR1.out.still ht2)
          clear ht2 HI
          obtain ⟨c0, c1, c2⟩ := HR2.out.mem.c
          obtain ⟨p, rfl, g0, g1, g2, q, d, hq, hqd, hdm⟩ := HR2.out.mem.three hk
          have g1' : w2.cell? ⟨(p.add (k * 3)).block, (p.add (k * 3)).off + 1, none⟩ = some (.slice ms[k].a ms[k].abs.bytes.length ms[k].c) := by rw [g1]; rfl
          have e1 := hq
          simp only [RM.sl, Value.slice.injEq] at e1
          obtain ⟨rfl, -, rfl⟩ := e1
          clear g1 hq
          have fz1 := HR2.out.mem.frz hk 1
          have fz2 := HR2.out.mem.frz hk 2
          have hone := H.out.one HGD.out _ (List.getElem_mem hk)
          have hsafe := HGD.out.safe _ (by rw [H.out.files]; exact List.mem_map.2 ⟨_, List.getElem_mem hk, rfl⟩)
          have HNOD := hide (H.out.names HGD.out)
          have HLOW := hide H.out.mem.lt
          have HEACH := hide (HR2.out.mem.each _ (List.getElem_mem hk)).1
          obtain ⟨m, hm⟩ : ∃ m, m = ms[k] := ⟨_, rfl⟩
          rw [← hm] at g0 g1' g2 hqd hdm hone hsafe HEACH
          have HM := hide hm
          clear hm

          go_wp2_with fail
          refine (HN.out _).mono ?_
          rintro e w3 ⟨rfl, rfl⟩
          go_wp2
          go_ret
          rw [HE.out]
          exact ⟨rfl, HR2.out.did HT2.out⟩
        · have e : (A.rename nm ⟨to.toArray⟩) = (0, { A.tick with files := outF (outF A.files nm) to ++ [{ ms[k].abs with name := to }] }) := by
            unfold DA.rename
            rw [if_neg HF.out, hfile]
            simp only
            rw [if_neg (by rw [hnb]; simp)]
          have HE := hide e
          rw [hnb] at HN
          clear e hi hfd hname hfile hnb
          refine HI.out.mono ?_
          rintro e w2 ⟨rfl, ht2⟩
          have HT2 := hide (HT1.out.trans ht2 (by simp))
          have HR2 := hide (HR1.out.still ht2)
          clear ht2 HI
          obtain ⟨c0, c1, c2⟩ := HR2.out.mem.c
          obtain ⟨p, rfl, g0, g1, g2, q, d, hq, hqd, hdm⟩ := HR2.out.mem.three hk
          have g1' : w2.cell? ⟨(p.add (k * 3)).block, (p.add (k * 3)).off + 1, none⟩ = some (.slice ms[k].a ms[k].abs.bytes.length ms[k].c) := by rw [g1]; rfl
          have e1 := hq
          simp only [RM.sl, Value.slice.injEq] at e1
          obtain ⟨rfl, -, rfl⟩ := e1
          clear g1 hq
          have fz1 := HR2.out.mem.frz hk 1
          have fz2 := HR2.out.mem.frz hk 2
          have hone := H.out.one HGD.out _ (List.getElem_mem hk)
          have hsafe := HGD.out.safe _ (by rw [H.out.files]; exact List.mem_map.2 ⟨_, List.getElem_mem hk, rfl⟩)
          have HNOD := hide (H.out.names HGD.out)
          have HLOW := hide H.out.mem.lt
          have HEACH := hide (HR2.out.mem.each _ (List.getElem_mem hk)).1
          obtain ⟨m, hm⟩ : ∃ m, m = ms[k] := ⟨_, rfl⟩
          rw [← hm] at g0 g1' g2 hqd hdm hone hsafe HEACH
          have HM := hide hm
          clear hm

          clear c1 c2
          go_wp2_with fail
          refine (HN.out _).mono ?_
          rintro e w3 ⟨rfl, rfl⟩
          go_wp2_with fail
          have hga := heap_new w2 (.cells #[.string ⟨to.toArray⟩, .slice m.a m.abs.bytes.length m.c, .int .i64 m.abs.safe] 88)
          have HRA := hide (HR2.out.still ((Turn.refl [] w2).alloc (.cells #[.string ⟨to.toArray⟩, .slice m.a m.abs.bytes.length m.c, .int .i64 m.abs.safe] 88)))
          refine (refRemove_any HRA.out.mem (by omega) nm).mono ?_
          rintro e w3 ⟨rfl, s3, hr3, ht3, hl3⟩
          obtain ⟨a3, c3, rfl, -, -⟩ := hr3.form
          have hrlt := HR2.out.mem.lt r (foot_r _ _ _)
          have hgb := ht3.heap hga (by simp; omega)
          have HR3 := hide hr3
          have HL3 := hide hl3
          have HT3 := hide ht3
          clear hr3 hl3 ht3 hga
          go_wp2_with fail
          have hlen3 : (outR ms nm).length ≤ 200 := Nat.le_trans (List.length_filter_le _ _) hl200
          refine (refRemove_any HR3.out (by omega) to).mono ?_
          rintro e w4 ⟨rfl, s4, hr4, ht4, hl4⟩
          obtain ⟨a4, c4, rfl, -, -⟩ := hr4.form
          have hgb4 := ht4.heap hgb (by simp; omega)
          have hlen4 : (outR (outR ms nm) to).length ≤ 200 := Nat.le_trans (List.length_filter_le _ _) hlen3
          have hself := hr4.self
          have hsz3 := HT3.out.size
          have hsz4 := ht4.size
          simp only [World.size_alloc] at hsz3
          have hg4 : w2.heap.size < w4.heap.size := lt_of_heap hgb4
          have hr4l : r < w4.heap.size := by omega
          have hcells : ∀ Z, Turn (Value.slice a4 (outR (outR ms nm) to).length c4).ownBlock.toList w4 Z →
              (Z.cell? ⟨w2.heap.size, 0, none⟩ = some (.string ⟨to.toArray⟩) ∧ Z.cell? ⟨w2.heap.size, 1, none⟩ = some (.slice m.a m.abs.bytes.length m.c) ∧ Z.cell? ⟨w2.heap.size, 2, none⟩ = some (.int .i64 m.abs.safe)) ∧
              (w2.heap.size < Z.heap.size ∧ r < Z.heap.size) ∧ Z.heap[r]? = some (.cells #[.slice a4 (outR (outR ms nm) to).length c4, .int .i64 A.tick.room, .int .i64 (leftOf A.tick)] 33 (0, 0)) := by
            intro Z hZ
            have hg := hZ.heap hgb4 (fun hm => by have := hl4 w2.heap.size (by simpa using hm); omega)
            have hr := hZ.heap hself (fun hm => hr4.rsv (by simpa using hm))
            exact ⟨⟨by rw [cell_of hg]; rfl, by rw [cell_of hg]; rfl, by rw [cell_of hg]; rfl⟩, ⟨lt_of_heap hg, lt_of_heap hr⟩, hr⟩
          have HCELLS := hide hcells
          have HR4 := hide hr4
          have HT24 : Hid (Turn [r] w2 w4) := ((((Turn.refl [] w2).alloc (.cells #[.string ⟨to.toArray⟩, .slice m.a m.abs.bytes.length m.c, .int .i64 m.abs.safe] 88)).mono (T := [r]) (by simp)).same HT3.out).same ht4
          have HT4 := hide (HT2.out.trans (((((Turn.refl [] w2).alloc (.cells #[.string ⟨to.toArray⟩, .slice m.a m.abs.bytes.length m.c, .int .i64 m.abs.safe] 88)).mono (T := [r]) (by simp)).same HT3.out).same ht4) (fun x hx => .inl hx))
          have HL4 := hide hl4
          obtain ⟨⟨k0, k1, k2⟩, ⟨-, -⟩, hs⟩ := hcells w4 (Turn.refl _ _)
          have c4' : w4.cell? ⟨r, 0, none⟩ = some (.slice a4 (outR (outR ms nm) to).length c4) := by rw [cell_of hs]; rfl
          clear hcells hself hgb hgb4 hr4 ht4 hl4 g0 g1' g2 c0 fz1 fz2 hs k0 k1 k2 c4'
          go_wp2
          refine wp_region_loud 8 (Turn (Value.slice a4 (outR (outR ms nm) to).length c4).ownBlock.toList) (Turn []) (fun k w => match k with | 0 => (fun w => GRow 88 3 fileC w 0 (.slice a4 (outR (outR ms nm) to).length c4) (outR (outR ms nm) to)) w | _ => (fun w => GRow 88 3 fileC w 0 (.slice none 0 0) ([] : List RM)) w) [7] (by kernel_rfl) (by kernel_rfl) (by kernel_rfl) (by kernel_rfl) (by kernel_rfl) (by kernel_rfl) (Nat.le_of_ble_eq_true rfl) (by decide) rfl (Turn.refl _) (fun _ _ _ h k => h.same k) (fun _ _ h => h.mono (by simp)) ?_ ?_ ?_
          · intro k a b hk hR
            match k, hk with
            | 0, hk =>
              have hk := (show (fun w => GRow 88 3 fileC w 0 (.slice a4 (outR (outR ms nm) to).length c4) (outR (outR ms nm) to)) a from hk)
              dsimp only at hk
              show (fun w => GRow 88 3 fileC w 0 (.slice a4 (outR (outR ms nm) to).length c4) (outR (outR ms nm) to)) b
              dsimp only
              exact hk.still hR
            | _ + 1, hk =>
              have hk := (show (fun w => GRow 88 3 fileC w 0 (.slice none 0 0) ([] : List RM)) a from hk)
              dsimp only at hk
              show (fun w => GRow 88 3 fileC w 0 (.slice none 0 0) ([] : List RM)) b
              dsimp only
              exact hk.still hR
          · show (fun w => GRow 88 3 fileC w 0 (.slice a4 (outR (outR ms nm) to).length c4) (outR (outR ms nm) to)) _
            dsimp only
            exact HR4.out.row.still ((Turn.refl [] _).drew)
          apply Lo.runx 1 rfl rfl [] (by kernel_rfl) (Turn.refl _)
          apply Exists.intro; apply And.intro
          · intro u w1 hR hF
            clear hF
            refine ⟨rfl, fun a ha K hK => ?_⟩
            have e0 := ha 0
            conv at e0 => rhs; whnf
            clear ha
            go_simp
            refine hK _ ?_; rfl
          apply Lo.runx 2 rfl rfl [] (by kernel_rfl) (Turn.refl _)
          apply Exists.intro; apply And.intro
          · intro u w1 hR hF
            clear hF
            refine ⟨rfl, fun a ha K hK => ?_⟩
            have e0 := ha 0
            conv at e0 => rhs; whnf
            clear ha
            go_simp
            refine hK _ ?_; rfl
          apply Lo.runx 3 rfl rfl [1] (by kernel_rfl) (Turn.refl _)
          apply Exists.intro; apply And.intro
          · intro u w1 hR hF
            obtain ⟨h1, -⟩ := hF
            refine ⟨rfl, fun a ha K hK => ?_⟩
            have e154 := (ha 154).trans h1
            clear ha h1
            go_simp
            refine hK _ ?_; rfl
          apply Lo.runx 4 rfl rfl [2] (by kernel_rfl) (Turn.refl _)
          apply Exists.intro; apply And.intro
          · intro u w1 hR hF
            obtain ⟨h2, -⟩ := hF
            refine ⟨rfl, fun a ha K hK => ?_⟩
            have e155 := (ha 155).trans h2
            clear ha h2
            go_simp
            refine hK _ ?_; rfl
          apply Lo.runx 5 rfl rfl [3] (by kernel_rfl) (Turn.refl _)
          apply Exists.intro; apply And.intro
          · intro u w1 hR hF
            obtain ⟨h3, -⟩ := hF
            refine ⟨rfl, fun a ha K hK => ?_⟩
            have e156 := (ha 156).trans h3
            clear ha h3
            obtain ⟨⟨k0, k1, k2⟩, ⟨z1, z2⟩, hs⟩ := HCELLS.out w1 (((Turn.refl _ _).drew).same hR)
            have c0 : w1.cell? ⟨r, 0, none⟩ = some (.slice a4 (outR (outR ms nm) to).length c4) := by rw [cell_of hs]; rfl
            go_simp
            refine hK _ ?_; rfl
          apply Lo.runx 6 rfl rfl [] (by kernel_rfl) (Turn.refl _)
          apply Exists.intro; apply And.intro
          · intro u w1 hR hF
            clear hF
            refine ⟨rfl, fun a ha K hK => ?_⟩
            have e15 := ha 15
            conv at e15 => rhs; whnf
            clear ha
            obtain ⟨⟨k0, k1, k2⟩, ⟨z1, z2⟩, hs⟩ := HCELLS.out w1 (((Turn.refl _ _).drew).same hR)
            go_simp
            refine hK _ ?_; rfl
          refine Lo.run 7 rfl rfl [5] (fun x w' => ∃ k, x = .slice (some ⟨k, 0, none⟩) 1 1 ∧ w'.heap[k]? = some (.cells (fileC ⟨{ m.abs with name := to }, m.a, m.c⟩).toArray 88 (0, 0)) ∧ w4.heap.size ≤ k) (by kernel_rfl) (fun x w w' h hR => ?_) (fun _ _ h => h.mono (by simp)) (fun u w1 hR hF => ?_) ?_
          · obtain ⟨k, h1, h2, h3⟩ := h; exact ⟨k, h1, hR.heap h2 (fun hm => by have := (HR4.out.row.lt k (by simpa using hm)).2; omega), h3⟩
          · obtain ⟨h5, -⟩ := hF
            refine ⟨rfl, fun a ha K hK => ?_⟩
            have e158 := (ha 158).trans h5
            clear ha h5
            have e158' : a.tmps[158]?.getD undef = .agg #[.string ⟨to.toArray⟩, .slice m.a m.abs.bytes.length m.c, .int .i64 m.abs.safe] := by rw [← Array.getD_eq_getD_getElem?, e158]
            go_simp
            exact hK _ _ ⟨w1.heap.size, rfl, heap_new w1 _, hR.size⟩ ((Turn.refl [] _).alloc _)
          refine Lo.noisy 8 rfl 0 rfl [4, 6] (fun x w' => GRow 88 3 fileC w' 0 x (outR (outR ms nm) to ++ [⟨{ m.abs with name := to }, m.a, m.c⟩]) ∧ ∀ j ∈ x.ownBlock, j ∈ (Value.slice a4 (outR (outR ms nm) to).length c4).ownBlock ∨ w4.heap.size ≤ j) (by kernel_rfl) (fun x w w' h hR => ?_) (.inl (by kernel_rfl)) (fun u w1 hR hS hF => ?_) ?_
          · exact ⟨h.1.still hR, h.2⟩
          · obtain ⟨h4, h6, -⟩ := hF
            have hS := (show (fun w => GRow 88 3 fileC w 0 (.slice a4 (outR (outR ms nm) to).length c4) (outR (outR ms nm) to)) w1 from hS)
            dsimp only at hS
            refine ⟨rfl, fun a ha K hK => ?_⟩
            have e157 := (ha 157).trans h4
            have e159 : a.tmps.getD 159 undef = u 6 := ha 159
            have h6 := (show (fun x w' => ∃ k, x = .slice (some ⟨k, 0, none⟩) 1 1 ∧ w'.heap[k]? = some (.cells (fileC ⟨{ m.abs with name := to }, m.a, m.c⟩).toArray 88 (0, 0)) ∧ w4.heap.size ≤ k) (u 6) w1 from h6)
            dsimp only at h6
            clear ha h4
            obtain ⟨kk, hx6, hc6, hk6⟩ := h6
            rw [hx6] at e159
            obtain ⟨v7, w7, hr7, hrow7, ht7, hown7⟩ := app_file w1 0 (.slice a4 (outR (outR ms nm) to).length c4) (outR (outR ms nm) to) ⟨{ m.abs with name := to }, m.a, m.c⟩ kk hS hc6 (by omega) (Nat.zero_le _)
            have hsz7 := hR.size
            clear hx6 hc6
            exact oper_append rfl e157 e159 hr7 (hK _ _ ⟨hrow7, fun j hj => (hown7 j hj).elim .inl (fun h => .inr (Nat.le_trans hsz7 h))⟩ ht7 (.inl ⟨rfl, rfl⟩))
          refine Lo.done [0, 7] (fun u w1 hRd hSd hF => ?_)
          have hSd := (show (fun w => GRow 88 3 fileC w 0 (.slice none 0 0) ([] : List RM)) w1 from hSd)
          dsimp only at hSd
          obtain ⟨f0, f7, -⟩ := hF
          have d0 : u 0 = _ := f0
          have d7 := (show (fun x w' => GRow 88 3 fileC w' 0 x (outR (outR ms nm) to ++ [⟨{ m.abs with name := to }, m.a, m.c⟩]) ∧ ∀ j ∈ x.ownBlock, j ∈ (Value.slice a4 (outR (outR ms nm) to).length c4).ownBlock ∨ w4.heap.size ≤ j) (u 7) w1 from f7)
          dsimp only at d7
          clear f0 f7
          simp only [List.take_succ_cons, List.take_zero, List.drop_succ_cons, List.drop_zero, putFrom, Act.put, List.setIfInBounds_toArray, List.set_cons_succ, List.set_cons_zero, Nat.zero_add, Nat.reduceAdd, d0]
          obtain ⟨hrow7, hown7⟩ := d7
          obtain ⟨xa, xc, hxv, -, -⟩ := hrow7.form
          rw [hxv] at hrow7 hown7 ⊢
          rw [List.length_append, List.length_singleton] at hrow7 hown7 ⊢
          have ht7 : Turn (Value.slice a4 (outR (outR ms nm) to).length c4).ownBlock.toList w4 w1 := ((Turn.refl _ _).drew).same hRd
          obtain ⟨-, ⟨z1, z2⟩, hs⟩ := HCELLS.out w1 ht7
          have c7 : w1.cell? ⟨r, 0, none⟩ = some (.slice a4 (outR (outR ms nm) to).length c4) := by rw [cell_of hs]; rfl
          have f0 : w1.frozen? ⟨r, 0, none⟩ = false := frozen_of hs 0
          have hrn : r ∉ (Value.slice xa ((outR (outR ms nm) to).length + 1) xc).ownBlock := fun hk => (hown7 r hk).elim (fun h => HR4.out.rsv h) (fun h => by omega)
          have HROW7 := hide hrow7
          have HOWN7 := hide hown7
          have HT7 := hide ht7
          have HS7 := hide hs
          have HRN := hide hrn
          clear hrow7 hown7 ht7 hs hrn hRd hSd hxv
          go_wp2
          go_ret
          rw [HE.out]
          have hown4 : ∀ j ∈ m.sl.ownBlock, j < w2.heap.size ∧ j ≠ r := fun j hj => by
            have := (HR2.out.mem.each _ (List.getElem_mem hk)).2 j (by rw [← HM.out]; exact hj)
            exact ⟨this.1, this.2.1⟩
          refine ⟨rfl, .slice xa ((outR (outR ms nm) to).length + 1) xc, outR (outR ms nm) to ++ [⟨{ m.abs with name := to }, m.a, m.c⟩], ⟨?_, ?_⟩, ?_, ?_⟩
          · show RefAt _ r _ _ A.tick.room (leftOf A.tick)
            refine RefAt.mkRow HS7.out HROW7.out HRN.out (fun q hq => ?_)
            rcases List.mem_append.1 hq with hq | hq
            · have he := HR4.out.each q hq
              refine ⟨he.1.kept HT7.out (fun k hk _ => by simpa using (he.2 k hk).2.2), fun k hk => ⟨Nat.lt_of_lt_of_le (he.2 k hk).1 HT7.out.size, (he.2 k hk).2.1, fun h => ?_⟩⟩
              rcases HOWN7.out k h with h | h
              · exact (he.2 k hk).2.2 h
              · have := (he.2 k hk).1; omega
            · simp only [List.mem_singleton] at hq
              subst hq
              have hn4 : ∀ j ∈ m.sl.ownBlock, j ∉ (Value.slice a4 (outR (outR ms nm) to).length c4).ownBlock := fun j hj h => by
                have := HL4.out j h; have := (hown4 j hj).1; omega
              refine ⟨(HEACH.out.kept HT24.out (fun j hj _ => by simpa using (hown4 j hj).2)).kept HT7.out (fun j hj _ => by simpa using hn4 j hj), fun j hj => ?_⟩
              have h1 := hown4 j hj
              refine ⟨Nat.lt_of_lt_of_le h1.1 (Nat.le_trans HT24.out.size HT7.out.size), h1.2, fun h => ?_⟩
              rcases HOWN7.out j h with h | h
              · exact hn4 j hj h
              · have := HT24.out.size; omega
          · show outF (outF A.files nm) to ++ _ = _
            rw [H.out.files, ← HM.out, List.map_append]
            congr 1
            unfold outF outR
            rw [List.filter_map, List.filter_map]; rfl
          · refine (HT4.out.mono (fun x hx => .inl (by simp at hx; subst hx; exact foot_r _ _ _))).trans ((HT7.out.mono (T := r :: (Value.slice a4 (outR (outR ms nm) to).length c4).ownBlock.toList) (fun x hx => .inl (by simp; exact .inr (by simpa using hx)))).setCell (.inl (by simp)) _) (fun x hx => ?_)
            rcases List.mem_cons.1 hx with rfl | hx
            · exact .inl (foot_r _ _ _)
            · have := HL4.out x (by simpa using hx); have := HT2.out.size; exact .inr (by omega)
          · intro j hj
            have hz2 := HT2.out.size
            have hz4 := HT24.out.size
            simp only [RFoot, List.mem_cons, List.mem_append, List.mem_flatMap] at hj ⊢
            rcases hj with rfl | hj | ⟨q, hq, hj⟩
            · exact .inl (.inl rfl)
            · rcases HOWN7.out j (by simpa using hj) with h | h
              · have := HL4.out j h; exact .inr (by omega)
              · exact .inr (by omega)
            · rcases hq with hq | hq
              · exact .inl (.inr (.inr ⟨q, (List.mem_filter.1 (List.mem_filter.1 hq).1).1, hj⟩))
              · have hq : q = ⟨{ m.abs with name := to }, m.a, m.c⟩ := by simpa using hq
                subst hq
                exact .inl (.inr (.inr ⟨m, by rw [HM.out]; exact List.getElem_mem hk, hj⟩))
    · obtain ⟨w1, hw1⟩ : ∃ w1, w1 = w := ⟨_, rfl⟩
      have HR1 : Hid (Ref w1 r (.slice a ms.length c) ms A.tick) := hw1 ▸ (⟨by rw [tick_room]; exact by rw [show leftOf A.tick = L by rw [HLT.out, if_neg hp]]; exact HMEM.out, by rw [tick_files]; exact H.out.files⟩ : Ref w r (.slice a ms.length c) ms A.tick)
      have HT1 : Hid (Turn [r] w w1) := by rw [hw1]; exact Turn.refl [r] w
      have HW1 := hide hw1
      clear HMEM HLT hw1
      go_enter Tryd.func17, Tryd.ntmps17
      go_wp2_with fail
      clear c0 c1 c2 f0 f1 f2
      rw [← HW1.out]
      clear HW1
      have HI := hide (at_any HR1.out.mem (by omega) nm)
      unfold idxI at HI
      rcases hi : idxM ms nm with _ | k
      · have e : (A.rename nm ⟨to.toArray⟩) = (7, A.tick) := by
          have hff := idx_none hi
          unfold DA.rename
          rw [if_neg HF.out]
          rw [findR_file H.out.files, hff]; rfl
        have HE := hide e
        rw [hi] at HI
        clear e hi
        refine HI.out.mono ?_
        rintro e w2 ⟨rfl, ht2⟩
        have HT2 := hide (HT1.out.trans ht2 (by simp))
        have HR2 := hide (HR1.out.still ht2)
        clear ht2 HI

        go_wp2
        go_ret
        rw [HE.out]
        exact ⟨rfl, HR2.out.did HT2.out⟩
      · obtain ⟨hk, hfd, hname⟩ := idx_some hi
        have hfile : A.file nm = some ms[k].abs := by rw [findR_file H.out.files, hfd]; rfl
        rw [hi] at HI
        have HN := hide (fun w => refName_any ⟨to.toArray⟩ w (by simp [ByteArray.size, maxLen]; omega))
        cases hnb : nameB ⟨to.toArray⟩
        · have e : (A.rename nm ⟨to.toArray⟩) = (5, A.tick) := by
            unfold DA.rename
            rw [if_neg HF.out, hfile]
            simp only
            rw [if_pos (by rw [hnb]; rfl)]
          have HE := hide e
          rw [hnb] at HN
          clear e hi hfd hname hfile hnb
          refine HI.out.mono ?_
          rintro e w2 ⟨rfl, ht2⟩
          have HT2 := hide (HT1.out.trans ht2 (by simp))
          have HR2 := hide (HR1.out.still ht2)
          clear ht2 HI
          obtain ⟨c0, c1, c2⟩ := HR2.out.mem.c
          obtain ⟨p, rfl, g0, g1, g2, q, d, hq, hqd, hdm⟩ := HR2.out.mem.three hk
          have g1' : w2.cell? ⟨(p.add (k * 3)).block, (p.add (k * 3)).off + 1, none⟩ = some (.slice ms[k].a ms[k].abs.bytes.length ms[k].c) := by rw [g1]; rfl
          have e1 := hq
          simp only [RM.sl, Value.slice.injEq] at e1
          obtain ⟨rfl, -, rfl⟩ := e1
          clear g1 hq
          have fz1 := HR2.out.mem.frz hk 1
          have fz2 := HR2.out.mem.frz hk 2
          have hone := H.out.one HGD.out _ (List.getElem_mem hk)
          have hsafe := HGD.out.safe _ (by rw [H.out.files]; exact List.mem_map.2 ⟨_, List.getElem_mem hk, rfl⟩)
          have HNOD := hide (H.out.names HGD.out)
          have HLOW := hide H.out.mem.lt
          have HEACH := hide (HR2.out.mem.each _ (List.getElem_mem hk)).1
          obtain ⟨m, hm⟩ : ∃ m, m = ms[k] := ⟨_, rfl⟩
          rw [← hm] at g0 g1' g2 hqd hdm hone hsafe HEACH
          have HM := hide hm
          clear hm

          go_wp2_with fail
          refine (HN.out _).mono ?_
          rintro e w3 ⟨rfl, rfl⟩
          go_wp2
          go_ret
          rw [HE.out]
          exact ⟨rfl, HR2.out.did HT2.out⟩
        · have e : (A.rename nm ⟨to.toArray⟩) = (0, { A.tick with files := outF (outF A.files nm) to ++ [{ ms[k].abs with name := to }] }) := by
            unfold DA.rename
            rw [if_neg HF.out, hfile]
            simp only
            rw [if_neg (by rw [hnb]; simp)]
          have HE := hide e
          rw [hnb] at HN
          clear e hi hfd hname hfile hnb
          refine HI.out.mono ?_
          rintro e w2 ⟨rfl, ht2⟩
          have HT2 := hide (HT1.out.trans ht2 (by simp))
          have HR2 := hide (HR1.out.still ht2)
          clear ht2 HI
          obtain ⟨c0, c1, c2⟩ := HR2.out.mem.c
          obtain ⟨p, rfl, g0, g1, g2, q, d, hq, hqd, hdm⟩ := HR2.out.mem.three hk
          have g1' : w2.cell? ⟨(p.add (k * 3)).block, (p.add (k * 3)).off + 1, none⟩ = some (.slice ms[k].a ms[k].abs.bytes.length ms[k].c) := by rw [g1]; rfl
          have e1 := hq
          simp only [RM.sl, Value.slice.injEq] at e1
          obtain ⟨rfl, -, rfl⟩ := e1
          clear g1 hq
          have fz1 := HR2.out.mem.frz hk 1
          have fz2 := HR2.out.mem.frz hk 2
          have hone := H.out.one HGD.out _ (List.getElem_mem hk)
          have hsafe := HGD.out.safe _ (by rw [H.out.files]; exact List.mem_map.2 ⟨_, List.getElem_mem hk, rfl⟩)
          have HNOD := hide (H.out.names HGD.out)
          have HLOW := hide H.out.mem.lt
          have HEACH := hide (HR2.out.mem.each _ (List.getElem_mem hk)).1
          obtain ⟨m, hm⟩ : ∃ m, m = ms[k] := ⟨_, rfl⟩
          rw [← hm] at g0 g1' g2 hqd hdm hone hsafe HEACH
          have HM := hide hm
          clear hm

          clear c1 c2
          go_wp2_with fail
          refine (HN.out _).mono ?_
          rintro e w3 ⟨rfl, rfl⟩
          go_wp2_with fail
          have hga := heap_new w2 (.cells #[.string ⟨to.toArray⟩, .slice m.a m.abs.bytes.length m.c, .int .i64 m.abs.safe] 88)
          have HRA := hide (HR2.out.still ((Turn.refl [] w2).alloc (.cells #[.string ⟨to.toArray⟩, .slice m.a m.abs.bytes.length m.c, .int .i64 m.abs.safe] 88)))
          refine (refRemove_any HRA.out.mem (by omega) nm).mono ?_
          rintro e w3 ⟨rfl, s3, hr3, ht3, hl3⟩
          obtain ⟨a3, c3, rfl, -, -⟩ := hr3.form
          have hrlt := HR2.out.mem.lt r (foot_r _ _ _)
          have hgb := ht3.heap hga (by simp; omega)
          have HR3 := hide hr3
          have HL3 := hide hl3
          have HT3 := hide ht3
          clear hr3 hl3 ht3 hga
          go_wp2_with fail
          have hlen3 : (outR ms nm).length ≤ 200 := Nat.le_trans (List.length_filter_le _ _) hl200
          refine (refRemove_any HR3.out (by omega) to).mono ?_
          rintro e w4 ⟨rfl, s4, hr4, ht4, hl4⟩
          obtain ⟨a4, c4, rfl, -, -⟩ := hr4.form
          have hgb4 := ht4.heap hgb (by simp; omega)
          have hlen4 : (outR (outR ms nm) to).length ≤ 200 := Nat.le_trans (List.length_filter_le _ _) hlen3
          have hself := hr4.self
          have hsz3 := HT3.out.size
          have hsz4 := ht4.size
          simp only [World.size_alloc] at hsz3
          have hg4 : w2.heap.size < w4.heap.size := lt_of_heap hgb4
          have hr4l : r < w4.heap.size := by omega
          have hcells : ∀ Z, Turn (Value.slice a4 (outR (outR ms nm) to).length c4).ownBlock.toList w4 Z →
              (Z.cell? ⟨w2.heap.size, 0, none⟩ = some (.string ⟨to.toArray⟩) ∧ Z.cell? ⟨w2.heap.size, 1, none⟩ = some (.slice m.a m.abs.bytes.length m.c) ∧ Z.cell? ⟨w2.heap.size, 2, none⟩ = some (.int .i64 m.abs.safe)) ∧
              (w2.heap.size < Z.heap.size ∧ r < Z.heap.size) ∧ Z.heap[r]? = some (.cells #[.slice a4 (outR (outR ms nm) to).length c4, .int .i64 A.tick.room, .int .i64 (leftOf A.tick)] 33 (0, 0)) := by
            intro Z hZ
            have hg := hZ.heap hgb4 (fun hm => by have := hl4 w2.heap.size (by simpa using hm); omega)
            have hr := hZ.heap hself (fun hm => hr4.rsv (by simpa using hm))
            exact ⟨⟨by rw [cell_of hg]; rfl, by rw [cell_of hg]; rfl, by rw [cell_of hg]; rfl⟩, ⟨lt_of_heap hg, lt_of_heap hr⟩, hr⟩
          have HCELLS := hide hcells
          have HR4 := hide hr4
          have HT24 : Hid (Turn [r] w2 w4) := ((((Turn.refl [] w2).alloc (.cells #[.string ⟨to.toArray⟩, .slice m.a m.abs.bytes.length m.c, .int .i64 m.abs.safe] 88)).mono (T := [r]) (by simp)).same HT3.out).same ht4
          have HT4 := hide (HT2.out.trans (((((Turn.refl [] w2).alloc (.cells #[.string ⟨to.toArray⟩, .slice m.a m.abs.bytes.length m.c, .int .i64 m.abs.safe] 88)).mono (T := [r]) (by simp)).same HT3.out).same ht4) (fun x hx => .inl hx))
          have HL4 := hide hl4
          obtain ⟨⟨k0, k1, k2⟩, ⟨-, -⟩, hs⟩ := hcells w4 (Turn.refl _ _)
          have c4' : w4.cell? ⟨r, 0, none⟩ = some (.slice a4 (outR (outR ms nm) to).length c4) := by rw [cell_of hs]; rfl
          clear hcells hself hgb hgb4 hr4 ht4 hl4 g0 g1' g2 c0 fz1 fz2 hs k0 k1 k2 c4'
          go_wp2
          refine wp_region_loud 8 (Turn (Value.slice a4 (outR (outR ms nm) to).length c4).ownBlock.toList) (Turn []) (fun k w => match k with | 0 => (fun w => GRow 88 3 fileC w 0 (.slice a4 (outR (outR ms nm) to).length c4) (outR (outR ms nm) to)) w | _ => (fun w => GRow 88 3 fileC w 0 (.slice none 0 0) ([] : List RM)) w) [7] (by kernel_rfl) (by kernel_rfl) (by kernel_rfl) (by kernel_rfl) (by kernel_rfl) (by kernel_rfl) (Nat.le_of_ble_eq_true rfl) (by decide) rfl (Turn.refl _) (fun _ _ _ h k => h.same k) (fun _ _ h => h.mono (by simp)) ?_ ?_ ?_
          · intro k a b hk hR
            match k, hk with
            | 0, hk =>
              have hk := (show (fun w => GRow 88 3 fileC w 0 (.slice a4 (outR (outR ms nm) to).length c4) (outR (outR ms nm) to)) a from hk)
              dsimp only at hk
              show (fun w => GRow 88 3 fileC w 0 (.slice a4 (outR (outR ms nm) to).length c4) (outR (outR ms nm) to)) b
              dsimp only
              exact hk.still hR
            | _ + 1, hk =>
              have hk := (show (fun w => GRow 88 3 fileC w 0 (.slice none 0 0) ([] : List RM)) a from hk)
              dsimp only at hk
              show (fun w => GRow 88 3 fileC w 0 (.slice none 0 0) ([] : List RM)) b
              dsimp only
              exact hk.still hR
          · show (fun w => GRow 88 3 fileC w 0 (.slice a4 (outR (outR ms nm) to).length c4) (outR (outR ms nm) to)) _
            dsimp only
            exact HR4.out.row.still ((Turn.refl [] _).drew)
          apply Lo.runx 1 rfl rfl [] (by kernel_rfl) (Turn.refl _)
          apply Exists.intro; apply And.intro
          · intro u w1 hR hF
            clear hF
            refine ⟨rfl, fun a ha K hK => ?_⟩
            have e0 := ha 0
            conv at e0 => rhs; whnf
            clear ha
            go_simp
            refine hK _ ?_; rfl
          apply Lo.runx 2 rfl rfl [] (by kernel_rfl) (Turn.refl _)
          apply Exists.intro; apply And.intro
          · intro u w1 hR hF
            clear hF
            refine ⟨rfl, fun a ha K hK => ?_⟩
            have e0 := ha 0
            conv at e0 => rhs; whnf
            clear ha
            go_simp
            refine hK _ ?_; rfl
          apply Lo.runx 3 rfl rfl [1] (by kernel_rfl) (Turn.refl _)
          apply Exists.intro; apply And.intro
          · intro u w1 hR hF
            obtain ⟨h1, -⟩ := hF
            refine ⟨rfl, fun a ha K hK => ?_⟩
            have e154 := (ha 154).trans h1
            clear ha h1
            go_simp
            refine hK _ ?_; rfl
          apply Lo.runx 4 rfl rfl [2] (by kernel_rfl) (Turn.refl _)
          apply Exists.intro; apply And.intro
          · intro u w1 hR hF
            obtain ⟨h2, -⟩ := hF
            refine ⟨rfl, fun a ha K hK => ?_⟩
            have e155 := (ha 155).trans h2
            clear ha h2
            go_simp
            refine hK _ ?_; rfl
          apply Lo.runx 5 rfl rfl [3] (by kernel_rfl) (Turn.refl _)
          apply Exists.intro; apply And.intro
          · intro u w1 hR hF
            obtain ⟨h3, -⟩ := hF
            refine ⟨rfl, fun a ha K hK => ?_⟩
            have e156 := (ha 156).trans h3
            clear ha h3
            obtain ⟨⟨k0, k1, k2⟩, ⟨z1, z2⟩, hs⟩ := HCELLS.out w1 (((Turn.refl _ _).drew).same hR)
            have c0 : w1.cell? ⟨r, 0, none⟩ = some (.slice a4 (outR (outR ms nm) to).length c4) := by rw [cell_of hs]; rfl
            go_simp
            refine hK _ ?_; rfl
          apply Lo.runx 6 rfl rfl [] (by kernel_rfl) (Turn.refl _)
          apply Exists.intro; apply And.intro
          · intro u w1 hR hF
            clear hF
            refine ⟨rfl, fun a ha K hK => ?_⟩
            have e15 := ha 15
            conv at e15 => rhs; whnf
            clear ha
            obtain ⟨⟨k0, k1, k2⟩, ⟨z1, z2⟩, hs⟩ := HCELLS.out w1 (((Turn.refl _ _).drew).same hR)
            go_simp
            refine hK _ ?_; rfl
          refine Lo.run 7 rfl rfl [5] (fun x w' => ∃ k, x = .slice (some ⟨k, 0, none⟩) 1 1 ∧ w'.heap[k]? = some (.cells (fileC ⟨{ m.abs with name := to }, m.a, m.c⟩).toArray 88 (0, 0)) ∧ w4.heap.size ≤ k) (by kernel_rfl) (fun x w w' h hR => ?_) (fun _ _ h => h.mono (by simp)) (fun u w1 hR hF => ?_) ?_
          · obtain ⟨k, h1, h2, h3⟩ := h; exact ⟨k, h1, hR.heap h2 (fun hm => by have := (HR4.out.row.lt k (by simpa using hm)).2; omega), h3⟩
          · obtain ⟨h5, -⟩ := hF
            refine ⟨rfl, fun a ha K hK => ?_⟩
            have e158 := (ha 158).trans h5
            clear ha h5
            have e158' : a.tmps[158]?.getD undef = .agg #[.string ⟨to.toArray⟩, .slice m.a m.abs.bytes.length m.c, .int .i64 m.abs.safe] := by rw [← Array.getD_eq_getD_getElem?, e158]
            go_simp
            exact hK _ _ ⟨w1.heap.size, rfl, heap_new w1 _, hR.size⟩ ((Turn.refl [] _).alloc _)
          refine Lo.noisy 8 rfl 0 rfl [4, 6] (fun x w' => GRow 88 3 fileC w' 0 x (outR (outR ms nm) to ++ [⟨{ m.abs with name := to }, m.a, m.c⟩]) ∧ ∀ j ∈ x.ownBlock, j ∈ (Value.slice a4 (outR (outR ms nm) to).length c4).ownBlock ∨ w4.heap.size ≤ j) (by kernel_rfl) (fun x w w' h hR => ?_) (.inl (by kernel_rfl)) (fun u w1 hR hS hF => ?_) ?_
          · exact ⟨h.1.still hR, h.2⟩
          · obtain ⟨h4, h6, -⟩ := hF
            have hS := (show (fun w => GRow 88 3 fileC w 0 (.slice a4 (outR (outR ms nm) to).length c4) (outR (outR ms nm) to)) w1 from hS)
            dsimp only at hS
            refine ⟨rfl, fun a ha K hK => ?_⟩
            have e157 := (ha 157).trans h4
            have e159 : a.tmps.getD 159 undef = u 6 := ha 159
            have h6 := (show (fun x w' => ∃ k, x = .slice (some ⟨k, 0, none⟩) 1 1 ∧ w'.heap[k]? = some (.cells (fileC ⟨{ m.abs with name := to }, m.a, m.c⟩).toArray 88 (0, 0)) ∧ w4.heap.size ≤ k) (u 6) w1 from h6)
            dsimp only at h6
            clear ha h4
            obtain ⟨kk, hx6, hc6, hk6⟩ := h6
            rw [hx6] at e159
            obtain ⟨v7, w7, hr7, hrow7, ht7, hown7⟩ := app_file w1 0 (.slice a4 (outR (outR ms nm) to).length c4) (outR (outR ms nm) to) ⟨{ m.abs with name := to }, m.a, m.c⟩ kk hS hc6 (by omega) (Nat.zero_le _)
            have hsz7 := hR.size
            clear hx6 hc6
            exact oper_append rfl e157 e159 hr7 (hK _ _ ⟨hrow7, fun j hj => (hown7 j hj).elim .inl (fun h => .inr (Nat.le_trans hsz7 h))⟩ ht7 (.inl ⟨rfl, rfl⟩))
          refine Lo.done [0, 7] (fun u w1 hRd hSd hF => ?_)
          have hSd := (show (fun w => GRow 88 3 fileC w 0 (.slice none 0 0) ([] : List RM)) w1 from hSd)
          dsimp only at hSd
          obtain ⟨f0, f7, -⟩ := hF
          have d0 : u 0 = _ := f0
          have d7 := (show (fun x w' => GRow 88 3 fileC w' 0 x (outR (outR ms nm) to ++ [⟨{ m.abs with name := to }, m.a, m.c⟩]) ∧ ∀ j ∈ x.ownBlock, j ∈ (Value.slice a4 (outR (outR ms nm) to).length c4).ownBlock ∨ w4.heap.size ≤ j) (u 7) w1 from f7)
          dsimp only at d7
          clear f0 f7
          simp only [List.take_succ_cons, List.take_zero, List.drop_succ_cons, List.drop_zero, putFrom, Act.put, List.setIfInBounds_toArray, List.set_cons_succ, List.set_cons_zero, Nat.zero_add, Nat.reduceAdd, d0]
          obtain ⟨hrow7, hown7⟩ := d7
          obtain ⟨xa, xc, hxv, -, -⟩ := hrow7.form
          rw [hxv] at hrow7 hown7 ⊢
          rw [List.length_append, List.length_singleton] at hrow7 hown7 ⊢
          have ht7 : Turn (Value.slice a4 (outR (outR ms nm) to).length c4).ownBlock.toList w4 w1 := ((Turn.refl _ _).drew).same hRd
          obtain ⟨-, ⟨z1, z2⟩, hs⟩ := HCELLS.out w1 ht7
          have c7 : w1.cell? ⟨r, 0, none⟩ = some (.slice a4 (outR (outR ms nm) to).length c4) := by rw [cell_of hs]; rfl
          have f0 : w1.frozen? ⟨r, 0, none⟩ = false := frozen_of hs 0
          have hrn : r ∉ (Value.slice xa ((outR (outR ms nm) to).length + 1) xc).ownBlock := fun hk => (hown7 r hk).elim (fun h => HR4.out.rsv h) (fun h => by omega)
          have HROW7 := hide hrow7
          have HOWN7 := hide hown7
          have HT7 := hide ht7
          have HS7 := hide hs
          have HRN := hide hrn
          clear hrow7 hown7 ht7 hs hrn hRd hSd hxv
          go_wp2
          go_ret
          rw [HE.out]
          have hown4 : ∀ j ∈ m.sl.ownBlock, j < w2.heap.size ∧ j ≠ r := fun j hj => by
            have := (HR2.out.mem.each _ (List.getElem_mem hk)).2 j (by rw [← HM.out]; exact hj)
            exact ⟨this.1, this.2.1⟩
          refine ⟨rfl, .slice xa ((outR (outR ms nm) to).length + 1) xc, outR (outR ms nm) to ++ [⟨{ m.abs with name := to }, m.a, m.c⟩], ⟨?_, ?_⟩, ?_, ?_⟩
          · show RefAt _ r _ _ A.tick.room (leftOf A.tick)
            refine RefAt.mkRow HS7.out HROW7.out HRN.out (fun q hq => ?_)
            rcases List.mem_append.1 hq with hq | hq
            · have he := HR4.out.each q hq
              refine ⟨he.1.kept HT7.out (fun k hk _ => by simpa using (he.2 k hk).2.2), fun k hk => ⟨Nat.lt_of_lt_of_le (he.2 k hk).1 HT7.out.size, (he.2 k hk).2.1, fun h => ?_⟩⟩
              rcases HOWN7.out k h with h | h
              · exact (he.2 k hk).2.2 h
              · have := (he.2 k hk).1; omega
            · simp only [List.mem_singleton] at hq
              subst hq
              have hn4 : ∀ j ∈ m.sl.ownBlock, j ∉ (Value.slice a4 (outR (outR ms nm) to).length c4).ownBlock := fun j hj h => by
                have := HL4.out j h; have := (hown4 j hj).1; omega
              refine ⟨(HEACH.out.kept HT24.out (fun j hj _ => by simpa using (hown4 j hj).2)).kept HT7.out (fun j hj _ => by simpa using hn4 j hj), fun j hj => ?_⟩
              have h1 := hown4 j hj
              refine ⟨Nat.lt_of_lt_of_le h1.1 (Nat.le_trans HT24.out.size HT7.out.size), h1.2, fun h => ?_⟩
              rcases HOWN7.out j h with h | h
              · exact hn4 j hj h
              · have := HT24.out.size; omega
          · show outF (outF A.files nm) to ++ _ = _
            rw [H.out.files, ← HM.out, List.map_append]
            congr 1
            unfold outF outR
            rw [List.filter_map, List.filter_map]; rfl
          · refine (HT4.out.mono (fun x hx => .inl (by simp at hx; subst hx; exact foot_r _ _ _))).trans ((HT7.out.mono (T := r :: (Value.slice a4 (outR (outR ms nm) to).length c4).ownBlock.toList) (fun x hx => .inl (by simp; exact .inr (by simpa using hx)))).setCell (.inl (by simp)) _) (fun x hx => ?_)
            rcases List.mem_cons.1 hx with rfl | hx
            · exact .inl (foot_r _ _ _)
            · have := HL4.out x (by simpa using hx); have := HT2.out.size; exact .inr (by omega)
          · intro j hj
            have hz2 := HT2.out.size
            have hz4 := HT24.out.size
            simp only [RFoot, List.mem_cons, List.mem_append, List.mem_flatMap] at hj ⊢
            rcases hj with rfl | hj | ⟨q, hq, hj⟩
            · exact .inl (.inl rfl)
            · rcases HOWN7.out j (by simpa using hj) with h | h
              · have := HL4.out j h; exact .inr (by omega)
              · exact .inr (by omega)
            · rcases hq with hq | hq
              · exact .inl (.inr (.inr ⟨q, (List.mem_filter.1 (List.mem_filter.1 hq).1).1, hj⟩))
              · have hq : q = ⟨{ m.abs with name := to }, m.a, m.c⟩ := by simpa using hq
                subst hq
                exact .inl (.inr (.inr ⟨m, by rw [HM.out]; exact List.getElem_mem hk, hj⟩))

set_option maxHeartbeats 8000000 in
theorem do_remove {w : World} {r : Nat} {sv : Value} {ms : List RM} {A : DA} (h : Ref w r sv ms A) (hg : Good A) (nm to : List UInt8) (hnm : nm.length ≤ 1000000) (hto : to.length ≤ 1000000) (bv : Value) (n : Int) :
    Calls Tryd.prog 17 #[.pointer (some ⟨r, 0, none⟩), .string { data := #[114, 101, 109, 111, 118, 101] }, .string ⟨nm.toArray⟩, .string ⟨to.toArray⟩, bv, .int .i64 n] w fun e w' => e = .returned (.int .i64 (A.remove nm).1) ∧ RDid w w' r sv ms (A.remove nm).2 := by
  obtain ⟨a, c, rfl, hlc, hcm⟩ := h.mem.form
  have hmx : maxLen = 9223372036854775807 := by simp [maxLen]
  rw [hmx] at hcm
  have H := hide h
  have HGD := hide hg
  obtain ⟨c0, c1, c2⟩ := h.mem.c
  obtain ⟨f0, f1, f2⟩ := h.mem.f
  obtain ⟨b1, b2⟩ := leftOf_bound hg
  have hlf := leftOf_fails hg
  by_cases hf : A.fails = true
  · have e : (A.remove nm) = (14, A) := by unfold DA.remove; rw [if_pos hf]
    rw [e]
    rw [hlf.2 hf] at c2
    clear h hg hf hlf e f0 f1 f2 b1 b2
    go_enter Tryd.func17, Tryd.ntmps17
    go_wp2
    go_ret
    exact ⟨rfl, H.out.did (Turn.refl _ _)⟩
  · obtain ⟨L, hL⟩ : ∃ L, leftOf A = L := ⟨_, rfl⟩
    have hlt := leftOf_tick hg hf
    have hL0 : ¬ L = 0 := by rw [← hL]; exact fun e => hf (hlf.1 e)
    rw [hL] at c2 hlt b1 b2
    have HMEM : Hid (RefAt w r (.slice a ms.length c) ms A.room L) := hL ▸ h.mem
    have HF : Hid (¬ A.fails = true) := hf
    have HLT := hide hlt
    have hl200 := h.len hg
    clear h hg hf hlf hL hlt
    by_cases hp : 0 < L
    · obtain ⟨w1, hw1⟩ : ∃ w1, w1 = (w.setCell ⟨r, 2, none⟩ (.int .i64 (L - 1))) := ⟨_, rfl⟩
      have HR1 : Hid (Ref w1 r (.slice a ms.length c) ms A.tick) := hw1 ▸ (⟨by rw [tick_room]; exact (by rw [show leftOf A.tick = L - 1 by rw [HLT.out, if_pos hp]]; exact HMEM.out.setLeft (L - 1)), by rw [tick_files]; exact H.out.files⟩ : Ref (w.setCell ⟨r, 2, none⟩ (.int .i64 (L - 1))) r (.slice a ms.length c) ms A.tick)
      have HT1 : Hid (Turn [r] w w1) := by rw [hw1]; exact (Turn.refl [r] w).setCell (.inl (by simp)) _
      have HW1 := hide hw1
      clear HMEM HLT hw1
      go_enter Tryd.func17, Tryd.ntmps17
      go_wp2_with fail
      clear c0 c1 c2 f0 f1 f2
      rw [← HW1.out]
      clear HW1
      have HI := hide (at_any HR1.out.mem (by omega) nm)
      unfold idxI at HI
      have HLOW := hide H.out.mem.lt
      rcases hi : idxM ms nm with _ | k
      · have e : (A.remove nm) = (7, A.tick) := by
          have hff := idx_none hi
          unfold DA.remove
          rw [if_neg HF.out]
          rw [if_pos (by rw [findR_has H.out.files, hff]; rfl)]
        have HE := hide e
        rw [hi] at HI
        clear e hi
        refine HI.out.mono ?_
        rintro e w2 ⟨rfl, ht2⟩
        have HT2 := hide (HT1.out.trans ht2 (by simp))
        have HR2 := hide (HR1.out.still ht2)
        clear ht2 HI

        go_wp2
        go_ret
        rw [HE.out]
        exact ⟨rfl, HR2.out.did HT2.out⟩
      · obtain ⟨hk, hfd, hname⟩ := idx_some hi
        have e : A.remove nm = (0, { A.tick with files := outF A.files nm }) := by
          unfold DA.remove
          rw [if_neg HF.out, if_neg (by rw [findR_has H.out.files, hfd]; simp)]
        have HE := hide e
        rw [hi] at HI
        clear e hi hfd hname
        refine HI.out.mono ?_
        rintro e w2 ⟨rfl, ht2⟩
        have HT2 := hide (HT1.out.trans ht2 (by simp))
        have HR2 := hide (HR1.out.still ht2)
        clear ht2 HI

        obtain ⟨c0, c1, c2⟩ := HR2.out.mem.c
        obtain ⟨p, rfl, -⟩ := HR2.out.mem.three hk
        go_wp2_with fail
        refine (refRemove_any HR2.out.mem (by omega) nm).mono ?_
        rintro e w3 ⟨rfl, sv', hr3, ht3, hl3⟩
        have HR3 := hide hr3
        have HT3 := hide (HT2.out.same ht3)
        have HL3 := hide hl3
        have HS2 := hide HT2.out.size
        clear hr3 ht3 hl3
        go_wp2
        go_ret
        rw [HE.out]
        refine ⟨rfl, sv', outR ms nm, ⟨HR3.out, ?_⟩, HT3.out.mono (fun x hx => .inl (by simp at hx; subst hx; exact foot_r _ _ _)), ?_⟩
        · show outF A.files nm = _
          rw [H.out.files]; unfold outF outR; rw [List.filter_map]; rfl
        · intro j hj
          simp only [RFoot, List.mem_cons, List.mem_append, List.mem_flatMap] at hj ⊢
          rcases hj with rfl | hj | ⟨m, hm, hj⟩
          · exact .inl (.inl rfl)
          · have := HL3.out j (by simpa using hj); have := HS2.out; exact .inr (by omega)
          · exact .inl (.inr (.inr ⟨m, (List.mem_filter.1 hm).1, hj⟩))
    · obtain ⟨w1, hw1⟩ : ∃ w1, w1 = w := ⟨_, rfl⟩
      have HR1 : Hid (Ref w1 r (.slice a ms.length c) ms A.tick) := hw1 ▸ (⟨by rw [tick_room]; exact by rw [show leftOf A.tick = L by rw [HLT.out, if_neg hp]]; exact HMEM.out, by rw [tick_files]; exact H.out.files⟩ : Ref w r (.slice a ms.length c) ms A.tick)
      have HT1 : Hid (Turn [r] w w1) := by rw [hw1]; exact Turn.refl [r] w
      have HW1 := hide hw1
      clear HMEM HLT hw1
      go_enter Tryd.func17, Tryd.ntmps17
      go_wp2_with fail
      clear c0 c1 c2 f0 f1 f2
      rw [← HW1.out]
      clear HW1
      have HI := hide (at_any HR1.out.mem (by omega) nm)
      unfold idxI at HI
      have HLOW := hide H.out.mem.lt
      rcases hi : idxM ms nm with _ | k
      · have e : (A.remove nm) = (7, A.tick) := by
          have hff := idx_none hi
          unfold DA.remove
          rw [if_neg HF.out]
          rw [if_pos (by rw [findR_has H.out.files, hff]; rfl)]
        have HE := hide e
        rw [hi] at HI
        clear e hi
        refine HI.out.mono ?_
        rintro e w2 ⟨rfl, ht2⟩
        have HT2 := hide (HT1.out.trans ht2 (by simp))
        have HR2 := hide (HR1.out.still ht2)
        clear ht2 HI

        go_wp2
        go_ret
        rw [HE.out]
        exact ⟨rfl, HR2.out.did HT2.out⟩
      · obtain ⟨hk, hfd, hname⟩ := idx_some hi
        have e : A.remove nm = (0, { A.tick with files := outF A.files nm }) := by
          unfold DA.remove
          rw [if_neg HF.out, if_neg (by rw [findR_has H.out.files, hfd]; simp)]
        have HE := hide e
        rw [hi] at HI
        clear e hi hfd hname
        refine HI.out.mono ?_
        rintro e w2 ⟨rfl, ht2⟩
        have HT2 := hide (HT1.out.trans ht2 (by simp))
        have HR2 := hide (HR1.out.still ht2)
        clear ht2 HI

        obtain ⟨c0, c1, c2⟩ := HR2.out.mem.c
        obtain ⟨p, rfl, -⟩ := HR2.out.mem.three hk
        go_wp2_with fail
        refine (refRemove_any HR2.out.mem (by omega) nm).mono ?_
        rintro e w3 ⟨rfl, sv', hr3, ht3, hl3⟩
        have HR3 := hide hr3
        have HT3 := hide (HT2.out.same ht3)
        have HL3 := hide hl3
        have HS2 := hide HT2.out.size
        clear hr3 ht3 hl3
        go_wp2
        go_ret
        rw [HE.out]
        refine ⟨rfl, sv', outR ms nm, ⟨HR3.out, ?_⟩, HT3.out.mono (fun x hx => .inl (by simp at hx; subst hx; exact foot_r _ _ _)), ?_⟩
        · show outF A.files nm = _
          rw [H.out.files]; unfold outF outR; rw [List.filter_map]; rfl
        · intro j hj
          simp only [RFoot, List.mem_cons, List.mem_append, List.mem_flatMap] at hj ⊢
          rcases hj with rfl | hj | ⟨m, hm, hj⟩
          · exact .inl (.inl rfl)
          · have := HL3.out j (by simpa using hj); have := HS2.out; exact .inr (by omega)
          · exact .inl (.inr (.inr ⟨m, (List.mem_filter.1 hm).1, hj⟩))
end Go.Proofs.YtlcgcckllecjpaaDoor.Dk
