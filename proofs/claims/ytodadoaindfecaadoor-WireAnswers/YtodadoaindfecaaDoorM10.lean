/- Wje: texts merged. -/
import Derived.Test.YtodadoaindfecaaDoorM9
import Derived.Test.YtodadoaindfecaaDoorM1
import Derived.Test.YtodadoaindfecaaDoorM2
import Derived.Lib.Strings
/- conveyorkeep.WireBack, WireAnswers, walked. -/
namespace Go.Proofs.YtodadoaindfecaaDoor.Wi
open Go.RowKit Go.Maps
set_option maxRecDepth 100000
set_option linter.unusedSimpArgs false
set_option linter.unusedVariables false


set_option maxHeartbeats 16000000 in
theorem wireanswers_any (W : World) (x : Ans) (rv tv v2 : Value) (more : List UInt8) (cut : Int) (hrec : RecsAt W rv x.recs) (htop : TopsAt W tv x.topics) (hm : BytesAt W v2 more) (u1 : -9223372036854775808 ≤ cut) (u2 : cut ≤ 9223372036854775807) (hg : As.ErrT W) :
    Calls Tryd.prog 9 #[.agg (ansC x rv tv), v2, .int .i64 cut] W fun e w' => e = .returned (.bool true) ∧ Below W.heap.size W w' := by
  obtain ⟨kind, corr, err, offset, start, fin, found, recs, topics⟩ := x
  simp only at hrec htop
  obtain ⟨ra, rc, rfl, hrl1, hrl2, -⟩ := hrec.form
  obtain ⟨ta, tc, rfl, htl1, htl2, -⟩ := htop.form
  obtain ⟨a2, c2, rfl, hlc2, hcm2, hp2⟩ := hm.form
  have hmx : maxLen = 9223372036854775807 := by simp [maxLen]
  rw [hmx] at hcm2 hrl2 htl2
  simp only [ansC]
  obtain ⟨X, hX⟩ : ∃ X : Ans, X = ⟨kind, corr, err, offset, start, fin, found, recs, topics⟩ := ⟨_, rfl⟩
  have HX := hide hX
  have HREC := hide hrec
  have HTOP := hide htop
  have HM := hide hm
  have HG := hide hg
  obtain ⟨w0, hw0⟩ : ∃ w0, w0 = W.alloc (.cells #[.int .i64 kind, .int .i64 corr, .int .i64 err, .int .i64 offset, .int .i64 start, .int .i64 fin, .bool found, .slice ra recs.length rc, .slice ta topics.length tc] 57) := ⟨_, rfl⟩
  have hbox : w0.heap[W.heap.size]? = some (.cells #[.int .i64 kind, .int .i64 corr, .int .i64 err, .int .i64 offset, .int .i64 start, .int .i64 fin, .bool found, .slice ra recs.length rc, .slice ta topics.length tc] 57 (0, 0)) := by rw [hw0]; exact heap_new W _
  have hal : Turn [] W w0 := by rw [hw0]; exact (Turn.refl [] W).alloc _
  have box : ∀ Z, Turn [] w0 Z → W.heap.size < Z.heap.size ∧ Z.cell? ⟨W.heap.size, 7, none⟩ = some (.slice ra recs.length rc) ∧ Z.cell? ⟨W.heap.size, 8, none⟩ = some (.slice ta topics.length tc) :=
    fun Z hZ => by
      have hb := hZ.heap hbox (by simp)
      exact ⟨lt_of_heap hb, by simpa [strV] using cell_of hb 7, by simpa [strV] using cell_of hb 8⟩
  have hlx := load9 hbox
  have HLX := hide hlx
  have BOX := hide box
  have HAL := hide hal
  have HW0 := hide hw0
  clear hbox hal box hw0 hX hg hlx hp2 hrec htop hm
  by_cases hn : 100 < wrap64 ((recs.length : Int) + (topics.length : Int))
  · 
    go_enter Tryd.func9, Tryd.ntmps9
    go_upto_region 1 with fail
    rw [show W.alloc (.cells #[.int .i64 kind, .int .i64 corr, .int .i64 err, .int .i64 offset, .int .i64 start, .int .i64 fin, .bool found, .slice ra recs.length rc, .slice ta topics.length tc] 57) = w0 from HW0.out.symm]
    obtain ⟨z0, q7, q8⟩ := BOX.out w0 (Turn.refl _ _)
    go_wp2
    go_ret
    exact ⟨rfl, HAL.out.nil⟩
  by_cases hn2 : 2000 < (more.length : Int)
  · 
    go_enter Tryd.func9, Tryd.ntmps9
    go_upto_region 1 with fail
    rw [show W.alloc (.cells #[.int .i64 kind, .int .i64 corr, .int .i64 err, .int .i64 offset, .int .i64 start, .int .i64 fin, .bool found, .slice ra recs.length rc, .slice ta topics.length tc] 57) = w0 from HW0.out.symm]
    obtain ⟨z0, q7, q8⟩ := BOX.out w0 (Turn.refl _ _)
    go_wp2
    go_ret
    exact ⟨rfl, HAL.out.nil⟩
  go_enter Tryd.func9, Tryd.ntmps9
  go_upto_region 1 with fail
  rw [show W.alloc (.cells #[.int .i64 kind, .int .i64 corr, .int .i64 err, .int .i64 offset, .int .i64 start, .int .i64 fin, .bool found, .slice ra recs.length rc, .slice ta topics.length tc] 57) = w0 from HW0.out.symm]
  obtain ⟨z0, q7, q8⟩ := BOX.out w0 (Turn.refl _ _)
  go_wp2_with (refine wpList_loadT rfl _ _ rfl ⟨W.heap.size, 0, none⟩ rfl _ HLX.out ?_)
  refine (tell_any w0 ⟨kind, corr, err, offset, start, fin, found, recs, topics⟩ (.slice ra recs.length rc) (.slice ta topics.length tc) (HREC.out.still HAL.out) (HTOP.out.still HAL.out)).mono ?_
  rintro e w1 ⟨v1, rfl, hr1, ht1⟩
  rw [← HX.out] at hr1 ⊢
  obtain ⟨a1, c1, rfl, hl1, -, -⟩ := hr1.bytes.form
  obtain ⟨ee, hee⟩ : ∃ ee, ee = (tellP X).2 := ⟨_, rfl⟩
  rw [← hee]
  have HE := hide hee
  have HT1 := hide (HAL.out.same ht1)
  have HR1 := hide hr1
  clear ht1 hr1 hee z0 q7 q8 hn
  by_cases h0 : ee = 0
  · subst h0
    simp only [As.errN, if_true]
    go_wp2_with fail
    refine (framed_any _).mono ?_
    rintro e w2 ⟨rfl, ht2⟩
    have HT2 := hide (HT1.out.same ht2)
    have hpm : tellP X = tellM X := tellP_ok HE.out.symm
    have hz : (tellM X).2 = 0 := by rw [← hpm]; exact HE.out.symm
    have hr2 := (HR1.out.kept ht2 (by simp)).bytes
    rw [hpm] at hr2 hl1 ⊢
    obtain ⟨hL1, hL2⟩ := tellM_len hz
    have HZ := hide hz
    obtain ⟨v4, w4, hr4, hrow4, ht4, hown4⟩ := app_bytes (w2.alloc (.cells #[] 5)) w2.heap.size (.slice (some ⟨w2.heap.size, 0, none⟩) 0 0) (.slice a1 (tellM X).1.length c1) [] (tellM X).1
      (.inr ⟨w2.heap.size, 0, #[], rfl, Nat.le_refl _, heap_new w2 _, Nat.le_refl _, Nat.le_refl _, by simp [maxLen], rfl⟩) (hr2.slice.kept ((Turn.refl [] _).alloc _) (by simp)) (by simp; omega) (by simp)
    rw [List.nil_append] at hrow4
    have ht24 : Turn [] w2 w4 := ((Turn.refl [] w2).alloc (.cells #[] 5)).trans ht4 (fun k hk => .inr (by simp [Value.ownBlock] at hk; omega))
    have hm4 := HM.out.still (HT2.out.same ht24)
    obtain ⟨v5, w5, hr5, hrow5, ht5, hown5⟩ := app_bytes w4 w2.heap.size v4 (.slice a2 more.length c2) (tellM X).1 more hrow4 hm4.slice (by omega) (by have := ht24.size; omega)
    have ht25 : Turn [] w2 w5 := ht24.trans ht5 (fun k hk => .inr (hrow4.lt k (by simpa using hk)).1)
    have hb5 := hrow5.bytes
    obtain ⟨a4, c4, rfl, -, -, -⟩ := hrow4.bytes.form
    obtain ⟨a5, c5, rfl, -, -, -⟩ := hb5.form
    have hb25 := hr2.still ht25
    have hasked := told_any w5 _ _ hb5 (by rw [List.length_append]; omega)
    rw [told_tell hz more] at hasked
    rw [List.length_append] at hb5 hr5 hasked
    obtain ⟨L, hL⟩ : ∃ L, L = (tellM X).1.length := ⟨_, rfl⟩
    rw [← hL] at hb25 hr4 hr5 hL1 hL2 hl1 hasked ⊢
    simp only at hasked
    have HL := hide hL
    have HA := hide hasked
    have HR4 := hide hr4
    have HR5 := hide hr5
    have HT5 := hide (HT2.out.same ht25)
    have HB5 := hide hb25
    clear hr4 hr5 hb5 hb25 hrow4 hrow5 ht4 ht5 ht24 ht25 hm4 hown4 hown5 hr2 ht2 hL hasked hz hpm
    go_wp2_with (at_builtin; go_must (first | (refine wpList_append_told rfl rfl rfl rfl HR4.out ?_; clear HR4) | refine wpList_append_told rfl rfl rfl rfl HR5.out ?_))
    refine HA.out.mono ?_
    rintro e w6 ⟨rv6, tv6, rfl, hrec6, htop6, ht6⟩
    simp only [As.errN, if_true]
    have hpc := tellP_can HZ.out
    obtain ⟨y, hy⟩ : ∃ y, y = canA X := ⟨_, rfl⟩
    
    rw [← hy] at hrec6 hpc ⊢
    rw [← hy] at htop6
    obtain ⟨kind6, corr6, err6, offset6, start6, fin6, found6, recs6, topics6⟩ := y
    obtain ⟨ra6, rc6, rfl, -⟩ := hrec6.form
    obtain ⟨ta6, tc6, rfl, -⟩ := htop6.form
    simp only [ansC] at hrec6 htop6 ⊢
    obtain ⟨hfz, hfr⟩ := fresh_row (T := 57) w6 [.int .i64 0, .int .i64 0, .int .i64 0, .int .i64 0, .int .i64 0, .int .i64 0, .bool false, .slice none 0 0, .slice none 0 0] [.int .i64 kind6, .int .i64 corr6, .int .i64 err6, .int .i64 offset6, .int .i64 start6, .int .i64 fin6, .bool found6, .slice ra6 recs6.length rc6, .slice ta6 topics6.length tc6]
    obtain ⟨wx, hwx⟩ : ∃ wx, wx = (w6.alloc (.cells #[.int .i64 0, .int .i64 0, .int .i64 0, .int .i64 0, .int .i64 0, .int .i64 0, .bool false, .slice none 0 0, .slice none 0 0] 57)).setRow w6.heap.size #[.int .i64 kind6, .int .i64 corr6, .int .i64 err6, .int .i64 offset6, .int .i64 start6, .int .i64 fin6, .bool found6, .slice ra6 recs6.length rc6, .slice ta6 topics6.length tc6] := ⟨_, rfl⟩
    have hlx : (loadVar 57 ⟨w6.heap.size, 0, none⟩).run Tryd.prog wx = .ok (.agg #[.int .i64 kind6, .int .i64 corr6, .int .i64 err6, .int .i64 offset6, .int .i64 start6, .int .i64 fin6, .bool found6, .slice ra6 recs6.length rc6, .slice ta6 topics6.length tc6]) wx := load9 (hfr wx (by rw [hwx]; exact Turn.refl _ _)).1
    have htx := (hfr wx (by rw [hwx]; exact Turn.refl _ _)).2
    have HTX := hide (HT5.out.same (ht6.same htx))
    have HBX := hide (HB5.out.still (ht6.same htx))
    have HREC6 := hide (hrec6.still htx)
    have HTOP6 := hide (htop6.still htx)
    have HLX6 := hide hlx
    have HWX := hide hwx
    have HFZ := hide hfz
    have HPC := hide hpc
    clear hfz hfr hlx htx hwx hrec6 htop6 ht6 hpc hy
    go_upto_region 7 with (refine wpList_store_row rfl _ _ _ rfl w6.heap.size #[.int .i64 kind6, .int .i64 corr6, .int .i64 err6, .int .i64 offset6, .int .i64 start6, .int .i64 fin6, .bool found6, .slice ra6 recs6.length rc6, .slice ta6 topics6.length tc6] rfl rfl _ _ HFZ.out (by kernel_rfl) rfl (by kernel_rfl) ?_)
    rw [show (w6.alloc (.cells #[.int .i64 0, .int .i64 0, .int .i64 0, .int .i64 0, .int .i64 0, .int .i64 0, .bool false, .slice none 0 0, .slice none 0 0] 57)).setRow w6.heap.size #[.int .i64 kind6, .int .i64 corr6, .int .i64 err6, .int .i64 offset6, .int .i64 start6, .int .i64 fin6, .bool found6, .slice ra6 recs6.length rc6, .slice ta6 topics6.length tc6] = wx from HWX.out.symm]
    go_wp2_with (refine wpList_loadT rfl _ _ rfl ⟨w6.heap.size, 0, none⟩ rfl _ HLX6.out ?_)
    refine (tell_any wx ⟨kind6, corr6, err6, offset6, start6, fin6, found6, recs6, topics6⟩ (.slice ra6 recs6.length rc6) (.slice ta6 topics6.length tc6) HREC6.out HTOP6.out).mono ?_
    rintro e w7 ⟨v7, rfl, hr7, ht7⟩
    rw [HPC.out] at hr7 ⊢
    rw [HZ.out]
    simp only [As.errN, if_true]
    obtain ⟨a7, c7, rfl, -, -, -⟩ := hr7.bytes.form
    rw [← HL.out] at hr7 ⊢
    have HT7 := hide (HTX.out.same ht7)
    have HB7 := hide (HBX.out.still ht7)
    have HR7 := hide hr7.bytes
    clear hr7 ht7
    go_wp2_with fail
    refine (pickN_any cut L (by omega) (by omega) _).mono ?_
    rintro e w8 ⟨⟨k, hk, rfl⟩, rfl⟩
    have hsl : ∀ w, (Instr.slice 49 (.slice a1 L c1) none (some (.int .i64 (k : Int))) none).run Tryd.prog w = .ok (.slice a1 k c1) w := fun w => @run_to a1 L c1 k (by omega) w
    go_wp2_with fail
    have hb8 := BytesAt.take (n := k) (by rw [← HL.out]; exact HB7.out) (by rw [← HL.out]; omega)
    have hasked := told_any _ _ ((tellM X).1.take k) hb8 (by rw [List.length_take]; omega)
    rw [told_short HZ.out (by rw [← HL.out]; exact hk)] at hasked
    refine hasked.mono ?_
    rintro e w9 ⟨rv8, tv8, rfl, hrec8, htop8, ht9⟩
    obtain ⟨ra8, rc8, rfl, -⟩ := hrec8.form
    obtain ⟨ta8, tc8, rfl, -⟩ := htop8.form
    have hc12 : ¬ ((12 : Int) = 0) := by decide
    simp only [zA, mkA, ansC, List.length_nil, As.errN, hc12, if_false]
    obtain ⟨hfz, hfr⟩ := fresh_row (T := 57) w9 [.int .i64 0, .int .i64 0, .int .i64 0, .int .i64 0, .int .i64 0, .int .i64 0, .bool false, .slice none 0 0, .slice none 0 0] [.int .i64 0, .int .i64 0, .int .i64 0, .int .i64 0, .int .i64 0, .int .i64 0, .bool false, .slice ra8 0 rc8, .slice ta8 0 tc8]
    obtain ⟨wz, hwz⟩ : ∃ wz, wz = (w9.alloc (.cells #[.int .i64 0, .int .i64 0, .int .i64 0, .int .i64 0, .int .i64 0, .int .i64 0, .bool false, .slice none 0 0, .slice none 0 0] 57)).setRow w9.heap.size #[.int .i64 0, .int .i64 0, .int .i64 0, .int .i64 0, .int .i64 0, .int .i64 0, .bool false, .slice ra8 0 rc8, .slice ta8 0 tc8] := ⟨_, rfl⟩
    have htz := (hfr wz (by rw [hwz]; exact Turn.refl _ _)).2
    have h9z := ht9.same htz
    have hcv1 := (HR7.out.still h9z).conv
    have hcv2 := (HB7.out.still h9z).conv
    have HTZ := hide (HT7.out.same h9z)
    have HWZ := hide hwz
    have HFZ := hide hfz
    clear hfz hfr htz h9z hwz ht9 hrec8 htop8 hasked hb8
    go_upto_region 11 with (refine wpList_store_row rfl _ _ _ rfl w9.heap.size #[.int .i64 0, .int .i64 0, .int .i64 0, .int .i64 0, .int .i64 0, .int .i64 0, .bool false, .slice ra8 0 rc8, .slice ta8 0 tc8] rfl rfl _ _ HFZ.out (by kernel_rfl) rfl (by kernel_rfl) ?_)
    rw [show (w9.alloc (.cells #[.int .i64 0, .int .i64 0, .int .i64 0, .int .i64 0, .int .i64 0, .int .i64 0, .bool false, .slice none 0 0, .slice none 0 0] 57)).setRow w9.heap.size #[.int .i64 0, .int .i64 0, .int .i64 0, .int .i64 0, .int .i64 0, .int .i64 0, .bool false, .slice ra8 0 rc8, .slice ta8 0 tc8] = wz from HWZ.out.symm]
    go_wp2_with fail
    refine (As.tell_errno 12 _ (HG.out.below HTZ.out.nil)).mono ?_
    rintro e w10 ⟨rfl, hb10⟩
    go_wp2
    go_ret
    exact ⟨rfl, (HTZ.out.same (Turn.of_below hb10 _)).nil⟩
  · simp only [As.errN, h0, if_false]
    go_wp2_with fail
    refine (framed_any _).mono ?_
    rintro e w2 ⟨rfl, ht2⟩
    have HT2 := hide (HT1.out.same ht2)
    go_wp2_with fail
    refine (framed_any _).mono ?_
    rintro e w3 ⟨rfl, ht3⟩
    have HT3 := hide (HT2.out.same ht3)
    go_wp2
    go_ret
    exact ⟨rfl, HT3.out.nil⟩
end Go.Proofs.YtodadoaindfecaaDoor.Wi
