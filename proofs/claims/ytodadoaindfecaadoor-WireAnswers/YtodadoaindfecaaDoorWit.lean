/- conveyorlaw.WireAsks, WireTells, walked. -/
import Derived.Test.YtodadoaindfecaaDoorWis
namespace Go.Proofs.YtodadoaindfecaaDoor.Wi
open Go.RowKit Go.Maps
set_option maxRecDepth 100000
set_option linter.unusedSimpArgs false
set_option linter.unusedVariables false


set_option maxHeartbeats 4000000 in
theorem wireasks_any (W : World) (x : Req) (rv : Value) (hrec : RecsAt W rv x.recs) (htl : x.topic.length ≤ 1048576) (hsm : ∀ r ∈ x.recs, RecSm r) (hg : As.ErrT W) :
    Calls Tryd.prog 4 #[.agg (reqC x rv)] W fun e w' => e = .returned (.bool true) ∧ Below W.heap.size W w' := by
  obtain ⟨kind, corr, topic, part, offset, most, least, wait, time, parts, sure, compact, recs⟩ := x
  simp only at hrec hsm htl
  obtain ⟨ra, rc, rfl, hrl1, hrl2, -⟩ := hrec.form
  simp only [reqC]
  obtain ⟨X, hX⟩ : ∃ X : Req, X = ⟨kind, corr, topic, part, offset, most, least, wait, time, parts, sure, compact, recs⟩ := ⟨_, rfl⟩
  have HX := hide hX
  have HREC := hide hrec

  have HSM := hide hsm
  have HG := hide hg
  obtain ⟨w0, hw0⟩ : ∃ w0, w0 = W.alloc (.cells #[.int .i64 kind, .int .i64 corr, strV topic, .int .i64 part, .int .i64 offset, .int .i64 most, .int .i64 least, .int .i64 wait, .int .i64 time, .int .i64 parts, .bool sure, .bool compact, .slice ra recs.length rc] 48) := ⟨_, rfl⟩
  have hbox : w0.heap[W.heap.size]? = some (.cells #[.int .i64 kind, .int .i64 corr, strV topic, .int .i64 part, .int .i64 offset, .int .i64 most, .int .i64 least, .int .i64 wait, .int .i64 time, .int .i64 parts, .bool sure, .bool compact, .slice ra recs.length rc] 48 (0, 0)) := by rw [hw0]; exact heap_new W _
  have hal : Turn [] W w0 := by rw [hw0]; exact (Turn.refl [] W).alloc _
  have box : ∀ Z, Turn [] w0 Z → W.heap.size < Z.heap.size ∧ Z.cell? ⟨W.heap.size, 0, none⟩ = some (.int .i64 kind) ∧ Z.cell? ⟨W.heap.size, 1, none⟩ = some (.int .i64 corr) ∧ Z.cell? ⟨W.heap.size, 2, none⟩ = some (strV topic) ∧ Z.cell? ⟨W.heap.size, 3, none⟩ = some (.int .i64 part) ∧ Z.cell? ⟨W.heap.size, 4, none⟩ = some (.int .i64 offset) ∧ Z.cell? ⟨W.heap.size, 5, none⟩ = some (.int .i64 most) ∧ Z.cell? ⟨W.heap.size, 6, none⟩ = some (.int .i64 least) ∧ Z.cell? ⟨W.heap.size, 7, none⟩ = some (.int .i64 wait) ∧ Z.cell? ⟨W.heap.size, 8, none⟩ = some (.int .i64 time) ∧ Z.cell? ⟨W.heap.size, 9, none⟩ = some (.int .i64 parts) ∧ Z.cell? ⟨W.heap.size, 10, none⟩ = some (.bool sure) ∧ Z.cell? ⟨W.heap.size, 11, none⟩ = some (.bool compact) ∧ Z.cell? ⟨W.heap.size, 12, none⟩ = some (.slice ra recs.length rc) :=
    fun Z hZ => by
      have hb := hZ.heap hbox (by simp)
      exact ⟨lt_of_heap hb, by simpa [strV] using cell_of hb 0, by simpa [strV] using cell_of hb 1, by simpa [strV] using cell_of hb 2, by simpa [strV] using cell_of hb 3, by simpa [strV] using cell_of hb 4, by simpa [strV] using cell_of hb 5, by simpa [strV] using cell_of hb 6, by simpa [strV] using cell_of hb 7, by simpa [strV] using cell_of hb 8, by simpa [strV] using cell_of hb 9, by simpa [strV] using cell_of hb 10, by simpa [strV] using cell_of hb 11, by simpa [strV] using cell_of hb 12⟩
  have BOX := hide box
  have HAL := hide hal
  have HW0 := hide hw0
  clear hbox hal box hw0 hX hrec hsm hg 
  by_cases hn : 300 < recs.length
  · have hn1 : 300 < (recs.length : Int) := by omega
    
    go_enter Tryd.func4, Tryd.ntmps4
    go_upto_region 1 with fail
    rw [show W.alloc (.cells #[.int .i64 kind, .int .i64 corr, strV topic, .int .i64 part, .int .i64 offset, .int .i64 most, .int .i64 least, .int .i64 wait, .int .i64 time, .int .i64 parts, .bool sure, .bool compact, .slice ra recs.length rc] 48) = w0 from HW0.out.symm]
    obtain ⟨z0, q0, q1, q2, q3, q4, q5, q6, q7, q8, q9, q10, q11, q12⟩ := BOX.out w0 (Turn.refl _ _)
    go_wp2
    go_ret
    exact ⟨rfl, HAL.out.nil⟩
  · have hn1 : ¬ 300 < (recs.length : Int) := by omega
    have hlr : recs.length ≤ 10000 := by omega
    
    go_enter Tryd.func4, Tryd.ntmps4
    go_upto_region 1 with fail
    rw [show W.alloc (.cells #[.int .i64 kind, .int .i64 corr, strV topic, .int .i64 part, .int .i64 offset, .int .i64 most, .int .i64 least, .int .i64 wait, .int .i64 time, .int .i64 parts, .bool sure, .bool compact, .slice ra recs.length rc] 48) = w0 from HW0.out.symm]
    obtain ⟨z0, q0, q1, q2, q3, q4, q5, q6, q7, q8, q9, q10, q11, q12⟩ := BOX.out w0 (Turn.refl _ _)
    go_wp2_with fail
    refine (refAsk_any w0 ⟨kind, corr, topic, part, offset, most, least, wait, time, parts, sure, compact, recs⟩ _ (HREC.out.still HAL.out) htl HSM.out hlr).mono ?_
    rintro e w2 ⟨v2, rfl, hrow2, ht2⟩
    rw [← HX.out] at hrow2 ⊢
    have HR2 := hide hrow2
    have HT2 := hide ht2
    clear hrow2 ht2 z0 q0 q1 q2 q3 q4 q5 q6 q7 q8 q9 q10 q11 q12
    obtain ⟨z0, q0, q1, q2, q3, q4, q5, q6, q7, q8, q9, q10, q11, q12⟩ := BOX.out w2 HT2.out
    go_wp2_with fail
    refine (ask_any w2 ⟨kind, corr, topic, part, offset, most, least, wait, time, parts, sure, compact, recs⟩ _ ((HREC.out.still HAL.out).still HT2.out) (by simp only; omega)).mono ?_
    rintro e w3 ⟨v3, rfl, hrow3, ht3⟩
    rw [← HX.out] at hrow3 ⊢
    have hpm : askP X = askM X := askP_small (reqCl_small (by rw [HX.out]; exact htl) (by rw [HX.out]; exact HSM.out))
    rw [hpm] at hrow3 ⊢
    have hr2 := HR2.out.kept ht3 (by simp)
    have HR3 := hide hrow3
    have HR23 := hide hr2
    have HT3 := hide ((HAL.out.same HT2.out).same ht3)
    have hbare := As.bare_any (askM X).2 (askM X).2 w3 (HG.out.below HT3.out.nil)
    rw [show ((askM X).2 == (askM X).2) = true by simp] at hbare
    have HBA := hide hbare
    clear hrow3 ht3 hpm hr2 hbare z0 q0 q1 q2 q3 q4 q5 q6 q7 q8 q9 q10 q11 q12
    go_wp2_with fail
    refine HBA.out.mono ?_
    rintro e w4 ⟨rfl, hb⟩
    have ht4 : Turn [] w3 w4 := Turn.of_below hb []
    have hc2 := ((HR23.out.kept ht4 (by simp)).bytes).conv
    have hc3 := ((HR3.out.kept ht4 (by simp)).bytes).conv
    have HT4 := hide (HT3.out.same ht4)
    clear hb ht4
    go_wp2
    go_ret
    exact ⟨rfl, HT4.out.nil⟩

set_option maxHeartbeats 4000000 in
theorem wiretells_any (W : World) (x : Ans) (rv tv : Value) (hrec : RecsAt W rv x.recs) (htop : TopsAt W tv x.topics) (hsm : ∀ r ∈ x.recs, RecSm r) (htm : ∀ t ∈ x.topics, t.name.length ≤ 1048576) (hb1 : x.recs.length ≤ 1048576) (hb2 : x.topics.length ≤ 1048576) (hg : As.ErrT W) :
    Calls Tryd.prog 5 #[.agg (ansC x rv tv)] W fun e w' => e = .returned (.bool true) ∧ Below W.heap.size W w' := by
  obtain ⟨kind, corr, err, offset, start, fin, found, recs, topics⟩ := x
  simp only at hrec hsm htop htm hb1 hb2
  obtain ⟨ra, rc, rfl, hrl1, hrl2, -⟩ := hrec.form
  obtain ⟨ta, tc, rfl, htl1, htl2, -⟩ := htop.form
  simp only [ansC]
  obtain ⟨X, hX⟩ : ∃ X : Ans, X = ⟨kind, corr, err, offset, start, fin, found, recs, topics⟩ := ⟨_, rfl⟩
  have HX := hide hX
  have HREC := hide hrec
  have HTOP := hide htop
  have HTM := hide htm
  have HSM := hide hsm
  have HG := hide hg
  obtain ⟨w0, hw0⟩ : ∃ w0, w0 = W.alloc (.cells #[.int .i64 kind, .int .i64 corr, .int .i64 err, .int .i64 offset, .int .i64 start, .int .i64 fin, .bool found, .slice ra recs.length rc, .slice ta topics.length tc] 57) := ⟨_, rfl⟩
  have hbox : w0.heap[W.heap.size]? = some (.cells #[.int .i64 kind, .int .i64 corr, .int .i64 err, .int .i64 offset, .int .i64 start, .int .i64 fin, .bool found, .slice ra recs.length rc, .slice ta topics.length tc] 57 (0, 0)) := by rw [hw0]; exact heap_new W _
  have hal : Turn [] W w0 := by rw [hw0]; exact (Turn.refl [] W).alloc _
  have box : ∀ Z, Turn [] w0 Z → W.heap.size < Z.heap.size ∧ Z.cell? ⟨W.heap.size, 0, none⟩ = some (.int .i64 kind) ∧ Z.cell? ⟨W.heap.size, 1, none⟩ = some (.int .i64 corr) ∧ Z.cell? ⟨W.heap.size, 2, none⟩ = some (.int .i64 err) ∧ Z.cell? ⟨W.heap.size, 3, none⟩ = some (.int .i64 offset) ∧ Z.cell? ⟨W.heap.size, 4, none⟩ = some (.int .i64 start) ∧ Z.cell? ⟨W.heap.size, 5, none⟩ = some (.int .i64 fin) ∧ Z.cell? ⟨W.heap.size, 6, none⟩ = some (.bool found) ∧ Z.cell? ⟨W.heap.size, 7, none⟩ = some (.slice ra recs.length rc) ∧ Z.cell? ⟨W.heap.size, 8, none⟩ = some (.slice ta topics.length tc) :=
    fun Z hZ => by
      have hb := hZ.heap hbox (by simp)
      exact ⟨lt_of_heap hb, by simpa [strV] using cell_of hb 0, by simpa [strV] using cell_of hb 1, by simpa [strV] using cell_of hb 2, by simpa [strV] using cell_of hb 3, by simpa [strV] using cell_of hb 4, by simpa [strV] using cell_of hb 5, by simpa [strV] using cell_of hb 6, by simpa [strV] using cell_of hb 7, by simpa [strV] using cell_of hb 8⟩
  have BOX := hide box
  have HAL := hide hal
  have HW0 := hide hw0
  clear hbox hal box hw0 hX hrec hsm hg htop htm
  by_cases hn : 300 < recs.length + topics.length
  · have hn1 : 300 < (recs.length : Int) + topics.length := by omega
    have hmx : maxLen = 9223372036854775807 := by simp [maxLen]
    go_enter Tryd.func5, Tryd.ntmps5
    go_upto_region 1 with fail
    rw [show W.alloc (.cells #[.int .i64 kind, .int .i64 corr, .int .i64 err, .int .i64 offset, .int .i64 start, .int .i64 fin, .bool found, .slice ra recs.length rc, .slice ta topics.length tc] 57) = w0 from HW0.out.symm]
    obtain ⟨z0, q0, q1, q2, q3, q4, q5, q6, q7, q8⟩ := BOX.out w0 (Turn.refl _ _)
    go_wp2
    go_ret
    exact ⟨rfl, HAL.out.nil⟩
  · have hn1 : ¬ 300 < (recs.length : Int) + topics.length := by omega
    have hlr : recs.length ≤ 10000 := by omega
    have hlt : topics.length ≤ 10000 := by omega
    go_enter Tryd.func5, Tryd.ntmps5
    go_upto_region 1 with fail
    rw [show W.alloc (.cells #[.int .i64 kind, .int .i64 corr, .int .i64 err, .int .i64 offset, .int .i64 start, .int .i64 fin, .bool found, .slice ra recs.length rc, .slice ta topics.length tc] 57) = w0 from HW0.out.symm]
    obtain ⟨z0, q0, q1, q2, q3, q4, q5, q6, q7, q8⟩ := BOX.out w0 (Turn.refl _ _)
    go_wp2_with fail
    refine (refTell_any w0 ⟨kind, corr, err, offset, start, fin, found, recs, topics⟩ _ _ (HREC.out.still HAL.out) (HTOP.out.still HAL.out) HSM.out hlr HTM.out hlt).mono ?_
    rintro e w2 ⟨v2, rfl, hrow2, ht2⟩
    rw [← HX.out] at hrow2 ⊢
    have HR2 := hide hrow2
    have HT2 := hide ht2
    clear hrow2 ht2 z0 q0 q1 q2 q3 q4 q5 q6 q7 q8
    obtain ⟨z0, q0, q1, q2, q3, q4, q5, q6, q7, q8⟩ := BOX.out w2 HT2.out
    go_wp2_with fail
    refine (tell_any w2 ⟨kind, corr, err, offset, start, fin, found, recs, topics⟩ _ _ ((HREC.out.still HAL.out).still HT2.out) ((HTOP.out.still HAL.out).still HT2.out)).mono ?_
    rintro e w3 ⟨v3, rfl, hrow3, ht3⟩
    rw [← HX.out] at hrow3 ⊢
    have hpm : tellP X = tellM X := tellP_small (ansCl_small (by rw [HX.out]; exact HSM.out) (by rw [HX.out]; exact HTM.out))
    rw [hpm] at hrow3 ⊢
    have hr2 := HR2.out.kept ht3 (by simp)
    have HR3 := hide hrow3
    have HR23 := hide hr2
    have HT3 := hide ((HAL.out.same HT2.out).same ht3)
    have hbare := As.bare_any (tellM X).2 (tellM X).2 w3 (HG.out.below HT3.out.nil)
    rw [show ((tellM X).2 == (tellM X).2) = true by simp] at hbare
    have HBA := hide hbare
    clear hrow3 ht3 hpm hr2 hbare z0 q0 q1 q2 q3 q4 q5 q6 q7 q8
    go_wp2_with fail
    refine HBA.out.mono ?_
    rintro e w4 ⟨rfl, hb⟩
    have ht4 : Turn [] w3 w4 := Turn.of_below hb []
    have hc2 := ((HR23.out.kept ht4 (by simp)).bytes).conv
    have hc3 := ((HR3.out.kept ht4 (by simp)).bytes).conv
    have HT4 := hide (HT3.out.same ht4)
    clear hb ht4
    go_wp2
    go_ret
    exact ⟨rfl, HT4.out.nil⟩
end Go.Proofs.YtodadoaindfecaaDoor.Wi
