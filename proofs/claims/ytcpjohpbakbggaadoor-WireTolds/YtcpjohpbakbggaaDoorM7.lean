/- Wiq: texts merged. -/
import Derived.Test.YtcpjohpbakbggaaDoorM6
import Derived.Test.YtcpjohpbakbggaaDoorM3
import Derived.Deep.CutBlock
import Derived.Deep.DeepCutAuto
/- The document's Ask. -/
namespace Go.Proofs.YtcpjohpbakbggaaDoor.Wi
open Go.RowKit Go.Maps
set_option maxRecDepth 100000
set_option linter.unusedSimpArgs false
set_option linter.unusedVariables false

theorem nums_ne (s : WS) (n : Int) (l : List Int) : (nums s (n :: l)).1 ≠ [] := fun h => by
  have h1 : (pN s n).1.length ≤ (nums (pN s n) l).1.length := by
    have : ∀ (l : List Int) (s : WS), s.1.length ≤ (nums s l).1.length := by
      intro l
      induction l with
      | nil => intro s; exact Nat.le_refl _
      | cons n l ih =>
        intro s
        rw [nums_cons]
        refine Nat.le_trans ?_ (ih (pN s n))
        unfold pN
        split <;> simp
    exact this l (pN s n)
  rw [nums_cons] at h
  rw [h] at h1
  have h2 : 0 < (pN s n).1.length := by
    unfold pN
    have := Nu.put_pos n.toNat
    have := Nu.put_pos 0
    split <;> (simp only [List.length_append]; omega)
  simp at h1
  rw [h1] at h2
  simp at h2
theorem rRun_ne {s : WS} (h : s.1 ≠ []) : ∀ l : List Cl, (rRun s l).1 ≠ []
  | [] => h
  | c :: l => by
    rw [rRun_cons]
    refine rRun_ne ?_ l
    cases c with
    | ns l =>
      cases l with
      | nil => exact h
      | cons n l => exact nums_ne s n l
    | tx t m =>
      rw [rStep_tx]
      intro e
      have := List.append_eq_nil_iff.1 e
      split at this
      · exact nums_ne (s.1, 4) t.length [] this.1
      · exact nums_ne s t.length [] this.1
theorem reqRun_ne (s : WS) (x : Req) : (rRun s (reqCl x)).1 ≠ [] := by
  unfold reqCl
  rw [rRun_cons]
  exact rRun_ne (nums_ne s _ _) _
theorem ansRun_ne (s : WS) (x : Ans) : (rRun s (ansCl x)).1 ≠ [] := by
  unfold ansCl
  rw [rRun_cons]
  exact rRun_ne (nums_ne s _ _) _

set_option maxHeartbeats 8000000 in
theorem mAsk1_any (w : World) (corr : Int) (topic : List UInt8) (part offset most least wait time parts : Int) (sure compact : Bool) (recs : List Bt.Rec) (a : Option Addr) (c : Nat) (hrec : RecsAt w (.slice a recs.length c) recs) (htl : topic.length ≤ 1048576) (hsm : ∀ r ∈ recs, RecSm r) (hlr : recs.length ≤ 10000) :
    Calls Tryd.prog 17 #[.agg #[.int .i64 1, .int .i64 corr, strV topic, .int .i64 part, .int .i64 offset, .int .i64 most, .int .i64 least, .int .i64 wait, .int .i64 time, .int .i64 parts, .bool sure, .bool compact, .slice a recs.length c]] w fun e w' => ∃ v, e = .returned (.tuple #[v, .int .i64 (askM (⟨1, corr, topic, part, offset, most, least, wait, time, parts, sure, compact, recs⟩ : Req)).2]) ∧ RowAt w' 5 w.heap.size v (askM (⟨1, corr, topic, part, offset, most, least, wait, time, parts, sure, compact, recs⟩ : Req)).1 ∧ Turn [] w w' := by

  obtain ⟨w0, hw0⟩ : ∃ w0, w0 = w.alloc (.cells #[.int .i64 1, .int .i64 corr, strV topic, .int .i64 part, .int .i64 offset, .int .i64 most, .int .i64 least, .int .i64 wait, .int .i64 time, .int .i64 parts, .bool sure, .bool compact, .slice a recs.length c] 25) := ⟨_, rfl⟩
  have hbox : w0.heap[w.heap.size]? = some (.cells #[.int .i64 1, .int .i64 corr, strV topic, .int .i64 part, .int .i64 offset, .int .i64 most, .int .i64 least, .int .i64 wait, .int .i64 time, .int .i64 parts, .bool sure, .bool compact, .slice a recs.length c] 25 (0, 0)) := by rw [hw0]; exact heap_new w _
  have hal : Turn [] w w0 := by rw [hw0]; exact (Turn.refl [] w).alloc _
  obtain ⟨wm, hwm⟩ : ∃ wm, wm = w0.alloc (.cells #[.slice none 0 0, .int .i64 0] mT) := ⟨_, rfl⟩
  have hmx2 : wm.heap[w0.heap.size]? = some (.cells #[.slice none 0 0, .int .i64 0] mT (0, 0)) := by rw [hwm]; exact heap_new w0 _
  have hal2 : Turn [] w0 wm := by rw [hwm]; exact (Turn.refl [] w0).alloc _
  have hbox2 := hal2.heap hbox (by simp)
  have hsw : w.heap.size < w0.heap.size := lt_of_heap hbox
  have hmk : MkAt mT eI wm w0.heap.size w0.heap.size (.slice none 0 0) ([], 0) := ⟨hmx2, .inl ⟨rfl, rfl⟩, by simp [Value.ownBlock]⟩
  obtain ⟨s0, hs0⟩ : ∃ s : Value, s = .slice none 0 0 := ⟨_, rfl⟩
  obtain ⟨b0, hb0⟩ : ∃ b : WS, b = ([], 0) := ⟨_, rfl⟩
  rw [← hs0, ← hb0] at hmk
  have hl0 : b0.1.length ≤ 100 := by rw [hb0]; simp
  have box : ∀ wi si bi, MkTo mT eI wm wi w0.heap.size w0.heap.size s0 si bi → w.heap.size < wi.heap.size ∧ wi.cell? ⟨w.heap.size, 0, none⟩ = some (.int .i64 1) ∧ wi.cell? ⟨w.heap.size, 1, none⟩ = some (.int .i64 corr) ∧ wi.cell? ⟨w.heap.size, 2, none⟩ = some (strV topic) ∧ wi.cell? ⟨w.heap.size, 3, none⟩ = some (.int .i64 part) ∧ wi.cell? ⟨w.heap.size, 4, none⟩ = some (.int .i64 offset) ∧ wi.cell? ⟨w.heap.size, 5, none⟩ = some (.int .i64 most) ∧ wi.cell? ⟨w.heap.size, 6, none⟩ = some (.int .i64 least) ∧ wi.cell? ⟨w.heap.size, 7, none⟩ = some (.int .i64 wait) ∧ wi.cell? ⟨w.heap.size, 8, none⟩ = some (.int .i64 time) ∧ wi.cell? ⟨w.heap.size, 9, none⟩ = some (.int .i64 parts) ∧ wi.cell? ⟨w.heap.size, 10, none⟩ = some (.bool sure) ∧ wi.cell? ⟨w.heap.size, 11, none⟩ = some (.bool compact) ∧ wi.cell? ⟨w.heap.size, 12, none⟩ = some (.slice a recs.length c) :=
    fun wi si bi h2 => by
      have hb := h2.box hbox2 (by omega) (fun x hx => by rw [hs0] at hx; simp [Value.ownBlock] at hx)
      exact ⟨lt_of_heap hb, by simpa [strV] using cell_of hb 0, by simpa [strV] using cell_of hb 1, by simpa [strV] using cell_of hb 2, by simpa [strV] using cell_of hb 3, by simpa [strV] using cell_of hb 4, by simpa [strV] using cell_of hb 5, by simpa [strV] using cell_of hb 6, by simpa [strV] using cell_of hb 7, by simpa [strV] using cell_of hb 8, by simpa [strV] using cell_of hb 9, by simpa [strV] using cell_of hb 10, by simpa [strV] using cell_of hb 11, by simpa [strV] using cell_of hb 12⟩
  have z0 : w.heap.size < w0.heap.size ∧ w0.cell? ⟨w.heap.size, 0, none⟩ = some (.int .i64 1) ∧ w0.cell? ⟨w.heap.size, 1, none⟩ = some (.int .i64 corr) ∧ w0.cell? ⟨w.heap.size, 2, none⟩ = some (strV topic) ∧ w0.cell? ⟨w.heap.size, 3, none⟩ = some (.int .i64 part) ∧ w0.cell? ⟨w.heap.size, 4, none⟩ = some (.int .i64 offset) ∧ w0.cell? ⟨w.heap.size, 5, none⟩ = some (.int .i64 most) ∧ w0.cell? ⟨w.heap.size, 6, none⟩ = some (.int .i64 least) ∧ w0.cell? ⟨w.heap.size, 7, none⟩ = some (.int .i64 wait) ∧ w0.cell? ⟨w.heap.size, 8, none⟩ = some (.int .i64 time) ∧ w0.cell? ⟨w.heap.size, 9, none⟩ = some (.int .i64 parts) ∧ w0.cell? ⟨w.heap.size, 10, none⟩ = some (.bool sure) ∧ w0.cell? ⟨w.heap.size, 11, none⟩ = some (.bool compact) ∧ w0.cell? ⟨w.heap.size, 12, none⟩ = some (.slice a recs.length c) := by
    have hb := hbox
    exact ⟨hsw, by simpa [strV] using cell_of hb 0, by simpa [strV] using cell_of hb 1, by simpa [strV] using cell_of hb 2, by simpa [strV] using cell_of hb 3, by simpa [strV] using cell_of hb 4, by simpa [strV] using cell_of hb 5, by simpa [strV] using cell_of hb 6, by simpa [strV] using cell_of hb 7, by simpa [strV] using cell_of hb 8, by simpa [strV] using cell_of hb 9, by simpa [strV] using cell_of hb 10, by simpa [strV] using cell_of hb 11, by simpa [strV] using cell_of hb 12⟩
  have recsAt : ∀ wi si bi, MkTo mT eI wm wi w0.heap.size w0.heap.size s0 si bi → RecsAt wi (.slice a recs.length c) recs := fun wi si bi hg =>
    ((hrec.still hal).still hal2).kept' hg.2.1 (fun h0 k hk hm => by
      have h1 := hrec.lt h0 k hk
      rcases List.mem_cons.1 hm with rfl | hm
      · omega
      · rw [hs0] at hm; simp [Value.ownBlock] at hm)
  have hrb : recs ≠ [] → ∀ k ∈ (Value.slice a recs.length c).ownBlock, k < w0.heap.size := fun h0 k hk => by have := hrec.lt h0 k hk; omega
  have RECS := hide recsAt
  have fin : ∀ wi si bi, MkTo mT eI wm wi w0.heap.size w0.heap.size s0 si bi → Turn [] w wi := fun wi si bi h2 =>
    (hal.same hal2).trans h2.2.1 (fun k hk => .inr (by
      rcases List.mem_cons.1 hk with rfl | hk
      · omega
      · rw [hs0] at hk; simp [Value.ownBlock] at hk))
  have FIN := hide fin
  have BOX := hide box
  have HT0 := hide hmk.self
  have HW0 := hide hw0
  have HWM := hide hwm
  have HB0 := hide hb0
  have hszm : w0.heap.size < wm.heap.size := lt_of_heap hmx2
  clear hbox hal hal2 hw0 hwm hmx2 hbox2 hmk hs0 hb0 box fin recsAt hrec
  obtain ⟨z0, q0, q1, q2, q3, q4, q5, q6, q7, q8, q9, q10, q11, q12⟩ := z0
  go_enter Tryd.func17, Tryd.ntmps17
  go_upto_region 1 with fail
  rw [show w.alloc (.cells #[.int .i64 1, .int .i64 corr, strV topic, .int .i64 part, .int .i64 offset, .int .i64 most, .int .i64 least, .int .i64 wait, .int .i64 time, .int .i64 parts, .bool sure, .bool compact, .slice a recs.length c] 25) = w0 from HW0.out.symm]
  go_upto_region 4 with fail
  rw [show w0.alloc (.cells #[.slice none 0 0, .int .i64 0] mT) = wm from HWM.out.symm]
  clear z0 q0 q1 q2 q3 q4 q5 q6 q7 q8 q9 q10 q11 q12
  obtain ⟨z0, q0, q1, q2, q3, q4, q5, q6, q7, q8, q9, q10, q11, q12⟩ := BOX.out _ _ _ HT0.out
  go_wp2_with fail
  refine (mnum_new _ w0.heap.size w0.heap.size s0 b0 HT0.out.1 (by omega) [1, corr] (by rfl) (by rfl) (by rfl) (by simp) (by omega)).mono ?_
  rintro e wz1 ⟨rfl, s1, hto⟩
  have HT1 := hide (HT0.out.trans hto)
  clear hto
  have hl1 := (show (nums b0 [1, corr]).1.length ≤ b0.1.length + 12 from nums_len b0 [1, corr])
  obtain ⟨b1, hb⟩ : ∃ b, b = nums b0 [1, corr] := ⟨_, rfl⟩
  rw [← hb] at HT1 hl1
  have HB1 := hide hb
  clear hb
  have hsz1 := HT1.out.2.1.size
  clear z0 q0 q1 q2 q3 q4 q5 q6 q7 q8 q9 q10 q11 q12
  obtain ⟨z0, q0, q1, q2, q3, q4, q5, q6, q7, q8, q9, q10, q11, q12⟩ := BOX.out _ _ _ HT1.out
  go_wp2_with fail
  refine (mtext_any _ w0.heap.size w0.heap.size s1 b1 HT1.out.1 (by omega) topic 40 (by omega) htl (by omega)).mono ?_
  rintro e wz2 ⟨rfl, s2, hto⟩
  have HT2 := hide (HT1.out.trans hto)
  clear hto
  have hl2 := rStep_len b1 (.tx topic 40)
  obtain ⟨b2, hb⟩ : ∃ b, b = rStep b1 (.tx topic 40) := ⟨_, rfl⟩
  rw [← hb] at HT2 hl2
  have HB2 := hide hb
  clear hb
  have hsz2 := HT2.out.2.1.size
  clear z0 q0 q1 q2 q3 q4 q5 q6 q7 q8 q9 q10 q11 q12
  obtain ⟨z0, q0, q1, q2, q3, q4, q5, q6, q7, q8, q9, q10, q11, q12⟩ := BOX.out _ _ _ HT2.out
  simp only [clLen] at hl2
  go_wp2_with fail
  refine (mnum_new _ w0.heap.size w0.heap.size s2 b2 HT2.out.1 (by omega) [part] (by rfl) (by rfl) (by rfl) (by simp) (by omega)).mono ?_
  rintro e wz3 ⟨rfl, s3, hto⟩
  have HT3 := hide (HT2.out.trans hto)
  clear hto
  have hl3 := (show (nums b2 [part]).1.length ≤ b2.1.length + 6 from nums_len b2 [part])
  obtain ⟨b3, hb⟩ : ∃ b, b = nums b2 [part] := ⟨_, rfl⟩
  rw [← hb] at HT3 hl3
  have HB3 := hide hb
  clear hb
  have hsz3 := HT3.out.2.1.size
  clear z0 q0 q1 q2 q3 q4 q5 q6 q7 q8 q9 q10 q11 q12
  obtain ⟨z0, q0, q1, q2, q3, q4, q5, q6, q7, q8, q9, q10, q11, q12⟩ := BOX.out _ _ _ HT3.out
  go_wp2_with fail
  refine (mtru_any _ w0.heap.size w0.heap.size s3 b3 HT3.out.1 (by omega) sure (by omega)).mono ?_
  rintro e wz4 ⟨rfl, s4, hto⟩
  have HT4 := hide (HT3.out.trans hto)
  clear hto
  have hl4 := (show (nums b3 [tr sure]).1.length ≤ b3.1.length + 6 from nums_len b3 [tr sure])
  obtain ⟨b4, hb⟩ : ∃ b, b = nums b3 [tr sure] := ⟨_, rfl⟩
  rw [← hb] at HT4 hl4
  have HB4 := hide hb
  clear hb
  have hsz4 := HT4.out.2.1.size
  clear z0 q0 q1 q2 q3 q4 q5 q6 q7 q8 q9 q10 q11 q12
  obtain ⟨z0, q0, q1, q2, q3, q4, q5, q6, q7, q8, q9, q10, q11, q12⟩ := BOX.out _ _ _ HT4.out
  go_wp2_with fail
  refine (mrecsF_any _ w0.heap.size w0.heap.size s4 b4 HT4.out.1 (by omega) (Nat.le_refl _) recs a c (RECS.out _ _ _ HT4.out) hrb hsm hlr (by omega)).mono ?_
  rintro e wz5 ⟨rfl, s5, hto⟩
  have HT5 := hide (HT4.out.trans hto)
  clear hto
  obtain ⟨b5, hb⟩ : ∃ b, b = rRun b4 (.ns [(recs.length : Int)] :: recs.flatMap recCl) := ⟨_, rfl⟩
  rw [← hb] at HT5
  have HB5 := hide hb
  clear hb
  have hsz5 := HT5.out.2.1.size
  clear z0 q0 q1 q2 q3 q4 q5 q6 q7 q8 q9 q10 q11 q12
  obtain ⟨z0, q0, q1, q2, q3, q4, q5, q6, q7, q8, q9, q10, q11, q12⟩ := BOX.out _ _ _ HT5.out
  have hbf : b5 = rRun ([], 0) (reqCl (⟨1, corr, topic, part, offset, most, least, wait, time, parts, sure, compact, recs⟩ : Req)) := by rw [HB5.out, HB4.out, HB3.out, HB2.out, HB1.out, HB0.out]; rfl
  have hm : askM (⟨1, corr, topic, part, offset, most, least, wait, time, parts, sure, compact, recs⟩ : Req) = rF b5 := by rw [hbf]; rfl
  have hne : b5.1 ≠ [] := by rw [hbf]; exact reqRun_ne _ _
  have HMM := hide hm
  clear hbf hm
  go_wp2_with fail
  refine (mframe_any _ w0.heap.size w0.heap.size s5 b5 HT5.out.1 (by omega) hne).mono ?_
  rintro e wf ⟨v, rfl, hrow, htf⟩
  have hrow' : RowAt wf 5 w.heap.size v (rF b5).1 := by
    rcases hrow with h | ⟨g, cap, cur, h1, h2, h3⟩
    · exact .inl h
    · exact .inr ⟨g, cap, cur, h1, by omega, h3⟩
  have HROW := hide hrow'
  have HTF := hide ((FIN.out _ _ _ HT5.out).same htf)
  clear hrow hrow' htf hne z0 q0 q1 q2 q3 q4 q5 q6 q7 q8 q9 q10 q11 q12
  go_wp2
  go_ret2
  exact ⟨v, by rw [HMM.out]; rfl, by rw [HMM.out]; exact HROW.out, HTF.out⟩

set_option maxHeartbeats 8000000 in
theorem mAsk2_any (w : World) (corr : Int) (topic : List UInt8) (part offset most least wait time parts : Int) (sure compact : Bool) (recs : List Bt.Rec) (a : Option Addr) (c : Nat) (hrec : RecsAt w (.slice a recs.length c) recs) (htl : topic.length ≤ 1048576) (hsm : ∀ r ∈ recs, RecSm r) (hlr : recs.length ≤ 10000) :
    Calls Tryd.prog 17 #[.agg #[.int .i64 2, .int .i64 corr, strV topic, .int .i64 part, .int .i64 offset, .int .i64 most, .int .i64 least, .int .i64 wait, .int .i64 time, .int .i64 parts, .bool sure, .bool compact, .slice a recs.length c]] w fun e w' => ∃ v, e = .returned (.tuple #[v, .int .i64 (askM (⟨2, corr, topic, part, offset, most, least, wait, time, parts, sure, compact, recs⟩ : Req)).2]) ∧ RowAt w' 5 w.heap.size v (askM (⟨2, corr, topic, part, offset, most, least, wait, time, parts, sure, compact, recs⟩ : Req)).1 ∧ Turn [] w w' := by

  obtain ⟨w0, hw0⟩ : ∃ w0, w0 = w.alloc (.cells #[.int .i64 2, .int .i64 corr, strV topic, .int .i64 part, .int .i64 offset, .int .i64 most, .int .i64 least, .int .i64 wait, .int .i64 time, .int .i64 parts, .bool sure, .bool compact, .slice a recs.length c] 25) := ⟨_, rfl⟩
  have hbox : w0.heap[w.heap.size]? = some (.cells #[.int .i64 2, .int .i64 corr, strV topic, .int .i64 part, .int .i64 offset, .int .i64 most, .int .i64 least, .int .i64 wait, .int .i64 time, .int .i64 parts, .bool sure, .bool compact, .slice a recs.length c] 25 (0, 0)) := by rw [hw0]; exact heap_new w _
  have hal : Turn [] w w0 := by rw [hw0]; exact (Turn.refl [] w).alloc _
  obtain ⟨wm, hwm⟩ : ∃ wm, wm = w0.alloc (.cells #[.slice none 0 0, .int .i64 0] mT) := ⟨_, rfl⟩
  have hmx2 : wm.heap[w0.heap.size]? = some (.cells #[.slice none 0 0, .int .i64 0] mT (0, 0)) := by rw [hwm]; exact heap_new w0 _
  have hal2 : Turn [] w0 wm := by rw [hwm]; exact (Turn.refl [] w0).alloc _
  have hbox2 := hal2.heap hbox (by simp)
  have hsw : w.heap.size < w0.heap.size := lt_of_heap hbox
  have hmk : MkAt mT eI wm w0.heap.size w0.heap.size (.slice none 0 0) ([], 0) := ⟨hmx2, .inl ⟨rfl, rfl⟩, by simp [Value.ownBlock]⟩
  obtain ⟨s0, hs0⟩ : ∃ s : Value, s = .slice none 0 0 := ⟨_, rfl⟩
  obtain ⟨b0, hb0⟩ : ∃ b : WS, b = ([], 0) := ⟨_, rfl⟩
  rw [← hs0, ← hb0] at hmk
  have hl0 : b0.1.length ≤ 100 := by rw [hb0]; simp
  have box : ∀ wi si bi, MkTo mT eI wm wi w0.heap.size w0.heap.size s0 si bi → w.heap.size < wi.heap.size ∧ wi.cell? ⟨w.heap.size, 0, none⟩ = some (.int .i64 2) ∧ wi.cell? ⟨w.heap.size, 1, none⟩ = some (.int .i64 corr) ∧ wi.cell? ⟨w.heap.size, 2, none⟩ = some (strV topic) ∧ wi.cell? ⟨w.heap.size, 3, none⟩ = some (.int .i64 part) ∧ wi.cell? ⟨w.heap.size, 4, none⟩ = some (.int .i64 offset) ∧ wi.cell? ⟨w.heap.size, 5, none⟩ = some (.int .i64 most) ∧ wi.cell? ⟨w.heap.size, 6, none⟩ = some (.int .i64 least) ∧ wi.cell? ⟨w.heap.size, 7, none⟩ = some (.int .i64 wait) ∧ wi.cell? ⟨w.heap.size, 8, none⟩ = some (.int .i64 time) ∧ wi.cell? ⟨w.heap.size, 9, none⟩ = some (.int .i64 parts) ∧ wi.cell? ⟨w.heap.size, 10, none⟩ = some (.bool sure) ∧ wi.cell? ⟨w.heap.size, 11, none⟩ = some (.bool compact) ∧ wi.cell? ⟨w.heap.size, 12, none⟩ = some (.slice a recs.length c) :=
    fun wi si bi h2 => by
      have hb := h2.box hbox2 (by omega) (fun x hx => by rw [hs0] at hx; simp [Value.ownBlock] at hx)
      exact ⟨lt_of_heap hb, by simpa [strV] using cell_of hb 0, by simpa [strV] using cell_of hb 1, by simpa [strV] using cell_of hb 2, by simpa [strV] using cell_of hb 3, by simpa [strV] using cell_of hb 4, by simpa [strV] using cell_of hb 5, by simpa [strV] using cell_of hb 6, by simpa [strV] using cell_of hb 7, by simpa [strV] using cell_of hb 8, by simpa [strV] using cell_of hb 9, by simpa [strV] using cell_of hb 10, by simpa [strV] using cell_of hb 11, by simpa [strV] using cell_of hb 12⟩
  have z0 : w.heap.size < w0.heap.size ∧ w0.cell? ⟨w.heap.size, 0, none⟩ = some (.int .i64 2) ∧ w0.cell? ⟨w.heap.size, 1, none⟩ = some (.int .i64 corr) ∧ w0.cell? ⟨w.heap.size, 2, none⟩ = some (strV topic) ∧ w0.cell? ⟨w.heap.size, 3, none⟩ = some (.int .i64 part) ∧ w0.cell? ⟨w.heap.size, 4, none⟩ = some (.int .i64 offset) ∧ w0.cell? ⟨w.heap.size, 5, none⟩ = some (.int .i64 most) ∧ w0.cell? ⟨w.heap.size, 6, none⟩ = some (.int .i64 least) ∧ w0.cell? ⟨w.heap.size, 7, none⟩ = some (.int .i64 wait) ∧ w0.cell? ⟨w.heap.size, 8, none⟩ = some (.int .i64 time) ∧ w0.cell? ⟨w.heap.size, 9, none⟩ = some (.int .i64 parts) ∧ w0.cell? ⟨w.heap.size, 10, none⟩ = some (.bool sure) ∧ w0.cell? ⟨w.heap.size, 11, none⟩ = some (.bool compact) ∧ w0.cell? ⟨w.heap.size, 12, none⟩ = some (.slice a recs.length c) := by
    have hb := hbox
    exact ⟨hsw, by simpa [strV] using cell_of hb 0, by simpa [strV] using cell_of hb 1, by simpa [strV] using cell_of hb 2, by simpa [strV] using cell_of hb 3, by simpa [strV] using cell_of hb 4, by simpa [strV] using cell_of hb 5, by simpa [strV] using cell_of hb 6, by simpa [strV] using cell_of hb 7, by simpa [strV] using cell_of hb 8, by simpa [strV] using cell_of hb 9, by simpa [strV] using cell_of hb 10, by simpa [strV] using cell_of hb 11, by simpa [strV] using cell_of hb 12⟩
  have recsAt : ∀ wi si bi, MkTo mT eI wm wi w0.heap.size w0.heap.size s0 si bi → RecsAt wi (.slice a recs.length c) recs := fun wi si bi hg =>
    ((hrec.still hal).still hal2).kept' hg.2.1 (fun h0 k hk hm => by
      have h1 := hrec.lt h0 k hk
      rcases List.mem_cons.1 hm with rfl | hm
      · omega
      · rw [hs0] at hm; simp [Value.ownBlock] at hm)
  have hrb : recs ≠ [] → ∀ k ∈ (Value.slice a recs.length c).ownBlock, k < w0.heap.size := fun h0 k hk => by have := hrec.lt h0 k hk; omega
  have RECS := hide recsAt
  have fin : ∀ wi si bi, MkTo mT eI wm wi w0.heap.size w0.heap.size s0 si bi → Turn [] w wi := fun wi si bi h2 =>
    (hal.same hal2).trans h2.2.1 (fun k hk => .inr (by
      rcases List.mem_cons.1 hk with rfl | hk
      · omega
      · rw [hs0] at hk; simp [Value.ownBlock] at hk))
  have FIN := hide fin
  have BOX := hide box
  have HT0 := hide hmk.self
  have HW0 := hide hw0
  have HWM := hide hwm
  have HB0 := hide hb0
  have hszm : w0.heap.size < wm.heap.size := lt_of_heap hmx2
  clear hbox hal hal2 hw0 hwm hmx2 hbox2 hmk hs0 hb0 box fin recsAt hrec
  obtain ⟨z0, q0, q1, q2, q3, q4, q5, q6, q7, q8, q9, q10, q11, q12⟩ := z0
  go_enter Tryd.func17, Tryd.ntmps17
  go_upto_region 1 with fail
  rw [show w.alloc (.cells #[.int .i64 2, .int .i64 corr, strV topic, .int .i64 part, .int .i64 offset, .int .i64 most, .int .i64 least, .int .i64 wait, .int .i64 time, .int .i64 parts, .bool sure, .bool compact, .slice a recs.length c] 25) = w0 from HW0.out.symm]
  go_upto_region 4 with fail
  rw [show w0.alloc (.cells #[.slice none 0 0, .int .i64 0] mT) = wm from HWM.out.symm]
  clear z0 q0 q1 q2 q3 q4 q5 q6 q7 q8 q9 q10 q11 q12
  obtain ⟨z0, q0, q1, q2, q3, q4, q5, q6, q7, q8, q9, q10, q11, q12⟩ := BOX.out _ _ _ HT0.out
  go_wp2_with fail
  refine (mnum_new _ w0.heap.size w0.heap.size s0 b0 HT0.out.1 (by omega) [2, corr] (by rfl) (by rfl) (by rfl) (by simp) (by omega)).mono ?_
  rintro e wz1 ⟨rfl, s1, hto⟩
  have HT1 := hide (HT0.out.trans hto)
  clear hto
  have hl1 := (show (nums b0 [2, corr]).1.length ≤ b0.1.length + 12 from nums_len b0 [2, corr])
  obtain ⟨b1, hb⟩ : ∃ b, b = nums b0 [2, corr] := ⟨_, rfl⟩
  rw [← hb] at HT1 hl1
  have HB1 := hide hb
  clear hb
  have hsz1 := HT1.out.2.1.size
  clear z0 q0 q1 q2 q3 q4 q5 q6 q7 q8 q9 q10 q11 q12
  obtain ⟨z0, q0, q1, q2, q3, q4, q5, q6, q7, q8, q9, q10, q11, q12⟩ := BOX.out _ _ _ HT1.out
  go_wp2_with fail
  refine (mtext_any _ w0.heap.size w0.heap.size s1 b1 HT1.out.1 (by omega) topic 40 (by omega) htl (by omega)).mono ?_
  rintro e wz2 ⟨rfl, s2, hto⟩
  have HT2 := hide (HT1.out.trans hto)
  clear hto
  have hl2 := rStep_len b1 (.tx topic 40)
  obtain ⟨b2, hb⟩ : ∃ b, b = rStep b1 (.tx topic 40) := ⟨_, rfl⟩
  rw [← hb] at HT2 hl2
  have HB2 := hide hb
  clear hb
  have hsz2 := HT2.out.2.1.size
  clear z0 q0 q1 q2 q3 q4 q5 q6 q7 q8 q9 q10 q11 q12
  obtain ⟨z0, q0, q1, q2, q3, q4, q5, q6, q7, q8, q9, q10, q11, q12⟩ := BOX.out _ _ _ HT2.out
  simp only [clLen] at hl2
  go_wp2_with fail
  refine (mnum_new _ w0.heap.size w0.heap.size s2 b2 HT2.out.1 (by omega) [part, offset, most, least, wait] (by rfl) (by rfl) (by rfl) (by simp) (by omega)).mono ?_
  rintro e wz3 ⟨rfl, s3, hto⟩
  have HT3 := hide (HT2.out.trans hto)
  clear hto
  have hl3 := (show (nums b2 [part, offset, most, least, wait]).1.length ≤ b2.1.length + 30 from nums_len b2 [part, offset, most, least, wait])
  obtain ⟨b3, hb⟩ : ∃ b, b = nums b2 [part, offset, most, least, wait] := ⟨_, rfl⟩
  rw [← hb] at HT3 hl3
  have HB3 := hide hb
  clear hb
  have hsz3 := HT3.out.2.1.size
  clear z0 q0 q1 q2 q3 q4 q5 q6 q7 q8 q9 q10 q11 q12
  obtain ⟨z0, q0, q1, q2, q3, q4, q5, q6, q7, q8, q9, q10, q11, q12⟩ := BOX.out _ _ _ HT3.out
  have hbf : b3 = rRun ([], 0) (reqCl (⟨2, corr, topic, part, offset, most, least, wait, time, parts, sure, compact, recs⟩ : Req)) := by rw [HB3.out, HB2.out, HB1.out, HB0.out]; rfl
  have hm : askM (⟨2, corr, topic, part, offset, most, least, wait, time, parts, sure, compact, recs⟩ : Req) = rF b3 := by rw [hbf]; rfl
  have hne : b3.1 ≠ [] := by rw [hbf]; exact reqRun_ne _ _
  have HMM := hide hm
  clear hbf hm
  go_wp2_with fail
  refine (mframe_any _ w0.heap.size w0.heap.size s3 b3 HT3.out.1 (by omega) hne).mono ?_
  rintro e wf ⟨v, rfl, hrow, htf⟩
  have hrow' : RowAt wf 5 w.heap.size v (rF b3).1 := by
    rcases hrow with h | ⟨g, cap, cur, h1, h2, h3⟩
    · exact .inl h
    · exact .inr ⟨g, cap, cur, h1, by omega, h3⟩
  have HROW := hide hrow'
  have HTF := hide ((FIN.out _ _ _ HT3.out).same htf)
  clear hrow hrow' htf hne z0 q0 q1 q2 q3 q4 q5 q6 q7 q8 q9 q10 q11 q12
  go_wp2
  go_ret2
  exact ⟨v, by rw [HMM.out]; rfl, by rw [HMM.out]; exact HROW.out, HTF.out⟩

set_option maxHeartbeats 8000000 in
theorem mAsk3_any (w : World) (corr : Int) (topic : List UInt8) (part offset most least wait time parts : Int) (sure compact : Bool) (recs : List Bt.Rec) (a : Option Addr) (c : Nat) (hrec : RecsAt w (.slice a recs.length c) recs) (htl : topic.length ≤ 1048576) (hsm : ∀ r ∈ recs, RecSm r) (hlr : recs.length ≤ 10000) :
    Calls Tryd.prog 17 #[.agg #[.int .i64 3, .int .i64 corr, strV topic, .int .i64 part, .int .i64 offset, .int .i64 most, .int .i64 least, .int .i64 wait, .int .i64 time, .int .i64 parts, .bool sure, .bool compact, .slice a recs.length c]] w fun e w' => ∃ v, e = .returned (.tuple #[v, .int .i64 (askM (⟨3, corr, topic, part, offset, most, least, wait, time, parts, sure, compact, recs⟩ : Req)).2]) ∧ RowAt w' 5 w.heap.size v (askM (⟨3, corr, topic, part, offset, most, least, wait, time, parts, sure, compact, recs⟩ : Req)).1 ∧ Turn [] w w' := by

  obtain ⟨w0, hw0⟩ : ∃ w0, w0 = w.alloc (.cells #[.int .i64 3, .int .i64 corr, strV topic, .int .i64 part, .int .i64 offset, .int .i64 most, .int .i64 least, .int .i64 wait, .int .i64 time, .int .i64 parts, .bool sure, .bool compact, .slice a recs.length c] 25) := ⟨_, rfl⟩
  have hbox : w0.heap[w.heap.size]? = some (.cells #[.int .i64 3, .int .i64 corr, strV topic, .int .i64 part, .int .i64 offset, .int .i64 most, .int .i64 least, .int .i64 wait, .int .i64 time, .int .i64 parts, .bool sure, .bool compact, .slice a recs.length c] 25 (0, 0)) := by rw [hw0]; exact heap_new w _
  have hal : Turn [] w w0 := by rw [hw0]; exact (Turn.refl [] w).alloc _
  obtain ⟨wm, hwm⟩ : ∃ wm, wm = w0.alloc (.cells #[.slice none 0 0, .int .i64 0] mT) := ⟨_, rfl⟩
  have hmx2 : wm.heap[w0.heap.size]? = some (.cells #[.slice none 0 0, .int .i64 0] mT (0, 0)) := by rw [hwm]; exact heap_new w0 _
  have hal2 : Turn [] w0 wm := by rw [hwm]; exact (Turn.refl [] w0).alloc _
  have hbox2 := hal2.heap hbox (by simp)
  have hsw : w.heap.size < w0.heap.size := lt_of_heap hbox
  have hmk : MkAt mT eI wm w0.heap.size w0.heap.size (.slice none 0 0) ([], 0) := ⟨hmx2, .inl ⟨rfl, rfl⟩, by simp [Value.ownBlock]⟩
  obtain ⟨s0, hs0⟩ : ∃ s : Value, s = .slice none 0 0 := ⟨_, rfl⟩
  obtain ⟨b0, hb0⟩ : ∃ b : WS, b = ([], 0) := ⟨_, rfl⟩
  rw [← hs0, ← hb0] at hmk
  have hl0 : b0.1.length ≤ 100 := by rw [hb0]; simp
  have box : ∀ wi si bi, MkTo mT eI wm wi w0.heap.size w0.heap.size s0 si bi → w.heap.size < wi.heap.size ∧ wi.cell? ⟨w.heap.size, 0, none⟩ = some (.int .i64 3) ∧ wi.cell? ⟨w.heap.size, 1, none⟩ = some (.int .i64 corr) ∧ wi.cell? ⟨w.heap.size, 2, none⟩ = some (strV topic) ∧ wi.cell? ⟨w.heap.size, 3, none⟩ = some (.int .i64 part) ∧ wi.cell? ⟨w.heap.size, 4, none⟩ = some (.int .i64 offset) ∧ wi.cell? ⟨w.heap.size, 5, none⟩ = some (.int .i64 most) ∧ wi.cell? ⟨w.heap.size, 6, none⟩ = some (.int .i64 least) ∧ wi.cell? ⟨w.heap.size, 7, none⟩ = some (.int .i64 wait) ∧ wi.cell? ⟨w.heap.size, 8, none⟩ = some (.int .i64 time) ∧ wi.cell? ⟨w.heap.size, 9, none⟩ = some (.int .i64 parts) ∧ wi.cell? ⟨w.heap.size, 10, none⟩ = some (.bool sure) ∧ wi.cell? ⟨w.heap.size, 11, none⟩ = some (.bool compact) ∧ wi.cell? ⟨w.heap.size, 12, none⟩ = some (.slice a recs.length c) :=
    fun wi si bi h2 => by
      have hb := h2.box hbox2 (by omega) (fun x hx => by rw [hs0] at hx; simp [Value.ownBlock] at hx)
      exact ⟨lt_of_heap hb, by simpa [strV] using cell_of hb 0, by simpa [strV] using cell_of hb 1, by simpa [strV] using cell_of hb 2, by simpa [strV] using cell_of hb 3, by simpa [strV] using cell_of hb 4, by simpa [strV] using cell_of hb 5, by simpa [strV] using cell_of hb 6, by simpa [strV] using cell_of hb 7, by simpa [strV] using cell_of hb 8, by simpa [strV] using cell_of hb 9, by simpa [strV] using cell_of hb 10, by simpa [strV] using cell_of hb 11, by simpa [strV] using cell_of hb 12⟩
  have z0 : w.heap.size < w0.heap.size ∧ w0.cell? ⟨w.heap.size, 0, none⟩ = some (.int .i64 3) ∧ w0.cell? ⟨w.heap.size, 1, none⟩ = some (.int .i64 corr) ∧ w0.cell? ⟨w.heap.size, 2, none⟩ = some (strV topic) ∧ w0.cell? ⟨w.heap.size, 3, none⟩ = some (.int .i64 part) ∧ w0.cell? ⟨w.heap.size, 4, none⟩ = some (.int .i64 offset) ∧ w0.cell? ⟨w.heap.size, 5, none⟩ = some (.int .i64 most) ∧ w0.cell? ⟨w.heap.size, 6, none⟩ = some (.int .i64 least) ∧ w0.cell? ⟨w.heap.size, 7, none⟩ = some (.int .i64 wait) ∧ w0.cell? ⟨w.heap.size, 8, none⟩ = some (.int .i64 time) ∧ w0.cell? ⟨w.heap.size, 9, none⟩ = some (.int .i64 parts) ∧ w0.cell? ⟨w.heap.size, 10, none⟩ = some (.bool sure) ∧ w0.cell? ⟨w.heap.size, 11, none⟩ = some (.bool compact) ∧ w0.cell? ⟨w.heap.size, 12, none⟩ = some (.slice a recs.length c) := by
    have hb := hbox
    exact ⟨hsw, by simpa [strV] using cell_of hb 0, by simpa [strV] using cell_of hb 1, by simpa [strV] using cell_of hb 2, by simpa [strV] using cell_of hb 3, by simpa [strV] using cell_of hb 4, by simpa [strV] using cell_of hb 5, by simpa [strV] using cell_of hb 6, by simpa [strV] using cell_of hb 7, by simpa [strV] using cell_of hb 8, by simpa [strV] using cell_of hb 9, by simpa [strV] using cell_of hb 10, by simpa [strV] using cell_of hb 11, by simpa [strV] using cell_of hb 12⟩
  have recsAt : ∀ wi si bi, MkTo mT eI wm wi w0.heap.size w0.heap.size s0 si bi → RecsAt wi (.slice a recs.length c) recs := fun wi si bi hg =>
    ((hrec.still hal).still hal2).kept' hg.2.1 (fun h0 k hk hm => by
      have h1 := hrec.lt h0 k hk
      rcases List.mem_cons.1 hm with rfl | hm
      · omega
      · rw [hs0] at hm; simp [Value.ownBlock] at hm)
  have hrb : recs ≠ [] → ∀ k ∈ (Value.slice a recs.length c).ownBlock, k < w0.heap.size := fun h0 k hk => by have := hrec.lt h0 k hk; omega
  have RECS := hide recsAt
  have fin : ∀ wi si bi, MkTo mT eI wm wi w0.heap.size w0.heap.size s0 si bi → Turn [] w wi := fun wi si bi h2 =>
    (hal.same hal2).trans h2.2.1 (fun k hk => .inr (by
      rcases List.mem_cons.1 hk with rfl | hk
      · omega
      · rw [hs0] at hk; simp [Value.ownBlock] at hk))
  have FIN := hide fin
  have BOX := hide box
  have HT0 := hide hmk.self
  have HW0 := hide hw0
  have HWM := hide hwm
  have HB0 := hide hb0
  have hszm : w0.heap.size < wm.heap.size := lt_of_heap hmx2
  clear hbox hal hal2 hw0 hwm hmx2 hbox2 hmk hs0 hb0 box fin recsAt hrec
  obtain ⟨z0, q0, q1, q2, q3, q4, q5, q6, q7, q8, q9, q10, q11, q12⟩ := z0
  go_enter Tryd.func17, Tryd.ntmps17
  go_upto_region 1 with fail
  rw [show w.alloc (.cells #[.int .i64 3, .int .i64 corr, strV topic, .int .i64 part, .int .i64 offset, .int .i64 most, .int .i64 least, .int .i64 wait, .int .i64 time, .int .i64 parts, .bool sure, .bool compact, .slice a recs.length c] 25) = w0 from HW0.out.symm]
  go_upto_region 4 with fail
  rw [show w0.alloc (.cells #[.slice none 0 0, .int .i64 0] mT) = wm from HWM.out.symm]
  clear z0 q0 q1 q2 q3 q4 q5 q6 q7 q8 q9 q10 q11 q12
  obtain ⟨z0, q0, q1, q2, q3, q4, q5, q6, q7, q8, q9, q10, q11, q12⟩ := BOX.out _ _ _ HT0.out
  go_wp2_with fail
  refine (mnum_new _ w0.heap.size w0.heap.size s0 b0 HT0.out.1 (by omega) [3, corr] (by rfl) (by rfl) (by rfl) (by simp) (by omega)).mono ?_
  rintro e wz1 ⟨rfl, s1, hto⟩
  have HT1 := hide (HT0.out.trans hto)
  clear hto
  have hl1 := (show (nums b0 [3, corr]).1.length ≤ b0.1.length + 12 from nums_len b0 [3, corr])
  obtain ⟨b1, hb⟩ : ∃ b, b = nums b0 [3, corr] := ⟨_, rfl⟩
  rw [← hb] at HT1 hl1
  have HB1 := hide hb
  clear hb
  have hsz1 := HT1.out.2.1.size
  clear z0 q0 q1 q2 q3 q4 q5 q6 q7 q8 q9 q10 q11 q12
  obtain ⟨z0, q0, q1, q2, q3, q4, q5, q6, q7, q8, q9, q10, q11, q12⟩ := BOX.out _ _ _ HT1.out
  go_wp2_with fail
  refine (mtext_any _ w0.heap.size w0.heap.size s1 b1 HT1.out.1 (by omega) topic 40 (by omega) htl (by omega)).mono ?_
  rintro e wz2 ⟨rfl, s2, hto⟩
  have HT2 := hide (HT1.out.trans hto)
  clear hto
  have hl2 := rStep_len b1 (.tx topic 40)
  obtain ⟨b2, hb⟩ : ∃ b, b = rStep b1 (.tx topic 40) := ⟨_, rfl⟩
  rw [← hb] at HT2 hl2
  have HB2 := hide hb
  clear hb
  have hsz2 := HT2.out.2.1.size
  clear z0 q0 q1 q2 q3 q4 q5 q6 q7 q8 q9 q10 q11 q12
  obtain ⟨z0, q0, q1, q2, q3, q4, q5, q6, q7, q8, q9, q10, q11, q12⟩ := BOX.out _ _ _ HT2.out
  simp only [clLen] at hl2
  go_wp2_with fail
  refine (mnum_new _ w0.heap.size w0.heap.size s2 b2 HT2.out.1 (by omega) [part, time] (by rfl) (by rfl) (by rfl) (by simp) (by omega)).mono ?_
  rintro e wz3 ⟨rfl, s3, hto⟩
  have HT3 := hide (HT2.out.trans hto)
  clear hto
  have hl3 := (show (nums b2 [part, time]).1.length ≤ b2.1.length + 12 from nums_len b2 [part, time])
  obtain ⟨b3, hb⟩ : ∃ b, b = nums b2 [part, time] := ⟨_, rfl⟩
  rw [← hb] at HT3 hl3
  have HB3 := hide hb
  clear hb
  have hsz3 := HT3.out.2.1.size
  clear z0 q0 q1 q2 q3 q4 q5 q6 q7 q8 q9 q10 q11 q12
  obtain ⟨z0, q0, q1, q2, q3, q4, q5, q6, q7, q8, q9, q10, q11, q12⟩ := BOX.out _ _ _ HT3.out
  have hbf : b3 = rRun ([], 0) (reqCl (⟨3, corr, topic, part, offset, most, least, wait, time, parts, sure, compact, recs⟩ : Req)) := by rw [HB3.out, HB2.out, HB1.out, HB0.out]; rfl
  have hm : askM (⟨3, corr, topic, part, offset, most, least, wait, time, parts, sure, compact, recs⟩ : Req) = rF b3 := by rw [hbf]; rfl
  have hne : b3.1 ≠ [] := by rw [hbf]; exact reqRun_ne _ _
  have HMM := hide hm
  clear hbf hm
  go_wp2_with fail
  refine (mframe_any _ w0.heap.size w0.heap.size s3 b3 HT3.out.1 (by omega) hne).mono ?_
  rintro e wf ⟨v, rfl, hrow, htf⟩
  have hrow' : RowAt wf 5 w.heap.size v (rF b3).1 := by
    rcases hrow with h | ⟨g, cap, cur, h1, h2, h3⟩
    · exact .inl h
    · exact .inr ⟨g, cap, cur, h1, by omega, h3⟩
  have HROW := hide hrow'
  have HTF := hide ((FIN.out _ _ _ HT3.out).same htf)
  clear hrow hrow' htf hne z0 q0 q1 q2 q3 q4 q5 q6 q7 q8 q9 q10 q11 q12
  go_wp2
  go_ret2
  exact ⟨v, by rw [HMM.out]; rfl, by rw [HMM.out]; exact HROW.out, HTF.out⟩

set_option maxHeartbeats 8000000 in
theorem mAsk4_any (w : World) (corr : Int) (topic : List UInt8) (part offset most least wait time parts : Int) (sure compact : Bool) (recs : List Bt.Rec) (a : Option Addr) (c : Nat) (hrec : RecsAt w (.slice a recs.length c) recs) (htl : topic.length ≤ 1048576) (hsm : ∀ r ∈ recs, RecSm r) (hlr : recs.length ≤ 10000) :
    Calls Tryd.prog 17 #[.agg #[.int .i64 4, .int .i64 corr, strV topic, .int .i64 part, .int .i64 offset, .int .i64 most, .int .i64 least, .int .i64 wait, .int .i64 time, .int .i64 parts, .bool sure, .bool compact, .slice a recs.length c]] w fun e w' => ∃ v, e = .returned (.tuple #[v, .int .i64 (askM (⟨4, corr, topic, part, offset, most, least, wait, time, parts, sure, compact, recs⟩ : Req)).2]) ∧ RowAt w' 5 w.heap.size v (askM (⟨4, corr, topic, part, offset, most, least, wait, time, parts, sure, compact, recs⟩ : Req)).1 ∧ Turn [] w w' := by

  obtain ⟨w0, hw0⟩ : ∃ w0, w0 = w.alloc (.cells #[.int .i64 4, .int .i64 corr, strV topic, .int .i64 part, .int .i64 offset, .int .i64 most, .int .i64 least, .int .i64 wait, .int .i64 time, .int .i64 parts, .bool sure, .bool compact, .slice a recs.length c] 25) := ⟨_, rfl⟩
  have hbox : w0.heap[w.heap.size]? = some (.cells #[.int .i64 4, .int .i64 corr, strV topic, .int .i64 part, .int .i64 offset, .int .i64 most, .int .i64 least, .int .i64 wait, .int .i64 time, .int .i64 parts, .bool sure, .bool compact, .slice a recs.length c] 25 (0, 0)) := by rw [hw0]; exact heap_new w _
  have hal : Turn [] w w0 := by rw [hw0]; exact (Turn.refl [] w).alloc _
  obtain ⟨wm, hwm⟩ : ∃ wm, wm = w0.alloc (.cells #[.slice none 0 0, .int .i64 0] mT) := ⟨_, rfl⟩
  have hmx2 : wm.heap[w0.heap.size]? = some (.cells #[.slice none 0 0, .int .i64 0] mT (0, 0)) := by rw [hwm]; exact heap_new w0 _
  have hal2 : Turn [] w0 wm := by rw [hwm]; exact (Turn.refl [] w0).alloc _
  have hbox2 := hal2.heap hbox (by simp)
  have hsw : w.heap.size < w0.heap.size := lt_of_heap hbox
  have hmk : MkAt mT eI wm w0.heap.size w0.heap.size (.slice none 0 0) ([], 0) := ⟨hmx2, .inl ⟨rfl, rfl⟩, by simp [Value.ownBlock]⟩
  obtain ⟨s0, hs0⟩ : ∃ s : Value, s = .slice none 0 0 := ⟨_, rfl⟩
  obtain ⟨b0, hb0⟩ : ∃ b : WS, b = ([], 0) := ⟨_, rfl⟩
  rw [← hs0, ← hb0] at hmk
  have hl0 : b0.1.length ≤ 100 := by rw [hb0]; simp
  have box : ∀ wi si bi, MkTo mT eI wm wi w0.heap.size w0.heap.size s0 si bi → w.heap.size < wi.heap.size ∧ wi.cell? ⟨w.heap.size, 0, none⟩ = some (.int .i64 4) ∧ wi.cell? ⟨w.heap.size, 1, none⟩ = some (.int .i64 corr) ∧ wi.cell? ⟨w.heap.size, 2, none⟩ = some (strV topic) ∧ wi.cell? ⟨w.heap.size, 3, none⟩ = some (.int .i64 part) ∧ wi.cell? ⟨w.heap.size, 4, none⟩ = some (.int .i64 offset) ∧ wi.cell? ⟨w.heap.size, 5, none⟩ = some (.int .i64 most) ∧ wi.cell? ⟨w.heap.size, 6, none⟩ = some (.int .i64 least) ∧ wi.cell? ⟨w.heap.size, 7, none⟩ = some (.int .i64 wait) ∧ wi.cell? ⟨w.heap.size, 8, none⟩ = some (.int .i64 time) ∧ wi.cell? ⟨w.heap.size, 9, none⟩ = some (.int .i64 parts) ∧ wi.cell? ⟨w.heap.size, 10, none⟩ = some (.bool sure) ∧ wi.cell? ⟨w.heap.size, 11, none⟩ = some (.bool compact) ∧ wi.cell? ⟨w.heap.size, 12, none⟩ = some (.slice a recs.length c) :=
    fun wi si bi h2 => by
      have hb := h2.box hbox2 (by omega) (fun x hx => by rw [hs0] at hx; simp [Value.ownBlock] at hx)
      exact ⟨lt_of_heap hb, by simpa [strV] using cell_of hb 0, by simpa [strV] using cell_of hb 1, by simpa [strV] using cell_of hb 2, by simpa [strV] using cell_of hb 3, by simpa [strV] using cell_of hb 4, by simpa [strV] using cell_of hb 5, by simpa [strV] using cell_of hb 6, by simpa [strV] using cell_of hb 7, by simpa [strV] using cell_of hb 8, by simpa [strV] using cell_of hb 9, by simpa [strV] using cell_of hb 10, by simpa [strV] using cell_of hb 11, by simpa [strV] using cell_of hb 12⟩
  have z0 : w.heap.size < w0.heap.size ∧ w0.cell? ⟨w.heap.size, 0, none⟩ = some (.int .i64 4) ∧ w0.cell? ⟨w.heap.size, 1, none⟩ = some (.int .i64 corr) ∧ w0.cell? ⟨w.heap.size, 2, none⟩ = some (strV topic) ∧ w0.cell? ⟨w.heap.size, 3, none⟩ = some (.int .i64 part) ∧ w0.cell? ⟨w.heap.size, 4, none⟩ = some (.int .i64 offset) ∧ w0.cell? ⟨w.heap.size, 5, none⟩ = some (.int .i64 most) ∧ w0.cell? ⟨w.heap.size, 6, none⟩ = some (.int .i64 least) ∧ w0.cell? ⟨w.heap.size, 7, none⟩ = some (.int .i64 wait) ∧ w0.cell? ⟨w.heap.size, 8, none⟩ = some (.int .i64 time) ∧ w0.cell? ⟨w.heap.size, 9, none⟩ = some (.int .i64 parts) ∧ w0.cell? ⟨w.heap.size, 10, none⟩ = some (.bool sure) ∧ w0.cell? ⟨w.heap.size, 11, none⟩ = some (.bool compact) ∧ w0.cell? ⟨w.heap.size, 12, none⟩ = some (.slice a recs.length c) := by
    have hb := hbox
    exact ⟨hsw, by simpa [strV] using cell_of hb 0, by simpa [strV] using cell_of hb 1, by simpa [strV] using cell_of hb 2, by simpa [strV] using cell_of hb 3, by simpa [strV] using cell_of hb 4, by simpa [strV] using cell_of hb 5, by simpa [strV] using cell_of hb 6, by simpa [strV] using cell_of hb 7, by simpa [strV] using cell_of hb 8, by simpa [strV] using cell_of hb 9, by simpa [strV] using cell_of hb 10, by simpa [strV] using cell_of hb 11, by simpa [strV] using cell_of hb 12⟩
  have recsAt : ∀ wi si bi, MkTo mT eI wm wi w0.heap.size w0.heap.size s0 si bi → RecsAt wi (.slice a recs.length c) recs := fun wi si bi hg =>
    ((hrec.still hal).still hal2).kept' hg.2.1 (fun h0 k hk hm => by
      have h1 := hrec.lt h0 k hk
      rcases List.mem_cons.1 hm with rfl | hm
      · omega
      · rw [hs0] at hm; simp [Value.ownBlock] at hm)
  have hrb : recs ≠ [] → ∀ k ∈ (Value.slice a recs.length c).ownBlock, k < w0.heap.size := fun h0 k hk => by have := hrec.lt h0 k hk; omega
  have RECS := hide recsAt
  have fin : ∀ wi si bi, MkTo mT eI wm wi w0.heap.size w0.heap.size s0 si bi → Turn [] w wi := fun wi si bi h2 =>
    (hal.same hal2).trans h2.2.1 (fun k hk => .inr (by
      rcases List.mem_cons.1 hk with rfl | hk
      · omega
      · rw [hs0] at hk; simp [Value.ownBlock] at hk))
  have FIN := hide fin
  have BOX := hide box
  have HT0 := hide hmk.self
  have HW0 := hide hw0
  have HWM := hide hwm
  have HB0 := hide hb0
  have hszm : w0.heap.size < wm.heap.size := lt_of_heap hmx2
  clear hbox hal hal2 hw0 hwm hmx2 hbox2 hmk hs0 hb0 box fin recsAt hrec
  obtain ⟨z0, q0, q1, q2, q3, q4, q5, q6, q7, q8, q9, q10, q11, q12⟩ := z0
  go_enter Tryd.func17, Tryd.ntmps17
  go_upto_region 1 with fail
  rw [show w.alloc (.cells #[.int .i64 4, .int .i64 corr, strV topic, .int .i64 part, .int .i64 offset, .int .i64 most, .int .i64 least, .int .i64 wait, .int .i64 time, .int .i64 parts, .bool sure, .bool compact, .slice a recs.length c] 25) = w0 from HW0.out.symm]
  go_upto_region 4 with fail
  rw [show w0.alloc (.cells #[.slice none 0 0, .int .i64 0] mT) = wm from HWM.out.symm]
  clear z0 q0 q1 q2 q3 q4 q5 q6 q7 q8 q9 q10 q11 q12
  obtain ⟨z0, q0, q1, q2, q3, q4, q5, q6, q7, q8, q9, q10, q11, q12⟩ := BOX.out _ _ _ HT0.out
  go_wp2_with fail
  refine (mnum_new _ w0.heap.size w0.heap.size s0 b0 HT0.out.1 (by omega) [4, corr] (by rfl) (by rfl) (by rfl) (by simp) (by omega)).mono ?_
  rintro e wz1 ⟨rfl, s1, hto⟩
  have HT1 := hide (HT0.out.trans hto)
  clear hto
  have hl1 := (show (nums b0 [4, corr]).1.length ≤ b0.1.length + 12 from nums_len b0 [4, corr])
  obtain ⟨b1, hb⟩ : ∃ b, b = nums b0 [4, corr] := ⟨_, rfl⟩
  rw [← hb] at HT1 hl1
  have HB1 := hide hb
  clear hb
  have hsz1 := HT1.out.2.1.size
  clear z0 q0 q1 q2 q3 q4 q5 q6 q7 q8 q9 q10 q11 q12
  obtain ⟨z0, q0, q1, q2, q3, q4, q5, q6, q7, q8, q9, q10, q11, q12⟩ := BOX.out _ _ _ HT1.out
  go_wp2_with fail
  refine (mtext_any _ w0.heap.size w0.heap.size s1 b1 HT1.out.1 (by omega) topic 40 (by omega) htl (by omega)).mono ?_
  rintro e wz2 ⟨rfl, s2, hto⟩
  have HT2 := hide (HT1.out.trans hto)
  clear hto
  have hl2 := rStep_len b1 (.tx topic 40)
  obtain ⟨b2, hb⟩ : ∃ b, b = rStep b1 (.tx topic 40) := ⟨_, rfl⟩
  rw [← hb] at HT2 hl2
  have HB2 := hide hb
  clear hb
  have hsz2 := HT2.out.2.1.size
  clear z0 q0 q1 q2 q3 q4 q5 q6 q7 q8 q9 q10 q11 q12
  obtain ⟨z0, q0, q1, q2, q3, q4, q5, q6, q7, q8, q9, q10, q11, q12⟩ := BOX.out _ _ _ HT2.out
  simp only [clLen] at hl2
  go_wp2_with fail
  refine (mnum_new _ w0.heap.size w0.heap.size s2 b2 HT2.out.1 (by omega) [part, offset] (by rfl) (by rfl) (by rfl) (by simp) (by omega)).mono ?_
  rintro e wz3 ⟨rfl, s3, hto⟩
  have HT3 := hide (HT2.out.trans hto)
  clear hto
  have hl3 := (show (nums b2 [part, offset]).1.length ≤ b2.1.length + 12 from nums_len b2 [part, offset])
  obtain ⟨b3, hb⟩ : ∃ b, b = nums b2 [part, offset] := ⟨_, rfl⟩
  rw [← hb] at HT3 hl3
  have HB3 := hide hb
  clear hb
  have hsz3 := HT3.out.2.1.size
  clear z0 q0 q1 q2 q3 q4 q5 q6 q7 q8 q9 q10 q11 q12
  obtain ⟨z0, q0, q1, q2, q3, q4, q5, q6, q7, q8, q9, q10, q11, q12⟩ := BOX.out _ _ _ HT3.out
  have hbf : b3 = rRun ([], 0) (reqCl (⟨4, corr, topic, part, offset, most, least, wait, time, parts, sure, compact, recs⟩ : Req)) := by rw [HB3.out, HB2.out, HB1.out, HB0.out]; rfl
  have hm : askM (⟨4, corr, topic, part, offset, most, least, wait, time, parts, sure, compact, recs⟩ : Req) = rF b3 := by rw [hbf]; rfl
  have hne : b3.1 ≠ [] := by rw [hbf]; exact reqRun_ne _ _
  have HMM := hide hm
  clear hbf hm
  go_wp2_with fail
  refine (mframe_any _ w0.heap.size w0.heap.size s3 b3 HT3.out.1 (by omega) hne).mono ?_
  rintro e wf ⟨v, rfl, hrow, htf⟩
  have hrow' : RowAt wf 5 w.heap.size v (rF b3).1 := by
    rcases hrow with h | ⟨g, cap, cur, h1, h2, h3⟩
    · exact .inl h
    · exact .inr ⟨g, cap, cur, h1, by omega, h3⟩
  have HROW := hide hrow'
  have HTF := hide ((FIN.out _ _ _ HT3.out).same htf)
  clear hrow hrow' htf hne z0 q0 q1 q2 q3 q4 q5 q6 q7 q8 q9 q10 q11 q12
  go_wp2
  go_ret2
  exact ⟨v, by rw [HMM.out]; rfl, by rw [HMM.out]; exact HROW.out, HTF.out⟩

set_option maxHeartbeats 8000000 in
theorem mAsk5_any (w : World) (corr : Int) (topic : List UInt8) (part offset most least wait time parts : Int) (sure compact : Bool) (recs : List Bt.Rec) (a : Option Addr) (c : Nat) (hrec : RecsAt w (.slice a recs.length c) recs) (htl : topic.length ≤ 1048576) (hsm : ∀ r ∈ recs, RecSm r) (hlr : recs.length ≤ 10000) :
    Calls Tryd.prog 17 #[.agg #[.int .i64 5, .int .i64 corr, strV topic, .int .i64 part, .int .i64 offset, .int .i64 most, .int .i64 least, .int .i64 wait, .int .i64 time, .int .i64 parts, .bool sure, .bool compact, .slice a recs.length c]] w fun e w' => ∃ v, e = .returned (.tuple #[v, .int .i64 (askM (⟨5, corr, topic, part, offset, most, least, wait, time, parts, sure, compact, recs⟩ : Req)).2]) ∧ RowAt w' 5 w.heap.size v (askM (⟨5, corr, topic, part, offset, most, least, wait, time, parts, sure, compact, recs⟩ : Req)).1 ∧ Turn [] w w' := by

  obtain ⟨w0, hw0⟩ : ∃ w0, w0 = w.alloc (.cells #[.int .i64 5, .int .i64 corr, strV topic, .int .i64 part, .int .i64 offset, .int .i64 most, .int .i64 least, .int .i64 wait, .int .i64 time, .int .i64 parts, .bool sure, .bool compact, .slice a recs.length c] 25) := ⟨_, rfl⟩
  have hbox : w0.heap[w.heap.size]? = some (.cells #[.int .i64 5, .int .i64 corr, strV topic, .int .i64 part, .int .i64 offset, .int .i64 most, .int .i64 least, .int .i64 wait, .int .i64 time, .int .i64 parts, .bool sure, .bool compact, .slice a recs.length c] 25 (0, 0)) := by rw [hw0]; exact heap_new w _
  have hal : Turn [] w w0 := by rw [hw0]; exact (Turn.refl [] w).alloc _
  obtain ⟨wm, hwm⟩ : ∃ wm, wm = w0.alloc (.cells #[.slice none 0 0, .int .i64 0] mT) := ⟨_, rfl⟩
  have hmx2 : wm.heap[w0.heap.size]? = some (.cells #[.slice none 0 0, .int .i64 0] mT (0, 0)) := by rw [hwm]; exact heap_new w0 _
  have hal2 : Turn [] w0 wm := by rw [hwm]; exact (Turn.refl [] w0).alloc _
  have hbox2 := hal2.heap hbox (by simp)
  have hsw : w.heap.size < w0.heap.size := lt_of_heap hbox
  have hmk : MkAt mT eI wm w0.heap.size w0.heap.size (.slice none 0 0) ([], 0) := ⟨hmx2, .inl ⟨rfl, rfl⟩, by simp [Value.ownBlock]⟩
  obtain ⟨s0, hs0⟩ : ∃ s : Value, s = .slice none 0 0 := ⟨_, rfl⟩
  obtain ⟨b0, hb0⟩ : ∃ b : WS, b = ([], 0) := ⟨_, rfl⟩
  rw [← hs0, ← hb0] at hmk
  have hl0 : b0.1.length ≤ 100 := by rw [hb0]; simp
  have box : ∀ wi si bi, MkTo mT eI wm wi w0.heap.size w0.heap.size s0 si bi → w.heap.size < wi.heap.size ∧ wi.cell? ⟨w.heap.size, 0, none⟩ = some (.int .i64 5) ∧ wi.cell? ⟨w.heap.size, 1, none⟩ = some (.int .i64 corr) ∧ wi.cell? ⟨w.heap.size, 2, none⟩ = some (strV topic) ∧ wi.cell? ⟨w.heap.size, 3, none⟩ = some (.int .i64 part) ∧ wi.cell? ⟨w.heap.size, 4, none⟩ = some (.int .i64 offset) ∧ wi.cell? ⟨w.heap.size, 5, none⟩ = some (.int .i64 most) ∧ wi.cell? ⟨w.heap.size, 6, none⟩ = some (.int .i64 least) ∧ wi.cell? ⟨w.heap.size, 7, none⟩ = some (.int .i64 wait) ∧ wi.cell? ⟨w.heap.size, 8, none⟩ = some (.int .i64 time) ∧ wi.cell? ⟨w.heap.size, 9, none⟩ = some (.int .i64 parts) ∧ wi.cell? ⟨w.heap.size, 10, none⟩ = some (.bool sure) ∧ wi.cell? ⟨w.heap.size, 11, none⟩ = some (.bool compact) ∧ wi.cell? ⟨w.heap.size, 12, none⟩ = some (.slice a recs.length c) :=
    fun wi si bi h2 => by
      have hb := h2.box hbox2 (by omega) (fun x hx => by rw [hs0] at hx; simp [Value.ownBlock] at hx)
      exact ⟨lt_of_heap hb, by simpa [strV] using cell_of hb 0, by simpa [strV] using cell_of hb 1, by simpa [strV] using cell_of hb 2, by simpa [strV] using cell_of hb 3, by simpa [strV] using cell_of hb 4, by simpa [strV] using cell_of hb 5, by simpa [strV] using cell_of hb 6, by simpa [strV] using cell_of hb 7, by simpa [strV] using cell_of hb 8, by simpa [strV] using cell_of hb 9, by simpa [strV] using cell_of hb 10, by simpa [strV] using cell_of hb 11, by simpa [strV] using cell_of hb 12⟩
  have z0 : w.heap.size < w0.heap.size ∧ w0.cell? ⟨w.heap.size, 0, none⟩ = some (.int .i64 5) ∧ w0.cell? ⟨w.heap.size, 1, none⟩ = some (.int .i64 corr) ∧ w0.cell? ⟨w.heap.size, 2, none⟩ = some (strV topic) ∧ w0.cell? ⟨w.heap.size, 3, none⟩ = some (.int .i64 part) ∧ w0.cell? ⟨w.heap.size, 4, none⟩ = some (.int .i64 offset) ∧ w0.cell? ⟨w.heap.size, 5, none⟩ = some (.int .i64 most) ∧ w0.cell? ⟨w.heap.size, 6, none⟩ = some (.int .i64 least) ∧ w0.cell? ⟨w.heap.size, 7, none⟩ = some (.int .i64 wait) ∧ w0.cell? ⟨w.heap.size, 8, none⟩ = some (.int .i64 time) ∧ w0.cell? ⟨w.heap.size, 9, none⟩ = some (.int .i64 parts) ∧ w0.cell? ⟨w.heap.size, 10, none⟩ = some (.bool sure) ∧ w0.cell? ⟨w.heap.size, 11, none⟩ = some (.bool compact) ∧ w0.cell? ⟨w.heap.size, 12, none⟩ = some (.slice a recs.length c) := by
    have hb := hbox
    exact ⟨hsw, by simpa [strV] using cell_of hb 0, by simpa [strV] using cell_of hb 1, by simpa [strV] using cell_of hb 2, by simpa [strV] using cell_of hb 3, by simpa [strV] using cell_of hb 4, by simpa [strV] using cell_of hb 5, by simpa [strV] using cell_of hb 6, by simpa [strV] using cell_of hb 7, by simpa [strV] using cell_of hb 8, by simpa [strV] using cell_of hb 9, by simpa [strV] using cell_of hb 10, by simpa [strV] using cell_of hb 11, by simpa [strV] using cell_of hb 12⟩
  have recsAt : ∀ wi si bi, MkTo mT eI wm wi w0.heap.size w0.heap.size s0 si bi → RecsAt wi (.slice a recs.length c) recs := fun wi si bi hg =>
    ((hrec.still hal).still hal2).kept' hg.2.1 (fun h0 k hk hm => by
      have h1 := hrec.lt h0 k hk
      rcases List.mem_cons.1 hm with rfl | hm
      · omega
      · rw [hs0] at hm; simp [Value.ownBlock] at hm)
  have hrb : recs ≠ [] → ∀ k ∈ (Value.slice a recs.length c).ownBlock, k < w0.heap.size := fun h0 k hk => by have := hrec.lt h0 k hk; omega
  have RECS := hide recsAt
  have fin : ∀ wi si bi, MkTo mT eI wm wi w0.heap.size w0.heap.size s0 si bi → Turn [] w wi := fun wi si bi h2 =>
    (hal.same hal2).trans h2.2.1 (fun k hk => .inr (by
      rcases List.mem_cons.1 hk with rfl | hk
      · omega
      · rw [hs0] at hk; simp [Value.ownBlock] at hk))
  have FIN := hide fin
  have BOX := hide box
  have HT0 := hide hmk.self
  have HW0 := hide hw0
  have HWM := hide hwm
  have HB0 := hide hb0
  have hszm : w0.heap.size < wm.heap.size := lt_of_heap hmx2
  clear hbox hal hal2 hw0 hwm hmx2 hbox2 hmk hs0 hb0 box fin recsAt hrec
  obtain ⟨z0, q0, q1, q2, q3, q4, q5, q6, q7, q8, q9, q10, q11, q12⟩ := z0
  go_enter Tryd.func17, Tryd.ntmps17
  go_upto_region 1 with fail
  rw [show w.alloc (.cells #[.int .i64 5, .int .i64 corr, strV topic, .int .i64 part, .int .i64 offset, .int .i64 most, .int .i64 least, .int .i64 wait, .int .i64 time, .int .i64 parts, .bool sure, .bool compact, .slice a recs.length c] 25) = w0 from HW0.out.symm]
  go_upto_region 4 with fail
  rw [show w0.alloc (.cells #[.slice none 0 0, .int .i64 0] mT) = wm from HWM.out.symm]
  clear z0 q0 q1 q2 q3 q4 q5 q6 q7 q8 q9 q10 q11 q12
  obtain ⟨z0, q0, q1, q2, q3, q4, q5, q6, q7, q8, q9, q10, q11, q12⟩ := BOX.out _ _ _ HT0.out
  go_wp2_with fail
  refine (mnum_new _ w0.heap.size w0.heap.size s0 b0 HT0.out.1 (by omega) [5, corr] (by rfl) (by rfl) (by rfl) (by simp) (by omega)).mono ?_
  rintro e wz1 ⟨rfl, s1, hto⟩
  have HT1 := hide (HT0.out.trans hto)
  clear hto
  have hl1 := (show (nums b0 [5, corr]).1.length ≤ b0.1.length + 12 from nums_len b0 [5, corr])
  obtain ⟨b1, hb⟩ : ∃ b, b = nums b0 [5, corr] := ⟨_, rfl⟩
  rw [← hb] at HT1 hl1
  have HB1 := hide hb
  clear hb
  have hsz1 := HT1.out.2.1.size
  clear z0 q0 q1 q2 q3 q4 q5 q6 q7 q8 q9 q10 q11 q12
  obtain ⟨z0, q0, q1, q2, q3, q4, q5, q6, q7, q8, q9, q10, q11, q12⟩ := BOX.out _ _ _ HT1.out
  go_wp2_with fail
  refine (mtext_any _ w0.heap.size w0.heap.size s1 b1 HT1.out.1 (by omega) topic 40 (by omega) htl (by omega)).mono ?_
  rintro e wz2 ⟨rfl, s2, hto⟩
  have HT2 := hide (HT1.out.trans hto)
  clear hto
  have hl2 := rStep_len b1 (.tx topic 40)
  obtain ⟨b2, hb⟩ : ∃ b, b = rStep b1 (.tx topic 40) := ⟨_, rfl⟩
  rw [← hb] at HT2 hl2
  have HB2 := hide hb
  clear hb
  have hsz2 := HT2.out.2.1.size
  clear z0 q0 q1 q2 q3 q4 q5 q6 q7 q8 q9 q10 q11 q12
  obtain ⟨z0, q0, q1, q2, q3, q4, q5, q6, q7, q8, q9, q10, q11, q12⟩ := BOX.out _ _ _ HT2.out
  simp only [clLen] at hl2
  go_wp2_with fail
  refine (mnum_new _ w0.heap.size w0.heap.size s2 b2 HT2.out.1 (by omega) [parts] (by rfl) (by rfl) (by rfl) (by simp) (by omega)).mono ?_
  rintro e wz3 ⟨rfl, s3, hto⟩
  have HT3 := hide (HT2.out.trans hto)
  clear hto
  have hl3 := (show (nums b2 [parts]).1.length ≤ b2.1.length + 6 from nums_len b2 [parts])
  obtain ⟨b3, hb⟩ : ∃ b, b = nums b2 [parts] := ⟨_, rfl⟩
  rw [← hb] at HT3 hl3
  have HB3 := hide hb
  clear hb
  have hsz3 := HT3.out.2.1.size
  clear z0 q0 q1 q2 q3 q4 q5 q6 q7 q8 q9 q10 q11 q12
  obtain ⟨z0, q0, q1, q2, q3, q4, q5, q6, q7, q8, q9, q10, q11, q12⟩ := BOX.out _ _ _ HT3.out
  go_wp2_with fail
  refine (mtru_any _ w0.heap.size w0.heap.size s3 b3 HT3.out.1 (by omega) compact (by omega)).mono ?_
  rintro e wz4 ⟨rfl, s4, hto⟩
  have HT4 := hide (HT3.out.trans hto)
  clear hto
  have hl4 := (show (nums b3 [tr compact]).1.length ≤ b3.1.length + 6 from nums_len b3 [tr compact])
  obtain ⟨b4, hb⟩ : ∃ b, b = nums b3 [tr compact] := ⟨_, rfl⟩
  rw [← hb] at HT4 hl4
  have HB4 := hide hb
  clear hb
  have hsz4 := HT4.out.2.1.size
  clear z0 q0 q1 q2 q3 q4 q5 q6 q7 q8 q9 q10 q11 q12
  obtain ⟨z0, q0, q1, q2, q3, q4, q5, q6, q7, q8, q9, q10, q11, q12⟩ := BOX.out _ _ _ HT4.out
  have hbf : b4 = rRun ([], 0) (reqCl (⟨5, corr, topic, part, offset, most, least, wait, time, parts, sure, compact, recs⟩ : Req)) := by rw [HB4.out, HB3.out, HB2.out, HB1.out, HB0.out]; rfl
  have hm : askM (⟨5, corr, topic, part, offset, most, least, wait, time, parts, sure, compact, recs⟩ : Req) = rF b4 := by rw [hbf]; rfl
  have hne : b4.1 ≠ [] := by rw [hbf]; exact reqRun_ne _ _
  have HMM := hide hm
  clear hbf hm
  go_wp2_with fail
  refine (mframe_any _ w0.heap.size w0.heap.size s4 b4 HT4.out.1 (by omega) hne).mono ?_
  rintro e wf ⟨v, rfl, hrow, htf⟩
  have hrow' : RowAt wf 5 w.heap.size v (rF b4).1 := by
    rcases hrow with h | ⟨g, cap, cur, h1, h2, h3⟩
    · exact .inl h
    · exact .inr ⟨g, cap, cur, h1, by omega, h3⟩
  have HROW := hide hrow'
  have HTF := hide ((FIN.out _ _ _ HT4.out).same htf)
  clear hrow hrow' htf hne z0 q0 q1 q2 q3 q4 q5 q6 q7 q8 q9 q10 q11 q12
  go_wp2
  go_ret2
  exact ⟨v, by rw [HMM.out]; rfl, by rw [HMM.out]; exact HROW.out, HTF.out⟩

set_option maxHeartbeats 8000000 in
theorem mAsk6_any (w : World) (corr : Int) (topic : List UInt8) (part offset most least wait time parts : Int) (sure compact : Bool) (recs : List Bt.Rec) (a : Option Addr) (c : Nat) (hrec : RecsAt w (.slice a recs.length c) recs) (htl : topic.length ≤ 1048576) (hsm : ∀ r ∈ recs, RecSm r) (hlr : recs.length ≤ 10000) :
    Calls Tryd.prog 17 #[.agg #[.int .i64 6, .int .i64 corr, strV topic, .int .i64 part, .int .i64 offset, .int .i64 most, .int .i64 least, .int .i64 wait, .int .i64 time, .int .i64 parts, .bool sure, .bool compact, .slice a recs.length c]] w fun e w' => ∃ v, e = .returned (.tuple #[v, .int .i64 (askM (⟨6, corr, topic, part, offset, most, least, wait, time, parts, sure, compact, recs⟩ : Req)).2]) ∧ RowAt w' 5 w.heap.size v (askM (⟨6, corr, topic, part, offset, most, least, wait, time, parts, sure, compact, recs⟩ : Req)).1 ∧ Turn [] w w' := by

  obtain ⟨w0, hw0⟩ : ∃ w0, w0 = w.alloc (.cells #[.int .i64 6, .int .i64 corr, strV topic, .int .i64 part, .int .i64 offset, .int .i64 most, .int .i64 least, .int .i64 wait, .int .i64 time, .int .i64 parts, .bool sure, .bool compact, .slice a recs.length c] 25) := ⟨_, rfl⟩
  have hbox : w0.heap[w.heap.size]? = some (.cells #[.int .i64 6, .int .i64 corr, strV topic, .int .i64 part, .int .i64 offset, .int .i64 most, .int .i64 least, .int .i64 wait, .int .i64 time, .int .i64 parts, .bool sure, .bool compact, .slice a recs.length c] 25 (0, 0)) := by rw [hw0]; exact heap_new w _
  have hal : Turn [] w w0 := by rw [hw0]; exact (Turn.refl [] w).alloc _
  obtain ⟨wm, hwm⟩ : ∃ wm, wm = w0.alloc (.cells #[.slice none 0 0, .int .i64 0] mT) := ⟨_, rfl⟩
  have hmx2 : wm.heap[w0.heap.size]? = some (.cells #[.slice none 0 0, .int .i64 0] mT (0, 0)) := by rw [hwm]; exact heap_new w0 _
  have hal2 : Turn [] w0 wm := by rw [hwm]; exact (Turn.refl [] w0).alloc _
  have hbox2 := hal2.heap hbox (by simp)
  have hsw : w.heap.size < w0.heap.size := lt_of_heap hbox
  have hmk : MkAt mT eI wm w0.heap.size w0.heap.size (.slice none 0 0) ([], 0) := ⟨hmx2, .inl ⟨rfl, rfl⟩, by simp [Value.ownBlock]⟩
  obtain ⟨s0, hs0⟩ : ∃ s : Value, s = .slice none 0 0 := ⟨_, rfl⟩
  obtain ⟨b0, hb0⟩ : ∃ b : WS, b = ([], 0) := ⟨_, rfl⟩
  rw [← hs0, ← hb0] at hmk
  have hl0 : b0.1.length ≤ 100 := by rw [hb0]; simp
  have box : ∀ wi si bi, MkTo mT eI wm wi w0.heap.size w0.heap.size s0 si bi → w.heap.size < wi.heap.size ∧ wi.cell? ⟨w.heap.size, 0, none⟩ = some (.int .i64 6) ∧ wi.cell? ⟨w.heap.size, 1, none⟩ = some (.int .i64 corr) ∧ wi.cell? ⟨w.heap.size, 2, none⟩ = some (strV topic) ∧ wi.cell? ⟨w.heap.size, 3, none⟩ = some (.int .i64 part) ∧ wi.cell? ⟨w.heap.size, 4, none⟩ = some (.int .i64 offset) ∧ wi.cell? ⟨w.heap.size, 5, none⟩ = some (.int .i64 most) ∧ wi.cell? ⟨w.heap.size, 6, none⟩ = some (.int .i64 least) ∧ wi.cell? ⟨w.heap.size, 7, none⟩ = some (.int .i64 wait) ∧ wi.cell? ⟨w.heap.size, 8, none⟩ = some (.int .i64 time) ∧ wi.cell? ⟨w.heap.size, 9, none⟩ = some (.int .i64 parts) ∧ wi.cell? ⟨w.heap.size, 10, none⟩ = some (.bool sure) ∧ wi.cell? ⟨w.heap.size, 11, none⟩ = some (.bool compact) ∧ wi.cell? ⟨w.heap.size, 12, none⟩ = some (.slice a recs.length c) :=
    fun wi si bi h2 => by
      have hb := h2.box hbox2 (by omega) (fun x hx => by rw [hs0] at hx; simp [Value.ownBlock] at hx)
      exact ⟨lt_of_heap hb, by simpa [strV] using cell_of hb 0, by simpa [strV] using cell_of hb 1, by simpa [strV] using cell_of hb 2, by simpa [strV] using cell_of hb 3, by simpa [strV] using cell_of hb 4, by simpa [strV] using cell_of hb 5, by simpa [strV] using cell_of hb 6, by simpa [strV] using cell_of hb 7, by simpa [strV] using cell_of hb 8, by simpa [strV] using cell_of hb 9, by simpa [strV] using cell_of hb 10, by simpa [strV] using cell_of hb 11, by simpa [strV] using cell_of hb 12⟩
  have z0 : w.heap.size < w0.heap.size ∧ w0.cell? ⟨w.heap.size, 0, none⟩ = some (.int .i64 6) ∧ w0.cell? ⟨w.heap.size, 1, none⟩ = some (.int .i64 corr) ∧ w0.cell? ⟨w.heap.size, 2, none⟩ = some (strV topic) ∧ w0.cell? ⟨w.heap.size, 3, none⟩ = some (.int .i64 part) ∧ w0.cell? ⟨w.heap.size, 4, none⟩ = some (.int .i64 offset) ∧ w0.cell? ⟨w.heap.size, 5, none⟩ = some (.int .i64 most) ∧ w0.cell? ⟨w.heap.size, 6, none⟩ = some (.int .i64 least) ∧ w0.cell? ⟨w.heap.size, 7, none⟩ = some (.int .i64 wait) ∧ w0.cell? ⟨w.heap.size, 8, none⟩ = some (.int .i64 time) ∧ w0.cell? ⟨w.heap.size, 9, none⟩ = some (.int .i64 parts) ∧ w0.cell? ⟨w.heap.size, 10, none⟩ = some (.bool sure) ∧ w0.cell? ⟨w.heap.size, 11, none⟩ = some (.bool compact) ∧ w0.cell? ⟨w.heap.size, 12, none⟩ = some (.slice a recs.length c) := by
    have hb := hbox
    exact ⟨hsw, by simpa [strV] using cell_of hb 0, by simpa [strV] using cell_of hb 1, by simpa [strV] using cell_of hb 2, by simpa [strV] using cell_of hb 3, by simpa [strV] using cell_of hb 4, by simpa [strV] using cell_of hb 5, by simpa [strV] using cell_of hb 6, by simpa [strV] using cell_of hb 7, by simpa [strV] using cell_of hb 8, by simpa [strV] using cell_of hb 9, by simpa [strV] using cell_of hb 10, by simpa [strV] using cell_of hb 11, by simpa [strV] using cell_of hb 12⟩
  have recsAt : ∀ wi si bi, MkTo mT eI wm wi w0.heap.size w0.heap.size s0 si bi → RecsAt wi (.slice a recs.length c) recs := fun wi si bi hg =>
    ((hrec.still hal).still hal2).kept' hg.2.1 (fun h0 k hk hm => by
      have h1 := hrec.lt h0 k hk
      rcases List.mem_cons.1 hm with rfl | hm
      · omega
      · rw [hs0] at hm; simp [Value.ownBlock] at hm)
  have hrb : recs ≠ [] → ∀ k ∈ (Value.slice a recs.length c).ownBlock, k < w0.heap.size := fun h0 k hk => by have := hrec.lt h0 k hk; omega
  have RECS := hide recsAt
  have fin : ∀ wi si bi, MkTo mT eI wm wi w0.heap.size w0.heap.size s0 si bi → Turn [] w wi := fun wi si bi h2 =>
    (hal.same hal2).trans h2.2.1 (fun k hk => .inr (by
      rcases List.mem_cons.1 hk with rfl | hk
      · omega
      · rw [hs0] at hk; simp [Value.ownBlock] at hk))
  have FIN := hide fin
  have BOX := hide box
  have HT0 := hide hmk.self
  have HW0 := hide hw0
  have HWM := hide hwm
  have HB0 := hide hb0
  have hszm : w0.heap.size < wm.heap.size := lt_of_heap hmx2
  clear hbox hal hal2 hw0 hwm hmx2 hbox2 hmk hs0 hb0 box fin recsAt hrec
  obtain ⟨z0, q0, q1, q2, q3, q4, q5, q6, q7, q8, q9, q10, q11, q12⟩ := z0
  go_enter Tryd.func17, Tryd.ntmps17
  go_upto_region 1 with fail
  rw [show w.alloc (.cells #[.int .i64 6, .int .i64 corr, strV topic, .int .i64 part, .int .i64 offset, .int .i64 most, .int .i64 least, .int .i64 wait, .int .i64 time, .int .i64 parts, .bool sure, .bool compact, .slice a recs.length c] 25) = w0 from HW0.out.symm]
  go_upto_region 4 with fail
  rw [show w0.alloc (.cells #[.slice none 0 0, .int .i64 0] mT) = wm from HWM.out.symm]
  clear z0 q0 q1 q2 q3 q4 q5 q6 q7 q8 q9 q10 q11 q12
  obtain ⟨z0, q0, q1, q2, q3, q4, q5, q6, q7, q8, q9, q10, q11, q12⟩ := BOX.out _ _ _ HT0.out
  go_wp2_with fail
  refine (mnum_new _ w0.heap.size w0.heap.size s0 b0 HT0.out.1 (by omega) [6, corr] (by rfl) (by rfl) (by rfl) (by simp) (by omega)).mono ?_
  rintro e wz1 ⟨rfl, s1, hto⟩
  have HT1 := hide (HT0.out.trans hto)
  clear hto
  have hl1 := (show (nums b0 [6, corr]).1.length ≤ b0.1.length + 12 from nums_len b0 [6, corr])
  obtain ⟨b1, hb⟩ : ∃ b, b = nums b0 [6, corr] := ⟨_, rfl⟩
  rw [← hb] at HT1 hl1
  have HB1 := hide hb
  clear hb
  have hsz1 := HT1.out.2.1.size
  clear z0 q0 q1 q2 q3 q4 q5 q6 q7 q8 q9 q10 q11 q12
  obtain ⟨z0, q0, q1, q2, q3, q4, q5, q6, q7, q8, q9, q10, q11, q12⟩ := BOX.out _ _ _ HT1.out
  go_wp2_with fail
  refine (mtext_any _ w0.heap.size w0.heap.size s1 b1 HT1.out.1 (by omega) topic 40 (by omega) htl (by omega)).mono ?_
  rintro e wz2 ⟨rfl, s2, hto⟩
  have HT2 := hide (HT1.out.trans hto)
  clear hto
  have hl2 := rStep_len b1 (.tx topic 40)
  obtain ⟨b2, hb⟩ : ∃ b, b = rStep b1 (.tx topic 40) := ⟨_, rfl⟩
  rw [← hb] at HT2 hl2
  have HB2 := hide hb
  clear hb
  have hsz2 := HT2.out.2.1.size
  clear z0 q0 q1 q2 q3 q4 q5 q6 q7 q8 q9 q10 q11 q12
  obtain ⟨z0, q0, q1, q2, q3, q4, q5, q6, q7, q8, q9, q10, q11, q12⟩ := BOX.out _ _ _ HT2.out
  simp only [clLen] at hl2
  have hbf : b2 = rRun ([], 0) (reqCl (⟨6, corr, topic, part, offset, most, least, wait, time, parts, sure, compact, recs⟩ : Req)) := by rw [HB2.out, HB1.out, HB0.out]; rfl
  have hm : askM (⟨6, corr, topic, part, offset, most, least, wait, time, parts, sure, compact, recs⟩ : Req) = rF b2 := by rw [hbf]; rfl
  have hne : b2.1 ≠ [] := by rw [hbf]; exact reqRun_ne _ _
  have HMM := hide hm
  clear hbf hm
  go_wp2_with fail
  refine (mframe_any _ w0.heap.size w0.heap.size s2 b2 HT2.out.1 (by omega) hne).mono ?_
  rintro e wf ⟨v, rfl, hrow, htf⟩
  have hrow' : RowAt wf 5 w.heap.size v (rF b2).1 := by
    rcases hrow with h | ⟨g, cap, cur, h1, h2, h3⟩
    · exact .inl h
    · exact .inr ⟨g, cap, cur, h1, by omega, h3⟩
  have HROW := hide hrow'
  have HTF := hide ((FIN.out _ _ _ HT2.out).same htf)
  clear hrow hrow' htf hne z0 q0 q1 q2 q3 q4 q5 q6 q7 q8 q9 q10 q11 q12
  go_wp2
  go_ret2
  exact ⟨v, by rw [HMM.out]; rfl, by rw [HMM.out]; exact HROW.out, HTF.out⟩

set_option maxHeartbeats 8000000 in
theorem mAsk7_any (w : World) (corr : Int) (topic : List UInt8) (part offset most least wait time parts : Int) (sure compact : Bool) (recs : List Bt.Rec) (a : Option Addr) (c : Nat) (hrec : RecsAt w (.slice a recs.length c) recs) (htl : topic.length ≤ 1048576) (hsm : ∀ r ∈ recs, RecSm r) (hlr : recs.length ≤ 10000) :
    Calls Tryd.prog 17 #[.agg #[.int .i64 7, .int .i64 corr, strV topic, .int .i64 part, .int .i64 offset, .int .i64 most, .int .i64 least, .int .i64 wait, .int .i64 time, .int .i64 parts, .bool sure, .bool compact, .slice a recs.length c]] w fun e w' => ∃ v, e = .returned (.tuple #[v, .int .i64 (askM (⟨7, corr, topic, part, offset, most, least, wait, time, parts, sure, compact, recs⟩ : Req)).2]) ∧ RowAt w' 5 w.heap.size v (askM (⟨7, corr, topic, part, offset, most, least, wait, time, parts, sure, compact, recs⟩ : Req)).1 ∧ Turn [] w w' := by

  obtain ⟨w0, hw0⟩ : ∃ w0, w0 = w.alloc (.cells #[.int .i64 7, .int .i64 corr, strV topic, .int .i64 part, .int .i64 offset, .int .i64 most, .int .i64 least, .int .i64 wait, .int .i64 time, .int .i64 parts, .bool sure, .bool compact, .slice a recs.length c] 25) := ⟨_, rfl⟩
  have hbox : w0.heap[w.heap.size]? = some (.cells #[.int .i64 7, .int .i64 corr, strV topic, .int .i64 part, .int .i64 offset, .int .i64 most, .int .i64 least, .int .i64 wait, .int .i64 time, .int .i64 parts, .bool sure, .bool compact, .slice a recs.length c] 25 (0, 0)) := by rw [hw0]; exact heap_new w _
  have hal : Turn [] w w0 := by rw [hw0]; exact (Turn.refl [] w).alloc _
  obtain ⟨wm, hwm⟩ : ∃ wm, wm = w0.alloc (.cells #[.slice none 0 0, .int .i64 0] mT) := ⟨_, rfl⟩
  have hmx2 : wm.heap[w0.heap.size]? = some (.cells #[.slice none 0 0, .int .i64 0] mT (0, 0)) := by rw [hwm]; exact heap_new w0 _
  have hal2 : Turn [] w0 wm := by rw [hwm]; exact (Turn.refl [] w0).alloc _
  have hbox2 := hal2.heap hbox (by simp)
  have hsw : w.heap.size < w0.heap.size := lt_of_heap hbox
  have hmk : MkAt mT eI wm w0.heap.size w0.heap.size (.slice none 0 0) ([], 0) := ⟨hmx2, .inl ⟨rfl, rfl⟩, by simp [Value.ownBlock]⟩
  obtain ⟨s0, hs0⟩ : ∃ s : Value, s = .slice none 0 0 := ⟨_, rfl⟩
  obtain ⟨b0, hb0⟩ : ∃ b : WS, b = ([], 0) := ⟨_, rfl⟩
  rw [← hs0, ← hb0] at hmk
  have hl0 : b0.1.length ≤ 100 := by rw [hb0]; simp
  have box : ∀ wi si bi, MkTo mT eI wm wi w0.heap.size w0.heap.size s0 si bi → w.heap.size < wi.heap.size ∧ wi.cell? ⟨w.heap.size, 0, none⟩ = some (.int .i64 7) ∧ wi.cell? ⟨w.heap.size, 1, none⟩ = some (.int .i64 corr) ∧ wi.cell? ⟨w.heap.size, 2, none⟩ = some (strV topic) ∧ wi.cell? ⟨w.heap.size, 3, none⟩ = some (.int .i64 part) ∧ wi.cell? ⟨w.heap.size, 4, none⟩ = some (.int .i64 offset) ∧ wi.cell? ⟨w.heap.size, 5, none⟩ = some (.int .i64 most) ∧ wi.cell? ⟨w.heap.size, 6, none⟩ = some (.int .i64 least) ∧ wi.cell? ⟨w.heap.size, 7, none⟩ = some (.int .i64 wait) ∧ wi.cell? ⟨w.heap.size, 8, none⟩ = some (.int .i64 time) ∧ wi.cell? ⟨w.heap.size, 9, none⟩ = some (.int .i64 parts) ∧ wi.cell? ⟨w.heap.size, 10, none⟩ = some (.bool sure) ∧ wi.cell? ⟨w.heap.size, 11, none⟩ = some (.bool compact) ∧ wi.cell? ⟨w.heap.size, 12, none⟩ = some (.slice a recs.length c) :=
    fun wi si bi h2 => by
      have hb := h2.box hbox2 (by omega) (fun x hx => by rw [hs0] at hx; simp [Value.ownBlock] at hx)
      exact ⟨lt_of_heap hb, by simpa [strV] using cell_of hb 0, by simpa [strV] using cell_of hb 1, by simpa [strV] using cell_of hb 2, by simpa [strV] using cell_of hb 3, by simpa [strV] using cell_of hb 4, by simpa [strV] using cell_of hb 5, by simpa [strV] using cell_of hb 6, by simpa [strV] using cell_of hb 7, by simpa [strV] using cell_of hb 8, by simpa [strV] using cell_of hb 9, by simpa [strV] using cell_of hb 10, by simpa [strV] using cell_of hb 11, by simpa [strV] using cell_of hb 12⟩
  have z0 : w.heap.size < w0.heap.size ∧ w0.cell? ⟨w.heap.size, 0, none⟩ = some (.int .i64 7) ∧ w0.cell? ⟨w.heap.size, 1, none⟩ = some (.int .i64 corr) ∧ w0.cell? ⟨w.heap.size, 2, none⟩ = some (strV topic) ∧ w0.cell? ⟨w.heap.size, 3, none⟩ = some (.int .i64 part) ∧ w0.cell? ⟨w.heap.size, 4, none⟩ = some (.int .i64 offset) ∧ w0.cell? ⟨w.heap.size, 5, none⟩ = some (.int .i64 most) ∧ w0.cell? ⟨w.heap.size, 6, none⟩ = some (.int .i64 least) ∧ w0.cell? ⟨w.heap.size, 7, none⟩ = some (.int .i64 wait) ∧ w0.cell? ⟨w.heap.size, 8, none⟩ = some (.int .i64 time) ∧ w0.cell? ⟨w.heap.size, 9, none⟩ = some (.int .i64 parts) ∧ w0.cell? ⟨w.heap.size, 10, none⟩ = some (.bool sure) ∧ w0.cell? ⟨w.heap.size, 11, none⟩ = some (.bool compact) ∧ w0.cell? ⟨w.heap.size, 12, none⟩ = some (.slice a recs.length c) := by
    have hb := hbox
    exact ⟨hsw, by simpa [strV] using cell_of hb 0, by simpa [strV] using cell_of hb 1, by simpa [strV] using cell_of hb 2, by simpa [strV] using cell_of hb 3, by simpa [strV] using cell_of hb 4, by simpa [strV] using cell_of hb 5, by simpa [strV] using cell_of hb 6, by simpa [strV] using cell_of hb 7, by simpa [strV] using cell_of hb 8, by simpa [strV] using cell_of hb 9, by simpa [strV] using cell_of hb 10, by simpa [strV] using cell_of hb 11, by simpa [strV] using cell_of hb 12⟩
  have recsAt : ∀ wi si bi, MkTo mT eI wm wi w0.heap.size w0.heap.size s0 si bi → RecsAt wi (.slice a recs.length c) recs := fun wi si bi hg =>
    ((hrec.still hal).still hal2).kept' hg.2.1 (fun h0 k hk hm => by
      have h1 := hrec.lt h0 k hk
      rcases List.mem_cons.1 hm with rfl | hm
      · omega
      · rw [hs0] at hm; simp [Value.ownBlock] at hm)
  have hrb : recs ≠ [] → ∀ k ∈ (Value.slice a recs.length c).ownBlock, k < w0.heap.size := fun h0 k hk => by have := hrec.lt h0 k hk; omega
  have RECS := hide recsAt
  have fin : ∀ wi si bi, MkTo mT eI wm wi w0.heap.size w0.heap.size s0 si bi → Turn [] w wi := fun wi si bi h2 =>
    (hal.same hal2).trans h2.2.1 (fun k hk => .inr (by
      rcases List.mem_cons.1 hk with rfl | hk
      · omega
      · rw [hs0] at hk; simp [Value.ownBlock] at hk))
  have FIN := hide fin
  have BOX := hide box
  have HT0 := hide hmk.self
  have HW0 := hide hw0
  have HWM := hide hwm
  have HB0 := hide hb0
  have hszm : w0.heap.size < wm.heap.size := lt_of_heap hmx2
  clear hbox hal hal2 hw0 hwm hmx2 hbox2 hmk hs0 hb0 box fin recsAt hrec
  obtain ⟨z0, q0, q1, q2, q3, q4, q5, q6, q7, q8, q9, q10, q11, q12⟩ := z0
  go_enter Tryd.func17, Tryd.ntmps17
  go_upto_region 1 with fail
  rw [show w.alloc (.cells #[.int .i64 7, .int .i64 corr, strV topic, .int .i64 part, .int .i64 offset, .int .i64 most, .int .i64 least, .int .i64 wait, .int .i64 time, .int .i64 parts, .bool sure, .bool compact, .slice a recs.length c] 25) = w0 from HW0.out.symm]
  go_upto_region 4 with fail
  rw [show w0.alloc (.cells #[.slice none 0 0, .int .i64 0] mT) = wm from HWM.out.symm]
  clear z0 q0 q1 q2 q3 q4 q5 q6 q7 q8 q9 q10 q11 q12
  obtain ⟨z0, q0, q1, q2, q3, q4, q5, q6, q7, q8, q9, q10, q11, q12⟩ := BOX.out _ _ _ HT0.out
  go_wp2_with fail
  refine (mnum_new _ w0.heap.size w0.heap.size s0 b0 HT0.out.1 (by omega) [7, corr] (by rfl) (by rfl) (by rfl) (by simp) (by omega)).mono ?_
  rintro e wz1 ⟨rfl, s1, hto⟩
  have HT1 := hide (HT0.out.trans hto)
  clear hto
  have hl1 := (show (nums b0 [7, corr]).1.length ≤ b0.1.length + 12 from nums_len b0 [7, corr])
  obtain ⟨b1, hb⟩ : ∃ b, b = nums b0 [7, corr] := ⟨_, rfl⟩
  rw [← hb] at HT1 hl1
  have HB1 := hide hb
  clear hb
  have hsz1 := HT1.out.2.1.size
  clear z0 q0 q1 q2 q3 q4 q5 q6 q7 q8 q9 q10 q11 q12
  obtain ⟨z0, q0, q1, q2, q3, q4, q5, q6, q7, q8, q9, q10, q11, q12⟩ := BOX.out _ _ _ HT1.out
  have hbf : b1 = rRun ([], 0) (reqCl (⟨7, corr, topic, part, offset, most, least, wait, time, parts, sure, compact, recs⟩ : Req)) := by rw [HB1.out, HB0.out]; rfl
  have hm : askM (⟨7, corr, topic, part, offset, most, least, wait, time, parts, sure, compact, recs⟩ : Req) = rF b1 := by rw [hbf]; rfl
  have hne : b1.1 ≠ [] := by rw [hbf]; exact reqRun_ne _ _
  have HMM := hide hm
  clear hbf hm
  go_wp2_with fail
  refine (mframe_any _ w0.heap.size w0.heap.size s1 b1 HT1.out.1 (by omega) hne).mono ?_
  rintro e wf ⟨v, rfl, hrow, htf⟩
  have hrow' : RowAt wf 5 w.heap.size v (rF b1).1 := by
    rcases hrow with h | ⟨g, cap, cur, h1, h2, h3⟩
    · exact .inl h
    · exact .inr ⟨g, cap, cur, h1, by omega, h3⟩
  have HROW := hide hrow'
  have HTF := hide ((FIN.out _ _ _ HT1.out).same htf)
  clear hrow hrow' htf hne z0 q0 q1 q2 q3 q4 q5 q6 q7 q8 q9 q10 q11 q12
  go_wp2
  go_ret2
  exact ⟨v, by rw [HMM.out]; rfl, by rw [HMM.out]; exact HROW.out, HTF.out⟩
end Go.Proofs.YtcpjohpbakbggaaDoor.Wi
