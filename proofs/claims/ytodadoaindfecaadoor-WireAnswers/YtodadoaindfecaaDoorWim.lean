/- wire.Ask, wire.Tell, whole. -/
import Derived.Test.YtodadoaindfecaaDoorWil
namespace Go.Proofs.YtodadoaindfecaaDoor.Wi
open Go.RowKit Go.Maps
set_option maxRecDepth 100000
set_option linter.unusedSimpArgs false
set_option linter.unusedVariables false

theorem nums_ge (s : WS) : ∀ l, s.1.length ≤ (nums s l).1.length
  | [] => Nat.le_refl _
  | n :: l => by
    rw [nums_cons]
    refine Nat.le_trans ?_ (nums_ge (pN s n) l)
    unfold pN
    split <;> simp
theorem pStep_ge {s : WS} (h : 4 ≤ s.1.length) (c : Cl) : 4 ≤ (pStep s c).1.length := by
  have h1 : ∀ e, 4 ≤ (cut (s.1, e)).1.length := fun e => by unfold cut; simp only [List.length_take]; omega
  cases c with
  | ns l => exact Nat.le_trans (h1 s.2) (nums_ge (cut s) l)
  | tx t m =>
    rw [pStep_tx]
    split
    · exact Nat.le_trans (h1 4) (nums_ge _ _)
    · have := Nat.le_trans (h1 s.2) (nums_ge (cut s) [(t.length : Int)])
      simp only [List.length_append]
      omega
theorem pRun_ge : ∀ (l : List Cl) {s : WS}, 4 ≤ s.1.length → 4 ≤ (pRun s l).1.length
  | [], _, h => h
  | c :: l, _, h => by rw [pRun_cons]; exact pRun_ge l (pStep_ge h c)
theorem pRun_le (l : List Cl) {s : WS} (h : s.1.length ≤ 12000) (hs : ∀ c ∈ l, szC c) : (pRun s l).1.length ≤ 12000 :=
  pRun_len s l h (fun c hc => by have := hs c hc; cases c <;> simpa [szC] using this)

set_option maxHeartbeats 4000000 in
theorem ask_any (w : World) (x : Req) (rv : Value) (hrec : RecsAt w rv x.recs) (htl : x.topic.length ≤ 9223372036854775807) :
    Calls Tryd.prog 19 #[.agg (reqC x rv)] w fun e w' => ∃ v, e = .returned (.tuple #[v, As.errN (askP x).2]) ∧ RowAt w' 5 w.heap.size v (askP x).1 ∧ Turn [] w w' := by
  obtain ⟨kind, corr, topic, part, offset, most, least, wait, time, parts, sure, compact, recs⟩ := x
  simp only at hrec htl
  simp only [reqC]
  obtain ⟨X, hX⟩ : ∃ X : Req, X = ⟨kind, corr, topic, part, offset, most, least, wait, time, parts, sure, compact, recs⟩ := ⟨_, rfl⟩
  rw [← hX]
  have HX := hide hX
  have HREC := hide hrec

  have hlz : rv.ownBlock.isSome → recs ≠ [] → True := fun _ _ => trivial
  obtain ⟨w0, hw0⟩ : ∃ w0, w0 = w.alloc (.cells #[.int .i64 kind, .int .i64 corr, strV topic, .int .i64 part, .int .i64 offset, .int .i64 most, .int .i64 least, .int .i64 wait, .int .i64 time, .int .i64 parts, .bool sure, .bool compact, rv] 48) := ⟨_, rfl⟩
  have hbox : w0.heap[w.heap.size]? = some (.cells #[.int .i64 kind, .int .i64 corr, strV topic, .int .i64 part, .int .i64 offset, .int .i64 most, .int .i64 least, .int .i64 wait, .int .i64 time, .int .i64 parts, .bool sure, .bool compact, rv] 48 (0, 0)) := by rw [hw0]; exact heap_new w _
  have hal : Turn [] w w0 := by rw [hw0]; exact (Turn.refl [] w).alloc _
  have box : ∀ Z, Turn [] w0 Z → w.heap.size < Z.heap.size ∧ Z.cell? ⟨w.heap.size, 0, none⟩ = some (.int .i64 kind) ∧ Z.cell? ⟨w.heap.size, 1, none⟩ = some (.int .i64 corr) ∧ Z.cell? ⟨w.heap.size, 2, none⟩ = some (strV topic) ∧ Z.cell? ⟨w.heap.size, 3, none⟩ = some (.int .i64 part) ∧ Z.cell? ⟨w.heap.size, 4, none⟩ = some (.int .i64 offset) ∧ Z.cell? ⟨w.heap.size, 5, none⟩ = some (.int .i64 most) ∧ Z.cell? ⟨w.heap.size, 6, none⟩ = some (.int .i64 least) ∧ Z.cell? ⟨w.heap.size, 7, none⟩ = some (.int .i64 wait) ∧ Z.cell? ⟨w.heap.size, 8, none⟩ = some (.int .i64 time) ∧ Z.cell? ⟨w.heap.size, 9, none⟩ = some (.int .i64 parts) ∧ Z.cell? ⟨w.heap.size, 10, none⟩ = some (.bool sure) ∧ Z.cell? ⟨w.heap.size, 11, none⟩ = some (.bool compact) ∧ Z.cell? ⟨w.heap.size, 12, none⟩ = some (rv) :=
    fun Z hZ => by
      have hb := hZ.heap hbox (by simp)
      exact ⟨lt_of_heap hb, by simpa [strV] using cell_of hb 0, by simpa [strV] using cell_of hb 1, by simpa [strV] using cell_of hb 2, by simpa [strV] using cell_of hb 3, by simpa [strV] using cell_of hb 4, by simpa [strV] using cell_of hb 5, by simpa [strV] using cell_of hb 6, by simpa [strV] using cell_of hb 7, by simpa [strV] using cell_of hb 8, by simpa [strV] using cell_of hb 9, by simpa [strV] using cell_of hb 10, by simpa [strV] using cell_of hb 11, by simpa [strV] using cell_of hb 12⟩
  have BOX := hide box
  have HAL := hide hal
  have HW0 := hide hw0
  clear hbox hal box hw0 hX hrec hlz 
  by_cases hk : kind < 1 ∨ 7 < kind
  · have hm : askP X = ([], 1) := by rw [HX.out]; unfold askP; rw [if_pos hk]
    have HM := hide hm
    clear hm
    have hd : decide (1 ≤ kind ∧ kind ≤ 7) = false := decide_eq_false (by omega)
    have HD := hide hd
    clear hd hk
    go_enter Tryd.func19, Tryd.ntmps19
    go_upto_region 1 with fail
    rw [show w.alloc (.cells #[.int .i64 kind, .int .i64 corr, strV topic, .int .i64 part, .int .i64 offset, .int .i64 most, .int .i64 least, .int .i64 wait, .int .i64 time, .int .i64 parts, .bool sure, .bool compact, rv] 48) = w0 from HW0.out.symm]
    obtain ⟨z0, q0, q1, q2, q3, q4, q5, q6, q7, q8, q9, q10, q11, q12⟩ := BOX.out w0 (Turn.refl _ _)
    go_wp2_with fail
    refine (isKind_any _ kind).mono ?_
    rintro e w1 ⟨rfl, rfl⟩
    rw [HD.out]
    go_wp2
    go_ret2
    exact ⟨.slice none 0 0, by rw [HM.out]; simp [As.errN], .inl ⟨rfl, by rw [HM.out]⟩, HAL.out⟩
  · have hm : askP X = encP (reqCl X) := by rw [HX.out]; unfold askP; rw [if_neg hk]
    have HM := hide hm
    have hd : decide (1 ≤ kind ∧ kind ≤ 7) = true := decide_eq_true (by omega)
    have HD := hide hd
    have hk1 : 1 ≤ X.kind ∧ X.kind ≤ 7 := by rw [HX.out]; show 1 ≤ kind ∧ kind ≤ 7; omega
    have HK1 := hide hk1

    clear hd hm hk hk1
    go_enter Tryd.func19, Tryd.ntmps19
    go_upto_region 1 with fail
    rw [show w.alloc (.cells #[.int .i64 kind, .int .i64 corr, strV topic, .int .i64 part, .int .i64 offset, .int .i64 most, .int .i64 least, .int .i64 wait, .int .i64 time, .int .i64 parts, .bool sure, .bool compact, rv] 48) = w0 from HW0.out.symm]
    obtain ⟨z0, q0, q1, q2, q3, q4, q5, q6, q7, q8, q9, q10, q11, q12⟩ := BOX.out w0 (Turn.refl _ _)
    go_wp2_with fail
    refine (isKind_any _ kind).mono ?_
    rintro e w1 ⟨rfl, rfl⟩
    rw [HD.out]
    go_wp2_with fail
    refine (begin_any _).mono ?_
    rintro e w2 ⟨wb, sv, rfl, hmk, ht2, hwb⟩
    have HMK := hide hmk
    have HT2 := hide ht2
    have HWB := hide hwb
    clear z0 q0 q1 q2 q3 q4 q5 q6 q7 q8 q9 q10 q11 q12 hmk ht2 hwb
    obtain ⟨z0, q0, q1, q2, q3, q4, q5, q6, q7, q8, q9, q10, q11, q12⟩ := BOX.out w2 HT2.out
    go_wp2_with fail
    have hr2 : RecsAt w2 rv X.recs := by rw [HX.out]; exact (HREC.out.still HAL.out).still HT2.out
    have hrb : X.recs ≠ [] → ∀ k ∈ rv.ownBlock, k < w1.heap.size := fun h0 k hk => by
      rw [HX.out] at h0
      have := HREC.out.lt h0 k hk
      have := HAL.out.size
      omega
    have htx : X.topic.length ≤ 9223372036854775807 := by rw [HX.out]; exact htl
    have hcall := wreq_any w2 wb w1.heap.size sv ([0, 0, 0, 0], 0) HMK.out HT2.out.size HWB.out X rv hr2 hrb htx HK1.out (by simp)
    rw [show reqC X rv = #[.int .i64 kind, .int .i64 corr, strV topic, .int .i64 part, .int .i64 offset, .int .i64 most, .int .i64 least, .int .i64 wait, .int .i64 time, .int .i64 parts, .bool sure, .bool compact, rv] by rw [HX.out]; rfl] at hcall
    refine hcall.mono ?_
    rintro e w3 ⟨rfl, sv3, hmt⟩
    have HMT := hide hmt
    clear hcall hmt hr2 hrb z0 q0 q1 q2 q3 q4 q5 q6 q7 q8 q9 q10 q11 q12 htx
    go_wp2_with fail
    refine (frame_any w3 wb w1.heap.size sv3 _ HMT.out.1 (pRun_ge _ (by simp)) (pRun_le _ (by simp) (reqCl_sz X))).mono ?_
    rintro e w4 ⟨v, rfl, hrow, ht4⟩
    have hrow' : RowAt w4 5 w.heap.size v (encP (reqCl X)).1 := by
      rcases hrow with h | ⟨g, cap, cur, h1, h2, h3⟩
      · exact .inl h
      · exact .inr ⟨g, cap, cur, h1, by have := HAL.out.size; omega, h3⟩
    have htw : Turn [] w w4 := by
      have h1 := HAL.out.same HT2.out
      have h2 : Turn [] w w3 := h1.trans HMT.out.2.1 (fun k hk => .inr (by
        have := HAL.out.size
        rcases List.mem_cons.1 hk with rfl | hk
        · have := HWB.out; omega
        · have := (HMK.out.lt.2 k (by simpa using hk)).1; omega))
      exact h2.trans ht4 (fun k hk => .inr (by
        have := HAL.out.size
        have := (HMT.out.1.lt.2 k (by simpa using hk)).1; omega))
    have HROW := hide hrow'
    have HTW := hide htw
    clear hrow hrow' ht4 htw
    go_wp2
    go_ret2
    exact ⟨v, by rw [HM.out]; rfl, by rw [HM.out]; exact HROW.out, HTW.out⟩

set_option maxHeartbeats 4000000 in
theorem tell_any (w : World) (x : Ans) (rv tv : Value) (hrec : RecsAt w rv x.recs) (htop : TopsAt w tv x.topics) :
    Calls Tryd.prog 21 #[.agg (ansC x rv tv)] w fun e w' => ∃ v, e = .returned (.tuple #[v, As.errN (tellP x).2]) ∧ RowAt w' 5 w.heap.size v (tellP x).1 ∧ Turn [] w w' := by
  obtain ⟨kind, corr, err, offset, start, fin, found, recs, topics⟩ := x
  simp only at hrec htop
  simp only [ansC]
  obtain ⟨X, hX⟩ : ∃ X : Ans, X = ⟨kind, corr, err, offset, start, fin, found, recs, topics⟩ := ⟨_, rfl⟩
  rw [← hX]
  have HX := hide hX
  have HREC := hide hrec
  have HTOP := hide htop
  have hlz : rv.ownBlock.isSome → recs ≠ [] → True := fun _ _ => trivial
  obtain ⟨w0, hw0⟩ : ∃ w0, w0 = w.alloc (.cells #[.int .i64 kind, .int .i64 corr, .int .i64 err, .int .i64 offset, .int .i64 start, .int .i64 fin, .bool found, rv, tv] 57) := ⟨_, rfl⟩
  have hbox : w0.heap[w.heap.size]? = some (.cells #[.int .i64 kind, .int .i64 corr, .int .i64 err, .int .i64 offset, .int .i64 start, .int .i64 fin, .bool found, rv, tv] 57 (0, 0)) := by rw [hw0]; exact heap_new w _
  have hal : Turn [] w w0 := by rw [hw0]; exact (Turn.refl [] w).alloc _
  have box : ∀ Z, Turn [] w0 Z → w.heap.size < Z.heap.size ∧ Z.cell? ⟨w.heap.size, 0, none⟩ = some (.int .i64 kind) ∧ Z.cell? ⟨w.heap.size, 1, none⟩ = some (.int .i64 corr) ∧ Z.cell? ⟨w.heap.size, 2, none⟩ = some (.int .i64 err) ∧ Z.cell? ⟨w.heap.size, 3, none⟩ = some (.int .i64 offset) ∧ Z.cell? ⟨w.heap.size, 4, none⟩ = some (.int .i64 start) ∧ Z.cell? ⟨w.heap.size, 5, none⟩ = some (.int .i64 fin) ∧ Z.cell? ⟨w.heap.size, 6, none⟩ = some (.bool found) ∧ Z.cell? ⟨w.heap.size, 7, none⟩ = some (rv) ∧ Z.cell? ⟨w.heap.size, 8, none⟩ = some (tv) :=
    fun Z hZ => by
      have hb := hZ.heap hbox (by simp)
      exact ⟨lt_of_heap hb, by simpa [strV] using cell_of hb 0, by simpa [strV] using cell_of hb 1, by simpa [strV] using cell_of hb 2, by simpa [strV] using cell_of hb 3, by simpa [strV] using cell_of hb 4, by simpa [strV] using cell_of hb 5, by simpa [strV] using cell_of hb 6, by simpa [strV] using cell_of hb 7, by simpa [strV] using cell_of hb 8⟩
  have BOX := hide box
  have HAL := hide hal
  have HW0 := hide hw0
  clear hbox hal box hw0 hX hrec hlz htop
  by_cases hk : kind < 1 ∨ 7 < kind ∨ err < 0 ∨ 15 < err
  · have hm : tellP X = ([], 1) := by rw [HX.out]; unfold tellP; rw [if_pos hk]
    have HM := hide hm
    clear hm
    by_cases hk1 : 1 ≤ kind ∧ kind ≤ 7
    · have hd : decide (1 ≤ kind ∧ kind ≤ 7) = true := decide_eq_true hk1
      have HD := hide hd
      have hko : err < 0 ∨ (¬ err < 0 ∧ err > 15) := by omega
      clear hd hk hk1
      rcases hko with he | ⟨he, he2⟩
      · go_enter Tryd.func21, Tryd.ntmps21
        go_upto_region 1 with fail
        rw [show w.alloc (.cells #[.int .i64 kind, .int .i64 corr, .int .i64 err, .int .i64 offset, .int .i64 start, .int .i64 fin, .bool found, rv, tv] 57) = w0 from HW0.out.symm]
        obtain ⟨z0, q0, q1, q2, q3, q4, q5, q6, q7, q8⟩ := BOX.out w0 (Turn.refl _ _)
        go_wp2_with fail
        refine (isKind_any _ kind).mono ?_
        rintro e w1 ⟨rfl, rfl⟩
        rw [HD.out]
        go_wp2
        go_ret2
        exact ⟨.slice none 0 0, by rw [HM.out]; simp [As.errN], .inl ⟨rfl, by rw [HM.out]⟩, HAL.out⟩
      · go_enter Tryd.func21, Tryd.ntmps21
        go_upto_region 1 with fail
        rw [show w.alloc (.cells #[.int .i64 kind, .int .i64 corr, .int .i64 err, .int .i64 offset, .int .i64 start, .int .i64 fin, .bool found, rv, tv] 57) = w0 from HW0.out.symm]
        obtain ⟨z0, q0, q1, q2, q3, q4, q5, q6, q7, q8⟩ := BOX.out w0 (Turn.refl _ _)
        go_wp2_with fail
        refine (isKind_any _ kind).mono ?_
        rintro e w1 ⟨rfl, rfl⟩
        rw [HD.out]
        go_wp2
        go_ret2
        exact ⟨.slice none 0 0, by rw [HM.out]; simp [As.errN], .inl ⟨rfl, by rw [HM.out]⟩, HAL.out⟩
    · have hd : decide (1 ≤ kind ∧ kind ≤ 7) = false := decide_eq_false hk1
      have HD := hide hd
      clear hd hk hk1
      go_enter Tryd.func21, Tryd.ntmps21
      go_upto_region 1 with fail
      rw [show w.alloc (.cells #[.int .i64 kind, .int .i64 corr, .int .i64 err, .int .i64 offset, .int .i64 start, .int .i64 fin, .bool found, rv, tv] 57) = w0 from HW0.out.symm]
      obtain ⟨z0, q0, q1, q2, q3, q4, q5, q6, q7, q8⟩ := BOX.out w0 (Turn.refl _ _)
      go_wp2_with fail
      refine (isKind_any _ kind).mono ?_
      rintro e w1 ⟨rfl, rfl⟩
      rw [HD.out]
      go_wp2
      go_ret2
      exact ⟨.slice none 0 0, by rw [HM.out]; simp [As.errN], .inl ⟨rfl, by rw [HM.out]⟩, HAL.out⟩
  · have hm : tellP X = encP (ansCl X) := by rw [HX.out]; unfold tellP; rw [if_neg hk]
    have HM := hide hm
    have hd : decide (1 ≤ kind ∧ kind ≤ 7) = true := decide_eq_true (by omega)
    have HD := hide hd
    have hk1 : 1 ≤ X.kind ∧ X.kind ≤ 7 := by rw [HX.out]; show 1 ≤ kind ∧ kind ≤ 7; omega
    have HK1 := hide hk1
    have he1 : ¬ err < 0 := by omega
    have he2 : ¬ err > 15 := by omega
    clear hd hm hk hk1
    go_enter Tryd.func21, Tryd.ntmps21
    go_upto_region 1 with fail
    rw [show w.alloc (.cells #[.int .i64 kind, .int .i64 corr, .int .i64 err, .int .i64 offset, .int .i64 start, .int .i64 fin, .bool found, rv, tv] 57) = w0 from HW0.out.symm]
    obtain ⟨z0, q0, q1, q2, q3, q4, q5, q6, q7, q8⟩ := BOX.out w0 (Turn.refl _ _)
    go_wp2_with fail
    refine (isKind_any _ kind).mono ?_
    rintro e w1 ⟨rfl, rfl⟩
    rw [HD.out]
    go_wp2_with fail
    refine (begin_any _).mono ?_
    rintro e w2 ⟨wb, sv, rfl, hmk, ht2, hwb⟩
    have HMK := hide hmk
    have HT2 := hide ht2
    have HWB := hide hwb
    clear z0 q0 q1 q2 q3 q4 q5 q6 q7 q8 hmk ht2 hwb
    obtain ⟨z0, q0, q1, q2, q3, q4, q5, q6, q7, q8⟩ := BOX.out w2 HT2.out
    go_wp2_with fail
    have hr2 : RecsAt w2 rv X.recs := by rw [HX.out]; exact (HREC.out.still HAL.out).still HT2.out
    have hrb : X.recs ≠ [] → ∀ k ∈ rv.ownBlock, k < w1.heap.size := fun h0 k hk => by
      rw [HX.out] at h0
      have := HREC.out.lt h0 k hk
      have := HAL.out.size
      omega
    have ht3 : TopsAt w2 tv X.topics := by rw [HX.out]; exact (HTOP.out.still HAL.out).still HT2.out
    have htb : X.topics ≠ [] → ∀ k ∈ tv.ownBlock, k < w1.heap.size := fun h0 k hk => by
      rw [HX.out] at h0
      have := HTOP.out.lt h0 k hk
      have := HAL.out.size
      omega
    have hcall := wans_any w2 wb w1.heap.size sv ([0, 0, 0, 0], 0) HMK.out HT2.out.size HWB.out X rv tv hr2 ht3 hrb htb HK1.out (by simp)
    rw [show ansC X rv tv = #[.int .i64 kind, .int .i64 corr, .int .i64 err, .int .i64 offset, .int .i64 start, .int .i64 fin, .bool found, rv, tv] by rw [HX.out]; rfl] at hcall
    refine hcall.mono ?_
    rintro e w3 ⟨rfl, sv3, hmt⟩
    have HMT := hide hmt
    clear hcall hmt hr2 hrb z0 q0 q1 q2 q3 q4 q5 q6 q7 q8 ht3 htb
    go_wp2_with fail
    refine (frame_any w3 wb w1.heap.size sv3 _ HMT.out.1 (pRun_ge _ (by simp)) (pRun_le _ (by simp) (ansCl_sz X))).mono ?_
    rintro e w4 ⟨v, rfl, hrow, ht4⟩
    have hrow' : RowAt w4 5 w.heap.size v (encP (ansCl X)).1 := by
      rcases hrow with h | ⟨g, cap, cur, h1, h2, h3⟩
      · exact .inl h
      · exact .inr ⟨g, cap, cur, h1, by have := HAL.out.size; omega, h3⟩
    have htw : Turn [] w w4 := by
      have h1 := HAL.out.same HT2.out
      have h2 : Turn [] w w3 := h1.trans HMT.out.2.1 (fun k hk => .inr (by
        have := HAL.out.size
        rcases List.mem_cons.1 hk with rfl | hk
        · have := HWB.out; omega
        · have := (HMK.out.lt.2 k (by simpa using hk)).1; omega))
      exact h2.trans ht4 (fun k hk => .inr (by
        have := HAL.out.size
        have := (HMT.out.1.lt.2 k (by simpa using hk)).1; omega))
    have HROW := hide hrow'
    have HTW := hide htw
    clear hrow hrow' ht4 htw
    go_wp2
    go_ret2
    exact ⟨v, by rw [HM.out]; rfl, by rw [HM.out]; exact HROW.out, HTW.out⟩
end Go.Proofs.YtodadoaindfecaaDoor.Wi
