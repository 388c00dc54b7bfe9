/- wire's writer: a record. -/
import Derived.Test.YtodadoaindfecaaDoorWif
namespace Go.Proofs.YtodadoaindfecaaDoor.Wi
open Go.RowKit Go.Maps
set_option maxRecDepth 100000
set_option linter.unusedSimpArgs false
set_option linter.unusedVariables false

theorem pRun_len (s : WS) : ∀ (l : List Cl), s.1.length ≤ 12000 → (∀ c ∈ l, match c with | .ns l => l.length ≤ 9 | .tx t m => m ≤ 1000) → (pRun s l).1.length ≤ 12000
  | [], h, _ => h
  | c :: l, h, hl => by
    rw [pRun_cons]
    exact pRun_len (pStep s c) l (pStep_len s c (hl c (by simp))) (fun x hx => hl x (by simp [hx]))
theorem recCl_sz (r : Bt.Rec) : ∀ c ∈ recCl r, match c with | .ns l => l.length ≤ 9 | .tx t m => m ≤ 1000 := by
  obtain ⟨off, time, keyed, key, gone, value⟩ := r
  intro c hc
  cases keyed <;> cases gone <;> simp [recCl] at hc
  · rcases hc with rfl | rfl | rfl <;> simp
  · rcases hc with rfl | rfl <;> simp
  · rcases hc with rfl | rfl | rfl | rfl <;> simp
  · rcases hc with rfl | rfl | rfl <;> simp
set_option maxHeartbeats 4000000 in
theorem wrec_any (w : World) (wb base : Nat) (sv : Value) (s : WS) (h : MkAt wT As.errN w wb base sv s) (hbase : base ≤ w.heap.size) (r : Bt.Rec) (hr : RecOk r) (hsl : s.1.length ≤ 12000) :
    Calls Tryd.prog 72 #[.pointer (some ⟨wb, 0, none⟩), recV r] w fun e w' => e = .returned (.tuple #[]) ∧ ∃ sv', MkTo wT As.errN w w' wb base sv sv' (pRun s (recCl r)) := by
  obtain ⟨off, time, keyed, key, gone, value⟩ := r
  have hk := hr.key
  have hv := hr.value
  simp only at hk hv
  clear hr
  have hlt := h.lt
  obtain ⟨w0, hw0⟩ : ∃ w0, w0 = w.alloc (.cells #[.int .i64 off, .int .i64 time, .bool keyed, .string ⟨key.toArray⟩, .bool gone, .string ⟨value.toArray⟩] 133) := ⟨_, rfl⟩
  have hbox : w0.heap[w.heap.size]? = some (.cells #[.int .i64 off, .int .i64 time, .bool keyed, .string ⟨key.toArray⟩, .bool gone, .string ⟨value.toArray⟩] 133 (0, 0)) := by rw [hw0]; exact heap_new w _
  have hal : Turn [] w w0 := by rw [hw0]; exact (Turn.refl [] w).alloc _
  have hm0 := h.still hal
  have box : ∀ wi si bi, MkTo wT As.errN w0 wi wb base sv si bi → w.heap.size < wi.heap.size ∧ wi.cell? ⟨w.heap.size, 0, none⟩ = some (.int .i64 off) ∧ wi.cell? ⟨w.heap.size, 1, none⟩ = some (.int .i64 time) ∧ wi.cell? ⟨w.heap.size, 2, none⟩ = some (.bool keyed) ∧ wi.cell? ⟨w.heap.size, 3, none⟩ = some (.string ⟨key.toArray⟩) ∧ wi.cell? ⟨w.heap.size, 4, none⟩ = some (.bool gone) ∧ wi.cell? ⟨w.heap.size, 5, none⟩ = some (.string ⟨value.toArray⟩) :=
    fun wi si bi h2 => by
      have hb := h2.box hbox (by omega) (fun x hx => by have := (hlt.2 x hx).2; omega)
      exact ⟨lt_of_heap hb, box_cells (r := ⟨off, time, keyed, key, gone, value⟩) hb⟩
  have fin : ∀ wi si bi, MkTo wT As.errN w0 wi wb base sv si bi → bi = pRun s (recCl ⟨off, time, keyed, key, gone, value⟩) → ∃ sv', MkTo wT As.errN w wi wb base sv sv' (pRun s (recCl ⟨off, time, keyed, key, gone, value⟩)) :=
    fun wi si bi h2 e => ⟨si, e ▸ MkTo.pre hal h2⟩
  have hsz0 : base ≤ w0.heap.size := by have := hal.size; omega
  have BOX := hide box
  have FIN := hide fin
  have HM0 := hide hm0
  have HW0 := hide hw0
  clear h box fin hm0 hal hbox hw0 hlt
  go_enter Tryd.func72, Tryd.ntmps72
  go_wp2
  rw [show w.alloc (.cells #[.int .i64 off, .int .i64 time, .bool keyed, strV key, .bool gone, strV value] 133) = w0 from HW0.out.symm]
  refine wp_region_tail 7 (Turn []) (by kernel_rfl) (by kernel_rfl) (by kernel_rfl) (by kernel_rfl) (by kernel_rfl) (Nat.le_of_ble_eq_true rfl) rfl (Turn.refl _) (fun _ _ _ h k => h.same k) ?_
  apply Lo.runx 1 rfl rfl [] (by kernel_rfl) (Turn.refl _)
  apply Exists.intro; apply And.intro
  · intro u w1 hR hF
    clear hF
    refine ⟨rfl, fun a ha K hK => ?_⟩
    have e0 := ha 0
    conv at e0 => rhs; whnf
    clear ha
    go_simp
    refine hK _ ?_; rfl
  apply Lo.runx 2 rfl rfl [] (by kernel_rfl) (Turn.refl _)
  apply Exists.intro; apply And.intro
  · intro u w1 hR hF
    clear hF
    refine ⟨rfl, fun a ha K hK => ?_⟩
    have e3 := ha 3
    conv at e3 => rhs; whnf
    clear ha
    go_simp
    refine hK _ ?_; rfl
  apply Lo.runx 3 rfl rfl [1] (by kernel_rfl) (Turn.refl _)
  apply Exists.intro; apply And.intro
  · intro u w1 hR hF
    obtain ⟨h1, -⟩ := hF
    refine ⟨rfl, fun a ha K hK => ?_⟩
    have e5 := (ha 5).trans h1
    clear ha h1
    obtain ⟨z0, q0, q1, q2, q3, q4, q5⟩ := BOX.out w1 _ _ (HM0.out.self.still (((Turn.refl [] _).drew).same hR))
    go_simp
    refine hK _ ?_; rfl
  apply Lo.runx 4 rfl rfl [] (by kernel_rfl) (Turn.refl _)
  apply Exists.intro; apply And.intro
  · intro u w1 hR hF
    clear hF
    refine ⟨rfl, fun a ha K hK => ?_⟩
    have e3 := ha 3
    conv at e3 => rhs; whnf
    clear ha
    go_simp
    refine hK _ ?_; rfl
  apply Lo.runx 5 rfl rfl [3] (by kernel_rfl) (Turn.refl _)
  apply Exists.intro; apply And.intro
  · intro u w1 hR hF
    obtain ⟨h3, -⟩ := hF
    refine ⟨rfl, fun a ha K hK => ?_⟩
    have e7 := (ha 7).trans h3
    clear ha h3
    obtain ⟨z0, q0, q1, q2, q3, q4, q5⟩ := BOX.out w1 _ _ (HM0.out.self.still (((Turn.refl [] _).drew).same hR))
    go_simp
    refine hK _ ?_; rfl
  refine Lo.run 6 rfl rfl [4] (fun y _ => y = .int .i64 (tr keyed)) (by kernel_rfl) (fun x w w' h hR => ?_) (fun _ _ h => h) (fun u w1 hR hF => ?_) ?_
  · exact h
  · obtain ⟨h4, -⟩ := hF
    refine ⟨rfl, fun a ha K hK => ?_⟩
    have e8 := (ha 8).trans h4
    clear ha h4
    go_simp
    refine (truth_any _ keyed).mono ?_
    rintro e w2 ⟨rfl, rfl⟩
    exact hK _ _ rfl (Turn.refl _ _)
  refine Lo.run 7 rfl rfl [2, 5] (fun y w' => ∃ k, y = .slice (some ⟨k, 0, none⟩) 2 2 ∧ w'.heap[k]? = some (.cells (intsZ [time, tr keyed]) 3 (0, 0))) (by kernel_rfl) (fun x w w' h hR => ?_) (fun _ _ h => h) (fun u w1 hR hF => ?_) ?_
  · obtain ⟨k, h1, h2⟩ := h; exact ⟨k, h1, hR.heap h2 (by simp)⟩
  · obtain ⟨h2, h5, -⟩ := hF
    refine ⟨rfl, fun a ha K hK => ?_⟩
    have e6 := (ha 6).trans h2
    have e9 : a.tmps.getD 9 undef = u 5 := ha 9
    have h5 := (show (fun y _ => y = .int .i64 (tr keyed)) (u 5) w1 from h5)
    dsimp only at h5
    clear ha h2
    have e6' : a.tmps[6]?.getD undef = .int .i64 time := by rw [← Array.getD_eq_getD_getElem?, e6]
    have e9' : a.tmps[9]?.getD undef = .int .i64 (tr keyed) := by rw [← Array.getD_eq_getD_getElem?, e9]; exact h5
    go_simp
    exact hK _ _ ⟨w1.heap.size, rfl, heap_new w1 _⟩ ((Turn.refl _ _).alloc _)
  refine Lo.done [0, 6] (fun u w1 hRd hSd hF => ?_)
  clear hSd
  obtain ⟨f0, f6, -⟩ := hF
  have d0 : u 0 = _ := f0
  have d6 := (show (fun y w' => ∃ k, y = .slice (some ⟨k, 0, none⟩) 2 2 ∧ w'.heap[k]? = some (.cells (intsZ [time, tr keyed]) 3 (0, 0))) (u 6) w1 from f6)
  dsimp only at d6
  clear f0 f6
  simp only [List.take_succ_cons, List.take_zero, List.drop_succ_cons, List.drop_zero, putFrom, Act.put, List.setIfInBounds_toArray, List.set_cons_succ, List.set_cons_zero, Nat.zero_add, Nat.reduceAdd, d0]
  have ht1 : Turn [] w0 w1 := ((Turn.refl [] _).drew).same hRd
  have hm1 := HM0.out.self.still ht1
  obtain ⟨k, hk1, hk2⟩ := d6
  have HM1 := hide hm1
  have HK2 := hide hk2
  have hs1 := ht1.size
  rw [hk1]
  clear hRd ht1 hm1 hk1 hk2
  go_wp2_with fail
  refine (numbers_any w1 wb base sv s HM1.out.1 (by omega) k [time, tr keyed] HK2.out (by simp) (by omega)).mono ?_
  rintro e w2 ⟨rfl, s2, hto⟩
  have HT2 := hide (HM1.out.trans hto)
  clear hto
  have hl2 := pStep_len s (.ns [time, tr keyed]) (by simp)
  have e2 : nums (cut s) [time, tr keyed] = pStep s (.ns [time, tr keyed]) := rfl
  rw [e2] at HT2
  obtain ⟨b2, hb2⟩ : ∃ b, b = pStep s (.ns [time, tr keyed]) := ⟨_, rfl⟩
  rw [← hb2] at HT2 hl2
  have hsz2 := HT2.out.2.1.size
  obtain ⟨z0, q0, q1, q2, q3, q4, q5⟩ := BOX.out _ _ _ HT2.out
  have HB2 := hide hb2
  clear e2 hb2
  cases keyed with
  | true =>
    go_wp2_with fail
    refine (text_any w2 wb base s2 b2 HT2.out.1 (by omega) key 60 (by omega) hk (by omega)).mono ?_
    rintro e w3 ⟨rfl, s3, hto⟩
    have HT3 := hide (HT2.out.trans hto)
    clear hto
    have hl3 := pStep_len b2 (.tx key 60) (by simp)
    obtain ⟨b3, hb3⟩ : ∃ b, b = pStep b2 (.tx key 60) := ⟨_, rfl⟩
    rw [← hb3] at HT3 hl3
    have hsz3 := HT3.out.2.1.size
    clear z0 q0 q1 q2 q3 q4 q5
    obtain ⟨z0, q0, q1, q2, q3, q4, q5⟩ := BOX.out _ _ _ HT3.out
    have HB3 := hide hb3
    clear hb3
    go_wp2_with fail
    refine (truth_any _ gone).mono ?_
    rintro e w4 ⟨rfl, rfl⟩
    go_wp2_with fail
    refine (numbers_new _ wb base s3 b3 HT3.out.1 (by omega) [tr gone] (by rfl) (by rfl) (by rfl) (by simp) (by omega)).mono ?_
    rintro e w5 ⟨rfl, s4, hto⟩
    have HT4 := hide (HT3.out.trans hto)
    clear hto
    have hl4 := pStep_len b3 (.ns [tr gone]) (by simp)
    have e4 : nums (cut b3) [tr gone] = pStep b3 (.ns [tr gone]) := rfl
    rw [e4] at HT4
    obtain ⟨b4, hb4⟩ : ∃ b, b = pStep b3 (.ns [tr gone]) := ⟨_, rfl⟩
    rw [← hb4] at HT4 hl4
    have hsz4 := HT4.out.2.1.size
    clear z0 q0 q1 q2 q3 q4 q5
    obtain ⟨z0, q0, q1, q2, q3, q4, q5⟩ := BOX.out _ _ _ HT4.out
    have HB4 := hide hb4
    clear e4 hb4
    cases gone with
    | true =>
      go_wp2
      go_end0
      exact ⟨rfl, FIN.out _ _ _ HT4.out (by rw [HB4.out, HB3.out, HB2.out]; rfl)⟩
    | false =>
      go_wp2_with fail
      refine (text_any _ wb base s4 b4 HT4.out.1 (by omega) value 500 (by omega) hv (by omega)).mono ?_
      rintro e w6 ⟨rfl, s5, hto⟩
      have HT5 := hide (HT4.out.trans hto)
      clear hto
      go_wp2
      go_end0
      exact ⟨rfl, FIN.out _ _ _ HT5.out (by rw [HB4.out, HB3.out, HB2.out]; rfl)⟩
  | false =>
    go_wp2_with fail
    refine (truth_any _ gone).mono ?_
    rintro e w4 ⟨rfl, rfl⟩
    go_wp2_with fail
    refine (numbers_new _ wb base s2 b2 HT2.out.1 (by omega) [tr gone] (by rfl) (by rfl) (by rfl) (by simp) (by omega)).mono ?_
    rintro e w5 ⟨rfl, s4, hto⟩
    have HT4 := hide (HT2.out.trans hto)
    clear hto
    have hl4 := pStep_len b2 (.ns [tr gone]) (by simp)
    have e4 : nums (cut b2) [tr gone] = pStep b2 (.ns [tr gone]) := rfl
    rw [e4] at HT4
    obtain ⟨b4, hb4⟩ : ∃ b, b = pStep b2 (.ns [tr gone]) := ⟨_, rfl⟩
    rw [← hb4] at HT4 hl4
    have hsz4 := HT4.out.2.1.size
    clear z0 q0 q1 q2 q3 q4 q5
    obtain ⟨z0, q0, q1, q2, q3, q4, q5⟩ := BOX.out _ _ _ HT4.out
    have HB4 := hide hb4
    clear e4 hb4
    cases gone with
    | true =>
      go_wp2
      go_end0
      exact ⟨rfl, FIN.out _ _ _ HT4.out (by rw [HB4.out, HB2.out]; rfl)⟩
    | false =>
      go_wp2_with fail
      refine (text_any _ wb base s4 b4 HT4.out.1 (by omega) value 500 (by omega) hv (by omega)).mono ?_
      rintro e w6 ⟨rfl, s5, hto⟩
      have HT5 := hide (HT4.out.trans hto)
      clear hto
      go_wp2
      go_end0
      exact ⟨rfl, FIN.out _ _ _ HT5.out (by rw [HB4.out, HB2.out]; rfl)⟩
end Go.Proofs.YtodadoaindfecaaDoor.Wi
