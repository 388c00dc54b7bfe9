/- Wii, Wip: texts merged. -/
import Derived.Test.YtcpjohpbakbggaaDoorM5
import Derived.Test.YtcpjohpbakbggaaDoorM2
import Derived.Deep.CutBlock
import Derived.Deep.DeepCutAuto
/- wire's writer: a request. -/
namespace Go.Proofs.YtcpjohpbakbggaaDoor.Wi
open Go.RowKit Go.Maps
set_option maxRecDepth 100000
set_option linter.unusedSimpArgs false
set_option linter.unusedVariables false

theorem pRun_snoc {α : Type} (f : α → List Cl) (s : WS) {l : List α} {j : Nat} (hj : j < l.length) : pRun s ((l.take (j + 1)).flatMap f) = pRun (pRun s ((l.take j).flatMap f)) (f l[j]) := by
  rw [List.take_succ_eq_append_getElem hj, List.flatMap_append, pRun_app]
  simp
theorem plCl_sz (r : Bt.Rec) : ∀ c ∈ plCl r, match c with | .ns l => l.length ≤ 9 | .tx t m => m ≤ 1000 := by
  intro c hc
  rcases List.mem_cons.1 hc with rfl | hc
  · simp
  · exact recCl_sz r c hc
theorem tpCl_sz (t : Tp) : ∀ c ∈ tpCl t, match c with | .ns l => l.length ≤ 9 | .tx t m => m ≤ 1000 := by
  intro c hc
  simp [tpCl] at hc
  rcases hc with rfl | rfl <;> simp
set_option maxHeartbeats 8000000 in
theorem wreq1_any (w : World) (wb base : Nat) (s0 : Value) (b0 : WS) (h : MkAt wT As.errN w wb base s0 b0) (hbase : base ≤ w.heap.size) (hwb : base ≤ wb) (corr : Int) (topic : List UInt8) (part offset most least wait time parts : Int) (sure compact : Bool) (recs : List Bt.Rec) (a : Option Addr) (c : Nat) (hrec : RecsAt w (.slice a recs.length c) recs) (hrb : recs ≠ [] → ∀ k ∈ (Value.slice a recs.length c).ownBlock, k < base) (htl : topic.length ≤ 9223372036854775807) (hl0 : b0.1.length ≤ 12000) :
    Calls Tryd.prog 41 #[.pointer (some ⟨wb, 0, none⟩), .agg #[.int .i64 1, .int .i64 corr, strV topic, .int .i64 part, .int .i64 offset, .int .i64 most, .int .i64 least, .int .i64 wait, .int .i64 time, .int .i64 parts, .bool sure, .bool compact, .slice a recs.length c]] w fun e w' => e = .returned (.tuple #[]) ∧ ∃ sv', MkTo wT As.errN w w' wb base s0 sv' (pRun b0 (reqCl ⟨1, corr, topic, part, offset, most, least, wait, time, parts, sure, compact, recs⟩)) := by
  obtain ⟨a', c', ea, hlc, hcm, hn0, hp⟩ := hrec.form
  simp only [Value.slice.injEq, true_and] at ea
  obtain ⟨rfl, rfl⟩ := ea
  have hmx : maxLen = 9223372036854775807 := by simp [maxLen]
  rw [hmx] at hcm
  have hlt := h.lt
  obtain ⟨w0, hw0⟩ : ∃ w0, w0 = w.alloc (.cells #[.int .i64 1, .int .i64 corr, strV topic, .int .i64 part, .int .i64 offset, .int .i64 most, .int .i64 least, .int .i64 wait, .int .i64 time, .int .i64 parts, .bool sure, .bool compact, .slice a recs.length c] 25) := ⟨_, rfl⟩
  have hbox : w0.heap[w.heap.size]? = some (.cells #[.int .i64 1, .int .i64 corr, strV topic, .int .i64 part, .int .i64 offset, .int .i64 most, .int .i64 least, .int .i64 wait, .int .i64 time, .int .i64 parts, .bool sure, .bool compact, .slice a recs.length c] 25 (0, 0)) := by rw [hw0]; exact heap_new w _
  have hal : Turn [] w w0 := by rw [hw0]; exact (Turn.refl [] w).alloc _
  have hm0 := h.still hal
  have box : ∀ wi si bi, MkTo wT As.errN w0 wi wb base s0 si bi → w.heap.size < wi.heap.size ∧ wi.cell? ⟨w.heap.size, 0, none⟩ = some (.int .i64 1) ∧ wi.cell? ⟨w.heap.size, 1, none⟩ = some (.int .i64 corr) ∧ wi.cell? ⟨w.heap.size, 2, none⟩ = some (strV topic) ∧ wi.cell? ⟨w.heap.size, 3, none⟩ = some (.int .i64 part) ∧ wi.cell? ⟨w.heap.size, 4, none⟩ = some (.int .i64 offset) ∧ wi.cell? ⟨w.heap.size, 5, none⟩ = some (.int .i64 most) ∧ wi.cell? ⟨w.heap.size, 6, none⟩ = some (.int .i64 least) ∧ wi.cell? ⟨w.heap.size, 7, none⟩ = some (.int .i64 wait) ∧ wi.cell? ⟨w.heap.size, 8, none⟩ = some (.int .i64 time) ∧ wi.cell? ⟨w.heap.size, 9, none⟩ = some (.int .i64 parts) ∧ wi.cell? ⟨w.heap.size, 10, none⟩ = some (.bool sure) ∧ wi.cell? ⟨w.heap.size, 11, none⟩ = some (.bool compact) ∧ wi.cell? ⟨w.heap.size, 12, none⟩ = some (.slice a recs.length c) :=
    fun wi si bi h2 => by
      have hb := h2.box hbox (by omega) (fun x hx => by have := (hlt.2 x hx).2; omega)
      exact ⟨lt_of_heap hb, by simpa [strV] using cell_of hb 0, by simpa [strV] using cell_of hb 1, by simpa [strV] using cell_of hb 2, by simpa [strV] using cell_of hb 3, by simpa [strV] using cell_of hb 4, by simpa [strV] using cell_of hb 5, by simpa [strV] using cell_of hb 6, by simpa [strV] using cell_of hb 7, by simpa [strV] using cell_of hb 8, by simpa [strV] using cell_of hb 9, by simpa [strV] using cell_of hb 10, by simpa [strV] using cell_of hb 11, by simpa [strV] using cell_of hb 12⟩
  have fin : ∀ wi si bi, MkTo wT As.errN w0 wi wb base s0 si bi → bi = pRun b0 (reqCl ⟨1, corr, topic, part, offset, most, least, wait, time, parts, sure, compact, recs⟩) → ∃ sv', MkTo wT As.errN w wi wb base s0 sv' (pRun b0 (reqCl ⟨1, corr, topic, part, offset, most, least, wait, time, parts, sure, compact, recs⟩)) :=
    fun wi si bi h2 e => ⟨si, e ▸ MkTo.pre hal h2⟩
  have recsAt : ∀ wi si bi, MkTo wT As.errN w0 wi wb base s0 si bi → RecsAt wi (.slice a recs.length c) recs := fun wi si bi hg =>
    (hrec.still hal).kept' hg.2.1 (fun h0 k hk hm => by
      have h1 := hrb h0 k hk
      rcases List.mem_cons.1 hm with rfl | hm
      · omega
      · have := (hlt.2 k (by simpa using hm)).1; omega)
  have RECS := hide recsAt
  have hsz0 : base ≤ w0.heap.size := by have := hal.size; omega
  have BOX := hide box
  have FIN := hide fin
  have HT0 := hide hm0.self
  have HW0 := hide hw0
  have HLT := hide hlt
  clear h box fin hm0 hal hbox hw0 hlt recsAt hrec hrb hn0
  go_enter Tryd.func41, Tryd.ntmps41
  go_upto_region 1 with fail
  rw [show w.alloc (.cells #[.int .i64 1, .int .i64 corr, strV topic, .int .i64 part, .int .i64 offset, .int .i64 most, .int .i64 least, .int .i64 wait, .int .i64 time, .int .i64 parts, .bool sure, .bool compact, .slice a recs.length c] 25) = w0 from HW0.out.symm]
  obtain ⟨z0, q0, q1, q2, q3, q4, q5, q6, q7, q8, q9, q10, q11, q12⟩ := BOX.out _ _ _ HT0.out
  go_wp2_with fail
  refine (numbers_new _ wb base s0 b0 HT0.out.1 (by omega) [1, corr] (by rfl) (by rfl) (by rfl) (by simp) (by omega)).mono ?_
  rintro e wz1 ⟨rfl, s1, hto⟩
  have HT1 := hide (HT0.out.trans hto)
  clear hto
  have hl1 := pStep_len b0 (.ns [1, corr]) (by simp)
  have e2 : nums (cut b0) [1, corr] = pStep b0 (.ns [1, corr]) := rfl
  rw [e2] at HT1
  clear e2
  obtain ⟨b1, hb⟩ : ∃ b, b = pStep b0 (.ns [1, corr]) := ⟨_, rfl⟩
  rw [← hb] at HT1 hl1
  have HB1 := hide hb
  clear hb
  have hsz1 := HT1.out.2.1.size
  clear z0 q0 q1 q2 q3 q4 q5 q6 q7 q8 q9 q10 q11 q12
  obtain ⟨z0, q0, q1, q2, q3, q4, q5, q6, q7, q8, q9, q10, q11, q12⟩ := BOX.out _ _ _ HT1.out
  go_wp2_with fail
  refine (text_any _ wb base s1 b1 HT1.out.1 (by omega) topic 40 (by omega) htl (by omega)).mono ?_
  rintro e wz2 ⟨rfl, s2, hto⟩
  have HT2 := hide (HT1.out.trans hto)
  clear hto
  have hl2 := pStep_len b1 (.tx topic 40) (by simp)
  obtain ⟨b2, hb⟩ : ∃ b, b = pStep b1 (.tx topic 40) := ⟨_, rfl⟩
  rw [← hb] at HT2 hl2
  have HB2 := hide hb
  clear hb
  have hsz2 := HT2.out.2.1.size
  clear z0 q0 q1 q2 q3 q4 q5 q6 q7 q8 q9 q10 q11 q12
  obtain ⟨z0, q0, q1, q2, q3, q4, q5, q6, q7, q8, q9, q10, q11, q12⟩ := BOX.out _ _ _ HT2.out
  go_wp2
  refine wp_region_tail 10 (Turn []) (by kernel_rfl) (by kernel_rfl) (by kernel_rfl) (by kernel_rfl) (by kernel_rfl) (Nat.le_of_ble_eq_true rfl) rfl (Turn.refl _) (fun _ _ _ h k => h.same k) ?_
  apply Lo.runx 1 rfl rfl [] (by kernel_rfl) (Turn.refl _)
  apply Exists.intro; apply And.intro
  · intro u w1 hR hF
    clear hF
    refine ⟨rfl, fun a ha K hK => ?_⟩
    have e0 := ha 0
    conv at e0 => rhs; whnf
    clear ha
    go_simp
    refine hK _ ?_; rfl
  apply Lo.runx 2 rfl rfl [] (by kernel_rfl) (Turn.refl _)
  apply Exists.intro; apply And.intro
  · intro u w1 hR hF
    clear hF
    refine ⟨rfl, fun a ha K hK => ?_⟩
    have e3 := ha 3
    conv at e3 => rhs; whnf
    clear ha
    go_simp
    refine hK _ ?_; rfl
  apply Lo.runx 3 rfl rfl [1] (by kernel_rfl) (Turn.refl _)
  apply Exists.intro; apply And.intro
  · intro u w1 hR hF
    obtain ⟨h1, -⟩ := hF
    refine ⟨rfl, fun a ha K hK => ?_⟩
    have e25 := (ha 25).trans h1
    clear ha h1
    obtain ⟨z0, q0, q1, q2, q3, q4, q5, q6, q7, q8, q9, q10, q11, q12⟩ := BOX.out w1 _ _ (HT2.out.still (((Turn.refl [] _).drew).same hR))
    go_simp
    refine hK _ ?_; rfl
  apply Lo.runx 4 rfl rfl [] (by kernel_rfl) (Turn.refl _)
  apply Exists.intro; apply And.intro
  · intro u w1 hR hF
    clear hF
    refine ⟨rfl, fun a ha K hK => ?_⟩
    have e3 := ha 3
    conv at e3 => rhs; whnf
    clear ha
    go_simp
    refine hK _ ?_; rfl
  apply Lo.runx 5 rfl rfl [3] (by kernel_rfl) (Turn.refl _)
  apply Exists.intro; apply And.intro
  · intro u w1 hR hF
    obtain ⟨h3, -⟩ := hF
    refine ⟨rfl, fun a ha K hK => ?_⟩
    have e27 := (ha 27).trans h3
    clear ha h3
    obtain ⟨z0, q0, q1, q2, q3, q4, q5, q6, q7, q8, q9, q10, q11, q12⟩ := BOX.out w1 _ _ (HT2.out.still (((Turn.refl [] _).drew).same hR))
    go_simp
    refine hK _ ?_; rfl
  refine Lo.run 6 rfl rfl [4] (fun y _ => y = .int .i64 (tr sure)) (by kernel_rfl) (fun x w w' h hR => ?_) (fun _ _ h => h) (fun u w1 hR hF => ?_) ?_
  · exact h
  · obtain ⟨h4, -⟩ := hF
    refine ⟨rfl, fun a ha K hK => ?_⟩
    have e28 := (ha 28).trans h4
    clear ha h4
    go_simp
    refine (truth_any _ sure).mono ?_
    rintro e w2 ⟨rfl, rfl⟩
    exact hK _ _ rfl (Turn.refl _ _)
  apply Lo.runx 7 rfl rfl [] (by kernel_rfl) (Turn.refl _)
  apply Exists.intro; apply And.intro
  · intro u w1 hR hF
    clear hF
    refine ⟨rfl, fun a ha K hK => ?_⟩
    have e3 := ha 3
    conv at e3 => rhs; whnf
    clear ha
    go_simp
    refine hK _ ?_; rfl
  apply Lo.runx 8 rfl rfl [6] (by kernel_rfl) (Turn.refl _)
  apply Exists.intro; apply And.intro
  · intro u w1 hR hF
    obtain ⟨h6, -⟩ := hF
    refine ⟨rfl, fun a ha K hK => ?_⟩
    have e30 := (ha 30).trans h6
    clear ha h6
    obtain ⟨z0, q0, q1, q2, q3, q4, q5, q6, q7, q8, q9, q10, q11, q12⟩ := BOX.out w1 _ _ (HT2.out.still (((Turn.refl [] _).drew).same hR))
    go_simp
    refine hK _ ?_; rfl
  apply Lo.runx 9 rfl rfl [7] (by kernel_rfl) (Turn.refl _)
  apply Exists.intro; apply And.intro
  · intro u w1 hR hF
    obtain ⟨h7, -⟩ := hF
    refine ⟨rfl, fun a ha K hK => ?_⟩
    have e31 := (ha 31).trans h7
    clear ha h7
    go_simp
    refine hK _ ?_; rfl
  refine Lo.run 10 rfl rfl [2, 5, 8] (fun y w' => ∃ k, y = .slice (some ⟨k, 0, none⟩) 3 3 ∧ w'.heap[k]? = some (.cells (intsZ [part, tr sure, (recs.length : Int)]) 3 (0, 0))) (by kernel_rfl) (fun x w w' h hR => ?_) (fun _ _ h => h) (fun u w1 hR hF => ?_) ?_
  · obtain ⟨k, h1, h2⟩ := h; exact ⟨k, h1, hR.heap h2 (by simp)⟩
  · obtain ⟨h2, h5, h8, -⟩ := hF
    refine ⟨rfl, fun a ha K hK => ?_⟩
    have e26 := (ha 26).trans h2
    have e29 : a.tmps.getD 29 undef = u 5 := ha 29
    have e32 := (ha 32).trans h8
    have h5 := (show (fun y _ => y = .int .i64 (tr sure)) (u 5) w1 from h5)
    dsimp only at h5
    clear ha h2 h8
    have e26' : a.tmps[26]?.getD undef = .int .i64 part := by rw [← Array.getD_eq_getD_getElem?, e26]
    have e29' : a.tmps[29]?.getD undef = .int .i64 (tr sure) := by rw [← Array.getD_eq_getD_getElem?, e29]; exact h5
    have e32' : a.tmps[32]?.getD undef = .int .i64 (recs.length : Int) := by rw [← Array.getD_eq_getD_getElem?, e32]
    go_simp
    exact hK _ _ ⟨w1.heap.size, rfl, heap_new w1 _⟩ ((Turn.refl _ _).alloc _)
  refine Lo.done [0, 9] (fun u w1 hRd hSd hF => ?_)
  clear hSd
  obtain ⟨f0, f9, -⟩ := hF
  have d0 : u 0 = _ := f0
  have d9 := (show (fun y w' => ∃ k, y = .slice (some ⟨k, 0, none⟩) 3 3 ∧ w'.heap[k]? = some (.cells (intsZ [part, tr sure, (recs.length : Int)]) 3 (0, 0))) (u 9) w1 from f9)
  dsimp only at d9
  clear f0 f9
  simp only [List.take_succ_cons, List.take_zero, List.drop_succ_cons, List.drop_zero, putFrom, Act.put, List.setIfInBounds_toArray, List.set_cons_succ, List.set_cons_zero, Nat.zero_add, Nat.reduceAdd, d0]
  have ht1 := ((Turn.refl [] _).drew).same hRd
  have hm1 := HT2.out.still ht1
  obtain ⟨k, hk1, hk2⟩ := d9
  have HM1 := hide hm1
  have HK2 := hide hk2
  have hs1 := ht1.size
  rw [hk1]
  clear hRd ht1 hm1 hk1 hk2
  go_wp2_with fail
  refine (numbers_any w1 wb base s2 b2 HM1.out.1 (by omega) k [part, tr sure, (recs.length : Int)] HK2.out (by simp) (by omega)).mono ?_
  rintro e wz3 ⟨rfl, s3, hto⟩
  have hto := hto.pre (Turn.refl [] _)
  have HT3 := hide (HM1.out.trans hto)
  clear hto HM1 HK2
  have hl3 := pStep_len b2 (.ns [part, tr sure, (recs.length : Int)]) (by simp)
  have e2 : nums (cut b2) [part, tr sure, (recs.length : Int)] = pStep b2 (.ns [part, tr sure, (recs.length : Int)]) := rfl
  rw [e2] at HT3
  clear e2
  obtain ⟨b3, hb⟩ : ∃ b, b = pStep b2 (.ns [part, tr sure, (recs.length : Int)]) := ⟨_, rfl⟩
  rw [← hb] at HT3 hl3
  have HB3 := hide hb
  clear hb
  have hsz3 := HT3.out.2.1.size
  clear z0 q0 q1 q2 q3 q4 q5 q6 q7 q8 q9 q10 q11 q12
  obtain ⟨z0, q0, q1, q2, q3, q4, q5, q6, q7, q8, q9, q10, q11, q12⟩ := BOX.out _ _ _ HT3.out
  go_wp2
  go_loopw [38] (fun iv wr => ∃ (j : Nat) (sr : Value), j ≤ recs.length ∧ iv = .int .i64 (j : Int) ∧ MkTo wT As.errN w0 wr wb base s0 sr (pRun b3 ((recs.take j).flatMap recCl))) (fun iv _ => recs.length - (intOf iv).toNat)
  case atStart => exact ⟨0, _, Nat.zero_le _, rfl, HT3.out⟩
  case round =>
    obtain ⟨j, sr, hj, rfl, hr⟩ := hrel
    have hszr := hr.2.1.size
    have hrl := pRun_len b3 ((recs.take j).flatMap recCl) hl3 (fun c hc => by obtain ⟨x, -, hc⟩ := List.mem_flatMap.1 hc; exact recCl_sz x c hc)
    clear z0 q0 q1 q2 q3 q4 q5 q6 q7 q8 q9 q10 q11 q12
    obtain ⟨z0, q0, q1, q2, q3, q4, q5, q6, q7, q8, q9, q10, q11, q12⟩ := BOX.out _ _ _ hr
    by_cases hlt : j < recs.length
    · have hlt1 : (j : Int) < recs.length := by omega
      obtain ⟨p, rfl⟩ := hp j hlt
      obtain ⟨g0, g1, g2, g3, g4, g5⟩ := (RECS.out _ _ _ hr).six hlt
      have hok := (RECS.out _ _ _ hr).ok hlt
      have hsn := pRun_snoc recCl b3 hlt
      obtain ⟨r, hrr⟩ : ∃ r, r = recs[j] := ⟨_, rfl⟩
      rw [← hrr] at g0 g1 g2 g3 g4 g5 hok hsn
      obtain ⟨t, ht⟩ : ∃ t, t = pRun b3 ((recs.take j).flatMap recCl) := ⟨_, rfl⟩
      rw [← ht] at hsn hr hrl
      have HR := hide hr
      have HOK := hide hok
      have HSN := hide hsn
      clear hrr ht hr hok hsn
      go_wp2_with fail
      refine (wrec_any _ wb base sr t (HR.out.1.still ((Turn.refl [] _).alloc _)) (by simp; omega) r HOK.out (by omega)).mono ?_
      rintro e wy ⟨rfl, s4, hto⟩
      have HT := hide (HR.out.trans (MkTo.pre ((Turn.refl [] _).alloc _) hto))
      clear hto g0 g1 g2 g3 g4 g5
      go_wp2
      refine ⟨⟨j + 1, s4, by omega, by go_num, by rw [HSN.out]; exact HT.out⟩, ?_⟩
      simp only [intOf]; omega
    · obtain rfl : j = recs.length := by omega
      have hlt1 : ¬ (recs.length : Int) < recs.length := by omega
      have HR := hide hr
      clear hr
      go_wp2
      go_end0
      refine ⟨rfl, FIN.out _ _ _ HR.out ?_⟩
      rw [List.take_of_length_le (Nat.le_refl _), HB3.out, HB2.out, HB1.out]
      rfl
set_option maxHeartbeats 8000000 in
theorem wreq2_any (w : World) (wb base : Nat) (s0 : Value) (b0 : WS) (h : MkAt wT As.errN w wb base s0 b0) (hbase : base ≤ w.heap.size) (hwb : base ≤ wb) (corr : Int) (topic : List UInt8) (part offset most least wait time parts : Int) (sure compact : Bool) (recs : List Bt.Rec) (a : Option Addr) (c : Nat) (hrec : RecsAt w (.slice a recs.length c) recs) (hrb : recs ≠ [] → ∀ k ∈ (Value.slice a recs.length c).ownBlock, k < base) (htl : topic.length ≤ 9223372036854775807) (hl0 : b0.1.length ≤ 12000) :
    Calls Tryd.prog 41 #[.pointer (some ⟨wb, 0, none⟩), .agg #[.int .i64 2, .int .i64 corr, strV topic, .int .i64 part, .int .i64 offset, .int .i64 most, .int .i64 least, .int .i64 wait, .int .i64 time, .int .i64 parts, .bool sure, .bool compact, .slice a recs.length c]] w fun e w' => e = .returned (.tuple #[]) ∧ ∃ sv', MkTo wT As.errN w w' wb base s0 sv' (pRun b0 (reqCl ⟨2, corr, topic, part, offset, most, least, wait, time, parts, sure, compact, recs⟩)) := by
  obtain ⟨a', c', ea, hlc, hcm, hn0, hp⟩ := hrec.form
  simp only [Value.slice.injEq, true_and] at ea
  obtain ⟨rfl, rfl⟩ := ea
  have hmx : maxLen = 9223372036854775807 := by simp [maxLen]
  rw [hmx] at hcm
  have hlt := h.lt
  obtain ⟨w0, hw0⟩ : ∃ w0, w0 = w.alloc (.cells #[.int .i64 2, .int .i64 corr, strV topic, .int .i64 part, .int .i64 offset, .int .i64 most, .int .i64 least, .int .i64 wait, .int .i64 time, .int .i64 parts, .bool sure, .bool compact, .slice a recs.length c] 25) := ⟨_, rfl⟩
  have hbox : w0.heap[w.heap.size]? = some (.cells #[.int .i64 2, .int .i64 corr, strV topic, .int .i64 part, .int .i64 offset, .int .i64 most, .int .i64 least, .int .i64 wait, .int .i64 time, .int .i64 parts, .bool sure, .bool compact, .slice a recs.length c] 25 (0, 0)) := by rw [hw0]; exact heap_new w _
  have hal : Turn [] w w0 := by rw [hw0]; exact (Turn.refl [] w).alloc _
  have hm0 := h.still hal
  have box : ∀ wi si bi, MkTo wT As.errN w0 wi wb base s0 si bi → w.heap.size < wi.heap.size ∧ wi.cell? ⟨w.heap.size, 0, none⟩ = some (.int .i64 2) ∧ wi.cell? ⟨w.heap.size, 1, none⟩ = some (.int .i64 corr) ∧ wi.cell? ⟨w.heap.size, 2, none⟩ = some (strV topic) ∧ wi.cell? ⟨w.heap.size, 3, none⟩ = some (.int .i64 part) ∧ wi.cell? ⟨w.heap.size, 4, none⟩ = some (.int .i64 offset) ∧ wi.cell? ⟨w.heap.size, 5, none⟩ = some (.int .i64 most) ∧ wi.cell? ⟨w.heap.size, 6, none⟩ = some (.int .i64 least) ∧ wi.cell? ⟨w.heap.size, 7, none⟩ = some (.int .i64 wait) ∧ wi.cell? ⟨w.heap.size, 8, none⟩ = some (.int .i64 time) ∧ wi.cell? ⟨w.heap.size, 9, none⟩ = some (.int .i64 parts) ∧ wi.cell? ⟨w.heap.size, 10, none⟩ = some (.bool sure) ∧ wi.cell? ⟨w.heap.size, 11, none⟩ = some (.bool compact) ∧ wi.cell? ⟨w.heap.size, 12, none⟩ = some (.slice a recs.length c) :=
    fun wi si bi h2 => by
      have hb := h2.box hbox (by omega) (fun x hx => by have := (hlt.2 x hx).2; omega)
      exact ⟨lt_of_heap hb, by simpa [strV] using cell_of hb 0, by simpa [strV] using cell_of hb 1, by simpa [strV] using cell_of hb 2, by simpa [strV] using cell_of hb 3, by simpa [strV] using cell_of hb 4, by simpa [strV] using cell_of hb 5, by simpa [strV] using cell_of hb 6, by simpa [strV] using cell_of hb 7, by simpa [strV] using cell_of hb 8, by simpa [strV] using cell_of hb 9, by simpa [strV] using cell_of hb 10, by simpa [strV] using cell_of hb 11, by simpa [strV] using cell_of hb 12⟩
  have fin : ∀ wi si bi, MkTo wT As.errN w0 wi wb base s0 si bi → bi = pRun b0 (reqCl ⟨2, corr, topic, part, offset, most, least, wait, time, parts, sure, compact, recs⟩) → ∃ sv', MkTo wT As.errN w wi wb base s0 sv' (pRun b0 (reqCl ⟨2, corr, topic, part, offset, most, least, wait, time, parts, sure, compact, recs⟩)) :=
    fun wi si bi h2 e => ⟨si, e ▸ MkTo.pre hal h2⟩
  have recsAt : ∀ wi si bi, MkTo wT As.errN w0 wi wb base s0 si bi → RecsAt wi (.slice a recs.length c) recs := fun wi si bi hg =>
    (hrec.still hal).kept' hg.2.1 (fun h0 k hk hm => by
      have h1 := hrb h0 k hk
      rcases List.mem_cons.1 hm with rfl | hm
      · omega
      · have := (hlt.2 k (by simpa using hm)).1; omega)
  have RECS := hide recsAt
  have hsz0 : base ≤ w0.heap.size := by have := hal.size; omega
  have BOX := hide box
  have FIN := hide fin
  have HT0 := hide hm0.self
  have HW0 := hide hw0
  have HLT := hide hlt
  clear h box fin hm0 hal hbox hw0 hlt recsAt hrec hrb hn0
  go_enter Tryd.func41, Tryd.ntmps41
  go_upto_region 1 with fail
  rw [show w.alloc (.cells #[.int .i64 2, .int .i64 corr, strV topic, .int .i64 part, .int .i64 offset, .int .i64 most, .int .i64 least, .int .i64 wait, .int .i64 time, .int .i64 parts, .bool sure, .bool compact, .slice a recs.length c] 25) = w0 from HW0.out.symm]
  obtain ⟨z0, q0, q1, q2, q3, q4, q5, q6, q7, q8, q9, q10, q11, q12⟩ := BOX.out _ _ _ HT0.out
  go_wp2_with fail
  refine (numbers_new _ wb base s0 b0 HT0.out.1 (by omega) [2, corr] (by rfl) (by rfl) (by rfl) (by simp) (by omega)).mono ?_
  rintro e wz1 ⟨rfl, s1, hto⟩
  have HT1 := hide (HT0.out.trans hto)
  clear hto
  have hl1 := pStep_len b0 (.ns [2, corr]) (by simp)
  have e2 : nums (cut b0) [2, corr] = pStep b0 (.ns [2, corr]) := rfl
  rw [e2] at HT1
  clear e2
  obtain ⟨b1, hb⟩ : ∃ b, b = pStep b0 (.ns [2, corr]) := ⟨_, rfl⟩
  rw [← hb] at HT1 hl1
  have HB1 := hide hb
  clear hb
  have hsz1 := HT1.out.2.1.size
  clear z0 q0 q1 q2 q3 q4 q5 q6 q7 q8 q9 q10 q11 q12
  obtain ⟨z0, q0, q1, q2, q3, q4, q5, q6, q7, q8, q9, q10, q11, q12⟩ := BOX.out _ _ _ HT1.out
  go_wp2_with fail
  refine (text_any _ wb base s1 b1 HT1.out.1 (by omega) topic 40 (by omega) htl (by omega)).mono ?_
  rintro e wz2 ⟨rfl, s2, hto⟩
  have HT2 := hide (HT1.out.trans hto)
  clear hto
  have hl2 := pStep_len b1 (.tx topic 40) (by simp)
  obtain ⟨b2, hb⟩ : ∃ b, b = pStep b1 (.tx topic 40) := ⟨_, rfl⟩
  rw [← hb] at HT2 hl2
  have HB2 := hide hb
  clear hb
  have hsz2 := HT2.out.2.1.size
  clear z0 q0 q1 q2 q3 q4 q5 q6 q7 q8 q9 q10 q11 q12
  obtain ⟨z0, q0, q1, q2, q3, q4, q5, q6, q7, q8, q9, q10, q11, q12⟩ := BOX.out _ _ _ HT2.out
  go_wp2_with fail
  refine (numbers_new _ wb base s2 b2 HT2.out.1 (by omega) [part, offset, most, least, wait] (by rfl) (by rfl) (by rfl) (by simp) (by omega)).mono ?_
  rintro e wz3 ⟨rfl, s3, hto⟩
  have HT3 := hide (HT2.out.trans hto)
  clear hto
  have hl3 := pStep_len b2 (.ns [part, offset, most, least, wait]) (by simp)
  have e2 : nums (cut b2) [part, offset, most, least, wait] = pStep b2 (.ns [part, offset, most, least, wait]) := rfl
  rw [e2] at HT3
  clear e2
  obtain ⟨b3, hb⟩ : ∃ b, b = pStep b2 (.ns [part, offset, most, least, wait]) := ⟨_, rfl⟩
  rw [← hb] at HT3 hl3
  have HB3 := hide hb
  clear hb
  have hsz3 := HT3.out.2.1.size
  clear z0 q0 q1 q2 q3 q4 q5 q6 q7 q8 q9 q10 q11 q12
  obtain ⟨z0, q0, q1, q2, q3, q4, q5, q6, q7, q8, q9, q10, q11, q12⟩ := BOX.out _ _ _ HT3.out
  go_wp2
  go_end0
  exact ⟨rfl, FIN.out _ _ _ HT3.out (by rw [HB3.out, HB2.out, HB1.out]; rfl)⟩
set_option maxHeartbeats 8000000 in
theorem wreq3_any (w : World) (wb base : Nat) (s0 : Value) (b0 : WS) (h : MkAt wT As.errN w wb base s0 b0) (hbase : base ≤ w.heap.size) (hwb : base ≤ wb) (corr : Int) (topic : List UInt8) (part offset most least wait time parts : Int) (sure compact : Bool) (recs : List Bt.Rec) (a : Option Addr) (c : Nat) (hrec : RecsAt w (.slice a recs.length c) recs) (hrb : recs ≠ [] → ∀ k ∈ (Value.slice a recs.length c).ownBlock, k < base) (htl : topic.length ≤ 9223372036854775807) (hl0 : b0.1.length ≤ 12000) :
    Calls Tryd.prog 41 #[.pointer (some ⟨wb, 0, none⟩), .agg #[.int .i64 3, .int .i64 corr, strV topic, .int .i64 part, .int .i64 offset, .int .i64 most, .int .i64 least, .int .i64 wait, .int .i64 time, .int .i64 parts, .bool sure, .bool compact, .slice a recs.length c]] w fun e w' => e = .returned (.tuple #[]) ∧ ∃ sv', MkTo wT As.errN w w' wb base s0 sv' (pRun b0 (reqCl ⟨3, corr, topic, part, offset, most, least, wait, time, parts, sure, compact, recs⟩)) := by
  obtain ⟨a', c', ea, hlc, hcm, hn0, hp⟩ := hrec.form
  simp only [Value.slice.injEq, true_and] at ea
  obtain ⟨rfl, rfl⟩ := ea
  have hmx : maxLen = 9223372036854775807 := by simp [maxLen]
  rw [hmx] at hcm
  have hlt := h.lt
  obtain ⟨w0, hw0⟩ : ∃ w0, w0 = w.alloc (.cells #[.int .i64 3, .int .i64 corr, strV topic, .int .i64 part, .int .i64 offset, .int .i64 most, .int .i64 least, .int .i64 wait, .int .i64 time, .int .i64 parts, .bool sure, .bool compact, .slice a recs.length c] 25) := ⟨_, rfl⟩
  have hbox : w0.heap[w.heap.size]? = some (.cells #[.int .i64 3, .int .i64 corr, strV topic, .int .i64 part, .int .i64 offset, .int .i64 most, .int .i64 least, .int .i64 wait, .int .i64 time, .int .i64 parts, .bool sure, .bool compact, .slice a recs.length c] 25 (0, 0)) := by rw [hw0]; exact heap_new w _
  have hal : Turn [] w w0 := by rw [hw0]; exact (Turn.refl [] w).alloc _
  have hm0 := h.still hal
  have box : ∀ wi si bi, MkTo wT As.errN w0 wi wb base s0 si bi → w.heap.size < wi.heap.size ∧ wi.cell? ⟨w.heap.size, 0, none⟩ = some (.int .i64 3) ∧ wi.cell? ⟨w.heap.size, 1, none⟩ = some (.int .i64 corr) ∧ wi.cell? ⟨w.heap.size, 2, none⟩ = some (strV topic) ∧ wi.cell? ⟨w.heap.size, 3, none⟩ = some (.int .i64 part) ∧ wi.cell? ⟨w.heap.size, 4, none⟩ = some (.int .i64 offset) ∧ wi.cell? ⟨w.heap.size, 5, none⟩ = some (.int .i64 most) ∧ wi.cell? ⟨w.heap.size, 6, none⟩ = some (.int .i64 least) ∧ wi.cell? ⟨w.heap.size, 7, none⟩ = some (.int .i64 wait) ∧ wi.cell? ⟨w.heap.size, 8, none⟩ = some (.int .i64 time) ∧ wi.cell? ⟨w.heap.size, 9, none⟩ = some (.int .i64 parts) ∧ wi.cell? ⟨w.heap.size, 10, none⟩ = some (.bool sure) ∧ wi.cell? ⟨w.heap.size, 11, none⟩ = some (.bool compact) ∧ wi.cell? ⟨w.heap.size, 12, none⟩ = some (.slice a recs.length c) :=
    fun wi si bi h2 => by
      have hb := h2.box hbox (by omega) (fun x hx => by have := (hlt.2 x hx).2; omega)
      exact ⟨lt_of_heap hb, by simpa [strV] using cell_of hb 0, by simpa [strV] using cell_of hb 1, by simpa [strV] using cell_of hb 2, by simpa [strV] using cell_of hb 3, by simpa [strV] using cell_of hb 4, by simpa [strV] using cell_of hb 5, by simpa [strV] using cell_of hb 6, by simpa [strV] using cell_of hb 7, by simpa [strV] using cell_of hb 8, by simpa [strV] using cell_of hb 9, by simpa [strV] using cell_of hb 10, by simpa [strV] using cell_of hb 11, by simpa [strV] using cell_of hb 12⟩
  have fin : ∀ wi si bi, MkTo wT As.errN w0 wi wb base s0 si bi → bi = pRun b0 (reqCl ⟨3, corr, topic, part, offset, most, least, wait, time, parts, sure, compact, recs⟩) → ∃ sv', MkTo wT As.errN w wi wb base s0 sv' (pRun b0 (reqCl ⟨3, corr, topic, part, offset, most, least, wait, time, parts, sure, compact, recs⟩)) :=
    fun wi si bi h2 e => ⟨si, e ▸ MkTo.pre hal h2⟩
  have recsAt : ∀ wi si bi, MkTo wT As.errN w0 wi wb base s0 si bi → RecsAt wi (.slice a recs.length c) recs := fun wi si bi hg =>
    (hrec.still hal).kept' hg.2.1 (fun h0 k hk hm => by
      have h1 := hrb h0 k hk
      rcases List.mem_cons.1 hm with rfl | hm
      · omega
      · have := (hlt.2 k (by simpa using hm)).1; omega)
  have RECS := hide recsAt
  have hsz0 : base ≤ w0.heap.size := by have := hal.size; omega
  have BOX := hide box
  have FIN := hide fin
  have HT0 := hide hm0.self
  have HW0 := hide hw0
  have HLT := hide hlt
  clear h box fin hm0 hal hbox hw0 hlt recsAt hrec hrb hn0
  go_enter Tryd.func41, Tryd.ntmps41
  go_upto_region 1 with fail
  rw [show w.alloc (.cells #[.int .i64 3, .int .i64 corr, strV topic, .int .i64 part, .int .i64 offset, .int .i64 most, .int .i64 least, .int .i64 wait, .int .i64 time, .int .i64 parts, .bool sure, .bool compact, .slice a recs.length c] 25) = w0 from HW0.out.symm]
  obtain ⟨z0, q0, q1, q2, q3, q4, q5, q6, q7, q8, q9, q10, q11, q12⟩ := BOX.out _ _ _ HT0.out
  go_wp2_with fail
  refine (numbers_new _ wb base s0 b0 HT0.out.1 (by omega) [3, corr] (by rfl) (by rfl) (by rfl) (by simp) (by omega)).mono ?_
  rintro e wz1 ⟨rfl, s1, hto⟩
  have HT1 := hide (HT0.out.trans hto)
  clear hto
  have hl1 := pStep_len b0 (.ns [3, corr]) (by simp)
  have e2 : nums (cut b0) [3, corr] = pStep b0 (.ns [3, corr]) := rfl
  rw [e2] at HT1
  clear e2
  obtain ⟨b1, hb⟩ : ∃ b, b = pStep b0 (.ns [3, corr]) := ⟨_, rfl⟩
  rw [← hb] at HT1 hl1
  have HB1 := hide hb
  clear hb
  have hsz1 := HT1.out.2.1.size
  clear z0 q0 q1 q2 q3 q4 q5 q6 q7 q8 q9 q10 q11 q12
  obtain ⟨z0, q0, q1, q2, q3, q4, q5, q6, q7, q8, q9, q10, q11, q12⟩ := BOX.out _ _ _ HT1.out
  go_wp2_with fail
  refine (text_any _ wb base s1 b1 HT1.out.1 (by omega) topic 40 (by omega) htl (by omega)).mono ?_
  rintro e wz2 ⟨rfl, s2, hto⟩
  have HT2 := hide (HT1.out.trans hto)
  clear hto
  have hl2 := pStep_len b1 (.tx topic 40) (by simp)
  obtain ⟨b2, hb⟩ : ∃ b, b = pStep b1 (.tx topic 40) := ⟨_, rfl⟩
  rw [← hb] at HT2 hl2
  have HB2 := hide hb
  clear hb
  have hsz2 := HT2.out.2.1.size
  clear z0 q0 q1 q2 q3 q4 q5 q6 q7 q8 q9 q10 q11 q12
  obtain ⟨z0, q0, q1, q2, q3, q4, q5, q6, q7, q8, q9, q10, q11, q12⟩ := BOX.out _ _ _ HT2.out
  go_wp2_with fail
  refine (numbers_new _ wb base s2 b2 HT2.out.1 (by omega) [part, time] (by rfl) (by rfl) (by rfl) (by simp) (by omega)).mono ?_
  rintro e wz3 ⟨rfl, s3, hto⟩
  have HT3 := hide (HT2.out.trans hto)
  clear hto
  have hl3 := pStep_len b2 (.ns [part, time]) (by simp)
  have e2 : nums (cut b2) [part, time] = pStep b2 (.ns [part, time]) := rfl
  rw [e2] at HT3
  clear e2
  obtain ⟨b3, hb⟩ : ∃ b, b = pStep b2 (.ns [part, time]) := ⟨_, rfl⟩
  rw [← hb] at HT3 hl3
  have HB3 := hide hb
  clear hb
  have hsz3 := HT3.out.2.1.size
  clear z0 q0 q1 q2 q3 q4 q5 q6 q7 q8 q9 q10 q11 q12
  obtain ⟨z0, q0, q1, q2, q3, q4, q5, q6, q7, q8, q9, q10, q11, q12⟩ := BOX.out _ _ _ HT3.out
  go_wp2
  go_end0
  exact ⟨rfl, FIN.out _ _ _ HT3.out (by rw [HB3.out, HB2.out, HB1.out]; rfl)⟩
set_option maxHeartbeats 8000000 in
theorem wreq4_any (w : World) (wb base : Nat) (s0 : Value) (b0 : WS) (h : MkAt wT As.errN w wb base s0 b0) (hbase : base ≤ w.heap.size) (hwb : base ≤ wb) (corr : Int) (topic : List UInt8) (part offset most least wait time parts : Int) (sure compact : Bool) (recs : List Bt.Rec) (a : Option Addr) (c : Nat) (hrec : RecsAt w (.slice a recs.length c) recs) (hrb : recs ≠ [] → ∀ k ∈ (Value.slice a recs.length c).ownBlock, k < base) (htl : topic.length ≤ 9223372036854775807) (hl0 : b0.1.length ≤ 12000) :
    Calls Tryd.prog 41 #[.pointer (some ⟨wb, 0, none⟩), .agg #[.int .i64 4, .int .i64 corr, strV topic, .int .i64 part, .int .i64 offset, .int .i64 most, .int .i64 least, .int .i64 wait, .int .i64 time, .int .i64 parts, .bool sure, .bool compact, .slice a recs.length c]] w fun e w' => e = .returned (.tuple #[]) ∧ ∃ sv', MkTo wT As.errN w w' wb base s0 sv' (pRun b0 (reqCl ⟨4, corr, topic, part, offset, most, least, wait, time, parts, sure, compact, recs⟩)) := by
  obtain ⟨a', c', ea, hlc, hcm, hn0, hp⟩ := hrec.form
  simp only [Value.slice.injEq, true_and] at ea
  obtain ⟨rfl, rfl⟩ := ea
  have hmx : maxLen = 9223372036854775807 := by simp [maxLen]
  rw [hmx] at hcm
  have hlt := h.lt
  obtain ⟨w0, hw0⟩ : ∃ w0, w0 = w.alloc (.cells #[.int .i64 4, .int .i64 corr, strV topic, .int .i64 part, .int .i64 offset, .int .i64 most, .int .i64 least, .int .i64 wait, .int .i64 time, .int .i64 parts, .bool sure, .bool compact, .slice a recs.length c] 25) := ⟨_, rfl⟩
  have hbox : w0.heap[w.heap.size]? = some (.cells #[.int .i64 4, .int .i64 corr, strV topic, .int .i64 part, .int .i64 offset, .int .i64 most, .int .i64 least, .int .i64 wait, .int .i64 time, .int .i64 parts, .bool sure, .bool compact, .slice a recs.length c] 25 (0, 0)) := by rw [hw0]; exact heap_new w _
  have hal : Turn [] w w0 := by rw [hw0]; exact (Turn.refl [] w).alloc _
  have hm0 := h.still hal
  have box : ∀ wi si bi, MkTo wT As.errN w0 wi wb base s0 si bi → w.heap.size < wi.heap.size ∧ wi.cell? ⟨w.heap.size, 0, none⟩ = some (.int .i64 4) ∧ wi.cell? ⟨w.heap.size, 1, none⟩ = some (.int .i64 corr) ∧ wi.cell? ⟨w.heap.size, 2, none⟩ = some (strV topic) ∧ wi.cell? ⟨w.heap.size, 3, none⟩ = some (.int .i64 part) ∧ wi.cell? ⟨w.heap.size, 4, none⟩ = some (.int .i64 offset) ∧ wi.cell? ⟨w.heap.size, 5, none⟩ = some (.int .i64 most) ∧ wi.cell? ⟨w.heap.size, 6, none⟩ = some (.int .i64 least) ∧ wi.cell? ⟨w.heap.size, 7, none⟩ = some (.int .i64 wait) ∧ wi.cell? ⟨w.heap.size, 8, none⟩ = some (.int .i64 time) ∧ wi.cell? ⟨w.heap.size, 9, none⟩ = some (.int .i64 parts) ∧ wi.cell? ⟨w.heap.size, 10, none⟩ = some (.bool sure) ∧ wi.cell? ⟨w.heap.size, 11, none⟩ = some (.bool compact) ∧ wi.cell? ⟨w.heap.size, 12, none⟩ = some (.slice a recs.length c) :=
    fun wi si bi h2 => by
      have hb := h2.box hbox (by omega) (fun x hx => by have := (hlt.2 x hx).2; omega)
      exact ⟨lt_of_heap hb, by simpa [strV] using cell_of hb 0, by simpa [strV] using cell_of hb 1, by simpa [strV] using cell_of hb 2, by simpa [strV] using cell_of hb 3, by simpa [strV] using cell_of hb 4, by simpa [strV] using cell_of hb 5, by simpa [strV] using cell_of hb 6, by simpa [strV] using cell_of hb 7, by simpa [strV] using cell_of hb 8, by simpa [strV] using cell_of hb 9, by simpa [strV] using cell_of hb 10, by simpa [strV] using cell_of hb 11, by simpa [strV] using cell_of hb 12⟩
  have fin : ∀ wi si bi, MkTo wT As.errN w0 wi wb base s0 si bi → bi = pRun b0 (reqCl ⟨4, corr, topic, part, offset, most, least, wait, time, parts, sure, compact, recs⟩) → ∃ sv', MkTo wT As.errN w wi wb base s0 sv' (pRun b0 (reqCl ⟨4, corr, topic, part, offset, most, least, wait, time, parts, sure, compact, recs⟩)) :=
    fun wi si bi h2 e => ⟨si, e ▸ MkTo.pre hal h2⟩
  have recsAt : ∀ wi si bi, MkTo wT As.errN w0 wi wb base s0 si bi → RecsAt wi (.slice a recs.length c) recs := fun wi si bi hg =>
    (hrec.still hal).kept' hg.2.1 (fun h0 k hk hm => by
      have h1 := hrb h0 k hk
      rcases List.mem_cons.1 hm with rfl | hm
      · omega
      · have := (hlt.2 k (by simpa using hm)).1; omega)
  have RECS := hide recsAt
  have hsz0 : base ≤ w0.heap.size := by have := hal.size; omega
  have BOX := hide box
  have FIN := hide fin
  have HT0 := hide hm0.self
  have HW0 := hide hw0
  have HLT := hide hlt
  clear h box fin hm0 hal hbox hw0 hlt recsAt hrec hrb hn0
  go_enter Tryd.func41, Tryd.ntmps41
  go_upto_region 1 with fail
  rw [show w.alloc (.cells #[.int .i64 4, .int .i64 corr, strV topic, .int .i64 part, .int .i64 offset, .int .i64 most, .int .i64 least, .int .i64 wait, .int .i64 time, .int .i64 parts, .bool sure, .bool compact, .slice a recs.length c] 25) = w0 from HW0.out.symm]
  obtain ⟨z0, q0, q1, q2, q3, q4, q5, q6, q7, q8, q9, q10, q11, q12⟩ := BOX.out _ _ _ HT0.out
  go_wp2_with fail
  refine (numbers_new _ wb base s0 b0 HT0.out.1 (by omega) [4, corr] (by rfl) (by rfl) (by rfl) (by simp) (by omega)).mono ?_
  rintro e wz1 ⟨rfl, s1, hto⟩
  have HT1 := hide (HT0.out.trans hto)
  clear hto
  have hl1 := pStep_len b0 (.ns [4, corr]) (by simp)
  have e2 : nums (cut b0) [4, corr] = pStep b0 (.ns [4, corr]) := rfl
  rw [e2] at HT1
  clear e2
  obtain ⟨b1, hb⟩ : ∃ b, b = pStep b0 (.ns [4, corr]) := ⟨_, rfl⟩
  rw [← hb] at HT1 hl1
  have HB1 := hide hb
  clear hb
  have hsz1 := HT1.out.2.1.size
  clear z0 q0 q1 q2 q3 q4 q5 q6 q7 q8 q9 q10 q11 q12
  obtain ⟨z0, q0, q1, q2, q3, q4, q5, q6, q7, q8, q9, q10, q11, q12⟩ := BOX.out _ _ _ HT1.out
  go_wp2_with fail
  refine (text_any _ wb base s1 b1 HT1.out.1 (by omega) topic 40 (by omega) htl (by omega)).mono ?_
  rintro e wz2 ⟨rfl, s2, hto⟩
  have HT2 := hide (HT1.out.trans hto)
  clear hto
  have hl2 := pStep_len b1 (.tx topic 40) (by simp)
  obtain ⟨b2, hb⟩ : ∃ b, b = pStep b1 (.tx topic 40) := ⟨_, rfl⟩
  rw [← hb] at HT2 hl2
  have HB2 := hide hb
  clear hb
  have hsz2 := HT2.out.2.1.size
  clear z0 q0 q1 q2 q3 q4 q5 q6 q7 q8 q9 q10 q11 q12
  obtain ⟨z0, q0, q1, q2, q3, q4, q5, q6, q7, q8, q9, q10, q11, q12⟩ := BOX.out _ _ _ HT2.out
  go_wp2_with fail
  refine (numbers_new _ wb base s2 b2 HT2.out.1 (by omega) [part, offset] (by rfl) (by rfl) (by rfl) (by simp) (by omega)).mono ?_
  rintro e wz3 ⟨rfl, s3, hto⟩
  have HT3 := hide (HT2.out.trans hto)
  clear hto
  have hl3 := pStep_len b2 (.ns [part, offset]) (by simp)
  have e2 : nums (cut b2) [part, offset] = pStep b2 (.ns [part, offset]) := rfl
  rw [e2] at HT3
  clear e2
  obtain ⟨b3, hb⟩ : ∃ b, b = pStep b2 (.ns [part, offset]) := ⟨_, rfl⟩
  rw [← hb] at HT3 hl3
  have HB3 := hide hb
  clear hb
  have hsz3 := HT3.out.2.1.size
  clear z0 q0 q1 q2 q3 q4 q5 q6 q7 q8 q9 q10 q11 q12
  obtain ⟨z0, q0, q1, q2, q3, q4, q5, q6, q7, q8, q9, q10, q11, q12⟩ := BOX.out _ _ _ HT3.out
  go_wp2
  go_end0
  exact ⟨rfl, FIN.out _ _ _ HT3.out (by rw [HB3.out, HB2.out, HB1.out]; rfl)⟩
set_option maxHeartbeats 8000000 in
theorem wreq5_any (w : World) (wb base : Nat) (s0 : Value) (b0 : WS) (h : MkAt wT As.errN w wb base s0 b0) (hbase : base ≤ w.heap.size) (hwb : base ≤ wb) (corr : Int) (topic : List UInt8) (part offset most least wait time parts : Int) (sure compact : Bool) (recs : List Bt.Rec) (a : Option Addr) (c : Nat) (hrec : RecsAt w (.slice a recs.length c) recs) (hrb : recs ≠ [] → ∀ k ∈ (Value.slice a recs.length c).ownBlock, k < base) (htl : topic.length ≤ 9223372036854775807) (hl0 : b0.1.length ≤ 12000) :
    Calls Tryd.prog 41 #[.pointer (some ⟨wb, 0, none⟩), .agg #[.int .i64 5, .int .i64 corr, strV topic, .int .i64 part, .int .i64 offset, .int .i64 most, .int .i64 least, .int .i64 wait, .int .i64 time, .int .i64 parts, .bool sure, .bool compact, .slice a recs.length c]] w fun e w' => e = .returned (.tuple #[]) ∧ ∃ sv', MkTo wT As.errN w w' wb base s0 sv' (pRun b0 (reqCl ⟨5, corr, topic, part, offset, most, least, wait, time, parts, sure, compact, recs⟩)) := by
  obtain ⟨a', c', ea, hlc, hcm, hn0, hp⟩ := hrec.form
  simp only [Value.slice.injEq, true_and] at ea
  obtain ⟨rfl, rfl⟩ := ea
  have hmx : maxLen = 9223372036854775807 := by simp [maxLen]
  rw [hmx] at hcm
  have hlt := h.lt
  obtain ⟨w0, hw0⟩ : ∃ w0, w0 = w.alloc (.cells #[.int .i64 5, .int .i64 corr, strV topic, .int .i64 part, .int .i64 offset, .int .i64 most, .int .i64 least, .int .i64 wait, .int .i64 time, .int .i64 parts, .bool sure, .bool compact, .slice a recs.length c] 25) := ⟨_, rfl⟩
  have hbox : w0.heap[w.heap.size]? = some (.cells #[.int .i64 5, .int .i64 corr, strV topic, .int .i64 part, .int .i64 offset, .int .i64 most, .int .i64 least, .int .i64 wait, .int .i64 time, .int .i64 parts, .bool sure, .bool compact, .slice a recs.length c] 25 (0, 0)) := by rw [hw0]; exact heap_new w _
  have hal : Turn [] w w0 := by rw [hw0]; exact (Turn.refl [] w).alloc _
  have hm0 := h.still hal
  have box : ∀ wi si bi, MkTo wT As.errN w0 wi wb base s0 si bi → w.heap.size < wi.heap.size ∧ wi.cell? ⟨w.heap.size, 0, none⟩ = some (.int .i64 5) ∧ wi.cell? ⟨w.heap.size, 1, none⟩ = some (.int .i64 corr) ∧ wi.cell? ⟨w.heap.size, 2, none⟩ = some (strV topic) ∧ wi.cell? ⟨w.heap.size, 3, none⟩ = some (.int .i64 part) ∧ wi.cell? ⟨w.heap.size, 4, none⟩ = some (.int .i64 offset) ∧ wi.cell? ⟨w.heap.size, 5, none⟩ = some (.int .i64 most) ∧ wi.cell? ⟨w.heap.size, 6, none⟩ = some (.int .i64 least) ∧ wi.cell? ⟨w.heap.size, 7, none⟩ = some (.int .i64 wait) ∧ wi.cell? ⟨w.heap.size, 8, none⟩ = some (.int .i64 time) ∧ wi.cell? ⟨w.heap.size, 9, none⟩ = some (.int .i64 parts) ∧ wi.cell? ⟨w.heap.size, 10, none⟩ = some (.bool sure) ∧ wi.cell? ⟨w.heap.size, 11, none⟩ = some (.bool compact) ∧ wi.cell? ⟨w.heap.size, 12, none⟩ = some (.slice a recs.length c) :=
    fun wi si bi h2 => by
      have hb := h2.box hbox (by omega) (fun x hx => by have := (hlt.2 x hx).2; omega)
      exact ⟨lt_of_heap hb, by simpa [strV] using cell_of hb 0, by simpa [strV] using cell_of hb 1, by simpa [strV] using cell_of hb 2, by simpa [strV] using cell_of hb 3, by simpa [strV] using cell_of hb 4, by simpa [strV] using cell_of hb 5, by simpa [strV] using cell_of hb 6, by simpa [strV] using cell_of hb 7, by simpa [strV] using cell_of hb 8, by simpa [strV] using cell_of hb 9, by simpa [strV] using cell_of hb 10, by simpa [strV] using cell_of hb 11, by simpa [strV] using cell_of hb 12⟩
  have fin : ∀ wi si bi, MkTo wT As.errN w0 wi wb base s0 si bi → bi = pRun b0 (reqCl ⟨5, corr, topic, part, offset, most, least, wait, time, parts, sure, compact, recs⟩) → ∃ sv', MkTo wT As.errN w wi wb base s0 sv' (pRun b0 (reqCl ⟨5, corr, topic, part, offset, most, least, wait, time, parts, sure, compact, recs⟩)) :=
    fun wi si bi h2 e => ⟨si, e ▸ MkTo.pre hal h2⟩
  have recsAt : ∀ wi si bi, MkTo wT As.errN w0 wi wb base s0 si bi → RecsAt wi (.slice a recs.length c) recs := fun wi si bi hg =>
    (hrec.still hal).kept' hg.2.1 (fun h0 k hk hm => by
      have h1 := hrb h0 k hk
      rcases List.mem_cons.1 hm with rfl | hm
      · omega
      · have := (hlt.2 k (by simpa using hm)).1; omega)
  have RECS := hide recsAt
  have hsz0 : base ≤ w0.heap.size := by have := hal.size; omega
  have BOX := hide box
  have FIN := hide fin
  have HT0 := hide hm0.self
  have HW0 := hide hw0
  have HLT := hide hlt
  clear h box fin hm0 hal hbox hw0 hlt recsAt hrec hrb hn0
  go_enter Tryd.func41, Tryd.ntmps41
  go_upto_region 1 with fail
  rw [show w.alloc (.cells #[.int .i64 5, .int .i64 corr, strV topic, .int .i64 part, .int .i64 offset, .int .i64 most, .int .i64 least, .int .i64 wait, .int .i64 time, .int .i64 parts, .bool sure, .bool compact, .slice a recs.length c] 25) = w0 from HW0.out.symm]
  obtain ⟨z0, q0, q1, q2, q3, q4, q5, q6, q7, q8, q9, q10, q11, q12⟩ := BOX.out _ _ _ HT0.out
  go_wp2_with fail
  refine (numbers_new _ wb base s0 b0 HT0.out.1 (by omega) [5, corr] (by rfl) (by rfl) (by rfl) (by simp) (by omega)).mono ?_
  rintro e wz1 ⟨rfl, s1, hto⟩
  have HT1 := hide (HT0.out.trans hto)
  clear hto
  have hl1 := pStep_len b0 (.ns [5, corr]) (by simp)
  have e2 : nums (cut b0) [5, corr] = pStep b0 (.ns [5, corr]) := rfl
  rw [e2] at HT1
  clear e2
  obtain ⟨b1, hb⟩ : ∃ b, b = pStep b0 (.ns [5, corr]) := ⟨_, rfl⟩
  rw [← hb] at HT1 hl1
  have HB1 := hide hb
  clear hb
  have hsz1 := HT1.out.2.1.size
  clear z0 q0 q1 q2 q3 q4 q5 q6 q7 q8 q9 q10 q11 q12
  obtain ⟨z0, q0, q1, q2, q3, q4, q5, q6, q7, q8, q9, q10, q11, q12⟩ := BOX.out _ _ _ HT1.out
  go_wp2_with fail
  refine (text_any _ wb base s1 b1 HT1.out.1 (by omega) topic 40 (by omega) htl (by omega)).mono ?_
  rintro e wz2 ⟨rfl, s2, hto⟩
  have HT2 := hide (HT1.out.trans hto)
  clear hto
  have hl2 := pStep_len b1 (.tx topic 40) (by simp)
  obtain ⟨b2, hb⟩ : ∃ b, b = pStep b1 (.tx topic 40) := ⟨_, rfl⟩
  rw [← hb] at HT2 hl2
  have HB2 := hide hb
  clear hb
  have hsz2 := HT2.out.2.1.size
  clear z0 q0 q1 q2 q3 q4 q5 q6 q7 q8 q9 q10 q11 q12
  obtain ⟨z0, q0, q1, q2, q3, q4, q5, q6, q7, q8, q9, q10, q11, q12⟩ := BOX.out _ _ _ HT2.out
  go_wp2
  refine wp_region_tail 7 (Turn []) (by kernel_rfl) (by kernel_rfl) (by kernel_rfl) (by kernel_rfl) (by kernel_rfl) (Nat.le_of_ble_eq_true rfl) rfl (Turn.refl _) (fun _ _ _ h k => h.same k) ?_
  apply Lo.runx 1 rfl rfl [] (by kernel_rfl) (Turn.refl _)
  apply Exists.intro; apply And.intro
  · intro u w1 hR hF
    clear hF
    refine ⟨rfl, fun a ha K hK => ?_⟩
    have e0 := ha 0
    conv at e0 => rhs; whnf
    clear ha
    go_simp
    refine hK _ ?_; rfl
  apply Lo.runx 2 rfl rfl [] (by kernel_rfl) (Turn.refl _)
  apply Exists.intro; apply And.intro
  · intro u w1 hR hF
    clear hF
    refine ⟨rfl, fun a ha K hK => ?_⟩
    have e3 := ha 3
    conv at e3 => rhs; whnf
    clear ha
    go_simp
    refine hK _ ?_; rfl
  apply Lo.runx 3 rfl rfl [1] (by kernel_rfl) (Turn.refl _)
  apply Exists.intro; apply And.intro
  · intro u w1 hR hF
    obtain ⟨h1, -⟩ := hF
    refine ⟨rfl, fun a ha K hK => ?_⟩
    have e82 := (ha 82).trans h1
    clear ha h1
    obtain ⟨z0, q0, q1, q2, q3, q4, q5, q6, q7, q8, q9, q10, q11, q12⟩ := BOX.out w1 _ _ (HT2.out.still (((Turn.refl [] _).drew).same hR))
    go_simp
    refine hK _ ?_; rfl
  apply Lo.runx 4 rfl rfl [] (by kernel_rfl) (Turn.refl _)
  apply Exists.intro; apply And.intro
  · intro u w1 hR hF
    clear hF
    refine ⟨rfl, fun a ha K hK => ?_⟩
    have e3 := ha 3
    conv at e3 => rhs; whnf
    clear ha
    go_simp
    refine hK _ ?_; rfl
  apply Lo.runx 5 rfl rfl [3] (by kernel_rfl) (Turn.refl _)
  apply Exists.intro; apply And.intro
  · intro u w1 hR hF
    obtain ⟨h3, -⟩ := hF
    refine ⟨rfl, fun a ha K hK => ?_⟩
    have e84 := (ha 84).trans h3
    clear ha h3
    obtain ⟨z0, q0, q1, q2, q3, q4, q5, q6, q7, q8, q9, q10, q11, q12⟩ := BOX.out w1 _ _ (HT2.out.still (((Turn.refl [] _).drew).same hR))
    go_simp
    refine hK _ ?_; rfl
  refine Lo.run 6 rfl rfl [4] (fun y _ => y = .int .i64 (tr compact)) (by kernel_rfl) (fun x w w' h hR => ?_) (fun _ _ h => h) (fun u w1 hR hF => ?_) ?_
  · exact h
  · obtain ⟨h4, -⟩ := hF
    refine ⟨rfl, fun a ha K hK => ?_⟩
    have e85 := (ha 85).trans h4
    clear ha h4
    go_simp
    refine (truth_any _ compact).mono ?_
    rintro e w2 ⟨rfl, rfl⟩
    exact hK _ _ rfl (Turn.refl _ _)
  refine Lo.run 7 rfl rfl [2, 5] (fun y w' => ∃ k, y = .slice (some ⟨k, 0, none⟩) 2 2 ∧ w'.heap[k]? = some (.cells (intsZ [parts, tr compact]) 3 (0, 0))) (by kernel_rfl) (fun x w w' h hR => ?_) (fun _ _ h => h) (fun u w1 hR hF => ?_) ?_
  · obtain ⟨k, h1, h2⟩ := h; exact ⟨k, h1, hR.heap h2 (by simp)⟩
  · obtain ⟨h2, h5, -⟩ := hF
    refine ⟨rfl, fun a ha K hK => ?_⟩
    have e83 := (ha 83).trans h2
    have e86 : a.tmps.getD 86 undef = u 5 := ha 86
    have h5 := (show (fun y _ => y = .int .i64 (tr compact)) (u 5) w1 from h5)
    dsimp only at h5
    clear ha h2
    have e83' : a.tmps[83]?.getD undef = .int .i64 parts := by rw [← Array.getD_eq_getD_getElem?, e83]
    have e86' : a.tmps[86]?.getD undef = .int .i64 (tr compact) := by rw [← Array.getD_eq_getD_getElem?, e86]; exact h5
    go_simp
    exact hK _ _ ⟨w1.heap.size, rfl, heap_new w1 _⟩ ((Turn.refl _ _).alloc _)
  refine Lo.done [0, 6] (fun u w1 hRd hSd hF => ?_)
  clear hSd
  obtain ⟨f0, f6, -⟩ := hF
  have d0 : u 0 = _ := f0
  have d6 := (show (fun y w' => ∃ k, y = .slice (some ⟨k, 0, none⟩) 2 2 ∧ w'.heap[k]? = some (.cells (intsZ [parts, tr compact]) 3 (0, 0))) (u 6) w1 from f6)
  dsimp only at d6
  clear f0 f6
  simp only [List.take_succ_cons, List.take_zero, List.drop_succ_cons, List.drop_zero, putFrom, Act.put, List.setIfInBounds_toArray, List.set_cons_succ, List.set_cons_zero, Nat.zero_add, Nat.reduceAdd, d0]
  have ht1 := ((Turn.refl [] _).drew).same hRd
  have hm1 := HT2.out.still ht1
  obtain ⟨k, hk1, hk2⟩ := d6
  have HM1 := hide hm1
  have HK2 := hide hk2
  have hs1 := ht1.size
  rw [hk1]
  clear hRd ht1 hm1 hk1 hk2
  go_wp2_with fail
  refine (numbers_any w1 wb base s2 b2 HM1.out.1 (by omega) k [parts, tr compact] HK2.out (by simp) (by omega)).mono ?_
  rintro e wz3 ⟨rfl, s3, hto⟩
  have hto := hto.pre (Turn.refl [] _)
  have HT3 := hide (HM1.out.trans hto)
  clear hto HM1 HK2
  have hl3 := pStep_len b2 (.ns [parts, tr compact]) (by simp)
  have e2 : nums (cut b2) [parts, tr compact] = pStep b2 (.ns [parts, tr compact]) := rfl
  rw [e2] at HT3
  clear e2
  obtain ⟨b3, hb⟩ : ∃ b, b = pStep b2 (.ns [parts, tr compact]) := ⟨_, rfl⟩
  rw [← hb] at HT3 hl3
  have HB3 := hide hb
  clear hb
  have hsz3 := HT3.out.2.1.size
  clear z0 q0 q1 q2 q3 q4 q5 q6 q7 q8 q9 q10 q11 q12
  obtain ⟨z0, q0, q1, q2, q3, q4, q5, q6, q7, q8, q9, q10, q11, q12⟩ := BOX.out _ _ _ HT3.out
  go_wp2
  go_end0
  exact ⟨rfl, FIN.out _ _ _ HT3.out (by rw [HB3.out, HB2.out, HB1.out]; rfl)⟩
set_option maxHeartbeats 8000000 in
theorem wreq6_any (w : World) (wb base : Nat) (s0 : Value) (b0 : WS) (h : MkAt wT As.errN w wb base s0 b0) (hbase : base ≤ w.heap.size) (hwb : base ≤ wb) (corr : Int) (topic : List UInt8) (part offset most least wait time parts : Int) (sure compact : Bool) (recs : List Bt.Rec) (a : Option Addr) (c : Nat) (hrec : RecsAt w (.slice a recs.length c) recs) (hrb : recs ≠ [] → ∀ k ∈ (Value.slice a recs.length c).ownBlock, k < base) (htl : topic.length ≤ 9223372036854775807) (hl0 : b0.1.length ≤ 12000) :
    Calls Tryd.prog 41 #[.pointer (some ⟨wb, 0, none⟩), .agg #[.int .i64 6, .int .i64 corr, strV topic, .int .i64 part, .int .i64 offset, .int .i64 most, .int .i64 least, .int .i64 wait, .int .i64 time, .int .i64 parts, .bool sure, .bool compact, .slice a recs.length c]] w fun e w' => e = .returned (.tuple #[]) ∧ ∃ sv', MkTo wT As.errN w w' wb base s0 sv' (pRun b0 (reqCl ⟨6, corr, topic, part, offset, most, least, wait, time, parts, sure, compact, recs⟩)) := by
  obtain ⟨a', c', ea, hlc, hcm, hn0, hp⟩ := hrec.form
  simp only [Value.slice.injEq, true_and] at ea
  obtain ⟨rfl, rfl⟩ := ea
  have hmx : maxLen = 9223372036854775807 := by simp [maxLen]
  rw [hmx] at hcm
  have hlt := h.lt
  obtain ⟨w0, hw0⟩ : ∃ w0, w0 = w.alloc (.cells #[.int .i64 6, .int .i64 corr, strV topic, .int .i64 part, .int .i64 offset, .int .i64 most, .int .i64 least, .int .i64 wait, .int .i64 time, .int .i64 parts, .bool sure, .bool compact, .slice a recs.length c] 25) := ⟨_, rfl⟩
  have hbox : w0.heap[w.heap.size]? = some (.cells #[.int .i64 6, .int .i64 corr, strV topic, .int .i64 part, .int .i64 offset, .int .i64 most, .int .i64 least, .int .i64 wait, .int .i64 time, .int .i64 parts, .bool sure, .bool compact, .slice a recs.length c] 25 (0, 0)) := by rw [hw0]; exact heap_new w _
  have hal : Turn [] w w0 := by rw [hw0]; exact (Turn.refl [] w).alloc _
  have hm0 := h.still hal
  have box : ∀ wi si bi, MkTo wT As.errN w0 wi wb base s0 si bi → w.heap.size < wi.heap.size ∧ wi.cell? ⟨w.heap.size, 0, none⟩ = some (.int .i64 6) ∧ wi.cell? ⟨w.heap.size, 1, none⟩ = some (.int .i64 corr) ∧ wi.cell? ⟨w.heap.size, 2, none⟩ = some (strV topic) ∧ wi.cell? ⟨w.heap.size, 3, none⟩ = some (.int .i64 part) ∧ wi.cell? ⟨w.heap.size, 4, none⟩ = some (.int .i64 offset) ∧ wi.cell? ⟨w.heap.size, 5, none⟩ = some (.int .i64 most) ∧ wi.cell? ⟨w.heap.size, 6, none⟩ = some (.int .i64 least) ∧ wi.cell? ⟨w.heap.size, 7, none⟩ = some (.int .i64 wait) ∧ wi.cell? ⟨w.heap.size, 8, none⟩ = some (.int .i64 time) ∧ wi.cell? ⟨w.heap.size, 9, none⟩ = some (.int .i64 parts) ∧ wi.cell? ⟨w.heap.size, 10, none⟩ = some (.bool sure) ∧ wi.cell? ⟨w.heap.size, 11, none⟩ = some (.bool compact) ∧ wi.cell? ⟨w.heap.size, 12, none⟩ = some (.slice a recs.length c) :=
    fun wi si bi h2 => by
      have hb := h2.box hbox (by omega) (fun x hx => by have := (hlt.2 x hx).2; omega)
      exact ⟨lt_of_heap hb, by simpa [strV] using cell_of hb 0, by simpa [strV] using cell_of hb 1, by simpa [strV] using cell_of hb 2, by simpa [strV] using cell_of hb 3, by simpa [strV] using cell_of hb 4, by simpa [strV] using cell_of hb 5, by simpa [strV] using cell_of hb 6, by simpa [strV] using cell_of hb 7, by simpa [strV] using cell_of hb 8, by simpa [strV] using cell_of hb 9, by simpa [strV] using cell_of hb 10, by simpa [strV] using cell_of hb 11, by simpa [strV] using cell_of hb 12⟩
  have fin : ∀ wi si bi, MkTo wT As.errN w0 wi wb base s0 si bi → bi = pRun b0 (reqCl ⟨6, corr, topic, part, offset, most, least, wait, time, parts, sure, compact, recs⟩) → ∃ sv', MkTo wT As.errN w wi wb base s0 sv' (pRun b0 (reqCl ⟨6, corr, topic, part, offset, most, least, wait, time, parts, sure, compact, recs⟩)) :=
    fun wi si bi h2 e => ⟨si, e ▸ MkTo.pre hal h2⟩
  have recsAt : ∀ wi si bi, MkTo wT As.errN w0 wi wb base s0 si bi → RecsAt wi (.slice a recs.length c) recs := fun wi si bi hg =>
    (hrec.still hal).kept' hg.2.1 (fun h0 k hk hm => by
      have h1 := hrb h0 k hk
      rcases List.mem_cons.1 hm with rfl | hm
      · omega
      · have := (hlt.2 k (by simpa using hm)).1; omega)
  have RECS := hide recsAt
  have hsz0 : base ≤ w0.heap.size := by have := hal.size; omega
  have BOX := hide box
  have FIN := hide fin
  have HT0 := hide hm0.self
  have HW0 := hide hw0
  have HLT := hide hlt
  clear h box fin hm0 hal hbox hw0 hlt recsAt hrec hrb hn0
  go_enter Tryd.func41, Tryd.ntmps41
  go_upto_region 1 with fail
  rw [show w.alloc (.cells #[.int .i64 6, .int .i64 corr, strV topic, .int .i64 part, .int .i64 offset, .int .i64 most, .int .i64 least, .int .i64 wait, .int .i64 time, .int .i64 parts, .bool sure, .bool compact, .slice a recs.length c] 25) = w0 from HW0.out.symm]
  obtain ⟨z0, q0, q1, q2, q3, q4, q5, q6, q7, q8, q9, q10, q11, q12⟩ := BOX.out _ _ _ HT0.out
  go_wp2_with fail
  refine (numbers_new _ wb base s0 b0 HT0.out.1 (by omega) [6, corr] (by rfl) (by rfl) (by rfl) (by simp) (by omega)).mono ?_
  rintro e wz1 ⟨rfl, s1, hto⟩
  have HT1 := hide (HT0.out.trans hto)
  clear hto
  have hl1 := pStep_len b0 (.ns [6, corr]) (by simp)
  have e2 : nums (cut b0) [6, corr] = pStep b0 (.ns [6, corr]) := rfl
  rw [e2] at HT1
  clear e2
  obtain ⟨b1, hb⟩ : ∃ b, b = pStep b0 (.ns [6, corr]) := ⟨_, rfl⟩
  rw [← hb] at HT1 hl1
  have HB1 := hide hb
  clear hb
  have hsz1 := HT1.out.2.1.size
  clear z0 q0 q1 q2 q3 q4 q5 q6 q7 q8 q9 q10 q11 q12
  obtain ⟨z0, q0, q1, q2, q3, q4, q5, q6, q7, q8, q9, q10, q11, q12⟩ := BOX.out _ _ _ HT1.out
  go_wp2_with fail
  refine (text_any _ wb base s1 b1 HT1.out.1 (by omega) topic 40 (by omega) htl (by omega)).mono ?_
  rintro e wz2 ⟨rfl, s2, hto⟩
  have HT2 := hide (HT1.out.trans hto)
  clear hto
  have hl2 := pStep_len b1 (.tx topic 40) (by simp)
  obtain ⟨b2, hb⟩ : ∃ b, b = pStep b1 (.tx topic 40) := ⟨_, rfl⟩
  rw [← hb] at HT2 hl2
  have HB2 := hide hb
  clear hb
  have hsz2 := HT2.out.2.1.size
  clear z0 q0 q1 q2 q3 q4 q5 q6 q7 q8 q9 q10 q11 q12
  obtain ⟨z0, q0, q1, q2, q3, q4, q5, q6, q7, q8, q9, q10, q11, q12⟩ := BOX.out _ _ _ HT2.out
  go_wp2
  go_end0
  exact ⟨rfl, FIN.out _ _ _ HT2.out (by rw [HB2.out, HB1.out]; rfl)⟩
set_option maxHeartbeats 8000000 in
theorem wreq7_any (w : World) (wb base : Nat) (s0 : Value) (b0 : WS) (h : MkAt wT As.errN w wb base s0 b0) (hbase : base ≤ w.heap.size) (hwb : base ≤ wb) (corr : Int) (topic : List UInt8) (part offset most least wait time parts : Int) (sure compact : Bool) (recs : List Bt.Rec) (a : Option Addr) (c : Nat) (hrec : RecsAt w (.slice a recs.length c) recs) (hrb : recs ≠ [] → ∀ k ∈ (Value.slice a recs.length c).ownBlock, k < base) (htl : topic.length ≤ 9223372036854775807) (hl0 : b0.1.length ≤ 12000) :
    Calls Tryd.prog 41 #[.pointer (some ⟨wb, 0, none⟩), .agg #[.int .i64 7, .int .i64 corr, strV topic, .int .i64 part, .int .i64 offset, .int .i64 most, .int .i64 least, .int .i64 wait, .int .i64 time, .int .i64 parts, .bool sure, .bool compact, .slice a recs.length c]] w fun e w' => e = .returned (.tuple #[]) ∧ ∃ sv', MkTo wT As.errN w w' wb base s0 sv' (pRun b0 (reqCl ⟨7, corr, topic, part, offset, most, least, wait, time, parts, sure, compact, recs⟩)) := by
  obtain ⟨a', c', ea, hlc, hcm, hn0, hp⟩ := hrec.form
  simp only [Value.slice.injEq, true_and] at ea
  obtain ⟨rfl, rfl⟩ := ea
  have hmx : maxLen = 9223372036854775807 := by simp [maxLen]
  rw [hmx] at hcm
  have hlt := h.lt
  obtain ⟨w0, hw0⟩ : ∃ w0, w0 = w.alloc (.cells #[.int .i64 7, .int .i64 corr, strV topic, .int .i64 part, .int .i64 offset, .int .i64 most, .int .i64 least, .int .i64 wait, .int .i64 time, .int .i64 parts, .bool sure, .bool compact, .slice a recs.length c] 25) := ⟨_, rfl⟩
  have hbox : w0.heap[w.heap.size]? = some (.cells #[.int .i64 7, .int .i64 corr, strV topic, .int .i64 part, .int .i64 offset, .int .i64 most, .int .i64 least, .int .i64 wait, .int .i64 time, .int .i64 parts, .bool sure, .bool compact, .slice a recs.length c] 25 (0, 0)) := by rw [hw0]; exact heap_new w _
  have hal : Turn [] w w0 := by rw [hw0]; exact (Turn.refl [] w).alloc _
  have hm0 := h.still hal
  have box : ∀ wi si bi, MkTo wT As.errN w0 wi wb base s0 si bi → w.heap.size < wi.heap.size ∧ wi.cell? ⟨w.heap.size, 0, none⟩ = some (.int .i64 7) ∧ wi.cell? ⟨w.heap.size, 1, none⟩ = some (.int .i64 corr) ∧ wi.cell? ⟨w.heap.size, 2, none⟩ = some (strV topic) ∧ wi.cell? ⟨w.heap.size, 3, none⟩ = some (.int .i64 part) ∧ wi.cell? ⟨w.heap.size, 4, none⟩ = some (.int .i64 offset) ∧ wi.cell? ⟨w.heap.size, 5, none⟩ = some (.int .i64 most) ∧ wi.cell? ⟨w.heap.size, 6, none⟩ = some (.int .i64 least) ∧ wi.cell? ⟨w.heap.size, 7, none⟩ = some (.int .i64 wait) ∧ wi.cell? ⟨w.heap.size, 8, none⟩ = some (.int .i64 time) ∧ wi.cell? ⟨w.heap.size, 9, none⟩ = some (.int .i64 parts) ∧ wi.cell? ⟨w.heap.size, 10, none⟩ = some (.bool sure) ∧ wi.cell? ⟨w.heap.size, 11, none⟩ = some (.bool compact) ∧ wi.cell? ⟨w.heap.size, 12, none⟩ = some (.slice a recs.length c) :=
    fun wi si bi h2 => by
      have hb := h2.box hbox (by omega) (fun x hx => by have := (hlt.2 x hx).2; omega)
      exact ⟨lt_of_heap hb, by simpa [strV] using cell_of hb 0, by simpa [strV] using cell_of hb 1, by simpa [strV] using cell_of hb 2, by simpa [strV] using cell_of hb 3, by simpa [strV] using cell_of hb 4, by simpa [strV] using cell_of hb 5, by simpa [strV] using cell_of hb 6, by simpa [strV] using cell_of hb 7, by simpa [strV] using cell_of hb 8, by simpa [strV] using cell_of hb 9, by simpa [strV] using cell_of hb 10, by simpa [strV] using cell_of hb 11, by simpa [strV] using cell_of hb 12⟩
  have fin : ∀ wi si bi, MkTo wT As.errN w0 wi wb base s0 si bi → bi = pRun b0 (reqCl ⟨7, corr, topic, part, offset, most, least, wait, time, parts, sure, compact, recs⟩) → ∃ sv', MkTo wT As.errN w wi wb base s0 sv' (pRun b0 (reqCl ⟨7, corr, topic, part, offset, most, least, wait, time, parts, sure, compact, recs⟩)) :=
    fun wi si bi h2 e => ⟨si, e ▸ MkTo.pre hal h2⟩
  have recsAt : ∀ wi si bi, MkTo wT As.errN w0 wi wb base s0 si bi → RecsAt wi (.slice a recs.length c) recs := fun wi si bi hg =>
    (hrec.still hal).kept' hg.2.1 (fun h0 k hk hm => by
      have h1 := hrb h0 k hk
      rcases List.mem_cons.1 hm with rfl | hm
      · omega
      · have := (hlt.2 k (by simpa using hm)).1; omega)
  have RECS := hide recsAt
  have hsz0 : base ≤ w0.heap.size := by have := hal.size; omega
  have BOX := hide box
  have FIN := hide fin
  have HT0 := hide hm0.self
  have HW0 := hide hw0
  have HLT := hide hlt
  clear h box fin hm0 hal hbox hw0 hlt recsAt hrec hrb hn0
  go_enter Tryd.func41, Tryd.ntmps41
  go_upto_region 1 with fail
  rw [show w.alloc (.cells #[.int .i64 7, .int .i64 corr, strV topic, .int .i64 part, .int .i64 offset, .int .i64 most, .int .i64 least, .int .i64 wait, .int .i64 time, .int .i64 parts, .bool sure, .bool compact, .slice a recs.length c] 25) = w0 from HW0.out.symm]
  obtain ⟨z0, q0, q1, q2, q3, q4, q5, q6, q7, q8, q9, q10, q11, q12⟩ := BOX.out _ _ _ HT0.out
  go_wp2_with fail
  refine (numbers_new _ wb base s0 b0 HT0.out.1 (by omega) [7, corr] (by rfl) (by rfl) (by rfl) (by simp) (by omega)).mono ?_
  rintro e wz1 ⟨rfl, s1, hto⟩
  have HT1 := hide (HT0.out.trans hto)
  clear hto
  have hl1 := pStep_len b0 (.ns [7, corr]) (by simp)
  have e2 : nums (cut b0) [7, corr] = pStep b0 (.ns [7, corr]) := rfl
  rw [e2] at HT1
  clear e2
  obtain ⟨b1, hb⟩ : ∃ b, b = pStep b0 (.ns [7, corr]) := ⟨_, rfl⟩
  rw [← hb] at HT1 hl1
  have HB1 := hide hb
  clear hb
  have hsz1 := HT1.out.2.1.size
  clear z0 q0 q1 q2 q3 q4 q5 q6 q7 q8 q9 q10 q11 q12
  obtain ⟨z0, q0, q1, q2, q3, q4, q5, q6, q7, q8, q9, q10, q11, q12⟩ := BOX.out _ _ _ HT1.out
  go_wp2
  go_end0
  exact ⟨rfl, FIN.out _ _ _ HT1.out (by rw [HB1.out]; rfl)⟩
end Go.Proofs.YtcpjohpbakbggaaDoor.Wi

/- The document's maker: records. -/
namespace Go.Proofs.YtcpjohpbakbggaaDoor.Wi
open Go.RowKit Go.Maps
set_option maxRecDepth 100000
set_option linter.unusedSimpArgs false
set_option linter.unusedVariables false

def clLen : Cl → Nat
  | .ns l => 6 * l.length
  | .tx t _ => 6 + t.length
theorem rStep_len (s : WS) (c : Cl) : (rStep s c).1.length ≤ s.1.length + clLen c := by
  cases c with
  | ns l => exact nums_len s l
  | tx t m =>
    rw [rStep_tx]
    have h1 := pN_len (s.1, 4) t.length
    have h2 := pN_len s t.length
    simp only [List.length_append, clLen]
    split
    · simp only at h1 ⊢; omega
    · omega
theorem rRun_len (s : WS) : ∀ l : List Cl, (rRun s l).1.length ≤ s.1.length + (l.map clLen).sum
  | [] => by simp [rRun]
  | c :: l => by
    have h1 := rStep_len s c
    have h2 := rRun_len (rStep s c) l
    rw [rRun_cons, List.map_cons, List.sum_cons]
    omega
/-- Texts of a size that is read. -/
structure RecSm (r : Bt.Rec) : Prop where
  key : r.key.length ≤ 1048576
  value : r.value.length ≤ 1048576
theorem recCl_len {r : Bt.Rec} (h : RecSm r) : ((recCl r).map clLen).sum ≤ 2100000 := by
  obtain ⟨off, time, keyed, key, gone, value⟩ := r
  have h1 := h.key
  have h2 := h.value
  simp only at h1 h2
  cases keyed <;> cases gone <;> simp [recCl, clLen] <;> omega
theorem plCl_len {r : Bt.Rec} (h : RecSm r) : ((plCl r).map clLen).sum ≤ 2200000 := by
  have := recCl_len h
  simp only [plCl, List.map_cons, List.sum_cons, clLen, List.length_cons, List.length_nil]
  omega
theorem flat_len {α : Type} {f : α → List Cl} {ok : α → Prop} (h : ∀ r, ok r → ((f r).map clLen).sum ≤ 2200000) : ∀ l : List α, (∀ r ∈ l, ok r) → ((l.flatMap f).map clLen).sum ≤ 2200000 * l.length
  | [], _ => by simp
  | r :: l, hl => by
    have h1 := h r (hl r (by simp))
    have h2 := flat_len h l (fun x hx => hl x (by simp [hx]))
    simp only [List.flatMap_cons, List.map_append, List.sum_append, List.length_cons]
    omega
theorem rRun_snoc {α : Type} (f : α → List Cl) (s : WS) {l : List α} {j : Nat} (hj : j < l.length) : rRun s ((l.take (j + 1)).flatMap f) = rRun (rRun s ((l.take j).flatMap f)) (f l[j]) := by
  rw [List.take_succ_eq_append_getElem hj, List.flatMap_append, rRun_app]
  simp

set_option maxHeartbeats 8000000 in
theorem mrecsF_any (w : World) (wb base : Nat) (s0 : Value) (b0 : WS) (h : MkAt mT eI w wb base s0 b0) (hbase : base ≤ w.heap.size) (hwb : base ≤ wb) (rs : List Bt.Rec) (a : Option Addr) (c : Nat) (hrec : RecsAt w (.slice a rs.length c) rs) (hrb : rs ≠ [] → ∀ k ∈ (Value.slice a rs.length c).ownBlock, k < base) (hsm : ∀ r ∈ rs, RecSm r) (hlr : rs.length ≤ 10000) (hl0 : b0.1.length ≤ 2000000) :
    Calls Tryd.prog 32 #[.pointer (some ⟨wb, 0, none⟩), .slice a rs.length c, .bool false] w fun e w' => e = .returned (.tuple #[]) ∧ ∃ sv', MkTo mT eI w w' wb base s0 sv' (rRun b0 (.ns [(rs.length : Int)] :: rs.flatMap recCl)) := by
  obtain ⟨a', c', ea, hlc, hcm, hn0, hp⟩ := hrec.form
  simp only [Value.slice.injEq, true_and] at ea
  obtain ⟨rfl, rfl⟩ := ea
  have hmx : maxLen = 9223372036854775807 := by simp [maxLen]
  rw [hmx] at hcm
  have hlt := h.lt
  have recsAt : ∀ wi si bi, MkTo mT eI w wi wb base s0 si bi → RecsAt wi (.slice a rs.length c) rs := fun wi si bi hg =>
    hrec.kept' hg.2.1 (fun h0 k hk hm => by
      have h1 := hrb h0 k hk
      rcases List.mem_cons.1 hm with rfl | hm
      · omega
      · have := (hlt.2 k (by simpa using hm)).1; omega)
  have RECS := hide recsAt
  have HM := hide h
  have HSM := hide hsm
  clear h hrec recsAt hrb hsm hn0 hlt
  go_enter Tryd.func32, Tryd.ntmps32
  go_wp2_with fail
  refine (mnum_new _ wb base s0 b0 HM.out hbase [(rs.length : Int)] (by rfl) (by rfl) (by rfl) (by simp) (by omega)).mono ?_
  rintro e wz ⟨rfl, sz, hto⟩
  have HTZ := hide hto
  clear hto
  have hlz : (nums b0 [(rs.length : Int)]).1.length ≤ b0.1.length + 6 := nums_len b0 [(rs.length : Int)]
  obtain ⟨bz, hbz⟩ : ∃ b, b = nums b0 [(rs.length : Int)] := ⟨_, rfl⟩
  rw [← hbz] at HTZ hlz
  have HBZ := hide hbz
  clear hbz
  go_wp2
  go_loopw [15] (fun iv wr => ∃ (j : Nat) (sr : Value), j ≤ rs.length ∧ iv = .int .i64 (j : Int) ∧ MkTo mT eI w wr wb base s0 sr (rRun bz ((rs.take j).flatMap recCl))) (fun iv _ => rs.length - (intOf iv).toNat)
  case atStart => exact ⟨0, _, Nat.zero_le _, rfl, HTZ.out⟩
  case round =>
    obtain ⟨j, sr, hj, rfl, hr⟩ := hrel
    have hszr := hr.2.1.size
    have hrl := rRun_len bz ((rs.take j).flatMap recCl)
    have hrl2 := flat_len (f := recCl) (fun r h => Nat.le_trans (recCl_len h) (by omega)) (rs.take j) (fun r hr => HSM.out r (List.mem_of_mem_take hr))
    have hrl3 : (rs.take j).length ≤ j := List.length_take_le _ _
    by_cases hlt : j < rs.length
    · have hlt1 : (j : Int) < rs.length := by omega
      obtain ⟨p, rfl⟩ := hp j hlt
      obtain ⟨g0, g1, g2, g3, g4, g5⟩ := (RECS.out _ _ _ hr).six hlt
      have hsn := rRun_snoc recCl bz hlt
      have hrs := HSM.out rs[j] (List.getElem_mem _)
      obtain ⟨r, hrr⟩ : ∃ r, r = rs[j] := ⟨_, rfl⟩
      rw [← hrr] at g0 g1 g2 g3 g4 g5 hsn hrs
      obtain ⟨b0', ht⟩ : ∃ t, t = rRun bz ((rs.take j).flatMap recCl) := ⟨_, rfl⟩
      rw [← ht] at hsn hr hrl
      have hl0' : b0'.1.length ≤ 30000000000 := by omega
      have HR := hide hr
      have HSN := hide hsn
      clear hrr ht hr hsn hrl hrl2 hrl3
      obtain ⟨roff, rtime, keyed, key, gone, value⟩ := r
      have hkl := hrs.key
      have hvl := hrs.value
      simp only at g0 g1 g2 g3 g4 g5 hkl hvl
      clear hrs
      obtain ⟨wa, hwa⟩ : ∃ wa, wa = wr.alloc (.cells #[.int .i64 roff, .int .i64 rtime, .bool keyed, .string ⟨key.toArray⟩, .bool gone, .string ⟨value.toArray⟩] 76) := ⟨_, rfl⟩
      have hta : Turn [] wr wa := by rw [hwa]; exact (Turn.refl [] wr).alloc _
      have hbx : wa.heap[wr.heap.size]? = some (.cells #[.int .i64 roff, .int .i64 rtime, .bool keyed, .string ⟨key.toArray⟩, .bool gone, .string ⟨value.toArray⟩] 76 (0, 0)) := by rw [hwa]; exact heap_new wr _
      have hla := HR.out.1.lt
      have box2 : ∀ wi si bi, MkTo mT eI wa wi wb base sr si bi → wr.heap.size < wi.heap.size ∧ wi.cell? ⟨wr.heap.size, 0, none⟩ = some (.int .i64 roff) ∧ wi.cell? ⟨wr.heap.size, 1, none⟩ = some (.int .i64 rtime) ∧ wi.cell? ⟨wr.heap.size, 2, none⟩ = some (.bool keyed) ∧ wi.cell? ⟨wr.heap.size, 3, none⟩ = some (.string ⟨key.toArray⟩) ∧ wi.cell? ⟨wr.heap.size, 4, none⟩ = some (.bool gone) ∧ wi.cell? ⟨wr.heap.size, 5, none⟩ = some (.string ⟨value.toArray⟩) := fun wi si bi h2 => by
        have hb := h2.box hbx (by omega) (fun x hx => by have := (hla.2 x hx).2; omega)
        exact ⟨lt_of_heap hb, box_cells (r := ⟨roff, rtime, keyed, key, gone, value⟩) hb⟩
      have BOX2 := hide box2
      have HT0 := hide (HR.out.1.still hta).self
      have HTA := hide hta
      have HWA := hide hwa
      have hsa := hta.size
      obtain ⟨s0', hs0'⟩ : ∃ s, s = sr := ⟨_, rfl⟩
      clear box2 hbx hla hwa hta
      go_upto_region 4 with fail
      rw [show wr.alloc (.cells #[.int .i64 roff, .int .i64 rtime, .bool keyed, .string ⟨key.toArray⟩, .bool gone, .string ⟨value.toArray⟩] 76) = wa from HWA.out.symm]
      clear g0 g1 g2 g3 g4 g5
      obtain ⟨y0, y1, y2, y3, y4, y5, y6⟩ := BOX2.out _ _ _ HT0.out
      cases keyed with
      | true =>
        cases gone with
        | true =>
          go_wp2_with fail
          refine (mnum_new _ wb base sr b0' HT0.out.1 (by omega) [rtime] (by rfl) (by rfl) (by rfl) (by simp) (by omega)).mono ?_
          rintro e wz1 ⟨rfl, s1, hto⟩
          have HT1 := hide (HT0.out.trans hto)
          clear hto
          have hl1 := (show (nums b0' [rtime]).1.length ≤ b0'.1.length + 6 from nums_len b0' [rtime])
          obtain ⟨b1, hb⟩ : ∃ b, b = nums b0' [rtime] := ⟨_, rfl⟩
          rw [← hb] at HT1 hl1
          have HB1 := hide hb
          clear hb
          have hsz1 := HT1.out.2.1.size
          clear y0 y1 y2 y3 y4 y5 y6
          obtain ⟨y0, y1, y2, y3, y4, y5, y6⟩ := BOX2.out _ _ _ HT1.out
          go_wp2_with fail
          refine (mtru_any _ wb base s1 b1 HT1.out.1 (by omega) true (by omega)).mono ?_
          rintro e wz2 ⟨rfl, s2, hto⟩
          have HT2 := hide (HT1.out.trans hto)
          clear hto
          have hl2 := (show (nums b1 [tr true]).1.length ≤ b1.1.length + 6 from nums_len b1 [tr true])
          obtain ⟨b2, hb⟩ : ∃ b, b = nums b1 [tr true] := ⟨_, rfl⟩
          rw [← hb] at HT2 hl2
          have HB2 := hide hb
          clear hb
          have hsz2 := HT2.out.2.1.size
          clear y0 y1 y2 y3 y4 y5 y6
          obtain ⟨y0, y1, y2, y3, y4, y5, y6⟩ := BOX2.out _ _ _ HT2.out
          go_wp2_with fail
          refine (mtext_any _ wb base s2 b2 HT2.out.1 (by omega) key 60 (by omega) hkl (by omega)).mono ?_
          rintro e wz3 ⟨rfl, s3, hto⟩
          have HT3 := hide (HT2.out.trans hto)
          clear hto
          have hl3 := rStep_len b2 (.tx key 60)
          obtain ⟨b3, hb⟩ : ∃ b, b = rStep b2 (.tx key 60) := ⟨_, rfl⟩
          rw [← hb] at HT3 hl3
          have HB3 := hide hb
          clear hb
          have hsz3 := HT3.out.2.1.size
          clear y0 y1 y2 y3 y4 y5 y6
          obtain ⟨y0, y1, y2, y3, y4, y5, y6⟩ := BOX2.out _ _ _ HT3.out
          simp only [clLen] at hl3
          go_wp2_with fail
          refine (mtru_any _ wb base s3 b3 HT3.out.1 (by omega) true (by omega)).mono ?_
          rintro e wz4 ⟨rfl, s4, hto⟩
          have HT4 := hide (HT3.out.trans hto)
          clear hto
          have hl4 := (show (nums b3 [tr true]).1.length ≤ b3.1.length + 6 from nums_len b3 [tr true])
          obtain ⟨b4, hb⟩ : ∃ b, b = nums b3 [tr true] := ⟨_, rfl⟩
          rw [← hb] at HT4 hl4
          have HB4 := hide hb
          clear hb
          have hsz4 := HT4.out.2.1.size
          clear y0 y1 y2 y3 y4 y5 y6
          obtain ⟨y0, y1, y2, y3, y4, y5, y6⟩ := BOX2.out _ _ _ HT4.out
          have HT := hide (HR.out.trans (MkTo.pre HTA.out HT4.out))
          clear HT4
          go_wp2
          refine ⟨⟨j + 1, _, by omega, by go_num, by rw [HSN.out, show rRun b0' (recCl ⟨roff, rtime, true, key, true, value⟩) = b4 by rw [HB4.out, HB3.out, HB2.out, HB1.out]; rfl]; exact HT.out⟩, ?_⟩
          simp only [intOf]; omega
        | false =>
          go_wp2_with fail
          refine (mnum_new _ wb base sr b0' HT0.out.1 (by omega) [rtime] (by rfl) (by rfl) (by rfl) (by simp) (by omega)).mono ?_
          rintro e wz1 ⟨rfl, s1, hto⟩
          have HT1 := hide (HT0.out.trans hto)
          clear hto
          have hl1 := (show (nums b0' [rtime]).1.length ≤ b0'.1.length + 6 from nums_len b0' [rtime])
          obtain ⟨b1, hb⟩ : ∃ b, b = nums b0' [rtime] := ⟨_, rfl⟩
          rw [← hb] at HT1 hl1
          have HB1 := hide hb
          clear hb
          have hsz1 := HT1.out.2.1.size
          clear y0 y1 y2 y3 y4 y5 y6
          obtain ⟨y0, y1, y2, y3, y4, y5, y6⟩ := BOX2.out _ _ _ HT1.out
          go_wp2_with fail
          refine (mtru_any _ wb base s1 b1 HT1.out.1 (by omega) true (by omega)).mono ?_
          rintro e wz2 ⟨rfl, s2, hto⟩
          have HT2 := hide (HT1.out.trans hto)
          clear hto
          have hl2 := (show (nums b1 [tr true]).1.length ≤ b1.1.length + 6 from nums_len b1 [tr true])
          obtain ⟨b2, hb⟩ : ∃ b, b = nums b1 [tr true] := ⟨_, rfl⟩
          rw [← hb] at HT2 hl2
          have HB2 := hide hb
          clear hb
          have hsz2 := HT2.out.2.1.size
          clear y0 y1 y2 y3 y4 y5 y6
          obtain ⟨y0, y1, y2, y3, y4, y5, y6⟩ := BOX2.out _ _ _ HT2.out
          go_wp2_with fail
          refine (mtext_any _ wb base s2 b2 HT2.out.1 (by omega) key 60 (by omega) hkl (by omega)).mono ?_
          rintro e wz3 ⟨rfl, s3, hto⟩
          have HT3 := hide (HT2.out.trans hto)
          clear hto
          have hl3 := rStep_len b2 (.tx key 60)
          obtain ⟨b3, hb⟩ : ∃ b, b = rStep b2 (.tx key 60) := ⟨_, rfl⟩
          rw [← hb] at HT3 hl3
          have HB3 := hide hb
          clear hb
          have hsz3 := HT3.out.2.1.size
          clear y0 y1 y2 y3 y4 y5 y6
          obtain ⟨y0, y1, y2, y3, y4, y5, y6⟩ := BOX2.out _ _ _ HT3.out
          simp only [clLen] at hl3
          go_wp2_with fail
          refine (mtru_any _ wb base s3 b3 HT3.out.1 (by omega) false (by omega)).mono ?_
          rintro e wz4 ⟨rfl, s4, hto⟩
          have HT4 := hide (HT3.out.trans hto)
          clear hto
          have hl4 := (show (nums b3 [tr false]).1.length ≤ b3.1.length + 6 from nums_len b3 [tr false])
          obtain ⟨b4, hb⟩ : ∃ b, b = nums b3 [tr false] := ⟨_, rfl⟩
          rw [← hb] at HT4 hl4
          have HB4 := hide hb
          clear hb
          have hsz4 := HT4.out.2.1.size
          clear y0 y1 y2 y3 y4 y5 y6
          obtain ⟨y0, y1, y2, y3, y4, y5, y6⟩ := BOX2.out _ _ _ HT4.out
          go_wp2_with fail
          refine (mtext_any _ wb base s4 b4 HT4.out.1 (by omega) value 500 (by omega) hvl (by omega)).mono ?_
          rintro e wz5 ⟨rfl, s5, hto⟩
          have HT5 := hide (HT4.out.trans hto)
          clear hto
          have hl5 := rStep_len b4 (.tx value 500)
          obtain ⟨b5, hb⟩ : ∃ b, b = rStep b4 (.tx value 500) := ⟨_, rfl⟩
          rw [← hb] at HT5 hl5
          have HB5 := hide hb
          clear hb
          have hsz5 := HT5.out.2.1.size
          clear y0 y1 y2 y3 y4 y5 y6
          obtain ⟨y0, y1, y2, y3, y4, y5, y6⟩ := BOX2.out _ _ _ HT5.out
          simp only [clLen] at hl5
          have HT := hide (HR.out.trans (MkTo.pre HTA.out HT5.out))
          clear HT5
          go_wp2
          refine ⟨⟨j + 1, _, by omega, by go_num, by rw [HSN.out, show rRun b0' (recCl ⟨roff, rtime, true, key, false, value⟩) = b5 by rw [HB5.out, HB4.out, HB3.out, HB2.out, HB1.out]; rfl]; exact HT.out⟩, ?_⟩
          simp only [intOf]; omega
      | false =>
        cases gone with
        | true =>
          go_wp2_with fail
          refine (mnum_new _ wb base sr b0' HT0.out.1 (by omega) [rtime] (by rfl) (by rfl) (by rfl) (by simp) (by omega)).mono ?_
          rintro e wz1 ⟨rfl, s1, hto⟩
          have HT1 := hide (HT0.out.trans hto)
          clear hto
          have hl1 := (show (nums b0' [rtime]).1.length ≤ b0'.1.length + 6 from nums_len b0' [rtime])
          obtain ⟨b1, hb⟩ : ∃ b, b = nums b0' [rtime] := ⟨_, rfl⟩
          rw [← hb] at HT1 hl1
          have HB1 := hide hb
          clear hb
          have hsz1 := HT1.out.2.1.size
          clear y0 y1 y2 y3 y4 y5 y6
          obtain ⟨y0, y1, y2, y3, y4, y5, y6⟩ := BOX2.out _ _ _ HT1.out
          go_wp2_with fail
          refine (mtru_any _ wb base s1 b1 HT1.out.1 (by omega) false (by omega)).mono ?_
          rintro e wz2 ⟨rfl, s2, hto⟩
          have HT2 := hide (HT1.out.trans hto)
          clear hto
          have hl2 := (show (nums b1 [tr false]).1.length ≤ b1.1.length + 6 from nums_len b1 [tr false])
          obtain ⟨b2, hb⟩ : ∃ b, b = nums b1 [tr false] := ⟨_, rfl⟩
          rw [← hb] at HT2 hl2
          have HB2 := hide hb
          clear hb
          have hsz2 := HT2.out.2.1.size
          clear y0 y1 y2 y3 y4 y5 y6
          obtain ⟨y0, y1, y2, y3, y4, y5, y6⟩ := BOX2.out _ _ _ HT2.out
          go_wp2_with fail
          refine (mtru_any _ wb base s2 b2 HT2.out.1 (by omega) true (by omega)).mono ?_
          rintro e wz3 ⟨rfl, s3, hto⟩
          have HT3 := hide (HT2.out.trans hto)
          clear hto
          have hl3 := (show (nums b2 [tr true]).1.length ≤ b2.1.length + 6 from nums_len b2 [tr true])
          obtain ⟨b3, hb⟩ : ∃ b, b = nums b2 [tr true] := ⟨_, rfl⟩
          rw [← hb] at HT3 hl3
          have HB3 := hide hb
          clear hb
          have hsz3 := HT3.out.2.1.size
          clear y0 y1 y2 y3 y4 y5 y6
          obtain ⟨y0, y1, y2, y3, y4, y5, y6⟩ := BOX2.out _ _ _ HT3.out
          have HT := hide (HR.out.trans (MkTo.pre HTA.out HT3.out))
          clear HT3
          go_wp2
          refine ⟨⟨j + 1, _, by omega, by go_num, by rw [HSN.out, show rRun b0' (recCl ⟨roff, rtime, false, key, true, value⟩) = b3 by rw [HB3.out, HB2.out, HB1.out]; rfl]; exact HT.out⟩, ?_⟩
          simp only [intOf]; omega
        | false =>
          go_wp2_with fail
          refine (mnum_new _ wb base sr b0' HT0.out.1 (by omega) [rtime] (by rfl) (by rfl) (by rfl) (by simp) (by omega)).mono ?_
          rintro e wz1 ⟨rfl, s1, hto⟩
          have HT1 := hide (HT0.out.trans hto)
          clear hto
          have hl1 := (show (nums b0' [rtime]).1.length ≤ b0'.1.length + 6 from nums_len b0' [rtime])
          obtain ⟨b1, hb⟩ : ∃ b, b = nums b0' [rtime] := ⟨_, rfl⟩
          rw [← hb] at HT1 hl1
          have HB1 := hide hb
          clear hb
          have hsz1 := HT1.out.2.1.size
          clear y0 y1 y2 y3 y4 y5 y6
          obtain ⟨y0, y1, y2, y3, y4, y5, y6⟩ := BOX2.out _ _ _ HT1.out
          go_wp2_with fail
          refine (mtru_any _ wb base s1 b1 HT1.out.1 (by omega) false (by omega)).mono ?_
          rintro e wz2 ⟨rfl, s2, hto⟩
          have HT2 := hide (HT1.out.trans hto)
          clear hto
          have hl2 := (show (nums b1 [tr false]).1.length ≤ b1.1.length + 6 from nums_len b1 [tr false])
          obtain ⟨b2, hb⟩ : ∃ b, b = nums b1 [tr false] := ⟨_, rfl⟩
          rw [← hb] at HT2 hl2
          have HB2 := hide hb
          clear hb
          have hsz2 := HT2.out.2.1.size
          clear y0 y1 y2 y3 y4 y5 y6
          obtain ⟨y0, y1, y2, y3, y4, y5, y6⟩ := BOX2.out _ _ _ HT2.out
          go_wp2_with fail
          refine (mtru_any _ wb base s2 b2 HT2.out.1 (by omega) false (by omega)).mono ?_
          rintro e wz3 ⟨rfl, s3, hto⟩
          have HT3 := hide (HT2.out.trans hto)
          clear hto
          have hl3 := (show (nums b2 [tr false]).1.length ≤ b2.1.length + 6 from nums_len b2 [tr false])
          obtain ⟨b3, hb⟩ : ∃ b, b = nums b2 [tr false] := ⟨_, rfl⟩
          rw [← hb] at HT3 hl3
          have HB3 := hide hb
          clear hb
          have hsz3 := HT3.out.2.1.size
          clear y0 y1 y2 y3 y4 y5 y6
          obtain ⟨y0, y1, y2, y3, y4, y5, y6⟩ := BOX2.out _ _ _ HT3.out
          go_wp2_with fail
          refine (mtext_any _ wb base s3 b3 HT3.out.1 (by omega) value 500 (by omega) hvl (by omega)).mono ?_
          rintro e wz4 ⟨rfl, s4, hto⟩
          have HT4 := hide (HT3.out.trans hto)
          clear hto
          have hl4 := rStep_len b3 (.tx value 500)
          obtain ⟨b4, hb⟩ : ∃ b, b = rStep b3 (.tx value 500) := ⟨_, rfl⟩
          rw [← hb] at HT4 hl4
          have HB4 := hide hb
          clear hb
          have hsz4 := HT4.out.2.1.size
          clear y0 y1 y2 y3 y4 y5 y6
          obtain ⟨y0, y1, y2, y3, y4, y5, y6⟩ := BOX2.out _ _ _ HT4.out
          simp only [clLen] at hl4
          have HT := hide (HR.out.trans (MkTo.pre HTA.out HT4.out))
          clear HT4
          go_wp2
          refine ⟨⟨j + 1, _, by omega, by go_num, by rw [HSN.out, show rRun b0' (recCl ⟨roff, rtime, false, key, false, value⟩) = b4 by rw [HB4.out, HB3.out, HB2.out, HB1.out]; rfl]; exact HT.out⟩, ?_⟩
          simp only [intOf]; omega
    · obtain rfl : j = rs.length := by omega
      have hlt1 : ¬ (rs.length : Int) < rs.length := by omega
      rw [List.take_of_length_le (Nat.le_refl _)] at hr
      have HR := hide hr
      clear hr hrl hrl2
      go_wp2
      go_end0
      refine ⟨rfl, sr, ?_⟩
      rw [rRun_cons]
      have := HR.out
      rw [HBZ.out] at this
      exact this

set_option maxHeartbeats 8000000 in
theorem mrecsT_any (w : World) (wb base : Nat) (s0 : Value) (b0 : WS) (h : MkAt mT eI w wb base s0 b0) (hbase : base ≤ w.heap.size) (hwb : base ≤ wb) (rs : List Bt.Rec) (a : Option Addr) (c : Nat) (hrec : RecsAt w (.slice a rs.length c) rs) (hrb : rs ≠ [] → ∀ k ∈ (Value.slice a rs.length c).ownBlock, k < base) (hsm : ∀ r ∈ rs, RecSm r) (hlr : rs.length ≤ 10000) (hl0 : b0.1.length ≤ 2000000) :
    Calls Tryd.prog 32 #[.pointer (some ⟨wb, 0, none⟩), .slice a rs.length c, .bool true] w fun e w' => e = .returned (.tuple #[]) ∧ ∃ sv', MkTo mT eI w w' wb base s0 sv' (rRun b0 (.ns [(rs.length : Int)] :: rs.flatMap plCl)) := by
  obtain ⟨a', c', ea, hlc, hcm, hn0, hp⟩ := hrec.form
  simp only [Value.slice.injEq, true_and] at ea
  obtain ⟨rfl, rfl⟩ := ea
  have hmx : maxLen = 9223372036854775807 := by simp [maxLen]
  rw [hmx] at hcm
  have hlt := h.lt
  have recsAt : ∀ wi si bi, MkTo mT eI w wi wb base s0 si bi → RecsAt wi (.slice a rs.length c) rs := fun wi si bi hg =>
    hrec.kept' hg.2.1 (fun h0 k hk hm => by
      have h1 := hrb h0 k hk
      rcases List.mem_cons.1 hm with rfl | hm
      · omega
      · have := (hlt.2 k (by simpa using hm)).1; omega)
  have RECS := hide recsAt
  have HM := hide h
  have HSM := hide hsm
  clear h hrec recsAt hrb hsm hn0 hlt
  go_enter Tryd.func32, Tryd.ntmps32
  go_wp2_with fail
  refine (mnum_new _ wb base s0 b0 HM.out hbase [(rs.length : Int)] (by rfl) (by rfl) (by rfl) (by simp) (by omega)).mono ?_
  rintro e wz ⟨rfl, sz, hto⟩
  have HTZ := hide hto
  clear hto
  have hlz : (nums b0 [(rs.length : Int)]).1.length ≤ b0.1.length + 6 := nums_len b0 [(rs.length : Int)]
  obtain ⟨bz, hbz⟩ : ∃ b, b = nums b0 [(rs.length : Int)] := ⟨_, rfl⟩
  rw [← hbz] at HTZ hlz
  have HBZ := hide hbz
  clear hbz
  go_wp2
  go_loopw [15] (fun iv wr => ∃ (j : Nat) (sr : Value), j ≤ rs.length ∧ iv = .int .i64 (j : Int) ∧ MkTo mT eI w wr wb base s0 sr (rRun bz ((rs.take j).flatMap plCl))) (fun iv _ => rs.length - (intOf iv).toNat)
  case atStart => exact ⟨0, _, Nat.zero_le _, rfl, HTZ.out⟩
  case round =>
    obtain ⟨j, sr, hj, rfl, hr⟩ := hrel
    have hszr := hr.2.1.size
    have hrl := rRun_len bz ((rs.take j).flatMap plCl)
    have hrl2 := flat_len (f := plCl) (fun r h => plCl_len h) (rs.take j) (fun r hr => HSM.out r (List.mem_of_mem_take hr))
    have hrl3 : (rs.take j).length ≤ j := List.length_take_le _ _
    by_cases hlt : j < rs.length
    · have hlt1 : (j : Int) < rs.length := by omega
      obtain ⟨p, rfl⟩ := hp j hlt
      obtain ⟨g0, g1, g2, g3, g4, g5⟩ := (RECS.out _ _ _ hr).six hlt
      have hsn := rRun_snoc plCl bz hlt
      have hrs := HSM.out rs[j] (List.getElem_mem _)
      obtain ⟨r, hrr⟩ : ∃ r, r = rs[j] := ⟨_, rfl⟩
      rw [← hrr] at g0 g1 g2 g3 g4 g5 hsn hrs
      obtain ⟨b0', ht⟩ : ∃ t, t = rRun bz ((rs.take j).flatMap plCl) := ⟨_, rfl⟩
      rw [← ht] at hsn hr hrl
      have hl0' : b0'.1.length ≤ 30000000000 := by omega
      have HR := hide hr
      have HSN := hide hsn
      clear hrr ht hr hsn hrl hrl2 hrl3
      obtain ⟨roff, rtime, keyed, key, gone, value⟩ := r
      have hkl := hrs.key
      have hvl := hrs.value
      simp only at g0 g1 g2 g3 g4 g5 hkl hvl
      clear hrs
      obtain ⟨wa, hwa⟩ : ∃ wa, wa = wr.alloc (.cells #[.int .i64 roff, .int .i64 rtime, .bool keyed, .string ⟨key.toArray⟩, .bool gone, .string ⟨value.toArray⟩] 76) := ⟨_, rfl⟩
      have hta : Turn [] wr wa := by rw [hwa]; exact (Turn.refl [] wr).alloc _
      have hbx : wa.heap[wr.heap.size]? = some (.cells #[.int .i64 roff, .int .i64 rtime, .bool keyed, .string ⟨key.toArray⟩, .bool gone, .string ⟨value.toArray⟩] 76 (0, 0)) := by rw [hwa]; exact heap_new wr _
      have hla := HR.out.1.lt
      have box2 : ∀ wi si bi, MkTo mT eI wa wi wb base sr si bi → wr.heap.size < wi.heap.size ∧ wi.cell? ⟨wr.heap.size, 0, none⟩ = some (.int .i64 roff) ∧ wi.cell? ⟨wr.heap.size, 1, none⟩ = some (.int .i64 rtime) ∧ wi.cell? ⟨wr.heap.size, 2, none⟩ = some (.bool keyed) ∧ wi.cell? ⟨wr.heap.size, 3, none⟩ = some (.string ⟨key.toArray⟩) ∧ wi.cell? ⟨wr.heap.size, 4, none⟩ = some (.bool gone) ∧ wi.cell? ⟨wr.heap.size, 5, none⟩ = some (.string ⟨value.toArray⟩) := fun wi si bi h2 => by
        have hb := h2.box hbx (by omega) (fun x hx => by have := (hla.2 x hx).2; omega)
        exact ⟨lt_of_heap hb, box_cells (r := ⟨roff, rtime, keyed, key, gone, value⟩) hb⟩
      have BOX2 := hide box2
      have HT0 := hide (HR.out.1.still hta).self
      have HTA := hide hta
      have HWA := hide hwa
      have hsa := hta.size
      obtain ⟨s0', hs0'⟩ : ∃ s, s = sr := ⟨_, rfl⟩
      clear box2 hbx hla hwa hta
      go_upto_region 4 with fail
      rw [show wr.alloc (.cells #[.int .i64 roff, .int .i64 rtime, .bool keyed, .string ⟨key.toArray⟩, .bool gone, .string ⟨value.toArray⟩] 76) = wa from HWA.out.symm]
      clear g0 g1 g2 g3 g4 g5
      obtain ⟨y0, y1, y2, y3, y4, y5, y6⟩ := BOX2.out _ _ _ HT0.out
      cases keyed with
      | true =>
        cases gone with
        | true =>
          go_wp2_with fail
          refine (mnum_new _ wb base sr b0' HT0.out.1 (by omega) [roff] (by rfl) (by rfl) (by rfl) (by simp) (by omega)).mono ?_
          rintro e wz1 ⟨rfl, s1, hto⟩
          have HT1 := hide (HT0.out.trans hto)
          clear hto
          have hl1 := (show (nums b0' [roff]).1.length ≤ b0'.1.length + 6 from nums_len b0' [roff])
          obtain ⟨b1, hb⟩ : ∃ b, b = nums b0' [roff] := ⟨_, rfl⟩
          rw [← hb] at HT1 hl1
          have HB1 := hide hb
          clear hb
          have hsz1 := HT1.out.2.1.size
          clear y0 y1 y2 y3 y4 y5 y6
          obtain ⟨y0, y1, y2, y3, y4, y5, y6⟩ := BOX2.out _ _ _ HT1.out
          go_wp2_with fail
          refine (mnum_new _ wb base s1 b1 HT1.out.1 (by omega) [rtime] (by rfl) (by rfl) (by rfl) (by simp) (by omega)).mono ?_
          rintro e wz2 ⟨rfl, s2, hto⟩
          have HT2 := hide (HT1.out.trans hto)
          clear hto
          have hl2 := (show (nums b1 [rtime]).1.length ≤ b1.1.length + 6 from nums_len b1 [rtime])
          obtain ⟨b2, hb⟩ : ∃ b, b = nums b1 [rtime] := ⟨_, rfl⟩
          rw [← hb] at HT2 hl2
          have HB2 := hide hb
          clear hb
          have hsz2 := HT2.out.2.1.size
          clear y0 y1 y2 y3 y4 y5 y6
          obtain ⟨y0, y1, y2, y3, y4, y5, y6⟩ := BOX2.out _ _ _ HT2.out
          go_wp2_with fail
          refine (mtru_any _ wb base s2 b2 HT2.out.1 (by omega) true (by omega)).mono ?_
          rintro e wz3 ⟨rfl, s3, hto⟩
          have HT3 := hide (HT2.out.trans hto)
          clear hto
          have hl3 := (show (nums b2 [tr true]).1.length ≤ b2.1.length + 6 from nums_len b2 [tr true])
          obtain ⟨b3, hb⟩ : ∃ b, b = nums b2 [tr true] := ⟨_, rfl⟩
          rw [← hb] at HT3 hl3
          have HB3 := hide hb
          clear hb
          have hsz3 := HT3.out.2.1.size
          clear y0 y1 y2 y3 y4 y5 y6
          obtain ⟨y0, y1, y2, y3, y4, y5, y6⟩ := BOX2.out _ _ _ HT3.out
          go_wp2_with fail
          refine (mtext_any _ wb base s3 b3 HT3.out.1 (by omega) key 60 (by omega) hkl (by omega)).mono ?_
          rintro e wz4 ⟨rfl, s4, hto⟩
          have HT4 := hide (HT3.out.trans hto)
          clear hto
          have hl4 := rStep_len b3 (.tx key 60)
          obtain ⟨b4, hb⟩ : ∃ b, b = rStep b3 (.tx key 60) := ⟨_, rfl⟩
          rw [← hb] at HT4 hl4
          have HB4 := hide hb
          clear hb
          have hsz4 := HT4.out.2.1.size
          clear y0 y1 y2 y3 y4 y5 y6
          obtain ⟨y0, y1, y2, y3, y4, y5, y6⟩ := BOX2.out _ _ _ HT4.out
          simp only [clLen] at hl4
          go_wp2_with fail
          refine (mtru_any _ wb base s4 b4 HT4.out.1 (by omega) true (by omega)).mono ?_
          rintro e wz5 ⟨rfl, s5, hto⟩
          have HT5 := hide (HT4.out.trans hto)
          clear hto
          have hl5 := (show (nums b4 [tr true]).1.length ≤ b4.1.length + 6 from nums_len b4 [tr true])
          obtain ⟨b5, hb⟩ : ∃ b, b = nums b4 [tr true] := ⟨_, rfl⟩
          rw [← hb] at HT5 hl5
          have HB5 := hide hb
          clear hb
          have hsz5 := HT5.out.2.1.size
          clear y0 y1 y2 y3 y4 y5 y6
          obtain ⟨y0, y1, y2, y3, y4, y5, y6⟩ := BOX2.out _ _ _ HT5.out
          have HT := hide (HR.out.trans (MkTo.pre HTA.out HT5.out))
          clear HT5
          go_wp2
          refine ⟨⟨j + 1, _, by omega, by go_num, by rw [HSN.out, show rRun b0' (plCl ⟨roff, rtime, true, key, true, value⟩) = b5 by rw [HB5.out, HB4.out, HB3.out, HB2.out, HB1.out]; rfl]; exact HT.out⟩, ?_⟩
          simp only [intOf]; omega
        | false =>
          go_wp2_with fail
          refine (mnum_new _ wb base sr b0' HT0.out.1 (by omega) [roff] (by rfl) (by rfl) (by rfl) (by simp) (by omega)).mono ?_
          rintro e wz1 ⟨rfl, s1, hto⟩
          have HT1 := hide (HT0.out.trans hto)
          clear hto
          have hl1 := (show (nums b0' [roff]).1.length ≤ b0'.1.length + 6 from nums_len b0' [roff])
          obtain ⟨b1, hb⟩ : ∃ b, b = nums b0' [roff] := ⟨_, rfl⟩
          rw [← hb] at HT1 hl1
          have HB1 := hide hb
          clear hb
          have hsz1 := HT1.out.2.1.size
          clear y0 y1 y2 y3 y4 y5 y6
          obtain ⟨y0, y1, y2, y3, y4, y5, y6⟩ := BOX2.out _ _ _ HT1.out
          go_wp2_with fail
          refine (mnum_new _ wb base s1 b1 HT1.out.1 (by omega) [rtime] (by rfl) (by rfl) (by rfl) (by simp) (by omega)).mono ?_
          rintro e wz2 ⟨rfl, s2, hto⟩
          have HT2 := hide (HT1.out.trans hto)
          clear hto
          have hl2 := (show (nums b1 [rtime]).1.length ≤ b1.1.length + 6 from nums_len b1 [rtime])
          obtain ⟨b2, hb⟩ : ∃ b, b = nums b1 [rtime] := ⟨_, rfl⟩
          rw [← hb] at HT2 hl2
          have HB2 := hide hb
          clear hb
          have hsz2 := HT2.out.2.1.size
          clear y0 y1 y2 y3 y4 y5 y6
          obtain ⟨y0, y1, y2, y3, y4, y5, y6⟩ := BOX2.out _ _ _ HT2.out
          go_wp2_with fail
          refine (mtru_any _ wb base s2 b2 HT2.out.1 (by omega) true (by omega)).mono ?_
          rintro e wz3 ⟨rfl, s3, hto⟩
          have HT3 := hide (HT2.out.trans hto)
          clear hto
          have hl3 := (show (nums b2 [tr true]).1.length ≤ b2.1.length + 6 from nums_len b2 [tr true])
          obtain ⟨b3, hb⟩ : ∃ b, b = nums b2 [tr true] := ⟨_, rfl⟩
          rw [← hb] at HT3 hl3
          have HB3 := hide hb
          clear hb
          have hsz3 := HT3.out.2.1.size
          clear y0 y1 y2 y3 y4 y5 y6
          obtain ⟨y0, y1, y2, y3, y4, y5, y6⟩ := BOX2.out _ _ _ HT3.out
          go_wp2_with fail
          refine (mtext_any _ wb base s3 b3 HT3.out.1 (by omega) key 60 (by omega) hkl (by omega)).mono ?_
          rintro e wz4 ⟨rfl, s4, hto⟩
          have HT4 := hide (HT3.out.trans hto)
          clear hto
          have hl4 := rStep_len b3 (.tx key 60)
          obtain ⟨b4, hb⟩ : ∃ b, b = rStep b3 (.tx key 60) := ⟨_, rfl⟩
          rw [← hb] at HT4 hl4
          have HB4 := hide hb
          clear hb
          have hsz4 := HT4.out.2.1.size
          clear y0 y1 y2 y3 y4 y5 y6
          obtain ⟨y0, y1, y2, y3, y4, y5, y6⟩ := BOX2.out _ _ _ HT4.out
          simp only [clLen] at hl4
          go_wp2_with fail
          refine (mtru_any _ wb base s4 b4 HT4.out.1 (by omega) false (by omega)).mono ?_
          rintro e wz5 ⟨rfl, s5, hto⟩
          have HT5 := hide (HT4.out.trans hto)
          clear hto
          have hl5 := (show (nums b4 [tr false]).1.length ≤ b4.1.length + 6 from nums_len b4 [tr false])
          obtain ⟨b5, hb⟩ : ∃ b, b = nums b4 [tr false] := ⟨_, rfl⟩
          rw [← hb] at HT5 hl5
          have HB5 := hide hb
          clear hb
          have hsz5 := HT5.out.2.1.size
          clear y0 y1 y2 y3 y4 y5 y6
          obtain ⟨y0, y1, y2, y3, y4, y5, y6⟩ := BOX2.out _ _ _ HT5.out
          go_wp2_with fail
          refine (mtext_any _ wb base s5 b5 HT5.out.1 (by omega) value 500 (by omega) hvl (by omega)).mono ?_
          rintro e wz6 ⟨rfl, s6, hto⟩
          have HT6 := hide (HT5.out.trans hto)
          clear hto
          have hl6 := rStep_len b5 (.tx value 500)
          obtain ⟨b6, hb⟩ : ∃ b, b = rStep b5 (.tx value 500) := ⟨_, rfl⟩
          rw [← hb] at HT6 hl6
          have HB6 := hide hb
          clear hb
          have hsz6 := HT6.out.2.1.size
          clear y0 y1 y2 y3 y4 y5 y6
          obtain ⟨y0, y1, y2, y3, y4, y5, y6⟩ := BOX2.out _ _ _ HT6.out
          simp only [clLen] at hl6
          have HT := hide (HR.out.trans (MkTo.pre HTA.out HT6.out))
          clear HT6
          go_wp2
          refine ⟨⟨j + 1, _, by omega, by go_num, by rw [HSN.out, show rRun b0' (plCl ⟨roff, rtime, true, key, false, value⟩) = b6 by rw [HB6.out, HB5.out, HB4.out, HB3.out, HB2.out, HB1.out]; rfl]; exact HT.out⟩, ?_⟩
          simp only [intOf]; omega
      | false =>
        cases gone with
        | true =>
          go_wp2_with fail
          refine (mnum_new _ wb base sr b0' HT0.out.1 (by omega) [roff] (by rfl) (by rfl) (by rfl) (by simp) (by omega)).mono ?_
          rintro e wz1 ⟨rfl, s1, hto⟩
          have HT1 := hide (HT0.out.trans hto)
          clear hto
          have hl1 := (show (nums b0' [roff]).1.length ≤ b0'.1.length + 6 from nums_len b0' [roff])
          obtain ⟨b1, hb⟩ : ∃ b, b = nums b0' [roff] := ⟨_, rfl⟩
          rw [← hb] at HT1 hl1
          have HB1 := hide hb
          clear hb
          have hsz1 := HT1.out.2.1.size
          clear y0 y1 y2 y3 y4 y5 y6
          obtain ⟨y0, y1, y2, y3, y4, y5, y6⟩ := BOX2.out _ _ _ HT1.out
          go_wp2_with fail
          refine (mnum_new _ wb base s1 b1 HT1.out.1 (by omega) [rtime] (by rfl) (by rfl) (by rfl) (by simp) (by omega)).mono ?_
          rintro e wz2 ⟨rfl, s2, hto⟩
          have HT2 := hide (HT1.out.trans hto)
          clear hto
          have hl2 := (show (nums b1 [rtime]).1.length ≤ b1.1.length + 6 from nums_len b1 [rtime])
          obtain ⟨b2, hb⟩ : ∃ b, b = nums b1 [rtime] := ⟨_, rfl⟩
          rw [← hb] at HT2 hl2
          have HB2 := hide hb
          clear hb
          have hsz2 := HT2.out.2.1.size
          clear y0 y1 y2 y3 y4 y5 y6
          obtain ⟨y0, y1, y2, y3, y4, y5, y6⟩ := BOX2.out _ _ _ HT2.out
          go_wp2_with fail
          refine (mtru_any _ wb base s2 b2 HT2.out.1 (by omega) false (by omega)).mono ?_
          rintro e wz3 ⟨rfl, s3, hto⟩
          have HT3 := hide (HT2.out.trans hto)
          clear hto
          have hl3 := (show (nums b2 [tr false]).1.length ≤ b2.1.length + 6 from nums_len b2 [tr false])
          obtain ⟨b3, hb⟩ : ∃ b, b = nums b2 [tr false] := ⟨_, rfl⟩
          rw [← hb] at HT3 hl3
          have HB3 := hide hb
          clear hb
          have hsz3 := HT3.out.2.1.size
          clear y0 y1 y2 y3 y4 y5 y6
          obtain ⟨y0, y1, y2, y3, y4, y5, y6⟩ := BOX2.out _ _ _ HT3.out
          go_wp2_with fail
          refine (mtru_any _ wb base s3 b3 HT3.out.1 (by omega) true (by omega)).mono ?_
          rintro e wz4 ⟨rfl, s4, hto⟩
          have HT4 := hide (HT3.out.trans hto)
          clear hto
          have hl4 := (show (nums b3 [tr true]).1.length ≤ b3.1.length + 6 from nums_len b3 [tr true])
          obtain ⟨b4, hb⟩ : ∃ b, b = nums b3 [tr true] := ⟨_, rfl⟩
          rw [← hb] at HT4 hl4
          have HB4 := hide hb
          clear hb
          have hsz4 := HT4.out.2.1.size
          clear y0 y1 y2 y3 y4 y5 y6
          obtain ⟨y0, y1, y2, y3, y4, y5, y6⟩ := BOX2.out _ _ _ HT4.out
          have HT := hide (HR.out.trans (MkTo.pre HTA.out HT4.out))
          clear HT4
          go_wp2
          refine ⟨⟨j + 1, _, by omega, by go_num, by rw [HSN.out, show rRun b0' (plCl ⟨roff, rtime, false, key, true, value⟩) = b4 by rw [HB4.out, HB3.out, HB2.out, HB1.out]; rfl]; exact HT.out⟩, ?_⟩
          simp only [intOf]; omega
        | false =>
          go_wp2_with fail
          refine (mnum_new _ wb base sr b0' HT0.out.1 (by omega) [roff] (by rfl) (by rfl) (by rfl) (by simp) (by omega)).mono ?_
          rintro e wz1 ⟨rfl, s1, hto⟩
          have HT1 := hide (HT0.out.trans hto)
          clear hto
          have hl1 := (show (nums b0' [roff]).1.length ≤ b0'.1.length + 6 from nums_len b0' [roff])
          obtain ⟨b1, hb⟩ : ∃ b, b = nums b0' [roff] := ⟨_, rfl⟩
          rw [← hb] at HT1 hl1
          have HB1 := hide hb
          clear hb
          have hsz1 := HT1.out.2.1.size
          clear y0 y1 y2 y3 y4 y5 y6
          obtain ⟨y0, y1, y2, y3, y4, y5, y6⟩ := BOX2.out _ _ _ HT1.out
          go_wp2_with fail
          refine (mnum_new _ wb base s1 b1 HT1.out.1 (by omega) [rtime] (by rfl) (by rfl) (by rfl) (by simp) (by omega)).mono ?_
          rintro e wz2 ⟨rfl, s2, hto⟩
          have HT2 := hide (HT1.out.trans hto)
          clear hto
          have hl2 := (show (nums b1 [rtime]).1.length ≤ b1.1.length + 6 from nums_len b1 [rtime])
          obtain ⟨b2, hb⟩ : ∃ b, b = nums b1 [rtime] := ⟨_, rfl⟩
          rw [← hb] at HT2 hl2
          have HB2 := hide hb
          clear hb
          have hsz2 := HT2.out.2.1.size
          clear y0 y1 y2 y3 y4 y5 y6
          obtain ⟨y0, y1, y2, y3, y4, y5, y6⟩ := BOX2.out _ _ _ HT2.out
          go_wp2_with fail
          refine (mtru_any _ wb base s2 b2 HT2.out.1 (by omega) false (by omega)).mono ?_
          rintro e wz3 ⟨rfl, s3, hto⟩
          have HT3 := hide (HT2.out.trans hto)
          clear hto
          have hl3 := (show (nums b2 [tr false]).1.length ≤ b2.1.length + 6 from nums_len b2 [tr false])
          obtain ⟨b3, hb⟩ : ∃ b, b = nums b2 [tr false] := ⟨_, rfl⟩
          rw [← hb] at HT3 hl3
          have HB3 := hide hb
          clear hb
          have hsz3 := HT3.out.2.1.size
          clear y0 y1 y2 y3 y4 y5 y6
          obtain ⟨y0, y1, y2, y3, y4, y5, y6⟩ := BOX2.out _ _ _ HT3.out
          go_wp2_with fail
          refine (mtru_any _ wb base s3 b3 HT3.out.1 (by omega) false (by omega)).mono ?_
          rintro e wz4 ⟨rfl, s4, hto⟩
          have HT4 := hide (HT3.out.trans hto)
          clear hto
          have hl4 := (show (nums b3 [tr false]).1.length ≤ b3.1.length + 6 from nums_len b3 [tr false])
          obtain ⟨b4, hb⟩ : ∃ b, b = nums b3 [tr false] := ⟨_, rfl⟩
          rw [← hb] at HT4 hl4
          have HB4 := hide hb
          clear hb
          have hsz4 := HT4.out.2.1.size
          clear y0 y1 y2 y3 y4 y5 y6
          obtain ⟨y0, y1, y2, y3, y4, y5, y6⟩ := BOX2.out _ _ _ HT4.out
          go_wp2_with fail
          refine (mtext_any _ wb base s4 b4 HT4.out.1 (by omega) value 500 (by omega) hvl (by omega)).mono ?_
          rintro e wz5 ⟨rfl, s5, hto⟩
          have HT5 := hide (HT4.out.trans hto)
          clear hto
          have hl5 := rStep_len b4 (.tx value 500)
          obtain ⟨b5, hb⟩ : ∃ b, b = rStep b4 (.tx value 500) := ⟨_, rfl⟩
          rw [← hb] at HT5 hl5
          have HB5 := hide hb
          clear hb
          have hsz5 := HT5.out.2.1.size
          clear y0 y1 y2 y3 y4 y5 y6
          obtain ⟨y0, y1, y2, y3, y4, y5, y6⟩ := BOX2.out _ _ _ HT5.out
          simp only [clLen] at hl5
          have HT := hide (HR.out.trans (MkTo.pre HTA.out HT5.out))
          clear HT5
          go_wp2
          refine ⟨⟨j + 1, _, by omega, by go_num, by rw [HSN.out, show rRun b0' (plCl ⟨roff, rtime, false, key, false, value⟩) = b5 by rw [HB5.out, HB4.out, HB3.out, HB2.out, HB1.out]; rfl]; exact HT.out⟩, ?_⟩
          simp only [intOf]; omega
    · obtain rfl : j = rs.length := by omega
      have hlt1 : ¬ (rs.length : Int) < rs.length := by omega
      rw [List.take_of_length_le (Nat.le_refl _)] at hr
      have HR := hide hr
      clear hr hrl hrl2
      go_wp2
      go_end0
      refine ⟨rfl, sr, ?_⟩
      rw [rRun_cons]
      have := HR.out
      rw [HBZ.out] at this
      exact this
end Go.Proofs.YtcpjohpbakbggaaDoor.Wi
