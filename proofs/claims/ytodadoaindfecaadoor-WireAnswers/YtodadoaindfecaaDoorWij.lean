/- wire's writer: an answer. -/
import Derived.Test.YtodadoaindfecaaDoorWii
import Derived.Test.YtodadoaindfecaaDoorWih
import Derived.Deep.CutBlock
import Derived.Deep.DeepCutAuto
namespace Go.Proofs.YtodadoaindfecaaDoor.Wi
open Go.RowKit Go.Maps
set_option maxRecDepth 100000
set_option linter.unusedSimpArgs false
set_option linter.unusedVariables false

set_option maxHeartbeats 8000000 in
theorem wansE_any (w : World) (wb base : Nat) (s0 : Value) (b0 : WS) (h : MkAt wT As.errN w wb base s0 b0) (hbase : base ≤ w.heap.size) (hwb : base ≤ wb) (kind corr err offset start fin : Int) (found : Bool) (recs : List Bt.Rec) (topics : List Tp) (a ta : Option Addr) (c tc : Nat) (hrec : RecsAt w (.slice a recs.length c) recs) (htop : TopsAt w (.slice ta topics.length tc) topics) (hrb : recs ≠ [] → ∀ k ∈ (Value.slice a recs.length c).ownBlock, k < base) (htb : topics ≠ [] → ∀ k ∈ (Value.slice ta topics.length tc).ownBlock, k < base) (he : err ≠ 0) (hl0 : b0.1.length ≤ 12000) :
    Calls Tryd.prog 49 #[.pointer (some ⟨wb, 0, none⟩), .agg #[.int .i64 kind, .int .i64 corr, .int .i64 err, .int .i64 offset, .int .i64 start, .int .i64 fin, .bool found, .slice a recs.length c, .slice ta topics.length tc]] w fun e w' => e = .returned (.tuple #[]) ∧ ∃ sv', MkTo wT As.errN w w' wb base s0 sv' (pRun b0 ([.ns [kind, corr, err]])) := by
  obtain ⟨a', c', ea, hlc, hcm, hn0, hp⟩ := hrec.form
  simp only [Value.slice.injEq, true_and] at ea
  obtain ⟨rfl, rfl⟩ := ea
  obtain ⟨ta', tc', ea, hlt1, hlt2, hlt3, hpt⟩ := htop.form
  simp only [Value.slice.injEq, true_and] at ea
  obtain ⟨rfl, rfl⟩ := ea
  have hmx : maxLen = 9223372036854775807 := by simp [maxLen]
  rw [hmx] at hcm hlt2
  have hlt := h.lt
  obtain ⟨w0, hw0⟩ : ∃ w0, w0 = w.alloc (.cells #[.int .i64 kind, .int .i64 corr, .int .i64 err, .int .i64 offset, .int .i64 start, .int .i64 fin, .bool found, .slice a recs.length c, .slice ta topics.length tc] 57) := ⟨_, rfl⟩
  have hbox : w0.heap[w.heap.size]? = some (.cells #[.int .i64 kind, .int .i64 corr, .int .i64 err, .int .i64 offset, .int .i64 start, .int .i64 fin, .bool found, .slice a recs.length c, .slice ta topics.length tc] 57 (0, 0)) := by rw [hw0]; exact heap_new w _
  have hal : Turn [] w w0 := by rw [hw0]; exact (Turn.refl [] w).alloc _
  have hm0 := h.still hal
  have box : ∀ wi si bi, MkTo wT As.errN w0 wi wb base s0 si bi → w.heap.size < wi.heap.size ∧ wi.cell? ⟨w.heap.size, 0, none⟩ = some (.int .i64 kind) ∧ wi.cell? ⟨w.heap.size, 1, none⟩ = some (.int .i64 corr) ∧ wi.cell? ⟨w.heap.size, 2, none⟩ = some (.int .i64 err) ∧ wi.cell? ⟨w.heap.size, 3, none⟩ = some (.int .i64 offset) ∧ wi.cell? ⟨w.heap.size, 4, none⟩ = some (.int .i64 start) ∧ wi.cell? ⟨w.heap.size, 5, none⟩ = some (.int .i64 fin) ∧ wi.cell? ⟨w.heap.size, 6, none⟩ = some (.bool found) ∧ wi.cell? ⟨w.heap.size, 7, none⟩ = some (.slice a recs.length c) ∧ wi.cell? ⟨w.heap.size, 8, none⟩ = some (.slice ta topics.length tc) :=
    fun wi si bi h2 => by
      have hb := h2.box hbox (by omega) (fun x hx => by have := (hlt.2 x hx).2; omega)
      exact ⟨lt_of_heap hb, by simpa [strV] using cell_of hb 0, by simpa [strV] using cell_of hb 1, by simpa [strV] using cell_of hb 2, by simpa [strV] using cell_of hb 3, by simpa [strV] using cell_of hb 4, by simpa [strV] using cell_of hb 5, by simpa [strV] using cell_of hb 6, by simpa [strV] using cell_of hb 7, by simpa [strV] using cell_of hb 8⟩
  have fin : ∀ wi si bi, MkTo wT As.errN w0 wi wb base s0 si bi → bi = pRun b0 ([.ns [kind, corr, err]]) → ∃ sv', MkTo wT As.errN w wi wb base s0 sv' (pRun b0 ([.ns [kind, corr, err]])) :=
    fun wi si bi h2 e => ⟨si, e ▸ MkTo.pre hal h2⟩
  have recsAt : ∀ wi si bi, MkTo wT As.errN w0 wi wb base s0 si bi → RecsAt wi (.slice a recs.length c) recs := fun wi si bi hg =>
    (hrec.still hal).kept' hg.2.1 (fun h0 k hk hm => by
      have h1 := hrb h0 k hk
      rcases List.mem_cons.1 hm with rfl | hm
      · omega
      · have := (hlt.2 k (by simpa using hm)).1; omega)
  have RECS := hide recsAt
  have topsAt : ∀ wi si bi, MkTo wT As.errN w0 wi wb base s0 si bi → TopsAt wi (.slice ta topics.length tc) topics := fun wi si bi hg =>
    (htop.still hal).kept' hg.2.1 (fun h0 k hk hm => by
      have h1 := htb h0 k hk
      rcases List.mem_cons.1 hm with rfl | hm
      · omega
      · have := (hlt.2 k (by simpa using hm)).1; omega)
  have TOPS := hide topsAt
  have hsz0 : base ≤ w0.heap.size := by have := hal.size; omega
  have BOX := hide box
  have FIN := hide fin
  have HT0 := hide hm0.self
  have HW0 := hide hw0
  have HLT := hide hlt
  clear h box fin hm0 hal hbox hw0 hlt recsAt topsAt hrec htop hrb htb hn0 hlt3
  go_enter Tryd.func49, Tryd.ntmps49
  go_upto_region 1 with fail
  rw [show w.alloc (.cells #[.int .i64 kind, .int .i64 corr, .int .i64 err, .int .i64 offset, .int .i64 start, .int .i64 fin, .bool found, .slice a recs.length c, .slice ta topics.length tc] 57) = w0 from HW0.out.symm]
  obtain ⟨z0, q0, q1, q2, q3, q4, q5, q6, q7, q8⟩ := BOX.out _ _ _ HT0.out
  have hb1 : (err == 0) = false := by simpa using he
  have hb2 : (err != 0) = true := by simp [he]
  clear he
  go_wp2_with fail
  refine (numbers_new _ wb base s0 b0 HT0.out.1 (by omega) [kind, corr, err] (by rfl) (by rfl) (by rfl) (by simp) (by omega)).mono ?_
  rintro e wz1 ⟨rfl, s1, hto⟩
  have HT1 := hide (HT0.out.trans hto)
  clear hto
  have hl1 := pStep_len b0 (.ns [kind, corr, err]) (by simp)
  have e2 : nums (cut b0) [kind, corr, err] = pStep b0 (.ns [kind, corr, err]) := rfl
  rw [e2] at HT1
  clear e2
  obtain ⟨b1, hb⟩ : ∃ b, b = pStep b0 (.ns [kind, corr, err]) := ⟨_, rfl⟩
  rw [← hb] at HT1 hl1
  have HB1 := hide hb
  clear hb
  have hsz1 := HT1.out.2.1.size
  clear z0 q0 q1 q2 q3 q4 q5 q6 q7 q8
  obtain ⟨z0, q0, q1, q2, q3, q4, q5, q6, q7, q8⟩ := BOX.out _ _ _ HT1.out
  go_wp2
  refine bodyPost_ret (results_none rfl _ _ _) rfl ?_
  exact ⟨rfl, FIN.out _ _ _ HT1.out (by rw [HB1.out]; rfl)⟩
set_option maxHeartbeats 8000000 in
theorem wans1_any (w : World) (wb base : Nat) (s0 : Value) (b0 : WS) (h : MkAt wT As.errN w wb base s0 b0) (hbase : base ≤ w.heap.size) (hwb : base ≤ wb) (corr offset start fin : Int) (found : Bool) (recs : List Bt.Rec) (topics : List Tp) (a ta : Option Addr) (c tc : Nat) (hrec : RecsAt w (.slice a recs.length c) recs) (htop : TopsAt w (.slice ta topics.length tc) topics) (hrb : recs ≠ [] → ∀ k ∈ (Value.slice a recs.length c).ownBlock, k < base) (htb : topics ≠ [] → ∀ k ∈ (Value.slice ta topics.length tc).ownBlock, k < base) (hl0 : b0.1.length ≤ 12000) :
    Calls Tryd.prog 49 #[.pointer (some ⟨wb, 0, none⟩), .agg #[.int .i64 1, .int .i64 corr, .int .i64 0, .int .i64 offset, .int .i64 start, .int .i64 fin, .bool found, .slice a recs.length c, .slice ta topics.length tc]] w fun e w' => e = .returned (.tuple #[]) ∧ ∃ sv', MkTo wT As.errN w w' wb base s0 sv' (pRun b0 (ansCl ⟨1, corr, 0, offset, start, fin, found, recs, topics⟩)) := by
  obtain ⟨a', c', ea, hlc, hcm, hn0, hp⟩ := hrec.form
  simp only [Value.slice.injEq, true_and] at ea
  obtain ⟨rfl, rfl⟩ := ea
  obtain ⟨ta', tc', ea, hlt1, hlt2, hlt3, hpt⟩ := htop.form
  simp only [Value.slice.injEq, true_and] at ea
  obtain ⟨rfl, rfl⟩ := ea
  have hmx : maxLen = 9223372036854775807 := by simp [maxLen]
  rw [hmx] at hcm hlt2
  have hlt := h.lt
  obtain ⟨w0, hw0⟩ : ∃ w0, w0 = w.alloc (.cells #[.int .i64 1, .int .i64 corr, .int .i64 0, .int .i64 offset, .int .i64 start, .int .i64 fin, .bool found, .slice a recs.length c, .slice ta topics.length tc] 57) := ⟨_, rfl⟩
  have hbox : w0.heap[w.heap.size]? = some (.cells #[.int .i64 1, .int .i64 corr, .int .i64 0, .int .i64 offset, .int .i64 start, .int .i64 fin, .bool found, .slice a recs.length c, .slice ta topics.length tc] 57 (0, 0)) := by rw [hw0]; exact heap_new w _
  have hal : Turn [] w w0 := by rw [hw0]; exact (Turn.refl [] w).alloc _
  have hm0 := h.still hal
  have box : ∀ wi si bi, MkTo wT As.errN w0 wi wb base s0 si bi → w.heap.size < wi.heap.size ∧ wi.cell? ⟨w.heap.size, 0, none⟩ = some (.int .i64 1) ∧ wi.cell? ⟨w.heap.size, 1, none⟩ = some (.int .i64 corr) ∧ wi.cell? ⟨w.heap.size, 2, none⟩ = some (.int .i64 0) ∧ wi.cell? ⟨w.heap.size, 3, none⟩ = some (.int .i64 offset) ∧ wi.cell? ⟨w.heap.size, 4, none⟩ = some (.int .i64 start) ∧ wi.cell? ⟨w.heap.size, 5, none⟩ = some (.int .i64 fin) ∧ wi.cell? ⟨w.heap.size, 6, none⟩ = some (.bool found) ∧ wi.cell? ⟨w.heap.size, 7, none⟩ = some (.slice a recs.length c) ∧ wi.cell? ⟨w.heap.size, 8, none⟩ = some (.slice ta topics.length tc) :=
    fun wi si bi h2 => by
      have hb := h2.box hbox (by omega) (fun x hx => by have := (hlt.2 x hx).2; omega)
      exact ⟨lt_of_heap hb, by simpa [strV] using cell_of hb 0, by simpa [strV] using cell_of hb 1, by simpa [strV] using cell_of hb 2, by simpa [strV] using cell_of hb 3, by simpa [strV] using cell_of hb 4, by simpa [strV] using cell_of hb 5, by simpa [strV] using cell_of hb 6, by simpa [strV] using cell_of hb 7, by simpa [strV] using cell_of hb 8⟩
  have fin : ∀ wi si bi, MkTo wT As.errN w0 wi wb base s0 si bi → bi = pRun b0 (ansCl ⟨1, corr, 0, offset, start, fin, found, recs, topics⟩) → ∃ sv', MkTo wT As.errN w wi wb base s0 sv' (pRun b0 (ansCl ⟨1, corr, 0, offset, start, fin, found, recs, topics⟩)) :=
    fun wi si bi h2 e => ⟨si, e ▸ MkTo.pre hal h2⟩
  have recsAt : ∀ wi si bi, MkTo wT As.errN w0 wi wb base s0 si bi → RecsAt wi (.slice a recs.length c) recs := fun wi si bi hg =>
    (hrec.still hal).kept' hg.2.1 (fun h0 k hk hm => by
      have h1 := hrb h0 k hk
      rcases List.mem_cons.1 hm with rfl | hm
      · omega
      · have := (hlt.2 k (by simpa using hm)).1; omega)
  have RECS := hide recsAt
  have topsAt : ∀ wi si bi, MkTo wT As.errN w0 wi wb base s0 si bi → TopsAt wi (.slice ta topics.length tc) topics := fun wi si bi hg =>
    (htop.still hal).kept' hg.2.1 (fun h0 k hk hm => by
      have h1 := htb h0 k hk
      rcases List.mem_cons.1 hm with rfl | hm
      · omega
      · have := (hlt.2 k (by simpa using hm)).1; omega)
  have TOPS := hide topsAt
  have hsz0 : base ≤ w0.heap.size := by have := hal.size; omega
  have BOX := hide box
  have FIN := hide fin
  have HT0 := hide hm0.self
  have HW0 := hide hw0
  have HLT := hide hlt
  clear h box fin hm0 hal hbox hw0 hlt recsAt topsAt hrec htop hrb htb hn0 hlt3
  go_enter Tryd.func49, Tryd.ntmps49
  go_upto_region 1 with fail
  rw [show w.alloc (.cells #[.int .i64 1, .int .i64 corr, .int .i64 0, .int .i64 offset, .int .i64 start, .int .i64 fin, .bool found, .slice a recs.length c, .slice ta topics.length tc] 57) = w0 from HW0.out.symm]
  obtain ⟨z0, q0, q1, q2, q3, q4, q5, q6, q7, q8⟩ := BOX.out _ _ _ HT0.out
  go_wp2_with fail
  refine (numbers_new _ wb base s0 b0 HT0.out.1 (by omega) [1, corr, 0] (by rfl) (by rfl) (by rfl) (by simp) (by omega)).mono ?_
  rintro e wz1 ⟨rfl, s1, hto⟩
  have HT1 := hide (HT0.out.trans hto)
  clear hto
  have hl1 := pStep_len b0 (.ns [1, corr, 0]) (by simp)
  have e2 : nums (cut b0) [1, corr, 0] = pStep b0 (.ns [1, corr, 0]) := rfl
  rw [e2] at HT1
  clear e2
  obtain ⟨b1, hb⟩ : ∃ b, b = pStep b0 (.ns [1, corr, 0]) := ⟨_, rfl⟩
  rw [← hb] at HT1 hl1
  have HB1 := hide hb
  clear hb
  have hsz1 := HT1.out.2.1.size
  clear z0 q0 q1 q2 q3 q4 q5 q6 q7 q8
  obtain ⟨z0, q0, q1, q2, q3, q4, q5, q6, q7, q8⟩ := BOX.out _ _ _ HT1.out
  go_wp2_with fail
  refine (numbers_new _ wb base s1 b1 HT1.out.1 (by omega) [offset] (by rfl) (by rfl) (by rfl) (by simp) (by omega)).mono ?_
  rintro e wz2 ⟨rfl, s2, hto⟩
  have HT2 := hide (HT1.out.trans hto)
  clear hto
  have hl2 := pStep_len b1 (.ns [offset]) (by simp)
  have e2 : nums (cut b1) [offset] = pStep b1 (.ns [offset]) := rfl
  rw [e2] at HT2
  clear e2
  obtain ⟨b2, hb⟩ : ∃ b, b = pStep b1 (.ns [offset]) := ⟨_, rfl⟩
  rw [← hb] at HT2 hl2
  have HB2 := hide hb
  clear hb
  have hsz2 := HT2.out.2.1.size
  clear z0 q0 q1 q2 q3 q4 q5 q6 q7 q8
  obtain ⟨z0, q0, q1, q2, q3, q4, q5, q6, q7, q8⟩ := BOX.out _ _ _ HT2.out
  go_wp2
  go_end0
  exact ⟨rfl, FIN.out _ _ _ HT2.out (by rw [HB2.out, HB1.out]; rfl)⟩
set_option maxHeartbeats 8000000 in
theorem wans2_any (w : World) (wb base : Nat) (s0 : Value) (b0 : WS) (h : MkAt wT As.errN w wb base s0 b0) (hbase : base ≤ w.heap.size) (hwb : base ≤ wb) (corr offset start fin : Int) (found : Bool) (recs : List Bt.Rec) (topics : List Tp) (a ta : Option Addr) (c tc : Nat) (hrec : RecsAt w (.slice a recs.length c) recs) (htop : TopsAt w (.slice ta topics.length tc) topics) (hrb : recs ≠ [] → ∀ k ∈ (Value.slice a recs.length c).ownBlock, k < base) (htb : topics ≠ [] → ∀ k ∈ (Value.slice ta topics.length tc).ownBlock, k < base) (hl0 : b0.1.length ≤ 12000) :
    Calls Tryd.prog 49 #[.pointer (some ⟨wb, 0, none⟩), .agg #[.int .i64 2, .int .i64 corr, .int .i64 0, .int .i64 offset, .int .i64 start, .int .i64 fin, .bool found, .slice a recs.length c, .slice ta topics.length tc]] w fun e w' => e = .returned (.tuple #[]) ∧ ∃ sv', MkTo wT As.errN w w' wb base s0 sv' (pRun b0 (ansCl ⟨2, corr, 0, offset, start, fin, found, recs, topics⟩)) := by
  obtain ⟨a', c', ea, hlc, hcm, hn0, hp⟩ := hrec.form
  simp only [Value.slice.injEq, true_and] at ea
  obtain ⟨rfl, rfl⟩ := ea
  obtain ⟨ta', tc', ea, hlt1, hlt2, hlt3, hpt⟩ := htop.form
  simp only [Value.slice.injEq, true_and] at ea
  obtain ⟨rfl, rfl⟩ := ea
  have hmx : maxLen = 9223372036854775807 := by simp [maxLen]
  rw [hmx] at hcm hlt2
  have hlt := h.lt
  obtain ⟨w0, hw0⟩ : ∃ w0, w0 = w.alloc (.cells #[.int .i64 2, .int .i64 corr, .int .i64 0, .int .i64 offset, .int .i64 start, .int .i64 fin, .bool found, .slice a recs.length c, .slice ta topics.length tc] 57) := ⟨_, rfl⟩
  have hbox : w0.heap[w.heap.size]? = some (.cells #[.int .i64 2, .int .i64 corr, .int .i64 0, .int .i64 offset, .int .i64 start, .int .i64 fin, .bool found, .slice a recs.length c, .slice ta topics.length tc] 57 (0, 0)) := by rw [hw0]; exact heap_new w _
  have hal : Turn [] w w0 := by rw [hw0]; exact (Turn.refl [] w).alloc _
  have hm0 := h.still hal
  have box : ∀ wi si bi, MkTo wT As.errN w0 wi wb base s0 si bi → w.heap.size < wi.heap.size ∧ wi.cell? ⟨w.heap.size, 0, none⟩ = some (.int .i64 2) ∧ wi.cell? ⟨w.heap.size, 1, none⟩ = some (.int .i64 corr) ∧ wi.cell? ⟨w.heap.size, 2, none⟩ = some (.int .i64 0) ∧ wi.cell? ⟨w.heap.size, 3, none⟩ = some (.int .i64 offset) ∧ wi.cell? ⟨w.heap.size, 4, none⟩ = some (.int .i64 start) ∧ wi.cell? ⟨w.heap.size, 5, none⟩ = some (.int .i64 fin) ∧ wi.cell? ⟨w.heap.size, 6, none⟩ = some (.bool found) ∧ wi.cell? ⟨w.heap.size, 7, none⟩ = some (.slice a recs.length c) ∧ wi.cell? ⟨w.heap.size, 8, none⟩ = some (.slice ta topics.length tc) :=
    fun wi si bi h2 => by
      have hb := h2.box hbox (by omega) (fun x hx => by have := (hlt.2 x hx).2; omega)
      exact ⟨lt_of_heap hb, by simpa [strV] using cell_of hb 0, by simpa [strV] using cell_of hb 1, by simpa [strV] using cell_of hb 2, by simpa [strV] using cell_of hb 3, by simpa [strV] using cell_of hb 4, by simpa [strV] using cell_of hb 5, by simpa [strV] using cell_of hb 6, by simpa [strV] using cell_of hb 7, by simpa [strV] using cell_of hb 8⟩
  have fin : ∀ wi si bi, MkTo wT As.errN w0 wi wb base s0 si bi → bi = pRun b0 (ansCl ⟨2, corr, 0, offset, start, fin, found, recs, topics⟩) → ∃ sv', MkTo wT As.errN w wi wb base s0 sv' (pRun b0 (ansCl ⟨2, corr, 0, offset, start, fin, found, recs, topics⟩)) :=
    fun wi si bi h2 e => ⟨si, e ▸ MkTo.pre hal h2⟩
  have recsAt : ∀ wi si bi, MkTo wT As.errN w0 wi wb base s0 si bi → RecsAt wi (.slice a recs.length c) recs := fun wi si bi hg =>
    (hrec.still hal).kept' hg.2.1 (fun h0 k hk hm => by
      have h1 := hrb h0 k hk
      rcases List.mem_cons.1 hm with rfl | hm
      · omega
      · have := (hlt.2 k (by simpa using hm)).1; omega)
  have RECS := hide recsAt
  have topsAt : ∀ wi si bi, MkTo wT As.errN w0 wi wb base s0 si bi → TopsAt wi (.slice ta topics.length tc) topics := fun wi si bi hg =>
    (htop.still hal).kept' hg.2.1 (fun h0 k hk hm => by
      have h1 := htb h0 k hk
      rcases List.mem_cons.1 hm with rfl | hm
      · omega
      · have := (hlt.2 k (by simpa using hm)).1; omega)
  have TOPS := hide topsAt
  have hsz0 : base ≤ w0.heap.size := by have := hal.size; omega
  have BOX := hide box
  have FIN := hide fin
  have HT0 := hide hm0.self
  have HW0 := hide hw0
  have HLT := hide hlt
  clear h box fin hm0 hal hbox hw0 hlt recsAt topsAt hrec htop hrb htb hn0 hlt3
  go_enter Tryd.func49, Tryd.ntmps49
  go_upto_region 1 with fail
  rw [show w.alloc (.cells #[.int .i64 2, .int .i64 corr, .int .i64 0, .int .i64 offset, .int .i64 start, .int .i64 fin, .bool found, .slice a recs.length c, .slice ta topics.length tc] 57) = w0 from HW0.out.symm]
  obtain ⟨z0, q0, q1, q2, q3, q4, q5, q6, q7, q8⟩ := BOX.out _ _ _ HT0.out
  go_wp2_with fail
  refine (numbers_new _ wb base s0 b0 HT0.out.1 (by omega) [2, corr, 0] (by rfl) (by rfl) (by rfl) (by simp) (by omega)).mono ?_
  rintro e wz1 ⟨rfl, s1, hto⟩
  have HT1 := hide (HT0.out.trans hto)
  clear hto
  have hl1 := pStep_len b0 (.ns [2, corr, 0]) (by simp)
  have e2 : nums (cut b0) [2, corr, 0] = pStep b0 (.ns [2, corr, 0]) := rfl
  rw [e2] at HT1
  clear e2
  obtain ⟨b1, hb⟩ : ∃ b, b = pStep b0 (.ns [2, corr, 0]) := ⟨_, rfl⟩
  rw [← hb] at HT1 hl1
  have HB1 := hide hb
  clear hb
  have hsz1 := HT1.out.2.1.size
  clear z0 q0 q1 q2 q3 q4 q5 q6 q7 q8
  obtain ⟨z0, q0, q1, q2, q3, q4, q5, q6, q7, q8⟩ := BOX.out _ _ _ HT1.out
  go_wp2_with fail
  refine (numbers_new _ wb base s1 b1 HT1.out.1 (by omega) [start, fin, (recs.length : Int)] (by rfl) (by rfl) (by rfl) (by simp) (by omega)).mono ?_
  rintro e wz2 ⟨rfl, s2, hto⟩
  have HT2 := hide (HT1.out.trans hto)
  clear hto
  have hl2 := pStep_len b1 (.ns [start, fin, (recs.length : Int)]) (by simp)
  have e2 : nums (cut b1) [start, fin, (recs.length : Int)] = pStep b1 (.ns [start, fin, (recs.length : Int)]) := rfl
  rw [e2] at HT2
  clear e2
  obtain ⟨b2, hb⟩ : ∃ b, b = pStep b1 (.ns [start, fin, (recs.length : Int)]) := ⟨_, rfl⟩
  rw [← hb] at HT2 hl2
  have HB2 := hide hb
  clear hb
  have hsz2 := HT2.out.2.1.size
  clear z0 q0 q1 q2 q3 q4 q5 q6 q7 q8
  obtain ⟨z0, q0, q1, q2, q3, q4, q5, q6, q7, q8⟩ := BOX.out _ _ _ HT2.out
  go_wp2
  go_loopw [44] (fun iv wr => ∃ (j : Nat) (sr : Value), j ≤ recs.length ∧ iv = .int .i64 (j : Int) ∧ MkTo wT As.errN w0 wr wb base s0 sr (pRun b2 ((recs.take j).flatMap plCl))) (fun iv _ => recs.length - (intOf iv).toNat)
  case atStart => exact ⟨0, _, Nat.zero_le _, rfl, HT2.out⟩
  case round =>
    obtain ⟨j, sr, hj, rfl, hr⟩ := hrel
    have hszr := hr.2.1.size
    have hrl := pRun_len b2 ((recs.take j).flatMap plCl) hl2 (fun c hc => by obtain ⟨x, -, hc⟩ := List.mem_flatMap.1 hc; exact plCl_sz x c hc)
    clear z0 q0 q1 q2 q3 q4 q5 q6 q7 q8
    obtain ⟨z0, q0, q1, q2, q3, q4, q5, q6, q7, q8⟩ := BOX.out _ _ _ hr
    by_cases hlt : j < recs.length
    · have hlt1 : (j : Int) < recs.length := by omega
      obtain ⟨p, rfl⟩ := hp j hlt
      obtain ⟨g0, g1, g2, g3, g4, g5⟩ := (RECS.out _ _ _ hr).six hlt
      have hok := (RECS.out _ _ _ hr).ok hlt
      have hsn := pRun_snoc plCl b2 hlt
      obtain ⟨r, hrr⟩ : ∃ r, r = recs[j] := ⟨_, rfl⟩
      rw [← hrr] at g0 g1 g2 g3 g4 g5 hok hsn
      obtain ⟨t, ht⟩ : ∃ t, t = pRun b2 ((recs.take j).flatMap plCl) := ⟨_, rfl⟩
      rw [← ht] at hsn hr hrl
      have HR := hide hr
      have HOK := hide hok
      have HSN := hide hsn
      clear hrr ht hr hok hsn
      obtain ⟨wa, hwa⟩ : ∃ wa, wa = wr.alloc (.cells #[.int .i64 r.off, .int .i64 r.time, .bool r.keyed, .string ⟨r.key.toArray⟩, .bool r.gone, .string ⟨r.value.toArray⟩] 133) := ⟨_, rfl⟩
      have hta : Turn [] wr wa := by rw [hwa]; exact (Turn.refl [] wr).alloc _
      have hbx : wa.heap[wr.heap.size]? = some (.cells #[.int .i64 r.off, .int .i64 r.time, .bool r.keyed, .string ⟨r.key.toArray⟩, .bool r.gone, .string ⟨r.value.toArray⟩] 133 (0, 0)) := by rw [hwa]; exact heap_new wr _
      have hla := HR.out.1.lt
      have box2 : ∀ wi si bi, MkTo wT As.errN wa wi wb base sr si bi → wr.heap.size < wi.heap.size ∧ wi.cell? ⟨wr.heap.size, 0, none⟩ = some (.int .i64 r.off) ∧ wi.cell? ⟨wr.heap.size, 1, none⟩ = some (.int .i64 r.time) ∧ wi.cell? ⟨wr.heap.size, 2, none⟩ = some (.bool r.keyed) ∧ wi.cell? ⟨wr.heap.size, 3, none⟩ = some (.string ⟨r.key.toArray⟩) ∧ wi.cell? ⟨wr.heap.size, 4, none⟩ = some (.bool r.gone) ∧ wi.cell? ⟨wr.heap.size, 5, none⟩ = some (.string ⟨r.value.toArray⟩) := fun wi si bi h2 => by
        have hb := h2.box hbx (by omega) (fun x hx => by have := (hla.2 x hx).2; omega)
        exact ⟨lt_of_heap hb, box_cells hb⟩
      have BOX2 := hide box2
      have HMA := hide (HR.out.1.still hta).self
      have HTA := hide hta
      have HWA := hide hwa
      have hsa := hta.size
      have hra := pStep_len t (.ns [r.off]) (by simp)
      clear box2 hbx hla hwa hta
      go_upto_region 11 with fail
      rw [show wr.alloc (.cells #[.int .i64 r.off, .int .i64 r.time, .bool r.keyed, .string ⟨r.key.toArray⟩, .bool r.gone, .string ⟨r.value.toArray⟩] 133) = wa from HWA.out.symm]
      obtain ⟨y0, y1, y2, y3, y4, y5, y6⟩ := BOX2.out _ _ _ HMA.out
      go_wp2_with fail
      refine (numbers_new wa wb base sr t HMA.out.1 (by omega) [r.off] (by rfl) (by rfl) (by rfl) (by simp) (by omega)).mono ?_
      rintro e wx ⟨rfl, s3, hto⟩
      have e2 : nums (cut t) [r.off] = pStep t (.ns [r.off]) := rfl
      rw [e2] at hto
      have HT3 := hide (HMA.out.trans hto)
      have hs3 := HT3.out.2.1.size
      clear hto e2 y0 y1 y2 y3 y4 y5 y6 g0 g1 g2 g3 g4 g5
      obtain ⟨y0, y1, y2, y3, y4, y5, y6⟩ := BOX2.out _ _ _ HT3.out
      go_wp2_with fail
      refine (wrec_any _ wb base s3 _ HT3.out.1 (by omega) r HOK.out (by omega)).mono ?_
      rintro e wy ⟨rfl, s4, hto⟩
      have HT := hide (HR.out.trans (MkTo.pre HTA.out (HT3.out.trans hto)))
      clear hto y0 y1 y2 y3 y4 y5 y6
      go_wp2
      refine ⟨⟨j + 1, s4, by omega, by go_num, by rw [HSN.out]; exact HT.out⟩, ?_⟩
      simp only [intOf]; omega
    · obtain rfl : j = recs.length := by omega
      have hlt1 : ¬ (recs.length : Int) < recs.length := by omega
      have HR := hide hr
      clear hr
      go_wp2
      go_end0
      refine ⟨rfl, FIN.out _ _ _ HR.out ?_⟩
      rw [List.take_of_length_le (Nat.le_refl _), HB2.out, HB1.out]
      rfl
set_option maxHeartbeats 8000000 in
theorem wans4_any (w : World) (wb base : Nat) (s0 : Value) (b0 : WS) (h : MkAt wT As.errN w wb base s0 b0) (hbase : base ≤ w.heap.size) (hwb : base ≤ wb) (corr offset start fin : Int) (found : Bool) (recs : List Bt.Rec) (topics : List Tp) (a ta : Option Addr) (c tc : Nat) (hrec : RecsAt w (.slice a recs.length c) recs) (htop : TopsAt w (.slice ta topics.length tc) topics) (hrb : recs ≠ [] → ∀ k ∈ (Value.slice a recs.length c).ownBlock, k < base) (htb : topics ≠ [] → ∀ k ∈ (Value.slice ta topics.length tc).ownBlock, k < base) (hl0 : b0.1.length ≤ 12000) :
    Calls Tryd.prog 49 #[.pointer (some ⟨wb, 0, none⟩), .agg #[.int .i64 4, .int .i64 corr, .int .i64 0, .int .i64 offset, .int .i64 start, .int .i64 fin, .bool found, .slice a recs.length c, .slice ta topics.length tc]] w fun e w' => e = .returned (.tuple #[]) ∧ ∃ sv', MkTo wT As.errN w w' wb base s0 sv' (pRun b0 (ansCl ⟨4, corr, 0, offset, start, fin, found, recs, topics⟩)) := by
  obtain ⟨a', c', ea, hlc, hcm, hn0, hp⟩ := hrec.form
  simp only [Value.slice.injEq, true_and] at ea
  obtain ⟨rfl, rfl⟩ := ea
  obtain ⟨ta', tc', ea, hlt1, hlt2, hlt3, hpt⟩ := htop.form
  simp only [Value.slice.injEq, true_and] at ea
  obtain ⟨rfl, rfl⟩ := ea
  have hmx : maxLen = 9223372036854775807 := by simp [maxLen]
  rw [hmx] at hcm hlt2
  have hlt := h.lt
  obtain ⟨w0, hw0⟩ : ∃ w0, w0 = w.alloc (.cells #[.int .i64 4, .int .i64 corr, .int .i64 0, .int .i64 offset, .int .i64 start, .int .i64 fin, .bool found, .slice a recs.length c, .slice ta topics.length tc] 57) := ⟨_, rfl⟩
  have hbox : w0.heap[w.heap.size]? = some (.cells #[.int .i64 4, .int .i64 corr, .int .i64 0, .int .i64 offset, .int .i64 start, .int .i64 fin, .bool found, .slice a recs.length c, .slice ta topics.length tc] 57 (0, 0)) := by rw [hw0]; exact heap_new w _
  have hal : Turn [] w w0 := by rw [hw0]; exact (Turn.refl [] w).alloc _
  have hm0 := h.still hal
  have box : ∀ wi si bi, MkTo wT As.errN w0 wi wb base s0 si bi → w.heap.size < wi.heap.size ∧ wi.cell? ⟨w.heap.size, 0, none⟩ = some (.int .i64 4) ∧ wi.cell? ⟨w.heap.size, 1, none⟩ = some (.int .i64 corr) ∧ wi.cell? ⟨w.heap.size, 2, none⟩ = some (.int .i64 0) ∧ wi.cell? ⟨w.heap.size, 3, none⟩ = some (.int .i64 offset) ∧ wi.cell? ⟨w.heap.size, 4, none⟩ = some (.int .i64 start) ∧ wi.cell? ⟨w.heap.size, 5, none⟩ = some (.int .i64 fin) ∧ wi.cell? ⟨w.heap.size, 6, none⟩ = some (.bool found) ∧ wi.cell? ⟨w.heap.size, 7, none⟩ = some (.slice a recs.length c) ∧ wi.cell? ⟨w.heap.size, 8, none⟩ = some (.slice ta topics.length tc) :=
    fun wi si bi h2 => by
      have hb := h2.box hbox (by omega) (fun x hx => by have := (hlt.2 x hx).2; omega)
      exact ⟨lt_of_heap hb, by simpa [strV] using cell_of hb 0, by simpa [strV] using cell_of hb 1, by simpa [strV] using cell_of hb 2, by simpa [strV] using cell_of hb 3, by simpa [strV] using cell_of hb 4, by simpa [strV] using cell_of hb 5, by simpa [strV] using cell_of hb 6, by simpa [strV] using cell_of hb 7, by simpa [strV] using cell_of hb 8⟩
  have fin : ∀ wi si bi, MkTo wT As.errN w0 wi wb base s0 si bi → bi = pRun b0 (ansCl ⟨4, corr, 0, offset, start, fin, found, recs, topics⟩) → ∃ sv', MkTo wT As.errN w wi wb base s0 sv' (pRun b0 (ansCl ⟨4, corr, 0, offset, start, fin, found, recs, topics⟩)) :=
    fun wi si bi h2 e => ⟨si, e ▸ MkTo.pre hal h2⟩
  have recsAt : ∀ wi si bi, MkTo wT As.errN w0 wi wb base s0 si bi → RecsAt wi (.slice a recs.length c) recs := fun wi si bi hg =>
    (hrec.still hal).kept' hg.2.1 (fun h0 k hk hm => by
      have h1 := hrb h0 k hk
      rcases List.mem_cons.1 hm with rfl | hm
      · omega
      · have := (hlt.2 k (by simpa using hm)).1; omega)
  have RECS := hide recsAt
  have topsAt : ∀ wi si bi, MkTo wT As.errN w0 wi wb base s0 si bi → TopsAt wi (.slice ta topics.length tc) topics := fun wi si bi hg =>
    (htop.still hal).kept' hg.2.1 (fun h0 k hk hm => by
      have h1 := htb h0 k hk
      rcases List.mem_cons.1 hm with rfl | hm
      · omega
      · have := (hlt.2 k (by simpa using hm)).1; omega)
  have TOPS := hide topsAt
  have hsz0 : base ≤ w0.heap.size := by have := hal.size; omega
  have BOX := hide box
  have FIN := hide fin
  have HT0 := hide hm0.self
  have HW0 := hide hw0
  have HLT := hide hlt
  clear h box fin hm0 hal hbox hw0 hlt recsAt topsAt hrec htop hrb htb hn0 hlt3
  go_enter Tryd.func49, Tryd.ntmps49
  go_upto_region 1 with fail
  rw [show w.alloc (.cells #[.int .i64 4, .int .i64 corr, .int .i64 0, .int .i64 offset, .int .i64 start, .int .i64 fin, .bool found, .slice a recs.length c, .slice ta topics.length tc] 57) = w0 from HW0.out.symm]
  obtain ⟨z0, q0, q1, q2, q3, q4, q5, q6, q7, q8⟩ := BOX.out _ _ _ HT0.out
  go_wp2_with fail
  refine (numbers_new _ wb base s0 b0 HT0.out.1 (by omega) [4, corr, 0] (by rfl) (by rfl) (by rfl) (by simp) (by omega)).mono ?_
  rintro e wz1 ⟨rfl, s1, hto⟩
  have HT1 := hide (HT0.out.trans hto)
  clear hto
  have hl1 := pStep_len b0 (.ns [4, corr, 0]) (by simp)
  have e2 : nums (cut b0) [4, corr, 0] = pStep b0 (.ns [4, corr, 0]) := rfl
  rw [e2] at HT1
  clear e2
  obtain ⟨b1, hb⟩ : ∃ b, b = pStep b0 (.ns [4, corr, 0]) := ⟨_, rfl⟩
  rw [← hb] at HT1 hl1
  have HB1 := hide hb
  clear hb
  have hsz1 := HT1.out.2.1.size
  clear z0 q0 q1 q2 q3 q4 q5 q6 q7 q8
  obtain ⟨z0, q0, q1, q2, q3, q4, q5, q6, q7, q8⟩ := BOX.out _ _ _ HT1.out
  go_wp2_with fail
  refine (numbers_new _ wb base s1 b1 HT1.out.1 (by omega) [start] (by rfl) (by rfl) (by rfl) (by simp) (by omega)).mono ?_
  rintro e wz2 ⟨rfl, s2, hto⟩
  have HT2 := hide (HT1.out.trans hto)
  clear hto
  have hl2 := pStep_len b1 (.ns [start]) (by simp)
  have e2 : nums (cut b1) [start] = pStep b1 (.ns [start]) := rfl
  rw [e2] at HT2
  clear e2
  obtain ⟨b2, hb⟩ : ∃ b, b = pStep b1 (.ns [start]) := ⟨_, rfl⟩
  rw [← hb] at HT2 hl2
  have HB2 := hide hb
  clear hb
  have hsz2 := HT2.out.2.1.size
  clear z0 q0 q1 q2 q3 q4 q5 q6 q7 q8
  obtain ⟨z0, q0, q1, q2, q3, q4, q5, q6, q7, q8⟩ := BOX.out _ _ _ HT2.out
  go_wp2
  go_end0
  exact ⟨rfl, FIN.out _ _ _ HT2.out (by rw [HB2.out, HB1.out]; rfl)⟩
set_option maxHeartbeats 8000000 in
theorem wans5_any (w : World) (wb base : Nat) (s0 : Value) (b0 : WS) (h : MkAt wT As.errN w wb base s0 b0) (hbase : base ≤ w.heap.size) (hwb : base ≤ wb) (corr offset start fin : Int) (found : Bool) (recs : List Bt.Rec) (topics : List Tp) (a ta : Option Addr) (c tc : Nat) (hrec : RecsAt w (.slice a recs.length c) recs) (htop : TopsAt w (.slice ta topics.length tc) topics) (hrb : recs ≠ [] → ∀ k ∈ (Value.slice a recs.length c).ownBlock, k < base) (htb : topics ≠ [] → ∀ k ∈ (Value.slice ta topics.length tc).ownBlock, k < base) (hl0 : b0.1.length ≤ 12000) :
    Calls Tryd.prog 49 #[.pointer (some ⟨wb, 0, none⟩), .agg #[.int .i64 5, .int .i64 corr, .int .i64 0, .int .i64 offset, .int .i64 start, .int .i64 fin, .bool found, .slice a recs.length c, .slice ta topics.length tc]] w fun e w' => e = .returned (.tuple #[]) ∧ ∃ sv', MkTo wT As.errN w w' wb base s0 sv' (pRun b0 (ansCl ⟨5, corr, 0, offset, start, fin, found, recs, topics⟩)) := by
  obtain ⟨a', c', ea, hlc, hcm, hn0, hp⟩ := hrec.form
  simp only [Value.slice.injEq, true_and] at ea
  obtain ⟨rfl, rfl⟩ := ea
  obtain ⟨ta', tc', ea, hlt1, hlt2, hlt3, hpt⟩ := htop.form
  simp only [Value.slice.injEq, true_and] at ea
  obtain ⟨rfl, rfl⟩ := ea
  have hmx : maxLen = 9223372036854775807 := by simp [maxLen]
  rw [hmx] at hcm hlt2
  have hlt := h.lt
  obtain ⟨w0, hw0⟩ : ∃ w0, w0 = w.alloc (.cells #[.int .i64 5, .int .i64 corr, .int .i64 0, .int .i64 offset, .int .i64 start, .int .i64 fin, .bool found, .slice a recs.length c, .slice ta topics.length tc] 57) := ⟨_, rfl⟩
  have hbox : w0.heap[w.heap.size]? = some (.cells #[.int .i64 5, .int .i64 corr, .int .i64 0, .int .i64 offset, .int .i64 start, .int .i64 fin, .bool found, .slice a recs.length c, .slice ta topics.length tc] 57 (0, 0)) := by rw [hw0]; exact heap_new w _
  have hal : Turn [] w w0 := by rw [hw0]; exact (Turn.refl [] w).alloc _
  have hm0 := h.still hal
  have box : ∀ wi si bi, MkTo wT As.errN w0 wi wb base s0 si bi → w.heap.size < wi.heap.size ∧ wi.cell? ⟨w.heap.size, 0, none⟩ = some (.int .i64 5) ∧ wi.cell? ⟨w.heap.size, 1, none⟩ = some (.int .i64 corr) ∧ wi.cell? ⟨w.heap.size, 2, none⟩ = some (.int .i64 0) ∧ wi.cell? ⟨w.heap.size, 3, none⟩ = some (.int .i64 offset) ∧ wi.cell? ⟨w.heap.size, 4, none⟩ = some (.int .i64 start) ∧ wi.cell? ⟨w.heap.size, 5, none⟩ = some (.int .i64 fin) ∧ wi.cell? ⟨w.heap.size, 6, none⟩ = some (.bool found) ∧ wi.cell? ⟨w.heap.size, 7, none⟩ = some (.slice a recs.length c) ∧ wi.cell? ⟨w.heap.size, 8, none⟩ = some (.slice ta topics.length tc) :=
    fun wi si bi h2 => by
      have hb := h2.box hbox (by omega) (fun x hx => by have := (hlt.2 x hx).2; omega)
      exact ⟨lt_of_heap hb, by simpa [strV] using cell_of hb 0, by simpa [strV] using cell_of hb 1, by simpa [strV] using cell_of hb 2, by simpa [strV] using cell_of hb 3, by simpa [strV] using cell_of hb 4, by simpa [strV] using cell_of hb 5, by simpa [strV] using cell_of hb 6, by simpa [strV] using cell_of hb 7, by simpa [strV] using cell_of hb 8⟩
  have fin : ∀ wi si bi, MkTo wT As.errN w0 wi wb base s0 si bi → bi = pRun b0 (ansCl ⟨5, corr, 0, offset, start, fin, found, recs, topics⟩) → ∃ sv', MkTo wT As.errN w wi wb base s0 sv' (pRun b0 (ansCl ⟨5, corr, 0, offset, start, fin, found, recs, topics⟩)) :=
    fun wi si bi h2 e => ⟨si, e ▸ MkTo.pre hal h2⟩
  have recsAt : ∀ wi si bi, MkTo wT As.errN w0 wi wb base s0 si bi → RecsAt wi (.slice a recs.length c) recs := fun wi si bi hg =>
    (hrec.still hal).kept' hg.2.1 (fun h0 k hk hm => by
      have h1 := hrb h0 k hk
      rcases List.mem_cons.1 hm with rfl | hm
      · omega
      · have := (hlt.2 k (by simpa using hm)).1; omega)
  have RECS := hide recsAt
  have topsAt : ∀ wi si bi, MkTo wT As.errN w0 wi wb base s0 si bi → TopsAt wi (.slice ta topics.length tc) topics := fun wi si bi hg =>
    (htop.still hal).kept' hg.2.1 (fun h0 k hk hm => by
      have h1 := htb h0 k hk
      rcases List.mem_cons.1 hm with rfl | hm
      · omega
      · have := (hlt.2 k (by simpa using hm)).1; omega)
  have TOPS := hide topsAt
  have hsz0 : base ≤ w0.heap.size := by have := hal.size; omega
  have BOX := hide box
  have FIN := hide fin
  have HT0 := hide hm0.self
  have HW0 := hide hw0
  have HLT := hide hlt
  clear h box fin hm0 hal hbox hw0 hlt recsAt topsAt hrec htop hrb htb hn0 hlt3
  go_enter Tryd.func49, Tryd.ntmps49
  go_upto_region 1 with fail
  rw [show w.alloc (.cells #[.int .i64 5, .int .i64 corr, .int .i64 0, .int .i64 offset, .int .i64 start, .int .i64 fin, .bool found, .slice a recs.length c, .slice ta topics.length tc] 57) = w0 from HW0.out.symm]
  obtain ⟨z0, q0, q1, q2, q3, q4, q5, q6, q7, q8⟩ := BOX.out _ _ _ HT0.out
  go_wp2_with fail
  refine (numbers_new _ wb base s0 b0 HT0.out.1 (by omega) [5, corr, 0] (by rfl) (by rfl) (by rfl) (by simp) (by omega)).mono ?_
  rintro e wz1 ⟨rfl, s1, hto⟩
  have HT1 := hide (HT0.out.trans hto)
  clear hto
  have hl1 := pStep_len b0 (.ns [5, corr, 0]) (by simp)
  have e2 : nums (cut b0) [5, corr, 0] = pStep b0 (.ns [5, corr, 0]) := rfl
  rw [e2] at HT1
  clear e2
  obtain ⟨b1, hb⟩ : ∃ b, b = pStep b0 (.ns [5, corr, 0]) := ⟨_, rfl⟩
  rw [← hb] at HT1 hl1
  have HB1 := hide hb
  clear hb
  have hsz1 := HT1.out.2.1.size
  clear z0 q0 q1 q2 q3 q4 q5 q6 q7 q8
  obtain ⟨z0, q0, q1, q2, q3, q4, q5, q6, q7, q8⟩ := BOX.out _ _ _ HT1.out
  go_wp2
  go_end0
  exact ⟨rfl, FIN.out _ _ _ HT1.out (by rw [HB1.out]; rfl)⟩
set_option maxHeartbeats 8000000 in
theorem wans6_any (w : World) (wb base : Nat) (s0 : Value) (b0 : WS) (h : MkAt wT As.errN w wb base s0 b0) (hbase : base ≤ w.heap.size) (hwb : base ≤ wb) (corr offset start fin : Int) (found : Bool) (recs : List Bt.Rec) (topics : List Tp) (a ta : Option Addr) (c tc : Nat) (hrec : RecsAt w (.slice a recs.length c) recs) (htop : TopsAt w (.slice ta topics.length tc) topics) (hrb : recs ≠ [] → ∀ k ∈ (Value.slice a recs.length c).ownBlock, k < base) (htb : topics ≠ [] → ∀ k ∈ (Value.slice ta topics.length tc).ownBlock, k < base) (hl0 : b0.1.length ≤ 12000) :
    Calls Tryd.prog 49 #[.pointer (some ⟨wb, 0, none⟩), .agg #[.int .i64 6, .int .i64 corr, .int .i64 0, .int .i64 offset, .int .i64 start, .int .i64 fin, .bool found, .slice a recs.length c, .slice ta topics.length tc]] w fun e w' => e = .returned (.tuple #[]) ∧ ∃ sv', MkTo wT As.errN w w' wb base s0 sv' (pRun b0 (ansCl ⟨6, corr, 0, offset, start, fin, found, recs, topics⟩)) := by
  obtain ⟨a', c', ea, hlc, hcm, hn0, hp⟩ := hrec.form
  simp only [Value.slice.injEq, true_and] at ea
  obtain ⟨rfl, rfl⟩ := ea
  obtain ⟨ta', tc', ea, hlt1, hlt2, hlt3, hpt⟩ := htop.form
  simp only [Value.slice.injEq, true_and] at ea
  obtain ⟨rfl, rfl⟩ := ea
  have hmx : maxLen = 9223372036854775807 := by simp [maxLen]
  rw [hmx] at hcm hlt2
  have hlt := h.lt
  obtain ⟨w0, hw0⟩ : ∃ w0, w0 = w.alloc (.cells #[.int .i64 6, .int .i64 corr, .int .i64 0, .int .i64 offset, .int .i64 start, .int .i64 fin, .bool found, .slice a recs.length c, .slice ta topics.length tc] 57) := ⟨_, rfl⟩
  have hbox : w0.heap[w.heap.size]? = some (.cells #[.int .i64 6, .int .i64 corr, .int .i64 0, .int .i64 offset, .int .i64 start, .int .i64 fin, .bool found, .slice a recs.length c, .slice ta topics.length tc] 57 (0, 0)) := by rw [hw0]; exact heap_new w _
  have hal : Turn [] w w0 := by rw [hw0]; exact (Turn.refl [] w).alloc _
  have hm0 := h.still hal
  have box : ∀ wi si bi, MkTo wT As.errN w0 wi wb base s0 si bi → w.heap.size < wi.heap.size ∧ wi.cell? ⟨w.heap.size, 0, none⟩ = some (.int .i64 6) ∧ wi.cell? ⟨w.heap.size, 1, none⟩ = some (.int .i64 corr) ∧ wi.cell? ⟨w.heap.size, 2, none⟩ = some (.int .i64 0) ∧ wi.cell? ⟨w.heap.size, 3, none⟩ = some (.int .i64 offset) ∧ wi.cell? ⟨w.heap.size, 4, none⟩ = some (.int .i64 start) ∧ wi.cell? ⟨w.heap.size, 5, none⟩ = some (.int .i64 fin) ∧ wi.cell? ⟨w.heap.size, 6, none⟩ = some (.bool found) ∧ wi.cell? ⟨w.heap.size, 7, none⟩ = some (.slice a recs.length c) ∧ wi.cell? ⟨w.heap.size, 8, none⟩ = some (.slice ta topics.length tc) :=
    fun wi si bi h2 => by
      have hb := h2.box hbox (by omega) (fun x hx => by have := (hlt.2 x hx).2; omega)
      exact ⟨lt_of_heap hb, by simpa [strV] using cell_of hb 0, by simpa [strV] using cell_of hb 1, by simpa [strV] using cell_of hb 2, by simpa [strV] using cell_of hb 3, by simpa [strV] using cell_of hb 4, by simpa [strV] using cell_of hb 5, by simpa [strV] using cell_of hb 6, by simpa [strV] using cell_of hb 7, by simpa [strV] using cell_of hb 8⟩
  have fin : ∀ wi si bi, MkTo wT As.errN w0 wi wb base s0 si bi → bi = pRun b0 (ansCl ⟨6, corr, 0, offset, start, fin, found, recs, topics⟩) → ∃ sv', MkTo wT As.errN w wi wb base s0 sv' (pRun b0 (ansCl ⟨6, corr, 0, offset, start, fin, found, recs, topics⟩)) :=
    fun wi si bi h2 e => ⟨si, e ▸ MkTo.pre hal h2⟩
  have recsAt : ∀ wi si bi, MkTo wT As.errN w0 wi wb base s0 si bi → RecsAt wi (.slice a recs.length c) recs := fun wi si bi hg =>
    (hrec.still hal).kept' hg.2.1 (fun h0 k hk hm => by
      have h1 := hrb h0 k hk
      rcases List.mem_cons.1 hm with rfl | hm
      · omega
      · have := (hlt.2 k (by simpa using hm)).1; omega)
  have RECS := hide recsAt
  have topsAt : ∀ wi si bi, MkTo wT As.errN w0 wi wb base s0 si bi → TopsAt wi (.slice ta topics.length tc) topics := fun wi si bi hg =>
    (htop.still hal).kept' hg.2.1 (fun h0 k hk hm => by
      have h1 := htb h0 k hk
      rcases List.mem_cons.1 hm with rfl | hm
      · omega
      · have := (hlt.2 k (by simpa using hm)).1; omega)
  have TOPS := hide topsAt
  have hsz0 : base ≤ w0.heap.size := by have := hal.size; omega
  have BOX := hide box
  have FIN := hide fin
  have HT0 := hide hm0.self
  have HW0 := hide hw0
  have HLT := hide hlt
  clear h box fin hm0 hal hbox hw0 hlt recsAt topsAt hrec htop hrb htb hn0 hlt3
  go_enter Tryd.func49, Tryd.ntmps49
  go_upto_region 1 with fail
  rw [show w.alloc (.cells #[.int .i64 6, .int .i64 corr, .int .i64 0, .int .i64 offset, .int .i64 start, .int .i64 fin, .bool found, .slice a recs.length c, .slice ta topics.length tc] 57) = w0 from HW0.out.symm]
  obtain ⟨z0, q0, q1, q2, q3, q4, q5, q6, q7, q8⟩ := BOX.out _ _ _ HT0.out
  go_wp2_with fail
  refine (numbers_new _ wb base s0 b0 HT0.out.1 (by omega) [6, corr, 0] (by rfl) (by rfl) (by rfl) (by simp) (by omega)).mono ?_
  rintro e wz1 ⟨rfl, s1, hto⟩
  have HT1 := hide (HT0.out.trans hto)
  clear hto
  have hl1 := pStep_len b0 (.ns [6, corr, 0]) (by simp)
  have e2 : nums (cut b0) [6, corr, 0] = pStep b0 (.ns [6, corr, 0]) := rfl
  rw [e2] at HT1
  clear e2
  obtain ⟨b1, hb⟩ : ∃ b, b = pStep b0 (.ns [6, corr, 0]) := ⟨_, rfl⟩
  rw [← hb] at HT1 hl1
  have HB1 := hide hb
  clear hb
  have hsz1 := HT1.out.2.1.size
  clear z0 q0 q1 q2 q3 q4 q5 q6 q7 q8
  obtain ⟨z0, q0, q1, q2, q3, q4, q5, q6, q7, q8⟩ := BOX.out _ _ _ HT1.out
  go_wp2
  go_end0
  exact ⟨rfl, FIN.out _ _ _ HT1.out (by rw [HB1.out]; rfl)⟩
set_option maxHeartbeats 8000000 in
theorem wans7_any (w : World) (wb base : Nat) (s0 : Value) (b0 : WS) (h : MkAt wT As.errN w wb base s0 b0) (hbase : base ≤ w.heap.size) (hwb : base ≤ wb) (corr offset start fin : Int) (found : Bool) (recs : List Bt.Rec) (topics : List Tp) (a ta : Option Addr) (c tc : Nat) (hrec : RecsAt w (.slice a recs.length c) recs) (htop : TopsAt w (.slice ta topics.length tc) topics) (hrb : recs ≠ [] → ∀ k ∈ (Value.slice a recs.length c).ownBlock, k < base) (htb : topics ≠ [] → ∀ k ∈ (Value.slice ta topics.length tc).ownBlock, k < base) (hl0 : b0.1.length ≤ 12000) :
    Calls Tryd.prog 49 #[.pointer (some ⟨wb, 0, none⟩), .agg #[.int .i64 7, .int .i64 corr, .int .i64 0, .int .i64 offset, .int .i64 start, .int .i64 fin, .bool found, .slice a recs.length c, .slice ta topics.length tc]] w fun e w' => e = .returned (.tuple #[]) ∧ ∃ sv', MkTo wT As.errN w w' wb base s0 sv' (pRun b0 (ansCl ⟨7, corr, 0, offset, start, fin, found, recs, topics⟩)) := by
  obtain ⟨a', c', ea, hlc, hcm, hn0, hp⟩ := hrec.form
  simp only [Value.slice.injEq, true_and] at ea
  obtain ⟨rfl, rfl⟩ := ea
  obtain ⟨ta', tc', ea, hlt1, hlt2, hlt3, hpt⟩ := htop.form
  simp only [Value.slice.injEq, true_and] at ea
  obtain ⟨rfl, rfl⟩ := ea
  have hmx : maxLen = 9223372036854775807 := by simp [maxLen]
  rw [hmx] at hcm hlt2
  have hlt := h.lt
  obtain ⟨w0, hw0⟩ : ∃ w0, w0 = w.alloc (.cells #[.int .i64 7, .int .i64 corr, .int .i64 0, .int .i64 offset, .int .i64 start, .int .i64 fin, .bool found, .slice a recs.length c, .slice ta topics.length tc] 57) := ⟨_, rfl⟩
  have hbox : w0.heap[w.heap.size]? = some (.cells #[.int .i64 7, .int .i64 corr, .int .i64 0, .int .i64 offset, .int .i64 start, .int .i64 fin, .bool found, .slice a recs.length c, .slice ta topics.length tc] 57 (0, 0)) := by rw [hw0]; exact heap_new w _
  have hal : Turn [] w w0 := by rw [hw0]; exact (Turn.refl [] w).alloc _
  have hm0 := h.still hal
  have box : ∀ wi si bi, MkTo wT As.errN w0 wi wb base s0 si bi → w.heap.size < wi.heap.size ∧ wi.cell? ⟨w.heap.size, 0, none⟩ = some (.int .i64 7) ∧ wi.cell? ⟨w.heap.size, 1, none⟩ = some (.int .i64 corr) ∧ wi.cell? ⟨w.heap.size, 2, none⟩ = some (.int .i64 0) ∧ wi.cell? ⟨w.heap.size, 3, none⟩ = some (.int .i64 offset) ∧ wi.cell? ⟨w.heap.size, 4, none⟩ = some (.int .i64 start) ∧ wi.cell? ⟨w.heap.size, 5, none⟩ = some (.int .i64 fin) ∧ wi.cell? ⟨w.heap.size, 6, none⟩ = some (.bool found) ∧ wi.cell? ⟨w.heap.size, 7, none⟩ = some (.slice a recs.length c) ∧ wi.cell? ⟨w.heap.size, 8, none⟩ = some (.slice ta topics.length tc) :=
    fun wi si bi h2 => by
      have hb := h2.box hbox (by omega) (fun x hx => by have := (hlt.2 x hx).2; omega)
      exact ⟨lt_of_heap hb, by simpa [strV] using cell_of hb 0, by simpa [strV] using cell_of hb 1, by simpa [strV] using cell_of hb 2, by simpa [strV] using cell_of hb 3, by simpa [strV] using cell_of hb 4, by simpa [strV] using cell_of hb 5, by simpa [strV] using cell_of hb 6, by simpa [strV] using cell_of hb 7, by simpa [strV] using cell_of hb 8⟩
  have fin : ∀ wi si bi, MkTo wT As.errN w0 wi wb base s0 si bi → bi = pRun b0 (ansCl ⟨7, corr, 0, offset, start, fin, found, recs, topics⟩) → ∃ sv', MkTo wT As.errN w wi wb base s0 sv' (pRun b0 (ansCl ⟨7, corr, 0, offset, start, fin, found, recs, topics⟩)) :=
    fun wi si bi h2 e => ⟨si, e ▸ MkTo.pre hal h2⟩
  have recsAt : ∀ wi si bi, MkTo wT As.errN w0 wi wb base s0 si bi → RecsAt wi (.slice a recs.length c) recs := fun wi si bi hg =>
    (hrec.still hal).kept' hg.2.1 (fun h0 k hk hm => by
      have h1 := hrb h0 k hk
      rcases List.mem_cons.1 hm with rfl | hm
      · omega
      · have := (hlt.2 k (by simpa using hm)).1; omega)
  have RECS := hide recsAt
  have topsAt : ∀ wi si bi, MkTo wT As.errN w0 wi wb base s0 si bi → TopsAt wi (.slice ta topics.length tc) topics := fun wi si bi hg =>
    (htop.still hal).kept' hg.2.1 (fun h0 k hk hm => by
      have h1 := htb h0 k hk
      rcases List.mem_cons.1 hm with rfl | hm
      · omega
      · have := (hlt.2 k (by simpa using hm)).1; omega)
  have TOPS := hide topsAt
  have hsz0 : base ≤ w0.heap.size := by have := hal.size; omega
  have BOX := hide box
  have FIN := hide fin
  have HT0 := hide hm0.self
  have HW0 := hide hw0
  have HLT := hide hlt
  clear h box fin hm0 hal hbox hw0 hlt recsAt topsAt hrec htop hrb htb hn0 hlt3
  go_enter Tryd.func49, Tryd.ntmps49
  go_upto_region 1 with fail
  rw [show w.alloc (.cells #[.int .i64 7, .int .i64 corr, .int .i64 0, .int .i64 offset, .int .i64 start, .int .i64 fin, .bool found, .slice a recs.length c, .slice ta topics.length tc] 57) = w0 from HW0.out.symm]
  obtain ⟨z0, q0, q1, q2, q3, q4, q5, q6, q7, q8⟩ := BOX.out _ _ _ HT0.out
  go_wp2_with fail
  refine (numbers_new _ wb base s0 b0 HT0.out.1 (by omega) [7, corr, 0] (by rfl) (by rfl) (by rfl) (by simp) (by omega)).mono ?_
  rintro e wz1 ⟨rfl, s1, hto⟩
  have HT1 := hide (HT0.out.trans hto)
  clear hto
  have hl1 := pStep_len b0 (.ns [7, corr, 0]) (by simp)
  have e2 : nums (cut b0) [7, corr, 0] = pStep b0 (.ns [7, corr, 0]) := rfl
  rw [e2] at HT1
  clear e2
  obtain ⟨b1, hb⟩ : ∃ b, b = pStep b0 (.ns [7, corr, 0]) := ⟨_, rfl⟩
  rw [← hb] at HT1 hl1
  have HB1 := hide hb
  clear hb
  have hsz1 := HT1.out.2.1.size
  clear z0 q0 q1 q2 q3 q4 q5 q6 q7 q8
  obtain ⟨z0, q0, q1, q2, q3, q4, q5, q6, q7, q8⟩ := BOX.out _ _ _ HT1.out
  go_wp2_with fail
  refine (numbers_new _ wb base s1 b1 HT1.out.1 (by omega) [(topics.length : Int)] (by rfl) (by rfl) (by rfl) (by simp) (by omega)).mono ?_
  rintro e wz2 ⟨rfl, s2, hto⟩
  have HT2 := hide (HT1.out.trans hto)
  clear hto
  have hl2 := pStep_len b1 (.ns [(topics.length : Int)]) (by simp)
  have e2 : nums (cut b1) [(topics.length : Int)] = pStep b1 (.ns [(topics.length : Int)]) := rfl
  rw [e2] at HT2
  clear e2
  obtain ⟨b2, hb⟩ : ∃ b, b = pStep b1 (.ns [(topics.length : Int)]) := ⟨_, rfl⟩
  rw [← hb] at HT2 hl2
  have HB2 := hide hb
  clear hb
  have hsz2 := HT2.out.2.1.size
  clear z0 q0 q1 q2 q3 q4 q5 q6 q7 q8
  obtain ⟨z0, q0, q1, q2, q3, q4, q5, q6, q7, q8⟩ := BOX.out _ _ _ HT2.out
  go_wp2
  go_loopw [90] (fun iv wr => ∃ (j : Nat) (sr : Value), j ≤ topics.length ∧ iv = .int .i64 (j : Int) ∧ MkTo wT As.errN w0 wr wb base s0 sr (pRun b2 ((topics.take j).flatMap tpCl))) (fun iv _ => topics.length - (intOf iv).toNat)
  case atStart => exact ⟨0, _, Nat.zero_le _, rfl, HT2.out⟩
  case round =>
    obtain ⟨j, sr, hj, rfl, hr⟩ := hrel
    have hszr := hr.2.1.size
    have hrl := pRun_len b2 ((topics.take j).flatMap tpCl) hl2 (fun c hc => by obtain ⟨x, -, hc⟩ := List.mem_flatMap.1 hc; exact tpCl_sz x c hc)
    clear z0 q0 q1 q2 q3 q4 q5 q6 q7 q8
    obtain ⟨z0, q0, q1, q2, q3, q4, q5, q6, q7, q8⟩ := BOX.out _ _ _ hr
    by_cases hlt : j < topics.length
    · have hlt1 : (j : Int) < topics.length := by omega
      obtain ⟨p, rfl⟩ := hpt j hlt
      obtain ⟨g0, g1, g2⟩ := (TOPS.out _ _ _ hr).three hlt
      have hok := (TOPS.out _ _ _ hr).ok hlt
      have hsn := pRun_snoc tpCl b2 hlt
      obtain ⟨r, hrr⟩ : ∃ r, r = topics[j] := ⟨_, rfl⟩
      rw [← hrr] at g0 g1 g2 hok hsn
      obtain ⟨t, ht⟩ : ∃ t, t = pRun b2 ((topics.take j).flatMap tpCl) := ⟨_, rfl⟩
      rw [← ht] at hsn hr hrl
      have HR := hide hr
      have HOK := hide hok
      have HSN := hide hsn
      clear hrr ht hr hok hsn
      obtain ⟨wa, hwa⟩ : ∃ wa, wa = wr.alloc (.cells #[.string ⟨r.name.toArray⟩, .int .i64 r.parts, .bool r.compact] 102) := ⟨_, rfl⟩
      have hta : Turn [] wr wa := by rw [hwa]; exact (Turn.refl [] wr).alloc _
      have hbx : wa.heap[wr.heap.size]? = some (.cells #[.string ⟨r.name.toArray⟩, .int .i64 r.parts, .bool r.compact] 102 (0, 0)) := by rw [hwa]; exact heap_new wr _
      have hla := HR.out.1.lt
      have box2 : ∀ wi si bi, MkTo wT As.errN wa wi wb base sr si bi → wr.heap.size < wi.heap.size ∧ wi.cell? ⟨wr.heap.size, 0, none⟩ = some (.string ⟨r.name.toArray⟩) ∧ wi.cell? ⟨wr.heap.size, 1, none⟩ = some (.int .i64 r.parts) ∧ wi.cell? ⟨wr.heap.size, 2, none⟩ = some (.bool r.compact) := fun wi si bi h2 => by
        have hb := h2.box hbx (by omega) (fun x hx => by have := (hla.2 x hx).2; omega)
        exact ⟨lt_of_heap hb, by simpa using cell_of hb 0, by simpa using cell_of hb 1, by simpa using cell_of hb 2⟩
      have BOX2 := hide box2
      have HMA := hide (HR.out.1.still hta).self
      have HTA := hide hta
      have HWA := hide hwa
      have hsa := hta.size
      have hra := pStep_len t (.tx r.name 40) (by simp)
      have hnm := HOK.out.name
      clear box2 hbx hla hwa hta
      go_upto_region 25 with fail
      rw [show wr.alloc (.cells #[.string ⟨r.name.toArray⟩, .int .i64 r.parts, .bool r.compact] 102) = wa from HWA.out.symm]
      obtain ⟨y0, y1, y2, y3⟩ := BOX2.out _ _ _ HMA.out
      go_wp2_with fail
      refine (text_any wa wb base sr t HMA.out.1 (by omega) r.name 40 (by omega) hnm (by omega)).mono ?_
      rintro e wx ⟨rfl, s3, hto⟩
      have HT3 := hide (HMA.out.trans hto)
      have hs3 := HT3.out.2.1.size
      clear hto y0 y1 y2 y3 g0 g1 g2
      go_wp2
      refine wp_region_tail 7 (Turn []) (by kernel_rfl) (by kernel_rfl) (by kernel_rfl) (by kernel_rfl) (by kernel_rfl) (Nat.le_of_ble_eq_true rfl) rfl (Turn.refl _) (fun _ _ _ h k => h.same k) ?_
      apply Lo.runx 1 rfl rfl [] (by kernel_rfl) (Turn.refl _)
      apply Exists.intro; apply And.intro
      · intro u w1 hR hF
        clear hF
        refine ⟨rfl, fun a ha K hK => ?_⟩
        have e0 := ha 0
        conv at e0 => rhs; whnf
        clear ha
        go_simp
        refine hK _ ?_; rfl
      apply Lo.runx 2 rfl rfl [] (by kernel_rfl) (Turn.refl _)
      apply Exists.intro; apply And.intro
      · intro u w1 hR hF
        clear hF
        refine ⟨rfl, fun a ha K hK => ?_⟩
        have e7 := ha 7
        conv at e7 => rhs; whnf
        clear ha
        go_simp
        refine hK _ ?_; rfl
      apply Lo.runx 3 rfl rfl [1] (by kernel_rfl) (Turn.refl _)
      apply Exists.intro; apply And.intro
      · intro u w1 hR hF
        obtain ⟨h1, -⟩ := hF
        refine ⟨rfl, fun a ha K hK => ?_⟩
        have e99 := (ha 99).trans h1
        clear ha h1
        obtain ⟨y0, y1, y2, y3⟩ := BOX2.out w1 _ _ (HT3.out.still (((Turn.refl [] _).drew).same hR))
        go_simp
        refine hK _ ?_; rfl
      apply Lo.runx 4 rfl rfl [] (by kernel_rfl) (Turn.refl _)
      apply Exists.intro; apply And.intro
      · intro u w1 hR hF
        clear hF
        refine ⟨rfl, fun a ha K hK => ?_⟩
        have e7 := ha 7
        conv at e7 => rhs; whnf
        clear ha
        go_simp
        refine hK _ ?_; rfl
      apply Lo.runx 5 rfl rfl [3] (by kernel_rfl) (Turn.refl _)
      apply Exists.intro; apply And.intro
      · intro u w1 hR hF
        obtain ⟨h3, -⟩ := hF
        refine ⟨rfl, fun a ha K hK => ?_⟩
        have e101 := (ha 101).trans h3
        clear ha h3
        obtain ⟨y0, y1, y2, y3⟩ := BOX2.out w1 _ _ (HT3.out.still (((Turn.refl [] _).drew).same hR))
        go_simp
        refine hK _ ?_; rfl
      refine Lo.run 6 rfl rfl [4] (fun y _ => y = .int .i64 (tr r.compact)) (by kernel_rfl) (fun x w w' h hR => ?_) (fun _ _ h => h) (fun u w1 hR hF => ?_) ?_
      · exact h
      · obtain ⟨h4, -⟩ := hF
        refine ⟨rfl, fun a ha K hK => ?_⟩
        have e102 := (ha 102).trans h4
        clear ha h4
        go_simp
        refine (truth_any _ r.compact).mono ?_
        rintro e w2 ⟨rfl, rfl⟩
        exact hK _ _ rfl (Turn.refl _ _)
      refine Lo.run 7 rfl rfl [2, 5] (fun y w' => ∃ k, y = .slice (some ⟨k, 0, none⟩) 2 2 ∧ w'.heap[k]? = some (.cells (intsZ [r.parts, tr r.compact]) 3 (0, 0))) (by kernel_rfl) (fun x w w' h hR => ?_) (fun _ _ h => h) (fun u w1 hR hF => ?_) ?_
      · obtain ⟨k, h1, h2⟩ := h; exact ⟨k, h1, hR.heap h2 (by simp)⟩
      · obtain ⟨h2, h5, -⟩ := hF
        refine ⟨rfl, fun a ha K hK => ?_⟩
        have e100 := (ha 100).trans h2
        have e103 : a.tmps.getD 103 undef = u 5 := ha 103
        have h5 := (show (fun y _ => y = .int .i64 (tr r.compact)) (u 5) w1 from h5)
        dsimp only at h5
        clear ha h2
        have e100' : a.tmps[100]?.getD undef = .int .i64 r.parts := by rw [← Array.getD_eq_getD_getElem?, e100]
        have e103' : a.tmps[103]?.getD undef = .int .i64 (tr r.compact) := by rw [← Array.getD_eq_getD_getElem?, e103]; exact h5
        go_simp
        exact hK _ _ ⟨w1.heap.size, rfl, heap_new w1 _⟩ ((Turn.refl _ _).alloc _)
      refine Lo.done [0, 6] (fun u w1 hRd hSd hF => ?_)
      clear hSd
      obtain ⟨f0, f6, -⟩ := hF
      have d0 : u 0 = _ := f0
      have d6 := (show (fun y w' => ∃ k, y = .slice (some ⟨k, 0, none⟩) 2 2 ∧ w'.heap[k]? = some (.cells (intsZ [r.parts, tr r.compact]) 3 (0, 0))) (u 6) w1 from f6)
      dsimp only at d6
      clear f0 f6
      simp only [List.take_succ_cons, List.take_zero, List.drop_succ_cons, List.drop_zero, putFrom, Act.put, List.setIfInBounds_toArray, List.set_cons_succ, List.set_cons_zero, Nat.zero_add, Nat.reduceAdd, d0]
      have ht1 := ((Turn.refl [] _).drew).same hRd
      have hm1 := HT3.out.still ht1
      obtain ⟨k, hk1, hk2⟩ := d6
      have HM1 := hide hm1
      have HK2 := hide hk2
      have hs1 := ht1.size
      rw [hk1]
      clear hRd ht1 hm1 hk1 hk2
      go_wp2_with fail
      refine (numbers_any w1 wb base s3 _ HM1.out.1 (by omega) k [r.parts, tr r.compact] HK2.out (by simp) (by omega)).mono ?_
      rintro e wy ⟨rfl, s4, hto⟩
      have HT := hide (HR.out.trans (MkTo.pre HTA.out (HM1.out.trans hto)))
      clear hto HM1 HK2
      go_wp2
      refine ⟨⟨j + 1, s4, by omega, by go_num, by rw [HSN.out]; exact HT.out⟩, ?_⟩
      simp only [intOf]; omega
    · obtain rfl : j = topics.length := by omega
      have hlt1 : ¬ (topics.length : Int) < topics.length := by omega
      have HR := hide hr
      clear hr
      go_wp2
      go_end0
      refine ⟨rfl, FIN.out _ _ _ HR.out ?_⟩
      rw [List.take_of_length_le (Nat.le_refl _), HB2.out, HB1.out]
      rfl
set_option maxHeartbeats 8000000 in
theorem wans3t_any (w : World) (wb base : Nat) (s0 : Value) (b0 : WS) (h : MkAt wT As.errN w wb base s0 b0) (hbase : base ≤ w.heap.size) (hwb : base ≤ wb) (corr offset start fin : Int) (recs : List Bt.Rec) (topics : List Tp) (a ta : Option Addr) (c tc : Nat) (hrec : RecsAt w (.slice a recs.length c) recs) (htop : TopsAt w (.slice ta topics.length tc) topics) (hrb : recs ≠ [] → ∀ k ∈ (Value.slice a recs.length c).ownBlock, k < base) (htb : topics ≠ [] → ∀ k ∈ (Value.slice ta topics.length tc).ownBlock, k < base) (hl0 : b0.1.length ≤ 12000) :
    Calls Tryd.prog 49 #[.pointer (some ⟨wb, 0, none⟩), .agg #[.int .i64 3, .int .i64 corr, .int .i64 0, .int .i64 offset, .int .i64 start, .int .i64 fin, .bool true, .slice a recs.length c, .slice ta topics.length tc]] w fun e w' => e = .returned (.tuple #[]) ∧ ∃ sv', MkTo wT As.errN w w' wb base s0 sv' (pRun b0 (ansCl ⟨3, corr, 0, offset, start, fin, true, recs, topics⟩)) := by
  obtain ⟨a', c', ea, hlc, hcm, hn0, hp⟩ := hrec.form
  simp only [Value.slice.injEq, true_and] at ea
  obtain ⟨rfl, rfl⟩ := ea
  obtain ⟨ta', tc', ea, hlt1, hlt2, hlt3, hpt⟩ := htop.form
  simp only [Value.slice.injEq, true_and] at ea
  obtain ⟨rfl, rfl⟩ := ea
  have hmx : maxLen = 9223372036854775807 := by simp [maxLen]
  rw [hmx] at hcm hlt2
  have hlt := h.lt
  obtain ⟨w0, hw0⟩ : ∃ w0, w0 = w.alloc (.cells #[.int .i64 3, .int .i64 corr, .int .i64 0, .int .i64 offset, .int .i64 start, .int .i64 fin, .bool true, .slice a recs.length c, .slice ta topics.length tc] 57) := ⟨_, rfl⟩
  have hbox : w0.heap[w.heap.size]? = some (.cells #[.int .i64 3, .int .i64 corr, .int .i64 0, .int .i64 offset, .int .i64 start, .int .i64 fin, .bool true, .slice a recs.length c, .slice ta topics.length tc] 57 (0, 0)) := by rw [hw0]; exact heap_new w _
  have hal : Turn [] w w0 := by rw [hw0]; exact (Turn.refl [] w).alloc _
  have hm0 := h.still hal
  have box : ∀ wi si bi, MkTo wT As.errN w0 wi wb base s0 si bi → w.heap.size < wi.heap.size ∧ wi.cell? ⟨w.heap.size, 0, none⟩ = some (.int .i64 3) ∧ wi.cell? ⟨w.heap.size, 1, none⟩ = some (.int .i64 corr) ∧ wi.cell? ⟨w.heap.size, 2, none⟩ = some (.int .i64 0) ∧ wi.cell? ⟨w.heap.size, 3, none⟩ = some (.int .i64 offset) ∧ wi.cell? ⟨w.heap.size, 4, none⟩ = some (.int .i64 start) ∧ wi.cell? ⟨w.heap.size, 5, none⟩ = some (.int .i64 fin) ∧ wi.cell? ⟨w.heap.size, 6, none⟩ = some (.bool true) ∧ wi.cell? ⟨w.heap.size, 7, none⟩ = some (.slice a recs.length c) ∧ wi.cell? ⟨w.heap.size, 8, none⟩ = some (.slice ta topics.length tc) :=
    fun wi si bi h2 => by
      have hb := h2.box hbox (by omega) (fun x hx => by have := (hlt.2 x hx).2; omega)
      exact ⟨lt_of_heap hb, by simpa [strV] using cell_of hb 0, by simpa [strV] using cell_of hb 1, by simpa [strV] using cell_of hb 2, by simpa [strV] using cell_of hb 3, by simpa [strV] using cell_of hb 4, by simpa [strV] using cell_of hb 5, by simpa [strV] using cell_of hb 6, by simpa [strV] using cell_of hb 7, by simpa [strV] using cell_of hb 8⟩
  have fin : ∀ wi si bi, MkTo wT As.errN w0 wi wb base s0 si bi → bi = pRun b0 (ansCl ⟨3, corr, 0, offset, start, fin, true, recs, topics⟩) → ∃ sv', MkTo wT As.errN w wi wb base s0 sv' (pRun b0 (ansCl ⟨3, corr, 0, offset, start, fin, true, recs, topics⟩)) :=
    fun wi si bi h2 e => ⟨si, e ▸ MkTo.pre hal h2⟩
  have recsAt : ∀ wi si bi, MkTo wT As.errN w0 wi wb base s0 si bi → RecsAt wi (.slice a recs.length c) recs := fun wi si bi hg =>
    (hrec.still hal).kept' hg.2.1 (fun h0 k hk hm => by
      have h1 := hrb h0 k hk
      rcases List.mem_cons.1 hm with rfl | hm
      · omega
      · have := (hlt.2 k (by simpa using hm)).1; omega)
  have RECS := hide recsAt
  have topsAt : ∀ wi si bi, MkTo wT As.errN w0 wi wb base s0 si bi → TopsAt wi (.slice ta topics.length tc) topics := fun wi si bi hg =>
    (htop.still hal).kept' hg.2.1 (fun h0 k hk hm => by
      have h1 := htb h0 k hk
      rcases List.mem_cons.1 hm with rfl | hm
      · omega
      · have := (hlt.2 k (by simpa using hm)).1; omega)
  have TOPS := hide topsAt
  have hsz0 : base ≤ w0.heap.size := by have := hal.size; omega
  have BOX := hide box
  have FIN := hide fin
  have HT0 := hide hm0.self
  have HW0 := hide hw0
  have HLT := hide hlt
  clear h box fin hm0 hal hbox hw0 hlt recsAt topsAt hrec htop hrb htb hn0 hlt3
  go_enter Tryd.func49, Tryd.ntmps49
  go_upto_region 1 with fail
  rw [show w.alloc (.cells #[.int .i64 3, .int .i64 corr, .int .i64 0, .int .i64 offset, .int .i64 start, .int .i64 fin, .bool true, .slice a recs.length c, .slice ta topics.length tc] 57) = w0 from HW0.out.symm]
  obtain ⟨z0, q0, q1, q2, q3, q4, q5, q6, q7, q8⟩ := BOX.out _ _ _ HT0.out
  go_wp2_with fail
  refine (numbers_new _ wb base s0 b0 HT0.out.1 (by omega) [3, corr, 0] (by rfl) (by rfl) (by rfl) (by simp) (by omega)).mono ?_
  rintro e wz1 ⟨rfl, s1, hto⟩
  have HT1 := hide (HT0.out.trans hto)
  clear hto
  have hl1 := pStep_len b0 (.ns [3, corr, 0]) (by simp)
  have e2 : nums (cut b0) [3, corr, 0] = pStep b0 (.ns [3, corr, 0]) := rfl
  rw [e2] at HT1
  clear e2
  obtain ⟨b1, hb⟩ : ∃ b, b = pStep b0 (.ns [3, corr, 0]) := ⟨_, rfl⟩
  rw [← hb] at HT1 hl1
  have HB1 := hide hb
  clear hb
  have hsz1 := HT1.out.2.1.size
  clear z0 q0 q1 q2 q3 q4 q5 q6 q7 q8
  obtain ⟨z0, q0, q1, q2, q3, q4, q5, q6, q7, q8⟩ := BOX.out _ _ _ HT1.out
  go_wp2_with fail
  refine (truth_any _ true).mono ?_
  rintro e wt ⟨rfl, rfl⟩
  go_wp2_with fail
  refine (numbers_new _ wb base s1 b1 HT1.out.1 (by omega) [tr true] (by rfl) (by rfl) (by rfl) (by simp) (by omega)).mono ?_
  rintro e wz2 ⟨rfl, s2, hto⟩
  have HT2 := hide (HT1.out.trans hto)
  clear hto
  have hl2 := pStep_len b1 (.ns [tr true]) (by simp)
  have e2 : nums (cut b1) [tr true] = pStep b1 (.ns [tr true]) := rfl
  rw [e2] at HT2
  clear e2
  obtain ⟨b2, hb⟩ : ∃ b, b = pStep b1 (.ns [tr true]) := ⟨_, rfl⟩
  rw [← hb] at HT2 hl2
  have HB2 := hide hb
  clear hb
  have hsz2 := HT2.out.2.1.size
  clear z0 q0 q1 q2 q3 q4 q5 q6 q7 q8
  obtain ⟨z0, q0, q1, q2, q3, q4, q5, q6, q7, q8⟩ := BOX.out _ _ _ HT2.out
  go_wp2_with fail
  refine (numbers_new _ wb base s2 b2 HT2.out.1 (by omega) [offset] (by rfl) (by rfl) (by rfl) (by simp) (by omega)).mono ?_
  rintro e wz3 ⟨rfl, s3, hto⟩
  have HT3 := hide (HT2.out.trans hto)
  clear hto
  have hl3 := pStep_len b2 (.ns [offset]) (by simp)
  have e2 : nums (cut b2) [offset] = pStep b2 (.ns [offset]) := rfl
  rw [e2] at HT3
  clear e2
  obtain ⟨b3, hb⟩ : ∃ b, b = pStep b2 (.ns [offset]) := ⟨_, rfl⟩
  rw [← hb] at HT3 hl3
  have HB3 := hide hb
  clear hb
  have hsz3 := HT3.out.2.1.size
  clear z0 q0 q1 q2 q3 q4 q5 q6 q7 q8
  obtain ⟨z0, q0, q1, q2, q3, q4, q5, q6, q7, q8⟩ := BOX.out _ _ _ HT3.out
  go_wp2
  go_end0
  exact ⟨rfl, FIN.out _ _ _ HT3.out (by rw [HB3.out, HB2.out, HB1.out]; rfl)⟩
set_option maxHeartbeats 8000000 in
theorem wans3f_any (w : World) (wb base : Nat) (s0 : Value) (b0 : WS) (h : MkAt wT As.errN w wb base s0 b0) (hbase : base ≤ w.heap.size) (hwb : base ≤ wb) (corr offset start fin : Int) (recs : List Bt.Rec) (topics : List Tp) (a ta : Option Addr) (c tc : Nat) (hrec : RecsAt w (.slice a recs.length c) recs) (htop : TopsAt w (.slice ta topics.length tc) topics) (hrb : recs ≠ [] → ∀ k ∈ (Value.slice a recs.length c).ownBlock, k < base) (htb : topics ≠ [] → ∀ k ∈ (Value.slice ta topics.length tc).ownBlock, k < base) (hl0 : b0.1.length ≤ 12000) :
    Calls Tryd.prog 49 #[.pointer (some ⟨wb, 0, none⟩), .agg #[.int .i64 3, .int .i64 corr, .int .i64 0, .int .i64 offset, .int .i64 start, .int .i64 fin, .bool false, .slice a recs.length c, .slice ta topics.length tc]] w fun e w' => e = .returned (.tuple #[]) ∧ ∃ sv', MkTo wT As.errN w w' wb base s0 sv' (pRun b0 (ansCl ⟨3, corr, 0, offset, start, fin, false, recs, topics⟩)) := by
  obtain ⟨a', c', ea, hlc, hcm, hn0, hp⟩ := hrec.form
  simp only [Value.slice.injEq, true_and] at ea
  obtain ⟨rfl, rfl⟩ := ea
  obtain ⟨ta', tc', ea, hlt1, hlt2, hlt3, hpt⟩ := htop.form
  simp only [Value.slice.injEq, true_and] at ea
  obtain ⟨rfl, rfl⟩ := ea
  have hmx : maxLen = 9223372036854775807 := by simp [maxLen]
  rw [hmx] at hcm hlt2
  have hlt := h.lt
  obtain ⟨w0, hw0⟩ : ∃ w0, w0 = w.alloc (.cells #[.int .i64 3, .int .i64 corr, .int .i64 0, .int .i64 offset, .int .i64 start, .int .i64 fin, .bool false, .slice a recs.length c, .slice ta topics.length tc] 57) := ⟨_, rfl⟩
  have hbox : w0.heap[w.heap.size]? = some (.cells #[.int .i64 3, .int .i64 corr, .int .i64 0, .int .i64 offset, .int .i64 start, .int .i64 fin, .bool false, .slice a recs.length c, .slice ta topics.length tc] 57 (0, 0)) := by rw [hw0]; exact heap_new w _
  have hal : Turn [] w w0 := by rw [hw0]; exact (Turn.refl [] w).alloc _
  have hm0 := h.still hal
  have box : ∀ wi si bi, MkTo wT As.errN w0 wi wb base s0 si bi → w.heap.size < wi.heap.size ∧ wi.cell? ⟨w.heap.size, 0, none⟩ = some (.int .i64 3) ∧ wi.cell? ⟨w.heap.size, 1, none⟩ = some (.int .i64 corr) ∧ wi.cell? ⟨w.heap.size, 2, none⟩ = some (.int .i64 0) ∧ wi.cell? ⟨w.heap.size, 3, none⟩ = some (.int .i64 offset) ∧ wi.cell? ⟨w.heap.size, 4, none⟩ = some (.int .i64 start) ∧ wi.cell? ⟨w.heap.size, 5, none⟩ = some (.int .i64 fin) ∧ wi.cell? ⟨w.heap.size, 6, none⟩ = some (.bool false) ∧ wi.cell? ⟨w.heap.size, 7, none⟩ = some (.slice a recs.length c) ∧ wi.cell? ⟨w.heap.size, 8, none⟩ = some (.slice ta topics.length tc) :=
    fun wi si bi h2 => by
      have hb := h2.box hbox (by omega) (fun x hx => by have := (hlt.2 x hx).2; omega)
      exact ⟨lt_of_heap hb, by simpa [strV] using cell_of hb 0, by simpa [strV] using cell_of hb 1, by simpa [strV] using cell_of hb 2, by simpa [strV] using cell_of hb 3, by simpa [strV] using cell_of hb 4, by simpa [strV] using cell_of hb 5, by simpa [strV] using cell_of hb 6, by simpa [strV] using cell_of hb 7, by simpa [strV] using cell_of hb 8⟩
  have fin : ∀ wi si bi, MkTo wT As.errN w0 wi wb base s0 si bi → bi = pRun b0 (ansCl ⟨3, corr, 0, offset, start, fin, false, recs, topics⟩) → ∃ sv', MkTo wT As.errN w wi wb base s0 sv' (pRun b0 (ansCl ⟨3, corr, 0, offset, start, fin, false, recs, topics⟩)) :=
    fun wi si bi h2 e => ⟨si, e ▸ MkTo.pre hal h2⟩
  have recsAt : ∀ wi si bi, MkTo wT As.errN w0 wi wb base s0 si bi → RecsAt wi (.slice a recs.length c) recs := fun wi si bi hg =>
    (hrec.still hal).kept' hg.2.1 (fun h0 k hk hm => by
      have h1 := hrb h0 k hk
      rcases List.mem_cons.1 hm with rfl | hm
      · omega
      · have := (hlt.2 k (by simpa using hm)).1; omega)
  have RECS := hide recsAt
  have topsAt : ∀ wi si bi, MkTo wT As.errN w0 wi wb base s0 si bi → TopsAt wi (.slice ta topics.length tc) topics := fun wi si bi hg =>
    (htop.still hal).kept' hg.2.1 (fun h0 k hk hm => by
      have h1 := htb h0 k hk
      rcases List.mem_cons.1 hm with rfl | hm
      · omega
      · have := (hlt.2 k (by simpa using hm)).1; omega)
  have TOPS := hide topsAt
  have hsz0 : base ≤ w0.heap.size := by have := hal.size; omega
  have BOX := hide box
  have FIN := hide fin
  have HT0 := hide hm0.self
  have HW0 := hide hw0
  have HLT := hide hlt
  clear h box fin hm0 hal hbox hw0 hlt recsAt topsAt hrec htop hrb htb hn0 hlt3
  go_enter Tryd.func49, Tryd.ntmps49
  go_upto_region 1 with fail
  rw [show w.alloc (.cells #[.int .i64 3, .int .i64 corr, .int .i64 0, .int .i64 offset, .int .i64 start, .int .i64 fin, .bool false, .slice a recs.length c, .slice ta topics.length tc] 57) = w0 from HW0.out.symm]
  obtain ⟨z0, q0, q1, q2, q3, q4, q5, q6, q7, q8⟩ := BOX.out _ _ _ HT0.out
  go_wp2_with fail
  refine (numbers_new _ wb base s0 b0 HT0.out.1 (by omega) [3, corr, 0] (by rfl) (by rfl) (by rfl) (by simp) (by omega)).mono ?_
  rintro e wz1 ⟨rfl, s1, hto⟩
  have HT1 := hide (HT0.out.trans hto)
  clear hto
  have hl1 := pStep_len b0 (.ns [3, corr, 0]) (by simp)
  have e2 : nums (cut b0) [3, corr, 0] = pStep b0 (.ns [3, corr, 0]) := rfl
  rw [e2] at HT1
  clear e2
  obtain ⟨b1, hb⟩ : ∃ b, b = pStep b0 (.ns [3, corr, 0]) := ⟨_, rfl⟩
  rw [← hb] at HT1 hl1
  have HB1 := hide hb
  clear hb
  have hsz1 := HT1.out.2.1.size
  clear z0 q0 q1 q2 q3 q4 q5 q6 q7 q8
  obtain ⟨z0, q0, q1, q2, q3, q4, q5, q6, q7, q8⟩ := BOX.out _ _ _ HT1.out
  go_wp2_with fail
  refine (truth_any _ false).mono ?_
  rintro e wt ⟨rfl, rfl⟩
  go_wp2_with fail
  refine (numbers_new _ wb base s1 b1 HT1.out.1 (by omega) [tr false] (by rfl) (by rfl) (by rfl) (by simp) (by omega)).mono ?_
  rintro e wz2 ⟨rfl, s2, hto⟩
  have HT2 := hide (HT1.out.trans hto)
  clear hto
  have hl2 := pStep_len b1 (.ns [tr false]) (by simp)
  have e2 : nums (cut b1) [tr false] = pStep b1 (.ns [tr false]) := rfl
  rw [e2] at HT2
  clear e2
  obtain ⟨b2, hb⟩ : ∃ b, b = pStep b1 (.ns [tr false]) := ⟨_, rfl⟩
  rw [← hb] at HT2 hl2
  have HB2 := hide hb
  clear hb
  have hsz2 := HT2.out.2.1.size
  clear z0 q0 q1 q2 q3 q4 q5 q6 q7 q8
  obtain ⟨z0, q0, q1, q2, q3, q4, q5, q6, q7, q8⟩ := BOX.out _ _ _ HT2.out
  go_wp2
  go_end0
  exact ⟨rfl, FIN.out _ _ _ HT2.out (by rw [HB2.out, HB1.out]; rfl)⟩
end Go.Proofs.YtodadoaindfecaaDoor.Wi
