/- Wij, Wik, Wil, Wim, Wis, Wit, DecP: texts merged. -/
import Derived.Test.YtcpjohpbakbggaaDoorM6
import Derived.Test.YtcpjohpbakbggaaDoorM2
import Derived.Deep.CutBlock
import Derived.Deep.DeepCutAuto
import Derived.Test.YtcpjohpbakbggaaDoorM5
import Derived.BigRegion
import Derived.BigQuiet
import Derived.Test.YtcpjohpbakbggaaDoorM3
import Derived.Test.YtcpjohpbakbggaaDoorM8
import Derived.Test.YtcpjohpbakbggaaDoorM4
/- wire's writer: an answer. -/
namespace Go.Proofs.YtcpjohpbakbggaaDoor.Wi
open Go.RowKit Go.Maps
set_option maxRecDepth 100000
set_option linter.unusedSimpArgs false
set_option linter.unusedVariables false

set_option maxHeartbeats 8000000 in
theorem wansE_any (w : World) (wb base : Nat) (s0 : Value) (b0 : WS) (h : MkAt wT As.errN w wb base s0 b0) (hbase : base ≤ w.heap.size) (hwb : base ≤ wb) (kind corr err offset start fin : Int) (found : Bool) (recs : List Bt.Rec) (topics : List Tp) (a ta : Option Addr) (c tc : Nat) (hrec : RecsAt w (.slice a recs.length c) recs) (htop : TopsAt w (.slice ta topics.length tc) topics) (hrb : recs ≠ [] → ∀ k ∈ (Value.slice a recs.length c).ownBlock, k < base) (htb : topics ≠ [] → ∀ k ∈ (Value.slice ta topics.length tc).ownBlock, k < base) (he : err ≠ 0) (hl0 : b0.1.length ≤ 12000) :
    Calls Tryd.prog 47 #[.pointer (some ⟨wb, 0, none⟩), .agg #[.int .i64 kind, .int .i64 corr, .int .i64 err, .int .i64 offset, .int .i64 start, .int .i64 fin, .bool found, .slice a recs.length c, .slice ta topics.length tc]] w fun e w' => e = .returned (.tuple #[]) ∧ ∃ sv', MkTo wT As.errN w w' wb base s0 sv' (pRun b0 ([.ns [kind, corr, err]])) := by
  obtain ⟨a', c', ea, hlc, hcm, hn0, hp⟩ := hrec.form
  simp only [Value.slice.injEq, true_and] at ea
  obtain ⟨rfl, rfl⟩ := ea
  obtain ⟨ta', tc', ea, hlt1, hlt2, hlt3, hpt⟩ := htop.form
  simp only [Value.slice.injEq, true_and] at ea
  obtain ⟨rfl, rfl⟩ := ea
  have hmx : maxLen = 9223372036854775807 := by simp [maxLen]
  rw [hmx] at hcm hlt2
  have hlt := h.lt
  obtain ⟨w0, hw0⟩ : ∃ w0, w0 = w.alloc (.cells #[.int .i64 kind, .int .i64 corr, .int .i64 err, .int .i64 offset, .int .i64 start, .int .i64 fin, .bool found, .slice a recs.length c, .slice ta topics.length tc] 38) := ⟨_, rfl⟩
  have hbox : w0.heap[w.heap.size]? = some (.cells #[.int .i64 kind, .int .i64 corr, .int .i64 err, .int .i64 offset, .int .i64 start, .int .i64 fin, .bool found, .slice a recs.length c, .slice ta topics.length tc] 38 (0, 0)) := by rw [hw0]; exact heap_new w _
  have hal : Turn [] w w0 := by rw [hw0]; exact (Turn.refl [] w).alloc _
  have hm0 := h.still hal
  have box : ∀ wi si bi, MkTo wT As.errN w0 wi wb base s0 si bi → w.heap.size < wi.heap.size ∧ wi.cell? ⟨w.heap.size, 0, none⟩ = some (.int .i64 kind) ∧ wi.cell? ⟨w.heap.size, 1, none⟩ = some (.int .i64 corr) ∧ wi.cell? ⟨w.heap.size, 2, none⟩ = some (.int .i64 err) ∧ wi.cell? ⟨w.heap.size, 3, none⟩ = some (.int .i64 offset) ∧ wi.cell? ⟨w.heap.size, 4, none⟩ = some (.int .i64 start) ∧ wi.cell? ⟨w.heap.size, 5, none⟩ = some (.int .i64 fin) ∧ wi.cell? ⟨w.heap.size, 6, none⟩ = some (.bool found) ∧ wi.cell? ⟨w.heap.size, 7, none⟩ = some (.slice a recs.length c) ∧ wi.cell? ⟨w.heap.size, 8, none⟩ = some (.slice ta topics.length tc) :=
    fun wi si bi h2 => by
      have hb := h2.box hbox (by omega) (fun x hx => by have := (hlt.2 x hx).2; omega)
      exact ⟨lt_of_heap hb, by simpa [strV] using cell_of hb 0, by simpa [strV] using cell_of hb 1, by simpa [strV] using cell_of hb 2, by simpa [strV] using cell_of hb 3, by simpa [strV] using cell_of hb 4, by simpa [strV] using cell_of hb 5, by simpa [strV] using cell_of hb 6, by simpa [strV] using cell_of hb 7, by simpa [strV] using cell_of hb 8⟩
  have fin : ∀ wi si bi, MkTo wT As.errN w0 wi wb base s0 si bi → bi = pRun b0 ([.ns [kind, corr, err]]) → ∃ sv', MkTo wT As.errN w wi wb base s0 sv' (pRun b0 ([.ns [kind, corr, err]])) :=
    fun wi si bi h2 e => ⟨si, e ▸ MkTo.pre hal h2⟩
  have recsAt : ∀ wi si bi, MkTo wT As.errN w0 wi wb base s0 si bi → RecsAt wi (.slice a recs.length c) recs := fun wi si bi hg =>
    (hrec.still hal).kept' hg.2.1 (fun h0 k hk hm => by
      have h1 := hrb h0 k hk
      rcases List.mem_cons.1 hm with rfl | hm
      · omega
      · have := (hlt.2 k (by simpa using hm)).1; omega)
  have RECS := hide recsAt
  have topsAt : ∀ wi si bi, MkTo wT As.errN w0 wi wb base s0 si bi → TopsAt wi (.slice ta topics.length tc) topics := fun wi si bi hg =>
    (htop.still hal).kept' hg.2.1 (fun h0 k hk hm => by
      have h1 := htb h0 k hk
      rcases List.mem_cons.1 hm with rfl | hm
      · omega
      · have := (hlt.2 k (by simpa using hm)).1; omega)
  have TOPS := hide topsAt
  have hsz0 : base ≤ w0.heap.size := by have := hal.size; omega
  have BOX := hide box
  have FIN := hide fin
  have HT0 := hide hm0.self
  have HW0 := hide hw0
  have HLT := hide hlt
  clear h box fin hm0 hal hbox hw0 hlt recsAt topsAt hrec htop hrb htb hn0 hlt3
  go_enter Tryd.func47, Tryd.ntmps47
  go_upto_region 1 with fail
  rw [show w.alloc (.cells #[.int .i64 kind, .int .i64 corr, .int .i64 err, .int .i64 offset, .int .i64 start, .int .i64 fin, .bool found, .slice a recs.length c, .slice ta topics.length tc] 38) = w0 from HW0.out.symm]
  obtain ⟨z0, q0, q1, q2, q3, q4, q5, q6, q7, q8⟩ := BOX.out _ _ _ HT0.out
  have hb1 : (err == 0) = false := by simpa using he
  have hb2 : (err != 0) = true := by simp [he]
  clear he
  go_wp2_with fail
  refine (numbers_new _ wb base s0 b0 HT0.out.1 (by omega) [kind, corr, err] (by rfl) (by rfl) (by rfl) (by simp) (by omega)).mono ?_
  rintro e wz1 ⟨rfl, s1, hto⟩
  have HT1 := hide (HT0.out.trans hto)
  clear hto
  have hl1 := pStep_len b0 (.ns [kind, corr, err]) (by simp)
  have e2 : nums (cut b0) [kind, corr, err] = pStep b0 (.ns [kind, corr, err]) := rfl
  rw [e2] at HT1
  clear e2
  obtain ⟨b1, hb⟩ : ∃ b, b = pStep b0 (.ns [kind, corr, err]) := ⟨_, rfl⟩
  rw [← hb] at HT1 hl1
  have HB1 := hide hb
  clear hb
  have hsz1 := HT1.out.2.1.size
  clear z0 q0 q1 q2 q3 q4 q5 q6 q7 q8
  obtain ⟨z0, q0, q1, q2, q3, q4, q5, q6, q7, q8⟩ := BOX.out _ _ _ HT1.out
  go_wp2
  refine bodyPost_ret (results_none rfl _ _ _) rfl ?_
  exact ⟨rfl, FIN.out _ _ _ HT1.out (by rw [HB1.out]; rfl)⟩
set_option maxHeartbeats 8000000 in
theorem wans1_any (w : World) (wb base : Nat) (s0 : Value) (b0 : WS) (h : MkAt wT As.errN w wb base s0 b0) (hbase : base ≤ w.heap.size) (hwb : base ≤ wb) (corr offset start fin : Int) (found : Bool) (recs : List Bt.Rec) (topics : List Tp) (a ta : Option Addr) (c tc : Nat) (hrec : RecsAt w (.slice a recs.length c) recs) (htop : TopsAt w (.slice ta topics.length tc) topics) (hrb : recs ≠ [] → ∀ k ∈ (Value.slice a recs.length c).ownBlock, k < base) (htb : topics ≠ [] → ∀ k ∈ (Value.slice ta topics.length tc).ownBlock, k < base) (hl0 : b0.1.length ≤ 12000) :
    Calls Tryd.prog 47 #[.pointer (some ⟨wb, 0, none⟩), .agg #[.int .i64 1, .int .i64 corr, .int .i64 0, .int .i64 offset, .int .i64 start, .int .i64 fin, .bool found, .slice a recs.length c, .slice ta topics.length tc]] w fun e w' => e = .returned (.tuple #[]) ∧ ∃ sv', MkTo wT As.errN w w' wb base s0 sv' (pRun b0 (ansCl ⟨1, corr, 0, offset, start, fin, found, recs, topics⟩)) := by
  obtain ⟨a', c', ea, hlc, hcm, hn0, hp⟩ := hrec.form
  simp only [Value.slice.injEq, true_and] at ea
  obtain ⟨rfl, rfl⟩ := ea
  obtain ⟨ta', tc', ea, hlt1, hlt2, hlt3, hpt⟩ := htop.form
  simp only [Value.slice.injEq, true_and] at ea
  obtain ⟨rfl, rfl⟩ := ea
  have hmx : maxLen = 9223372036854775807 := by simp [maxLen]
  rw [hmx] at hcm hlt2
  have hlt := h.lt
  obtain ⟨w0, hw0⟩ : ∃ w0, w0 = w.alloc (.cells #[.int .i64 1, .int .i64 corr, .int .i64 0, .int .i64 offset, .int .i64 start, .int .i64 fin, .bool found, .slice a recs.length c, .slice ta topics.length tc] 38) := ⟨_, rfl⟩
  have hbox : w0.heap[w.heap.size]? = some (.cells #[.int .i64 1, .int .i64 corr, .int .i64 0, .int .i64 offset, .int .i64 start, .int .i64 fin, .bool found, .slice a recs.length c, .slice ta topics.length tc] 38 (0, 0)) := by rw [hw0]; exact heap_new w _
  have hal : Turn [] w w0 := by rw [hw0]; exact (Turn.refl [] w).alloc _
  have hm0 := h.still hal
  have box : ∀ wi si bi, MkTo wT As.errN w0 wi wb base s0 si bi → w.heap.size < wi.heap.size ∧ wi.cell? ⟨w.heap.size, 0, none⟩ = some (.int .i64 1) ∧ wi.cell? ⟨w.heap.size, 1, none⟩ = some (.int .i64 corr) ∧ wi.cell? ⟨w.heap.size, 2, none⟩ = some (.int .i64 0) ∧ wi.cell? ⟨w.heap.size, 3, none⟩ = some (.int .i64 offset) ∧ wi.cell? ⟨w.heap.size, 4, none⟩ = some (.int .i64 start) ∧ wi.cell? ⟨w.heap.size, 5, none⟩ = some (.int .i64 fin) ∧ wi.cell? ⟨w.heap.size, 6, none⟩ = some (.bool found) ∧ wi.cell? ⟨w.heap.size, 7, none⟩ = some (.slice a recs.length c) ∧ wi.cell? ⟨w.heap.size, 8, none⟩ = some (.slice ta topics.length tc) :=
    fun wi si bi h2 => by
      have hb := h2.box hbox (by omega) (fun x hx => by have := (hlt.2 x hx).2; omega)
      exact ⟨lt_of_heap hb, by simpa [strV] using cell_of hb 0, by simpa [strV] using cell_of hb 1, by simpa [strV] using cell_of hb 2, by simpa [strV] using cell_of hb 3, by simpa [strV] using cell_of hb 4, by simpa [strV] using cell_of hb 5, by simpa [strV] using cell_of hb 6, by simpa [strV] using cell_of hb 7, by simpa [strV] using cell_of hb 8⟩
  have fin : ∀ wi si bi, MkTo wT As.errN w0 wi wb base s0 si bi → bi = pRun b0 (ansCl ⟨1, corr, 0, offset, start, fin, found, recs, topics⟩) → ∃ sv', MkTo wT As.errN w wi wb base s0 sv' (pRun b0 (ansCl ⟨1, corr, 0, offset, start, fin, found, recs, topics⟩)) :=
    fun wi si bi h2 e => ⟨si, e ▸ MkTo.pre hal h2⟩
  have recsAt : ∀ wi si bi, MkTo wT As.errN w0 wi wb base s0 si bi → RecsAt wi (.slice a recs.length c) recs := fun wi si bi hg =>
    (hrec.still hal).kept' hg.2.1 (fun h0 k hk hm => by
      have h1 := hrb h0 k hk
      rcases List.mem_cons.1 hm with rfl | hm
      · omega
      · have := (hlt.2 k (by simpa using hm)).1; omega)
  have RECS := hide recsAt
  have topsAt : ∀ wi si bi, MkTo wT As.errN w0 wi wb base s0 si bi → TopsAt wi (.slice ta topics.length tc) topics := fun wi si bi hg =>
    (htop.still hal).kept' hg.2.1 (fun h0 k hk hm => by
      have h1 := htb h0 k hk
      rcases List.mem_cons.1 hm with rfl | hm
      · omega
      · have := (hlt.2 k (by simpa using hm)).1; omega)
  have TOPS := hide topsAt
  have hsz0 : base ≤ w0.heap.size := by have := hal.size; omega
  have BOX := hide box
  have FIN := hide fin
  have HT0 := hide hm0.self
  have HW0 := hide hw0
  have HLT := hide hlt
  clear h box fin hm0 hal hbox hw0 hlt recsAt topsAt hrec htop hrb htb hn0 hlt3
  go_enter Tryd.func47, Tryd.ntmps47
  go_upto_region 1 with fail
  rw [show w.alloc (.cells #[.int .i64 1, .int .i64 corr, .int .i64 0, .int .i64 offset, .int .i64 start, .int .i64 fin, .bool found, .slice a recs.length c, .slice ta topics.length tc] 38) = w0 from HW0.out.symm]
  obtain ⟨z0, q0, q1, q2, q3, q4, q5, q6, q7, q8⟩ := BOX.out _ _ _ HT0.out
  go_wp2_with fail
  refine (numbers_new _ wb base s0 b0 HT0.out.1 (by omega) [1, corr, 0] (by rfl) (by rfl) (by rfl) (by simp) (by omega)).mono ?_
  rintro e wz1 ⟨rfl, s1, hto⟩
  have HT1 := hide (HT0.out.trans hto)
  clear hto
  have hl1 := pStep_len b0 (.ns [1, corr, 0]) (by simp)
  have e2 : nums (cut b0) [1, corr, 0] = pStep b0 (.ns [1, corr, 0]) := rfl
  rw [e2] at HT1
  clear e2
  obtain ⟨b1, hb⟩ : ∃ b, b = pStep b0 (.ns [1, corr, 0]) := ⟨_, rfl⟩
  rw [← hb] at HT1 hl1
  have HB1 := hide hb
  clear hb
  have hsz1 := HT1.out.2.1.size
  clear z0 q0 q1 q2 q3 q4 q5 q6 q7 q8
  obtain ⟨z0, q0, q1, q2, q3, q4, q5, q6, q7, q8⟩ := BOX.out _ _ _ HT1.out
  go_wp2_with fail
  refine (numbers_new _ wb base s1 b1 HT1.out.1 (by omega) [offset] (by rfl) (by rfl) (by rfl) (by simp) (by omega)).mono ?_
  rintro e wz2 ⟨rfl, s2, hto⟩
  have HT2 := hide (HT1.out.trans hto)
  clear hto
  have hl2 := pStep_len b1 (.ns [offset]) (by simp)
  have e2 : nums (cut b1) [offset] = pStep b1 (.ns [offset]) := rfl
  rw [e2] at HT2
  clear e2
  obtain ⟨b2, hb⟩ : ∃ b, b = pStep b1 (.ns [offset]) := ⟨_, rfl⟩
  rw [← hb] at HT2 hl2
  have HB2 := hide hb
  clear hb
  have hsz2 := HT2.out.2.1.size
  clear z0 q0 q1 q2 q3 q4 q5 q6 q7 q8
  obtain ⟨z0, q0, q1, q2, q3, q4, q5, q6, q7, q8⟩ := BOX.out _ _ _ HT2.out
  go_wp2
  go_end0
  exact ⟨rfl, FIN.out _ _ _ HT2.out (by rw [HB2.out, HB1.out]; rfl)⟩
set_option maxHeartbeats 8000000 in
theorem wans2_any (w : World) (wb base : Nat) (s0 : Value) (b0 : WS) (h : MkAt wT As.errN w wb base s0 b0) (hbase : base ≤ w.heap.size) (hwb : base ≤ wb) (corr offset start fin : Int) (found : Bool) (recs : List Bt.Rec) (topics : List Tp) (a ta : Option Addr) (c tc : Nat) (hrec : RecsAt w (.slice a recs.length c) recs) (htop : TopsAt w (.slice ta topics.length tc) topics) (hrb : recs ≠ [] → ∀ k ∈ (Value.slice a recs.length c).ownBlock, k < base) (htb : topics ≠ [] → ∀ k ∈ (Value.slice ta topics.length tc).ownBlock, k < base) (hl0 : b0.1.length ≤ 12000) :
    Calls Tryd.prog 47 #[.pointer (some ⟨wb, 0, none⟩), .agg #[.int .i64 2, .int .i64 corr, .int .i64 0, .int .i64 offset, .int .i64 start, .int .i64 fin, .bool found, .slice a recs.length c, .slice ta topics.length tc]] w fun e w' => e = .returned (.tuple #[]) ∧ ∃ sv', MkTo wT As.errN w w' wb base s0 sv' (pRun b0 (ansCl ⟨2, corr, 0, offset, start, fin, found, recs, topics⟩)) := by
  obtain ⟨a', c', ea, hlc, hcm, hn0, hp⟩ := hrec.form
  simp only [Value.slice.injEq, true_and] at ea
  obtain ⟨rfl, rfl⟩ := ea
  obtain ⟨ta', tc', ea, hlt1, hlt2, hlt3, hpt⟩ := htop.form
  simp only [Value.slice.injEq, true_and] at ea
  obtain ⟨rfl, rfl⟩ := ea
  have hmx : maxLen = 9223372036854775807 := by simp [maxLen]
  rw [hmx] at hcm hlt2
  have hlt := h.lt
  obtain ⟨w0, hw0⟩ : ∃ w0, w0 = w.alloc (.cells #[.int .i64 2, .int .i64 corr, .int .i64 0, .int .i64 offset, .int .i64 start, .int .i64 fin, .bool found, .slice a recs.length c, .slice ta topics.length tc] 38) := ⟨_, rfl⟩
  have hbox : w0.heap[w.heap.size]? = some (.cells #[.int .i64 2, .int .i64 corr, .int .i64 0, .int .i64 offset, .int .i64 start, .int .i64 fin, .bool found, .slice a recs.length c, .slice ta topics.length tc] 38 (0, 0)) := by rw [hw0]; exact heap_new w _
  have hal : Turn [] w w0 := by rw [hw0]; exact (Turn.refl [] w).alloc _
  have hm0 := h.still hal
  have box : ∀ wi si bi, MkTo wT As.errN w0 wi wb base s0 si bi → w.heap.size < wi.heap.size ∧ wi.cell? ⟨w.heap.size, 0, none⟩ = some (.int .i64 2) ∧ wi.cell? ⟨w.heap.size, 1, none⟩ = some (.int .i64 corr) ∧ wi.cell? ⟨w.heap.size, 2, none⟩ = some (.int .i64 0) ∧ wi.cell? ⟨w.heap.size, 3, none⟩ = some (.int .i64 offset) ∧ wi.cell? ⟨w.heap.size, 4, none⟩ = some (.int .i64 start) ∧ wi.cell? ⟨w.heap.size, 5, none⟩ = some (.int .i64 fin) ∧ wi.cell? ⟨w.heap.size, 6, none⟩ = some (.bool found) ∧ wi.cell? ⟨w.heap.size, 7, none⟩ = some (.slice a recs.length c) ∧ wi.cell? ⟨w.heap.size, 8, none⟩ = some (.slice ta topics.length tc) :=
    fun wi si bi h2 => by
      have hb := h2.box hbox (by omega) (fun x hx => by have := (hlt.2 x hx).2; omega)
      exact ⟨lt_of_heap hb, by simpa [strV] using cell_of hb 0, by simpa [strV] using cell_of hb 1, by simpa [strV] using cell_of hb 2, by simpa [strV] using cell_of hb 3, by simpa [strV] using cell_of hb 4, by simpa [strV] using cell_of hb 5, by simpa [strV] using cell_of hb 6, by simpa [strV] using cell_of hb 7, by simpa [strV] using cell_of hb 8⟩
  have fin : ∀ wi si bi, MkTo wT As.errN w0 wi wb base s0 si bi → bi = pRun b0 (ansCl ⟨2, corr, 0, offset, start, fin, found, recs, topics⟩) → ∃ sv', MkTo wT As.errN w wi wb base s0 sv' (pRun b0 (ansCl ⟨2, corr, 0, offset, start, fin, found, recs, topics⟩)) :=
    fun wi si bi h2 e => ⟨si, e ▸ MkTo.pre hal h2⟩
  have recsAt : ∀ wi si bi, MkTo wT As.errN w0 wi wb base s0 si bi → RecsAt wi (.slice a recs.length c) recs := fun wi si bi hg =>
    (hrec.still hal).kept' hg.2.1 (fun h0 k hk hm => by
      have h1 := hrb h0 k hk
      rcases List.mem_cons.1 hm with rfl | hm
      · omega
      · have := (hlt.2 k (by simpa using hm)).1; omega)
  have RECS := hide recsAt
  have topsAt : ∀ wi si bi, MkTo wT As.errN w0 wi wb base s0 si bi → TopsAt wi (.slice ta topics.length tc) topics := fun wi si bi hg =>
    (htop.still hal).kept' hg.2.1 (fun h0 k hk hm => by
      have h1 := htb h0 k hk
      rcases List.mem_cons.1 hm with rfl | hm
      · omega
      · have := (hlt.2 k (by simpa using hm)).1; omega)
  have TOPS := hide topsAt
  have hsz0 : base ≤ w0.heap.size := by have := hal.size; omega
  have BOX := hide box
  have FIN := hide fin
  have HT0 := hide hm0.self
  have HW0 := hide hw0
  have HLT := hide hlt
  clear h box fin hm0 hal hbox hw0 hlt recsAt topsAt hrec htop hrb htb hn0 hlt3
  go_enter Tryd.func47, Tryd.ntmps47
  go_upto_region 1 with fail
  rw [show w.alloc (.cells #[.int .i64 2, .int .i64 corr, .int .i64 0, .int .i64 offset, .int .i64 start, .int .i64 fin, .bool found, .slice a recs.length c, .slice ta topics.length tc] 38) = w0 from HW0.out.symm]
  obtain ⟨z0, q0, q1, q2, q3, q4, q5, q6, q7, q8⟩ := BOX.out _ _ _ HT0.out
  go_wp2_with fail
  refine (numbers_new _ wb base s0 b0 HT0.out.1 (by omega) [2, corr, 0] (by rfl) (by rfl) (by rfl) (by simp) (by omega)).mono ?_
  rintro e wz1 ⟨rfl, s1, hto⟩
  have HT1 := hide (HT0.out.trans hto)
  clear hto
  have hl1 := pStep_len b0 (.ns [2, corr, 0]) (by simp)
  have e2 : nums (cut b0) [2, corr, 0] = pStep b0 (.ns [2, corr, 0]) := rfl
  rw [e2] at HT1
  clear e2
  obtain ⟨b1, hb⟩ : ∃ b, b = pStep b0 (.ns [2, corr, 0]) := ⟨_, rfl⟩
  rw [← hb] at HT1 hl1
  have HB1 := hide hb
  clear hb
  have hsz1 := HT1.out.2.1.size
  clear z0 q0 q1 q2 q3 q4 q5 q6 q7 q8
  obtain ⟨z0, q0, q1, q2, q3, q4, q5, q6, q7, q8⟩ := BOX.out _ _ _ HT1.out
  go_wp2_with fail
  refine (numbers_new _ wb base s1 b1 HT1.out.1 (by omega) [start, fin, (recs.length : Int)] (by rfl) (by rfl) (by rfl) (by simp) (by omega)).mono ?_
  rintro e wz2 ⟨rfl, s2, hto⟩
  have HT2 := hide (HT1.out.trans hto)
  clear hto
  have hl2 := pStep_len b1 (.ns [start, fin, (recs.length : Int)]) (by simp)
  have e2 : nums (cut b1) [start, fin, (recs.length : Int)] = pStep b1 (.ns [start, fin, (recs.length : Int)]) := rfl
  rw [e2] at HT2
  clear e2
  obtain ⟨b2, hb⟩ : ∃ b, b = pStep b1 (.ns [start, fin, (recs.length : Int)]) := ⟨_, rfl⟩
  rw [← hb] at HT2 hl2
  have HB2 := hide hb
  clear hb
  have hsz2 := HT2.out.2.1.size
  clear z0 q0 q1 q2 q3 q4 q5 q6 q7 q8
  obtain ⟨z0, q0, q1, q2, q3, q4, q5, q6, q7, q8⟩ := BOX.out _ _ _ HT2.out
  go_wp2
  go_loopw [44] (fun iv wr => ∃ (j : Nat) (sr : Value), j ≤ recs.length ∧ iv = .int .i64 (j : Int) ∧ MkTo wT As.errN w0 wr wb base s0 sr (pRun b2 ((recs.take j).flatMap plCl))) (fun iv _ => recs.length - (intOf iv).toNat)
  case atStart => exact ⟨0, _, Nat.zero_le _, rfl, HT2.out⟩
  case round =>
    obtain ⟨j, sr, hj, rfl, hr⟩ := hrel
    have hszr := hr.2.1.size
    have hrl := pRun_len b2 ((recs.take j).flatMap plCl) hl2 (fun c hc => by obtain ⟨x, -, hc⟩ := List.mem_flatMap.1 hc; exact plCl_sz x c hc)
    clear z0 q0 q1 q2 q3 q4 q5 q6 q7 q8
    obtain ⟨z0, q0, q1, q2, q3, q4, q5, q6, q7, q8⟩ := BOX.out _ _ _ hr
    by_cases hlt : j < recs.length
    · have hlt1 : (j : Int) < recs.length := by omega
      obtain ⟨p, rfl⟩ := hp j hlt
      obtain ⟨g0, g1, g2, g3, g4, g5⟩ := (RECS.out _ _ _ hr).six hlt
      have hok := (RECS.out _ _ _ hr).ok hlt
      have hsn := pRun_snoc plCl b2 hlt
      obtain ⟨r, hrr⟩ : ∃ r, r = recs[j] := ⟨_, rfl⟩
      rw [← hrr] at g0 g1 g2 g3 g4 g5 hok hsn
      obtain ⟨t, ht⟩ : ∃ t, t = pRun b2 ((recs.take j).flatMap plCl) := ⟨_, rfl⟩
      rw [← ht] at hsn hr hrl
      have HR := hide hr
      have HOK := hide hok
      have HSN := hide hsn
      clear hrr ht hr hok hsn
      obtain ⟨wa, hwa⟩ : ∃ wa, wa = wr.alloc (.cells #[.int .i64 r.off, .int .i64 r.time, .bool r.keyed, .string ⟨r.key.toArray⟩, .bool r.gone, .string ⟨r.value.toArray⟩] 76) := ⟨_, rfl⟩
      have hta : Turn [] wr wa := by rw [hwa]; exact (Turn.refl [] wr).alloc _
      have hbx : wa.heap[wr.heap.size]? = some (.cells #[.int .i64 r.off, .int .i64 r.time, .bool r.keyed, .string ⟨r.key.toArray⟩, .bool r.gone, .string ⟨r.value.toArray⟩] 76 (0, 0)) := by rw [hwa]; exact heap_new wr _
      have hla := HR.out.1.lt
      have box2 : ∀ wi si bi, MkTo wT As.errN wa wi wb base sr si bi → wr.heap.size < wi.heap.size ∧ wi.cell? ⟨wr.heap.size, 0, none⟩ = some (.int .i64 r.off) ∧ wi.cell? ⟨wr.heap.size, 1, none⟩ = some (.int .i64 r.time) ∧ wi.cell? ⟨wr.heap.size, 2, none⟩ = some (.bool r.keyed) ∧ wi.cell? ⟨wr.heap.size, 3, none⟩ = some (.string ⟨r.key.toArray⟩) ∧ wi.cell? ⟨wr.heap.size, 4, none⟩ = some (.bool r.gone) ∧ wi.cell? ⟨wr.heap.size, 5, none⟩ = some (.string ⟨r.value.toArray⟩) := fun wi si bi h2 => by
        have hb := h2.box hbx (by omega) (fun x hx => by have := (hla.2 x hx).2; omega)
        exact ⟨lt_of_heap hb, box_cells hb⟩
      have BOX2 := hide box2
      have HMA := hide (HR.out.1.still hta).self
      have HTA := hide hta
      have HWA := hide hwa
      have hsa := hta.size
      have hra := pStep_len t (.ns [r.off]) (by simp)
      clear box2 hbx hla hwa hta
      go_upto_region 11 with fail
      rw [show wr.alloc (.cells #[.int .i64 r.off, .int .i64 r.time, .bool r.keyed, .string ⟨r.key.toArray⟩, .bool r.gone, .string ⟨r.value.toArray⟩] 76) = wa from HWA.out.symm]
      obtain ⟨y0, y1, y2, y3, y4, y5, y6⟩ := BOX2.out _ _ _ HMA.out
      go_wp2_with fail
      refine (numbers_new wa wb base sr t HMA.out.1 (by omega) [r.off] (by rfl) (by rfl) (by rfl) (by simp) (by omega)).mono ?_
      rintro e wx ⟨rfl, s3, hto⟩
      have e2 : nums (cut t) [r.off] = pStep t (.ns [r.off]) := rfl
      rw [e2] at hto
      have HT3 := hide (HMA.out.trans hto)
      have hs3 := HT3.out.2.1.size
      clear hto e2 y0 y1 y2 y3 y4 y5 y6 g0 g1 g2 g3 g4 g5
      obtain ⟨y0, y1, y2, y3, y4, y5, y6⟩ := BOX2.out _ _ _ HT3.out
      go_wp2_with fail
      refine (wrec_any _ wb base s3 _ HT3.out.1 (by omega) r HOK.out (by omega)).mono ?_
      rintro e wy ⟨rfl, s4, hto⟩
      have HT := hide (HR.out.trans (MkTo.pre HTA.out (HT3.out.trans hto)))
      clear hto y0 y1 y2 y3 y4 y5 y6
      go_wp2
      refine ⟨⟨j + 1, s4, by omega, by go_num, by rw [HSN.out]; exact HT.out⟩, ?_⟩
      simp only [intOf]; omega
    · obtain rfl : j = recs.length := by omega
      have hlt1 : ¬ (recs.length : Int) < recs.length := by omega
      have HR := hide hr
      clear hr
      go_wp2
      go_end0
      refine ⟨rfl, FIN.out _ _ _ HR.out ?_⟩
      rw [List.take_of_length_le (Nat.le_refl _), HB2.out, HB1.out]
      rfl
set_option maxHeartbeats 8000000 in
theorem wans4_any (w : World) (wb base : Nat) (s0 : Value) (b0 : WS) (h : MkAt wT As.errN w wb base s0 b0) (hbase : base ≤ w.heap.size) (hwb : base ≤ wb) (corr offset start fin : Int) (found : Bool) (recs : List Bt.Rec) (topics : List Tp) (a ta : Option Addr) (c tc : Nat) (hrec : RecsAt w (.slice a recs.length c) recs) (htop : TopsAt w (.slice ta topics.length tc) topics) (hrb : recs ≠ [] → ∀ k ∈ (Value.slice a recs.length c).ownBlock, k < base) (htb : topics ≠ [] → ∀ k ∈ (Value.slice ta topics.length tc).ownBlock, k < base) (hl0 : b0.1.length ≤ 12000) :
    Calls Tryd.prog 47 #[.pointer (some ⟨wb, 0, none⟩), .agg #[.int .i64 4, .int .i64 corr, .int .i64 0, .int .i64 offset, .int .i64 start, .int .i64 fin, .bool found, .slice a recs.length c, .slice ta topics.length tc]] w fun e w' => e = .returned (.tuple #[]) ∧ ∃ sv', MkTo wT As.errN w w' wb base s0 sv' (pRun b0 (ansCl ⟨4, corr, 0, offset, start, fin, found, recs, topics⟩)) := by
  obtain ⟨a', c', ea, hlc, hcm, hn0, hp⟩ := hrec.form
  simp only [Value.slice.injEq, true_and] at ea
  obtain ⟨rfl, rfl⟩ := ea
  obtain ⟨ta', tc', ea, hlt1, hlt2, hlt3, hpt⟩ := htop.form
  simp only [Value.slice.injEq, true_and] at ea
  obtain ⟨rfl, rfl⟩ := ea
  have hmx : maxLen = 9223372036854775807 := by simp [maxLen]
  rw [hmx] at hcm hlt2
  have hlt := h.lt
  obtain ⟨w0, hw0⟩ : ∃ w0, w0 = w.alloc (.cells #[.int .i64 4, .int .i64 corr, .int .i64 0, .int .i64 offset, .int .i64 start, .int .i64 fin, .bool found, .slice a recs.length c, .slice ta topics.length tc] 38) := ⟨_, rfl⟩
  have hbox : w0.heap[w.heap.size]? = some (.cells #[.int .i64 4, .int .i64 corr, .int .i64 0, .int .i64 offset, .int .i64 start, .int .i64 fin, .bool found, .slice a recs.length c, .slice ta topics.length tc] 38 (0, 0)) := by rw [hw0]; exact heap_new w _
  have hal : Turn [] w w0 := by rw [hw0]; exact (Turn.refl [] w).alloc _
  have hm0 := h.still hal
  have box : ∀ wi si bi, MkTo wT As.errN w0 wi wb base s0 si bi → w.heap.size < wi.heap.size ∧ wi.cell? ⟨w.heap.size, 0, none⟩ = some (.int .i64 4) ∧ wi.cell? ⟨w.heap.size, 1, none⟩ = some (.int .i64 corr) ∧ wi.cell? ⟨w.heap.size, 2, none⟩ = some (.int .i64 0) ∧ wi.cell? ⟨w.heap.size, 3, none⟩ = some (.int .i64 offset) ∧ wi.cell? ⟨w.heap.size, 4, none⟩ = some (.int .i64 start) ∧ wi.cell? ⟨w.heap.size, 5, none⟩ = some (.int .i64 fin) ∧ wi.cell? ⟨w.heap.size, 6, none⟩ = some (.bool found) ∧ wi.cell? ⟨w.heap.size, 7, none⟩ = some (.slice a recs.length c) ∧ wi.cell? ⟨w.heap.size, 8, none⟩ = some (.slice ta topics.length tc) :=
    fun wi si bi h2 => by
      have hb := h2.box hbox (by omega) (fun x hx => by have := (hlt.2 x hx).2; omega)
      exact ⟨lt_of_heap hb, by simpa [strV] using cell_of hb 0, by simpa [strV] using cell_of hb 1, by simpa [strV] using cell_of hb 2, by simpa [strV] using cell_of hb 3, by simpa [strV] using cell_of hb 4, by simpa [strV] using cell_of hb 5, by simpa [strV] using cell_of hb 6, by simpa [strV] using cell_of hb 7, by simpa [strV] using cell_of hb 8⟩
  have fin : ∀ wi si bi, MkTo wT As.errN w0 wi wb base s0 si bi → bi = pRun b0 (ansCl ⟨4, corr, 0, offset, start, fin, found, recs, topics⟩) → ∃ sv', MkTo wT As.errN w wi wb base s0 sv' (pRun b0 (ansCl ⟨4, corr, 0, offset, start, fin, found, recs, topics⟩)) :=
    fun wi si bi h2 e => ⟨si, e ▸ MkTo.pre hal h2⟩
  have recsAt : ∀ wi si bi, MkTo wT As.errN w0 wi wb base s0 si bi → RecsAt wi (.slice a recs.length c) recs := fun wi si bi hg =>
    (hrec.still hal).kept' hg.2.1 (fun h0 k hk hm => by
      have h1 := hrb h0 k hk
      rcases List.mem_cons.1 hm with rfl | hm
      · omega
      · have := (hlt.2 k (by simpa using hm)).1; omega)
  have RECS := hide recsAt
  have topsAt : ∀ wi si bi, MkTo wT As.errN w0 wi wb base s0 si bi → TopsAt wi (.slice ta topics.length tc) topics := fun wi si bi hg =>
    (htop.still hal).kept' hg.2.1 (fun h0 k hk hm => by
      have h1 := htb h0 k hk
      rcases List.mem_cons.1 hm with rfl | hm
      · omega
      · have := (hlt.2 k (by simpa using hm)).1; omega)
  have TOPS := hide topsAt
  have hsz0 : base ≤ w0.heap.size := by have := hal.size; omega
  have BOX := hide box
  have FIN := hide fin
  have HT0 := hide hm0.self
  have HW0 := hide hw0
  have HLT := hide hlt
  clear h box fin hm0 hal hbox hw0 hlt recsAt topsAt hrec htop hrb htb hn0 hlt3
  go_enter Tryd.func47, Tryd.ntmps47
  go_upto_region 1 with fail
  rw [show w.alloc (.cells #[.int .i64 4, .int .i64 corr, .int .i64 0, .int .i64 offset, .int .i64 start, .int .i64 fin, .bool found, .slice a recs.length c, .slice ta topics.length tc] 38) = w0 from HW0.out.symm]
  obtain ⟨z0, q0, q1, q2, q3, q4, q5, q6, q7, q8⟩ := BOX.out _ _ _ HT0.out
  go_wp2_with fail
  refine (numbers_new _ wb base s0 b0 HT0.out.1 (by omega) [4, corr, 0] (by rfl) (by rfl) (by rfl) (by simp) (by omega)).mono ?_
  rintro e wz1 ⟨rfl, s1, hto⟩
  have HT1 := hide (HT0.out.trans hto)
  clear hto
  have hl1 := pStep_len b0 (.ns [4, corr, 0]) (by simp)
  have e2 : nums (cut b0) [4, corr, 0] = pStep b0 (.ns [4, corr, 0]) := rfl
  rw [e2] at HT1
  clear e2
  obtain ⟨b1, hb⟩ : ∃ b, b = pStep b0 (.ns [4, corr, 0]) := ⟨_, rfl⟩
  rw [← hb] at HT1 hl1
  have HB1 := hide hb
  clear hb
  have hsz1 := HT1.out.2.1.size
  clear z0 q0 q1 q2 q3 q4 q5 q6 q7 q8
  obtain ⟨z0, q0, q1, q2, q3, q4, q5, q6, q7, q8⟩ := BOX.out _ _ _ HT1.out
  go_wp2_with fail
  refine (numbers_new _ wb base s1 b1 HT1.out.1 (by omega) [start] (by rfl) (by rfl) (by rfl) (by simp) (by omega)).mono ?_
  rintro e wz2 ⟨rfl, s2, hto⟩
  have HT2 := hide (HT1.out.trans hto)
  clear hto
  have hl2 := pStep_len b1 (.ns [start]) (by simp)
  have e2 : nums (cut b1) [start] = pStep b1 (.ns [start]) := rfl
  rw [e2] at HT2
  clear e2
  obtain ⟨b2, hb⟩ : ∃ b, b = pStep b1 (.ns [start]) := ⟨_, rfl⟩
  rw [← hb] at HT2 hl2
  have HB2 := hide hb
  clear hb
  have hsz2 := HT2.out.2.1.size
  clear z0 q0 q1 q2 q3 q4 q5 q6 q7 q8
  obtain ⟨z0, q0, q1, q2, q3, q4, q5, q6, q7, q8⟩ := BOX.out _ _ _ HT2.out
  go_wp2
  go_end0
  exact ⟨rfl, FIN.out _ _ _ HT2.out (by rw [HB2.out, HB1.out]; rfl)⟩
set_option maxHeartbeats 8000000 in
theorem wans5_any (w : World) (wb base : Nat) (s0 : Value) (b0 : WS) (h : MkAt wT As.errN w wb base s0 b0) (hbase : base ≤ w.heap.size) (hwb : base ≤ wb) (corr offset start fin : Int) (found : Bool) (recs : List Bt.Rec) (topics : List Tp) (a ta : Option Addr) (c tc : Nat) (hrec : RecsAt w (.slice a recs.length c) recs) (htop : TopsAt w (.slice ta topics.length tc) topics) (hrb : recs ≠ [] → ∀ k ∈ (Value.slice a recs.length c).ownBlock, k < base) (htb : topics ≠ [] → ∀ k ∈ (Value.slice ta topics.length tc).ownBlock, k < base) (hl0 : b0.1.length ≤ 12000) :
    Calls Tryd.prog 47 #[.pointer (some ⟨wb, 0, none⟩), .agg #[.int .i64 5, .int .i64 corr, .int .i64 0, .int .i64 offset, .int .i64 start, .int .i64 fin, .bool found, .slice a recs.length c, .slice ta topics.length tc]] w fun e w' => e = .returned (.tuple #[]) ∧ ∃ sv', MkTo wT As.errN w w' wb base s0 sv' (pRun b0 (ansCl ⟨5, corr, 0, offset, start, fin, found, recs, topics⟩)) := by
  obtain ⟨a', c', ea, hlc, hcm, hn0, hp⟩ := hrec.form
  simp only [Value.slice.injEq, true_and] at ea
  obtain ⟨rfl, rfl⟩ := ea
  obtain ⟨ta', tc', ea, hlt1, hlt2, hlt3, hpt⟩ := htop.form
  simp only [Value.slice.injEq, true_and] at ea
  obtain ⟨rfl, rfl⟩ := ea
  have hmx : maxLen = 9223372036854775807 := by simp [maxLen]
  rw [hmx] at hcm hlt2
  have hlt := h.lt
  obtain ⟨w0, hw0⟩ : ∃ w0, w0 = w.alloc (.cells #[.int .i64 5, .int .i64 corr, .int .i64 0, .int .i64 offset, .int .i64 start, .int .i64 fin, .bool found, .slice a recs.length c, .slice ta topics.length tc] 38) := ⟨_, rfl⟩
  have hbox : w0.heap[w.heap.size]? = some (.cells #[.int .i64 5, .int .i64 corr, .int .i64 0, .int .i64 offset, .int .i64 start, .int .i64 fin, .bool found, .slice a recs.length c, .slice ta topics.length tc] 38 (0, 0)) := by rw [hw0]; exact heap_new w _
  have hal : Turn [] w w0 := by rw [hw0]; exact (Turn.refl [] w).alloc _
  have hm0 := h.still hal
  have box : ∀ wi si bi, MkTo wT As.errN w0 wi wb base s0 si bi → w.heap.size < wi.heap.size ∧ wi.cell? ⟨w.heap.size, 0, none⟩ = some (.int .i64 5) ∧ wi.cell? ⟨w.heap.size, 1, none⟩ = some (.int .i64 corr) ∧ wi.cell? ⟨w.heap.size, 2, none⟩ = some (.int .i64 0) ∧ wi.cell? ⟨w.heap.size, 3, none⟩ = some (.int .i64 offset) ∧ wi.cell? ⟨w.heap.size, 4, none⟩ = some (.int .i64 start) ∧ wi.cell? ⟨w.heap.size, 5, none⟩ = some (.int .i64 fin) ∧ wi.cell? ⟨w.heap.size, 6, none⟩ = some (.bool found) ∧ wi.cell? ⟨w.heap.size, 7, none⟩ = some (.slice a recs.length c) ∧ wi.cell? ⟨w.heap.size, 8, none⟩ = some (.slice ta topics.length tc) :=
    fun wi si bi h2 => by
      have hb := h2.box hbox (by omega) (fun x hx => by have := (hlt.2 x hx).2; omega)
      exact ⟨lt_of_heap hb, by simpa [strV] using cell_of hb 0, by simpa [strV] using cell_of hb 1, by simpa [strV] using cell_of hb 2, by simpa [strV] using cell_of hb 3, by simpa [strV] using cell_of hb 4, by simpa [strV] using cell_of hb 5, by simpa [strV] using cell_of hb 6, by simpa [strV] using cell_of hb 7, by simpa [strV] using cell_of hb 8⟩
  have fin : ∀ wi si bi, MkTo wT As.errN w0 wi wb base s0 si bi → bi = pRun b0 (ansCl ⟨5, corr, 0, offset, start, fin, found, recs, topics⟩) → ∃ sv', MkTo wT As.errN w wi wb base s0 sv' (pRun b0 (ansCl ⟨5, corr, 0, offset, start, fin, found, recs, topics⟩)) :=
    fun wi si bi h2 e => ⟨si, e ▸ MkTo.pre hal h2⟩
  have recsAt : ∀ wi si bi, MkTo wT As.errN w0 wi wb base s0 si bi → RecsAt wi (.slice a recs.length c) recs := fun wi si bi hg =>
    (hrec.still hal).kept' hg.2.1 (fun h0 k hk hm => by
      have h1 := hrb h0 k hk
      rcases List.mem_cons.1 hm with rfl | hm
      · omega
      · have := (hlt.2 k (by simpa using hm)).1; omega)
  have RECS := hide recsAt
  have topsAt : ∀ wi si bi, MkTo wT As.errN w0 wi wb base s0 si bi → TopsAt wi (.slice ta topics.length tc) topics := fun wi si bi hg =>
    (htop.still hal).kept' hg.2.1 (fun h0 k hk hm => by
      have h1 := htb h0 k hk
      rcases List.mem_cons.1 hm with rfl | hm
      · omega
      · have := (hlt.2 k (by simpa using hm)).1; omega)
  have TOPS := hide topsAt
  have hsz0 : base ≤ w0.heap.size := by have := hal.size; omega
  have BOX := hide box
  have FIN := hide fin
  have HT0 := hide hm0.self
  have HW0 := hide hw0
  have HLT := hide hlt
  clear h box fin hm0 hal hbox hw0 hlt recsAt topsAt hrec htop hrb htb hn0 hlt3
  go_enter Tryd.func47, Tryd.ntmps47
  go_upto_region 1 with fail
  rw [show w.alloc (.cells #[.int .i64 5, .int .i64 corr, .int .i64 0, .int .i64 offset, .int .i64 start, .int .i64 fin, .bool found, .slice a recs.length c, .slice ta topics.length tc] 38) = w0 from HW0.out.symm]
  obtain ⟨z0, q0, q1, q2, q3, q4, q5, q6, q7, q8⟩ := BOX.out _ _ _ HT0.out
  go_wp2_with fail
  refine (numbers_new _ wb base s0 b0 HT0.out.1 (by omega) [5, corr, 0] (by rfl) (by rfl) (by rfl) (by simp) (by omega)).mono ?_
  rintro e wz1 ⟨rfl, s1, hto⟩
  have HT1 := hide (HT0.out.trans hto)
  clear hto
  have hl1 := pStep_len b0 (.ns [5, corr, 0]) (by simp)
  have e2 : nums (cut b0) [5, corr, 0] = pStep b0 (.ns [5, corr, 0]) := rfl
  rw [e2] at HT1
  clear e2
  obtain ⟨b1, hb⟩ : ∃ b, b = pStep b0 (.ns [5, corr, 0]) := ⟨_, rfl⟩
  rw [← hb] at HT1 hl1
  have HB1 := hide hb
  clear hb
  have hsz1 := HT1.out.2.1.size
  clear z0 q0 q1 q2 q3 q4 q5 q6 q7 q8
  obtain ⟨z0, q0, q1, q2, q3, q4, q5, q6, q7, q8⟩ := BOX.out _ _ _ HT1.out
  go_wp2
  go_end0
  exact ⟨rfl, FIN.out _ _ _ HT1.out (by rw [HB1.out]; rfl)⟩
set_option maxHeartbeats 8000000 in
theorem wans6_any (w : World) (wb base : Nat) (s0 : Value) (b0 : WS) (h : MkAt wT As.errN w wb base s0 b0) (hbase : base ≤ w.heap.size) (hwb : base ≤ wb) (corr offset start fin : Int) (found : Bool) (recs : List Bt.Rec) (topics : List Tp) (a ta : Option Addr) (c tc : Nat) (hrec : RecsAt w (.slice a recs.length c) recs) (htop : TopsAt w (.slice ta topics.length tc) topics) (hrb : recs ≠ [] → ∀ k ∈ (Value.slice a recs.length c).ownBlock, k < base) (htb : topics ≠ [] → ∀ k ∈ (Value.slice ta topics.length tc).ownBlock, k < base) (hl0 : b0.1.length ≤ 12000) :
    Calls Tryd.prog 47 #[.pointer (some ⟨wb, 0, none⟩), .agg #[.int .i64 6, .int .i64 corr, .int .i64 0, .int .i64 offset, .int .i64 start, .int .i64 fin, .bool found, .slice a recs.length c, .slice ta topics.length tc]] w fun e w' => e = .returned (.tuple #[]) ∧ ∃ sv', MkTo wT As.errN w w' wb base s0 sv' (pRun b0 (ansCl ⟨6, corr, 0, offset, start, fin, found, recs, topics⟩)) := by
  obtain ⟨a', c', ea, hlc, hcm, hn0, hp⟩ := hrec.form
  simp only [Value.slice.injEq, true_and] at ea
  obtain ⟨rfl, rfl⟩ := ea
  obtain ⟨ta', tc', ea, hlt1, hlt2, hlt3, hpt⟩ := htop.form
  simp only [Value.slice.injEq, true_and] at ea
  obtain ⟨rfl, rfl⟩ := ea
  have hmx : maxLen = 9223372036854775807 := by simp [maxLen]
  rw [hmx] at hcm hlt2
  have hlt := h.lt
  obtain ⟨w0, hw0⟩ : ∃ w0, w0 = w.alloc (.cells #[.int .i64 6, .int .i64 corr, .int .i64 0, .int .i64 offset, .int .i64 start, .int .i64 fin, .bool found, .slice a recs.length c, .slice ta topics.length tc] 38) := ⟨_, rfl⟩
  have hbox : w0.heap[w.heap.size]? = some (.cells #[.int .i64 6, .int .i64 corr, .int .i64 0, .int .i64 offset, .int .i64 start, .int .i64 fin, .bool found, .slice a recs.length c, .slice ta topics.length tc] 38 (0, 0)) := by rw [hw0]; exact heap_new w _
  have hal : Turn [] w w0 := by rw [hw0]; exact (Turn.refl [] w).alloc _
  have hm0 := h.still hal
  have box : ∀ wi si bi, MkTo wT As.errN w0 wi wb base s0 si bi → w.heap.size < wi.heap.size ∧ wi.cell? ⟨w.heap.size, 0, none⟩ = some (.int .i64 6) ∧ wi.cell? ⟨w.heap.size, 1, none⟩ = some (.int .i64 corr) ∧ wi.cell? ⟨w.heap.size, 2, none⟩ = some (.int .i64 0) ∧ wi.cell? ⟨w.heap.size, 3, none⟩ = some (.int .i64 offset) ∧ wi.cell? ⟨w.heap.size, 4, none⟩ = some (.int .i64 start) ∧ wi.cell? ⟨w.heap.size, 5, none⟩ = some (.int .i64 fin) ∧ wi.cell? ⟨w.heap.size, 6, none⟩ = some (.bool found) ∧ wi.cell? ⟨w.heap.size, 7, none⟩ = some (.slice a recs.length c) ∧ wi.cell? ⟨w.heap.size, 8, none⟩ = some (.slice ta topics.length tc) :=
    fun wi si bi h2 => by
      have hb := h2.box hbox (by omega) (fun x hx => by have := (hlt.2 x hx).2; omega)
      exact ⟨lt_of_heap hb, by simpa [strV] using cell_of hb 0, by simpa [strV] using cell_of hb 1, by simpa [strV] using cell_of hb 2, by simpa [strV] using cell_of hb 3, by simpa [strV] using cell_of hb 4, by simpa [strV] using cell_of hb 5, by simpa [strV] using cell_of hb 6, by simpa [strV] using cell_of hb 7, by simpa [strV] using cell_of hb 8⟩
  have fin : ∀ wi si bi, MkTo wT As.errN w0 wi wb base s0 si bi → bi = pRun b0 (ansCl ⟨6, corr, 0, offset, start, fin, found, recs, topics⟩) → ∃ sv', MkTo wT As.errN w wi wb base s0 sv' (pRun b0 (ansCl ⟨6, corr, 0, offset, start, fin, found, recs, topics⟩)) :=
    fun wi si bi h2 e => ⟨si, e ▸ MkTo.pre hal h2⟩
  have recsAt : ∀ wi si bi, MkTo wT As.errN w0 wi wb base s0 si bi → RecsAt wi (.slice a recs.length c) recs := fun wi si bi hg =>
    (hrec.still hal).kept' hg.2.1 (fun h0 k hk hm => by
      have h1 := hrb h0 k hk
      rcases List.mem_cons.1 hm with rfl | hm
      · omega
      · have := (hlt.2 k (by simpa using hm)).1; omega)
  have RECS := hide recsAt
  have topsAt : ∀ wi si bi, MkTo wT As.errN w0 wi wb base s0 si bi → TopsAt wi (.slice ta topics.length tc) topics := fun wi si bi hg =>
    (htop.still hal).kept' hg.2.1 (fun h0 k hk hm => by
      have h1 := htb h0 k hk
      rcases List.mem_cons.1 hm with rfl | hm
      · omega
      · have := (hlt.2 k (by simpa using hm)).1; omega)
  have TOPS := hide topsAt
  have hsz0 : base ≤ w0.heap.size := by have := hal.size; omega
  have BOX := hide box
  have FIN := hide fin
  have HT0 := hide hm0.self
  have HW0 := hide hw0
  have HLT := hide hlt
  clear h box fin hm0 hal hbox hw0 hlt recsAt topsAt hrec htop hrb htb hn0 hlt3
  go_enter Tryd.func47, Tryd.ntmps47
  go_upto_region 1 with fail
  rw [show w.alloc (.cells #[.int .i64 6, .int .i64 corr, .int .i64 0, .int .i64 offset, .int .i64 start, .int .i64 fin, .bool found, .slice a recs.length c, .slice ta topics.length tc] 38) = w0 from HW0.out.symm]
  obtain ⟨z0, q0, q1, q2, q3, q4, q5, q6, q7, q8⟩ := BOX.out _ _ _ HT0.out
  go_wp2_with fail
  refine (numbers_new _ wb base s0 b0 HT0.out.1 (by omega) [6, corr, 0] (by rfl) (by rfl) (by rfl) (by simp) (by omega)).mono ?_
  rintro e wz1 ⟨rfl, s1, hto⟩
  have HT1 := hide (HT0.out.trans hto)
  clear hto
  have hl1 := pStep_len b0 (.ns [6, corr, 0]) (by simp)
  have e2 : nums (cut b0) [6, corr, 0] = pStep b0 (.ns [6, corr, 0]) := rfl
  rw [e2] at HT1
  clear e2
  obtain ⟨b1, hb⟩ : ∃ b, b = pStep b0 (.ns [6, corr, 0]) := ⟨_, rfl⟩
  rw [← hb] at HT1 hl1
  have HB1 := hide hb
  clear hb
  have hsz1 := HT1.out.2.1.size
  clear z0 q0 q1 q2 q3 q4 q5 q6 q7 q8
  obtain ⟨z0, q0, q1, q2, q3, q4, q5, q6, q7, q8⟩ := BOX.out _ _ _ HT1.out
  go_wp2
  go_end0
  exact ⟨rfl, FIN.out _ _ _ HT1.out (by rw [HB1.out]; rfl)⟩
set_option maxHeartbeats 8000000 in
theorem wans7_any (w : World) (wb base : Nat) (s0 : Value) (b0 : WS) (h : MkAt wT As.errN w wb base s0 b0) (hbase : base ≤ w.heap.size) (hwb : base ≤ wb) (corr offset start fin : Int) (found : Bool) (recs : List Bt.Rec) (topics : List Tp) (a ta : Option Addr) (c tc : Nat) (hrec : RecsAt w (.slice a recs.length c) recs) (htop : TopsAt w (.slice ta topics.length tc) topics) (hrb : recs ≠ [] → ∀ k ∈ (Value.slice a recs.length c).ownBlock, k < base) (htb : topics ≠ [] → ∀ k ∈ (Value.slice ta topics.length tc).ownBlock, k < base) (hl0 : b0.1.length ≤ 12000) :
    Calls Tryd.prog 47 #[.pointer (some ⟨wb, 0, none⟩), .agg #[.int .i64 7, .int .i64 corr, .int .i64 0, .int .i64 offset, .int .i64 start, .int .i64 fin, .bool found, .slice a recs.length c, .slice ta topics.length tc]] w fun e w' => e = .returned (.tuple #[]) ∧ ∃ sv', MkTo wT As.errN w w' wb base s0 sv' (pRun b0 (ansCl ⟨7, corr, 0, offset, start, fin, found, recs, topics⟩)) := by
  obtain ⟨a', c', ea, hlc, hcm, hn0, hp⟩ := hrec.form
  simp only [Value.slice.injEq, true_and] at ea
  obtain ⟨rfl, rfl⟩ := ea
  obtain ⟨ta', tc', ea, hlt1, hlt2, hlt3, hpt⟩ := htop.form
  simp only [Value.slice.injEq, true_and] at ea
  obtain ⟨rfl, rfl⟩ := ea
  have hmx : maxLen = 9223372036854775807 := by simp [maxLen]
  rw [hmx] at hcm hlt2
  have hlt := h.lt
  obtain ⟨w0, hw0⟩ : ∃ w0, w0 = w.alloc (.cells #[.int .i64 7, .int .i64 corr, .int .i64 0, .int .i64 offset, .int .i64 start, .int .i64 fin, .bool found, .slice a recs.length c, .slice ta topics.length tc] 38) := ⟨_, rfl⟩
  have hbox : w0.heap[w.heap.size]? = some (.cells #[.int .i64 7, .int .i64 corr, .int .i64 0, .int .i64 offset, .int .i64 start, .int .i64 fin, .bool found, .slice a recs.length c, .slice ta topics.length tc] 38 (0, 0)) := by rw [hw0]; exact heap_new w _
  have hal : Turn [] w w0 := by rw [hw0]; exact (Turn.refl [] w).alloc _
  have hm0 := h.still hal
  have box : ∀ wi si bi, MkTo wT As.errN w0 wi wb base s0 si bi → w.heap.size < wi.heap.size ∧ wi.cell? ⟨w.heap.size, 0, none⟩ = some (.int .i64 7) ∧ wi.cell? ⟨w.heap.size, 1, none⟩ = some (.int .i64 corr) ∧ wi.cell? ⟨w.heap.size, 2, none⟩ = some (.int .i64 0) ∧ wi.cell? ⟨w.heap.size, 3, none⟩ = some (.int .i64 offset) ∧ wi.cell? ⟨w.heap.size, 4, none⟩ = some (.int .i64 start) ∧ wi.cell? ⟨w.heap.size, 5, none⟩ = some (.int .i64 fin) ∧ wi.cell? ⟨w.heap.size, 6, none⟩ = some (.bool found) ∧ wi.cell? ⟨w.heap.size, 7, none⟩ = some (.slice a recs.length c) ∧ wi.cell? ⟨w.heap.size, 8, none⟩ = some (.slice ta topics.length tc) :=
    fun wi si bi h2 => by
      have hb := h2.box hbox (by omega) (fun x hx => by have := (hlt.2 x hx).2; omega)
      exact ⟨lt_of_heap hb, by simpa [strV] using cell_of hb 0, by simpa [strV] using cell_of hb 1, by simpa [strV] using cell_of hb 2, by simpa [strV] using cell_of hb 3, by simpa [strV] using cell_of hb 4, by simpa [strV] using cell_of hb 5, by simpa [strV] using cell_of hb 6, by simpa [strV] using cell_of hb 7, by simpa [strV] using cell_of hb 8⟩
  have fin : ∀ wi si bi, MkTo wT As.errN w0 wi wb base s0 si bi → bi = pRun b0 (ansCl ⟨7, corr, 0, offset, start, fin, found, recs, topics⟩) → ∃ sv', MkTo wT As.errN w wi wb base s0 sv' (pRun b0 (ansCl ⟨7, corr, 0, offset, start, fin, found, recs, topics⟩)) :=
    fun wi si bi h2 e => ⟨si, e ▸ MkTo.pre hal h2⟩
  have recsAt : ∀ wi si bi, MkTo wT As.errN w0 wi wb base s0 si bi → RecsAt wi (.slice a recs.length c) recs := fun wi si bi hg =>
    (hrec.still hal).kept' hg.2.1 (fun h0 k hk hm => by
      have h1 := hrb h0 k hk
      rcases List.mem_cons.1 hm with rfl | hm
      · omega
      · have := (hlt.2 k (by simpa using hm)).1; omega)
  have RECS := hide recsAt
  have topsAt : ∀ wi si bi, MkTo wT As.errN w0 wi wb base s0 si bi → TopsAt wi (.slice ta topics.length tc) topics := fun wi si bi hg =>
    (htop.still hal).kept' hg.2.1 (fun h0 k hk hm => by
      have h1 := htb h0 k hk
      rcases List.mem_cons.1 hm with rfl | hm
      · omega
      · have := (hlt.2 k (by simpa using hm)).1; omega)
  have TOPS := hide topsAt
  have hsz0 : base ≤ w0.heap.size := by have := hal.size; omega
  have BOX := hide box
  have FIN := hide fin
  have HT0 := hide hm0.self
  have HW0 := hide hw0
  have HLT := hide hlt
  clear h box fin hm0 hal hbox hw0 hlt recsAt topsAt hrec htop hrb htb hn0 hlt3
  go_enter Tryd.func47, Tryd.ntmps47
  go_upto_region 1 with fail
  rw [show w.alloc (.cells #[.int .i64 7, .int .i64 corr, .int .i64 0, .int .i64 offset, .int .i64 start, .int .i64 fin, .bool found, .slice a recs.length c, .slice ta topics.length tc] 38) = w0 from HW0.out.symm]
  obtain ⟨z0, q0, q1, q2, q3, q4, q5, q6, q7, q8⟩ := BOX.out _ _ _ HT0.out
  go_wp2_with fail
  refine (numbers_new _ wb base s0 b0 HT0.out.1 (by omega) [7, corr, 0] (by rfl) (by rfl) (by rfl) (by simp) (by omega)).mono ?_
  rintro e wz1 ⟨rfl, s1, hto⟩
  have HT1 := hide (HT0.out.trans hto)
  clear hto
  have hl1 := pStep_len b0 (.ns [7, corr, 0]) (by simp)
  have e2 : nums (cut b0) [7, corr, 0] = pStep b0 (.ns [7, corr, 0]) := rfl
  rw [e2] at HT1
  clear e2
  obtain ⟨b1, hb⟩ : ∃ b, b = pStep b0 (.ns [7, corr, 0]) := ⟨_, rfl⟩
  rw [← hb] at HT1 hl1
  have HB1 := hide hb
  clear hb
  have hsz1 := HT1.out.2.1.size
  clear z0 q0 q1 q2 q3 q4 q5 q6 q7 q8
  obtain ⟨z0, q0, q1, q2, q3, q4, q5, q6, q7, q8⟩ := BOX.out _ _ _ HT1.out
  go_wp2_with fail
  refine (numbers_new _ wb base s1 b1 HT1.out.1 (by omega) [(topics.length : Int)] (by rfl) (by rfl) (by rfl) (by simp) (by omega)).mono ?_
  rintro e wz2 ⟨rfl, s2, hto⟩
  have HT2 := hide (HT1.out.trans hto)
  clear hto
  have hl2 := pStep_len b1 (.ns [(topics.length : Int)]) (by simp)
  have e2 : nums (cut b1) [(topics.length : Int)] = pStep b1 (.ns [(topics.length : Int)]) := rfl
  rw [e2] at HT2
  clear e2
  obtain ⟨b2, hb⟩ : ∃ b, b = pStep b1 (.ns [(topics.length : Int)]) := ⟨_, rfl⟩
  rw [← hb] at HT2 hl2
  have HB2 := hide hb
  clear hb
  have hsz2 := HT2.out.2.1.size
  clear z0 q0 q1 q2 q3 q4 q5 q6 q7 q8
  obtain ⟨z0, q0, q1, q2, q3, q4, q5, q6, q7, q8⟩ := BOX.out _ _ _ HT2.out
  go_wp2
  go_loopw [90] (fun iv wr => ∃ (j : Nat) (sr : Value), j ≤ topics.length ∧ iv = .int .i64 (j : Int) ∧ MkTo wT As.errN w0 wr wb base s0 sr (pRun b2 ((topics.take j).flatMap tpCl))) (fun iv _ => topics.length - (intOf iv).toNat)
  case atStart => exact ⟨0, _, Nat.zero_le _, rfl, HT2.out⟩
  case round =>
    obtain ⟨j, sr, hj, rfl, hr⟩ := hrel
    have hszr := hr.2.1.size
    have hrl := pRun_len b2 ((topics.take j).flatMap tpCl) hl2 (fun c hc => by obtain ⟨x, -, hc⟩ := List.mem_flatMap.1 hc; exact tpCl_sz x c hc)
    clear z0 q0 q1 q2 q3 q4 q5 q6 q7 q8
    obtain ⟨z0, q0, q1, q2, q3, q4, q5, q6, q7, q8⟩ := BOX.out _ _ _ hr
    by_cases hlt : j < topics.length
    · have hlt1 : (j : Int) < topics.length := by omega
      obtain ⟨p, rfl⟩ := hpt j hlt
      obtain ⟨g0, g1, g2⟩ := (TOPS.out _ _ _ hr).three hlt
      have hok := (TOPS.out _ _ _ hr).ok hlt
      have hsn := pRun_snoc tpCl b2 hlt
      obtain ⟨r, hrr⟩ : ∃ r, r = topics[j] := ⟨_, rfl⟩
      rw [← hrr] at g0 g1 g2 hok hsn
      obtain ⟨t, ht⟩ : ∃ t, t = pRun b2 ((topics.take j).flatMap tpCl) := ⟨_, rfl⟩
      rw [← ht] at hsn hr hrl
      have HR := hide hr
      have HOK := hide hok
      have HSN := hide hsn
      clear hrr ht hr hok hsn
      obtain ⟨wa, hwa⟩ : ∃ wa, wa = wr.alloc (.cells #[.string ⟨r.name.toArray⟩, .int .i64 r.parts, .bool r.compact] 67) := ⟨_, rfl⟩
      have hta : Turn [] wr wa := by rw [hwa]; exact (Turn.refl [] wr).alloc _
      have hbx : wa.heap[wr.heap.size]? = some (.cells #[.string ⟨r.name.toArray⟩, .int .i64 r.parts, .bool r.compact] 67 (0, 0)) := by rw [hwa]; exact heap_new wr _
      have hla := HR.out.1.lt
      have box2 : ∀ wi si bi, MkTo wT As.errN wa wi wb base sr si bi → wr.heap.size < wi.heap.size ∧ wi.cell? ⟨wr.heap.size, 0, none⟩ = some (.string ⟨r.name.toArray⟩) ∧ wi.cell? ⟨wr.heap.size, 1, none⟩ = some (.int .i64 r.parts) ∧ wi.cell? ⟨wr.heap.size, 2, none⟩ = some (.bool r.compact) := fun wi si bi h2 => by
        have hb := h2.box hbx (by omega) (fun x hx => by have := (hla.2 x hx).2; omega)
        exact ⟨lt_of_heap hb, by simpa using cell_of hb 0, by simpa using cell_of hb 1, by simpa using cell_of hb 2⟩
      have BOX2 := hide box2
      have HMA := hide (HR.out.1.still hta).self
      have HTA := hide hta
      have HWA := hide hwa
      have hsa := hta.size
      have hra := pStep_len t (.tx r.name 40) (by simp)
      have hnm := HOK.out.name
      clear box2 hbx hla hwa hta
      go_upto_region 25 with fail
      rw [show wr.alloc (.cells #[.string ⟨r.name.toArray⟩, .int .i64 r.parts, .bool r.compact] 67) = wa from HWA.out.symm]
      obtain ⟨y0, y1, y2, y3⟩ := BOX2.out _ _ _ HMA.out
      go_wp2_with fail
      refine (text_any wa wb base sr t HMA.out.1 (by omega) r.name 40 (by omega) hnm (by omega)).mono ?_
      rintro e wx ⟨rfl, s3, hto⟩
      have HT3 := hide (HMA.out.trans hto)
      have hs3 := HT3.out.2.1.size
      clear hto y0 y1 y2 y3 g0 g1 g2
      go_wp2
      refine wp_region_tail 7 (Turn []) (by kernel_rfl) (by kernel_rfl) (by kernel_rfl) (by kernel_rfl) (by kernel_rfl) (Nat.le_of_ble_eq_true rfl) rfl (Turn.refl _) (fun _ _ _ h k => h.same k) ?_
      apply Lo.runx 1 rfl rfl [] (by kernel_rfl) (Turn.refl _)
      apply Exists.intro; apply And.intro
      · intro u w1 hR hF
        clear hF
        refine ⟨rfl, fun a ha K hK => ?_⟩
        have e0 := ha 0
        conv at e0 => rhs; whnf
        clear ha
        go_simp
        refine hK _ ?_; rfl
      apply Lo.runx 2 rfl rfl [] (by kernel_rfl) (Turn.refl _)
      apply Exists.intro; apply And.intro
      · intro u w1 hR hF
        clear hF
        refine ⟨rfl, fun a ha K hK => ?_⟩
        have e7 := ha 7
        conv at e7 => rhs; whnf
        clear ha
        go_simp
        refine hK _ ?_; rfl
      apply Lo.runx 3 rfl rfl [1] (by kernel_rfl) (Turn.refl _)
      apply Exists.intro; apply And.intro
      · intro u w1 hR hF
        obtain ⟨h1, -⟩ := hF
        refine ⟨rfl, fun a ha K hK => ?_⟩
        have e99 := (ha 99).trans h1
        clear ha h1
        obtain ⟨y0, y1, y2, y3⟩ := BOX2.out w1 _ _ (HT3.out.still (((Turn.refl [] _).drew).same hR))
        go_simp
        refine hK _ ?_; rfl
      apply Lo.runx 4 rfl rfl [] (by kernel_rfl) (Turn.refl _)
      apply Exists.intro; apply And.intro
      · intro u w1 hR hF
        clear hF
        refine ⟨rfl, fun a ha K hK => ?_⟩
        have e7 := ha 7
        conv at e7 => rhs; whnf
        clear ha
        go_simp
        refine hK _ ?_; rfl
      apply Lo.runx 5 rfl rfl [3] (by kernel_rfl) (Turn.refl _)
      apply Exists.intro; apply And.intro
      · intro u w1 hR hF
        obtain ⟨h3, -⟩ := hF
        refine ⟨rfl, fun a ha K hK => ?_⟩
        have e101 := (ha 101).trans h3
        clear ha h3
        obtain ⟨y0, y1, y2, y3⟩ := BOX2.out w1 _ _ (HT3.out.still (((Turn.refl [] _).drew).same hR))
        go_simp
        refine hK _ ?_; rfl
      refine Lo.run 6 rfl rfl [4] (fun y _ => y = .int .i64 (tr r.compact)) (by kernel_rfl) (fun x w w' h hR => ?_) (fun _ _ h => h) (fun u w1 hR hF => ?_) ?_
      · exact h
      · obtain ⟨h4, -⟩ := hF
        refine ⟨rfl, fun a ha K hK => ?_⟩
        have e102 := (ha 102).trans h4
        clear ha h4
        go_simp
        refine (truth_any _ r.compact).mono ?_
        rintro e w2 ⟨rfl, rfl⟩
        exact hK _ _ rfl (Turn.refl _ _)
      refine Lo.run 7 rfl rfl [2, 5] (fun y w' => ∃ k, y = .slice (some ⟨k, 0, none⟩) 2 2 ∧ w'.heap[k]? = some (.cells (intsZ [r.parts, tr r.compact]) 3 (0, 0))) (by kernel_rfl) (fun x w w' h hR => ?_) (fun _ _ h => h) (fun u w1 hR hF => ?_) ?_
      · obtain ⟨k, h1, h2⟩ := h; exact ⟨k, h1, hR.heap h2 (by simp)⟩
      · obtain ⟨h2, h5, -⟩ := hF
        refine ⟨rfl, fun a ha K hK => ?_⟩
        have e100 := (ha 100).trans h2
        have e103 : a.tmps.getD 103 undef = u 5 := ha 103
        have h5 := (show (fun y _ => y = .int .i64 (tr r.compact)) (u 5) w1 from h5)
        dsimp only at h5
        clear ha h2
        have e100' : a.tmps[100]?.getD undef = .int .i64 r.parts := by rw [← Array.getD_eq_getD_getElem?, e100]
        have e103' : a.tmps[103]?.getD undef = .int .i64 (tr r.compact) := by rw [← Array.getD_eq_getD_getElem?, e103]; exact h5
        go_simp
        exact hK _ _ ⟨w1.heap.size, rfl, heap_new w1 _⟩ ((Turn.refl _ _).alloc _)
      refine Lo.done [0, 6] (fun u w1 hRd hSd hF => ?_)
      clear hSd
      obtain ⟨f0, f6, -⟩ := hF
      have d0 : u 0 = _ := f0
      have d6 := (show (fun y w' => ∃ k, y = .slice (some ⟨k, 0, none⟩) 2 2 ∧ w'.heap[k]? = some (.cells (intsZ [r.parts, tr r.compact]) 3 (0, 0))) (u 6) w1 from f6)
      dsimp only at d6
      clear f0 f6
      simp only [List.take_succ_cons, List.take_zero, List.drop_succ_cons, List.drop_zero, putFrom, Act.put, List.setIfInBounds_toArray, List.set_cons_succ, List.set_cons_zero, Nat.zero_add, Nat.reduceAdd, d0]
      have ht1 := ((Turn.refl [] _).drew).same hRd
      have hm1 := HT3.out.still ht1
      obtain ⟨k, hk1, hk2⟩ := d6
      have HM1 := hide hm1
      have HK2 := hide hk2
      have hs1 := ht1.size
      rw [hk1]
      clear hRd ht1 hm1 hk1 hk2
      go_wp2_with fail
      refine (numbers_any w1 wb base s3 _ HM1.out.1 (by omega) k [r.parts, tr r.compact] HK2.out (by simp) (by omega)).mono ?_
      rintro e wy ⟨rfl, s4, hto⟩
      have HT := hide (HR.out.trans (MkTo.pre HTA.out (HM1.out.trans hto)))
      clear hto HM1 HK2
      go_wp2
      refine ⟨⟨j + 1, s4, by omega, by go_num, by rw [HSN.out]; exact HT.out⟩, ?_⟩
      simp only [intOf]; omega
    · obtain rfl : j = topics.length := by omega
      have hlt1 : ¬ (topics.length : Int) < topics.length := by omega
      have HR := hide hr
      clear hr
      go_wp2
      go_end0
      refine ⟨rfl, FIN.out _ _ _ HR.out ?_⟩
      rw [List.take_of_length_le (Nat.le_refl _), HB2.out, HB1.out]
      rfl
set_option maxHeartbeats 8000000 in
theorem wans3t_any (w : World) (wb base : Nat) (s0 : Value) (b0 : WS) (h : MkAt wT As.errN w wb base s0 b0) (hbase : base ≤ w.heap.size) (hwb : base ≤ wb) (corr offset start fin : Int) (recs : List Bt.Rec) (topics : List Tp) (a ta : Option Addr) (c tc : Nat) (hrec : RecsAt w (.slice a recs.length c) recs) (htop : TopsAt w (.slice ta topics.length tc) topics) (hrb : recs ≠ [] → ∀ k ∈ (Value.slice a recs.length c).ownBlock, k < base) (htb : topics ≠ [] → ∀ k ∈ (Value.slice ta topics.length tc).ownBlock, k < base) (hl0 : b0.1.length ≤ 12000) :
    Calls Tryd.prog 47 #[.pointer (some ⟨wb, 0, none⟩), .agg #[.int .i64 3, .int .i64 corr, .int .i64 0, .int .i64 offset, .int .i64 start, .int .i64 fin, .bool true, .slice a recs.length c, .slice ta topics.length tc]] w fun e w' => e = .returned (.tuple #[]) ∧ ∃ sv', MkTo wT As.errN w w' wb base s0 sv' (pRun b0 (ansCl ⟨3, corr, 0, offset, start, fin, true, recs, topics⟩)) := by
  obtain ⟨a', c', ea, hlc, hcm, hn0, hp⟩ := hrec.form
  simp only [Value.slice.injEq, true_and] at ea
  obtain ⟨rfl, rfl⟩ := ea
  obtain ⟨ta', tc', ea, hlt1, hlt2, hlt3, hpt⟩ := htop.form
  simp only [Value.slice.injEq, true_and] at ea
  obtain ⟨rfl, rfl⟩ := ea
  have hmx : maxLen = 9223372036854775807 := by simp [maxLen]
  rw [hmx] at hcm hlt2
  have hlt := h.lt
  obtain ⟨w0, hw0⟩ : ∃ w0, w0 = w.alloc (.cells #[.int .i64 3, .int .i64 corr, .int .i64 0, .int .i64 offset, .int .i64 start, .int .i64 fin, .bool true, .slice a recs.length c, .slice ta topics.length tc] 38) := ⟨_, rfl⟩
  have hbox : w0.heap[w.heap.size]? = some (.cells #[.int .i64 3, .int .i64 corr, .int .i64 0, .int .i64 offset, .int .i64 start, .int .i64 fin, .bool true, .slice a recs.length c, .slice ta topics.length tc] 38 (0, 0)) := by rw [hw0]; exact heap_new w _
  have hal : Turn [] w w0 := by rw [hw0]; exact (Turn.refl [] w).alloc _
  have hm0 := h.still hal
  have box : ∀ wi si bi, MkTo wT As.errN w0 wi wb base s0 si bi → w.heap.size < wi.heap.size ∧ wi.cell? ⟨w.heap.size, 0, none⟩ = some (.int .i64 3) ∧ wi.cell? ⟨w.heap.size, 1, none⟩ = some (.int .i64 corr) ∧ wi.cell? ⟨w.heap.size, 2, none⟩ = some (.int .i64 0) ∧ wi.cell? ⟨w.heap.size, 3, none⟩ = some (.int .i64 offset) ∧ wi.cell? ⟨w.heap.size, 4, none⟩ = some (.int .i64 start) ∧ wi.cell? ⟨w.heap.size, 5, none⟩ = some (.int .i64 fin) ∧ wi.cell? ⟨w.heap.size, 6, none⟩ = some (.bool true) ∧ wi.cell? ⟨w.heap.size, 7, none⟩ = some (.slice a recs.length c) ∧ wi.cell? ⟨w.heap.size, 8, none⟩ = some (.slice ta topics.length tc) :=
    fun wi si bi h2 => by
      have hb := h2.box hbox (by omega) (fun x hx => by have := (hlt.2 x hx).2; omega)
      exact ⟨lt_of_heap hb, by simpa [strV] using cell_of hb 0, by simpa [strV] using cell_of hb 1, by simpa [strV] using cell_of hb 2, by simpa [strV] using cell_of hb 3, by simpa [strV] using cell_of hb 4, by simpa [strV] using cell_of hb 5, by simpa [strV] using cell_of hb 6, by simpa [strV] using cell_of hb 7, by simpa [strV] using cell_of hb 8⟩
  have fin : ∀ wi si bi, MkTo wT As.errN w0 wi wb base s0 si bi → bi = pRun b0 (ansCl ⟨3, corr, 0, offset, start, fin, true, recs, topics⟩) → ∃ sv', MkTo wT As.errN w wi wb base s0 sv' (pRun b0 (ansCl ⟨3, corr, 0, offset, start, fin, true, recs, topics⟩)) :=
    fun wi si bi h2 e => ⟨si, e ▸ MkTo.pre hal h2⟩
  have recsAt : ∀ wi si bi, MkTo wT As.errN w0 wi wb base s0 si bi → RecsAt wi (.slice a recs.length c) recs := fun wi si bi hg =>
    (hrec.still hal).kept' hg.2.1 (fun h0 k hk hm => by
      have h1 := hrb h0 k hk
      rcases List.mem_cons.1 hm with rfl | hm
      · omega
      · have := (hlt.2 k (by simpa using hm)).1; omega)
  have RECS := hide recsAt
  have topsAt : ∀ wi si bi, MkTo wT As.errN w0 wi wb base s0 si bi → TopsAt wi (.slice ta topics.length tc) topics := fun wi si bi hg =>
    (htop.still hal).kept' hg.2.1 (fun h0 k hk hm => by
      have h1 := htb h0 k hk
      rcases List.mem_cons.1 hm with rfl | hm
      · omega
      · have := (hlt.2 k (by simpa using hm)).1; omega)
  have TOPS := hide topsAt
  have hsz0 : base ≤ w0.heap.size := by have := hal.size; omega
  have BOX := hide box
  have FIN := hide fin
  have HT0 := hide hm0.self
  have HW0 := hide hw0
  have HLT := hide hlt
  clear h box fin hm0 hal hbox hw0 hlt recsAt topsAt hrec htop hrb htb hn0 hlt3
  go_enter Tryd.func47, Tryd.ntmps47
  go_upto_region 1 with fail
  rw [show w.alloc (.cells #[.int .i64 3, .int .i64 corr, .int .i64 0, .int .i64 offset, .int .i64 start, .int .i64 fin, .bool true, .slice a recs.length c, .slice ta topics.length tc] 38) = w0 from HW0.out.symm]
  obtain ⟨z0, q0, q1, q2, q3, q4, q5, q6, q7, q8⟩ := BOX.out _ _ _ HT0.out
  go_wp2_with fail
  refine (numbers_new _ wb base s0 b0 HT0.out.1 (by omega) [3, corr, 0] (by rfl) (by rfl) (by rfl) (by simp) (by omega)).mono ?_
  rintro e wz1 ⟨rfl, s1, hto⟩
  have HT1 := hide (HT0.out.trans hto)
  clear hto
  have hl1 := pStep_len b0 (.ns [3, corr, 0]) (by simp)
  have e2 : nums (cut b0) [3, corr, 0] = pStep b0 (.ns [3, corr, 0]) := rfl
  rw [e2] at HT1
  clear e2
  obtain ⟨b1, hb⟩ : ∃ b, b = pStep b0 (.ns [3, corr, 0]) := ⟨_, rfl⟩
  rw [← hb] at HT1 hl1
  have HB1 := hide hb
  clear hb
  have hsz1 := HT1.out.2.1.size
  clear z0 q0 q1 q2 q3 q4 q5 q6 q7 q8
  obtain ⟨z0, q0, q1, q2, q3, q4, q5, q6, q7, q8⟩ := BOX.out _ _ _ HT1.out
  go_wp2_with fail
  refine (truth_any _ true).mono ?_
  rintro e wt ⟨rfl, rfl⟩
  go_wp2_with fail
  refine (numbers_new _ wb base s1 b1 HT1.out.1 (by omega) [tr true] (by rfl) (by rfl) (by rfl) (by simp) (by omega)).mono ?_
  rintro e wz2 ⟨rfl, s2, hto⟩
  have HT2 := hide (HT1.out.trans hto)
  clear hto
  have hl2 := pStep_len b1 (.ns [tr true]) (by simp)
  have e2 : nums (cut b1) [tr true] = pStep b1 (.ns [tr true]) := rfl
  rw [e2] at HT2
  clear e2
  obtain ⟨b2, hb⟩ : ∃ b, b = pStep b1 (.ns [tr true]) := ⟨_, rfl⟩
  rw [← hb] at HT2 hl2
  have HB2 := hide hb
  clear hb
  have hsz2 := HT2.out.2.1.size
  clear z0 q0 q1 q2 q3 q4 q5 q6 q7 q8
  obtain ⟨z0, q0, q1, q2, q3, q4, q5, q6, q7, q8⟩ := BOX.out _ _ _ HT2.out
  go_wp2_with fail
  refine (numbers_new _ wb base s2 b2 HT2.out.1 (by omega) [offset] (by rfl) (by rfl) (by rfl) (by simp) (by omega)).mono ?_
  rintro e wz3 ⟨rfl, s3, hto⟩
  have HT3 := hide (HT2.out.trans hto)
  clear hto
  have hl3 := pStep_len b2 (.ns [offset]) (by simp)
  have e2 : nums (cut b2) [offset] = pStep b2 (.ns [offset]) := rfl
  rw [e2] at HT3
  clear e2
  obtain ⟨b3, hb⟩ : ∃ b, b = pStep b2 (.ns [offset]) := ⟨_, rfl⟩
  rw [← hb] at HT3 hl3
  have HB3 := hide hb
  clear hb
  have hsz3 := HT3.out.2.1.size
  clear z0 q0 q1 q2 q3 q4 q5 q6 q7 q8
  obtain ⟨z0, q0, q1, q2, q3, q4, q5, q6, q7, q8⟩ := BOX.out _ _ _ HT3.out
  go_wp2
  go_end0
  exact ⟨rfl, FIN.out _ _ _ HT3.out (by rw [HB3.out, HB2.out, HB1.out]; rfl)⟩
set_option maxHeartbeats 8000000 in
theorem wans3f_any (w : World) (wb base : Nat) (s0 : Value) (b0 : WS) (h : MkAt wT As.errN w wb base s0 b0) (hbase : base ≤ w.heap.size) (hwb : base ≤ wb) (corr offset start fin : Int) (recs : List Bt.Rec) (topics : List Tp) (a ta : Option Addr) (c tc : Nat) (hrec : RecsAt w (.slice a recs.length c) recs) (htop : TopsAt w (.slice ta topics.length tc) topics) (hrb : recs ≠ [] → ∀ k ∈ (Value.slice a recs.length c).ownBlock, k < base) (htb : topics ≠ [] → ∀ k ∈ (Value.slice ta topics.length tc).ownBlock, k < base) (hl0 : b0.1.length ≤ 12000) :
    Calls Tryd.prog 47 #[.pointer (some ⟨wb, 0, none⟩), .agg #[.int .i64 3, .int .i64 corr, .int .i64 0, .int .i64 offset, .int .i64 start, .int .i64 fin, .bool false, .slice a recs.length c, .slice ta topics.length tc]] w fun e w' => e = .returned (.tuple #[]) ∧ ∃ sv', MkTo wT As.errN w w' wb base s0 sv' (pRun b0 (ansCl ⟨3, corr, 0, offset, start, fin, false, recs, topics⟩)) := by
  obtain ⟨a', c', ea, hlc, hcm, hn0, hp⟩ := hrec.form
  simp only [Value.slice.injEq, true_and] at ea
  obtain ⟨rfl, rfl⟩ := ea
  obtain ⟨ta', tc', ea, hlt1, hlt2, hlt3, hpt⟩ := htop.form
  simp only [Value.slice.injEq, true_and] at ea
  obtain ⟨rfl, rfl⟩ := ea
  have hmx : maxLen = 9223372036854775807 := by simp [maxLen]
  rw [hmx] at hcm hlt2
  have hlt := h.lt
  obtain ⟨w0, hw0⟩ : ∃ w0, w0 = w.alloc (.cells #[.int .i64 3, .int .i64 corr, .int .i64 0, .int .i64 offset, .int .i64 start, .int .i64 fin, .bool false, .slice a recs.length c, .slice ta topics.length tc] 38) := ⟨_, rfl⟩
  have hbox : w0.heap[w.heap.size]? = some (.cells #[.int .i64 3, .int .i64 corr, .int .i64 0, .int .i64 offset, .int .i64 start, .int .i64 fin, .bool false, .slice a recs.length c, .slice ta topics.length tc] 38 (0, 0)) := by rw [hw0]; exact heap_new w _
  have hal : Turn [] w w0 := by rw [hw0]; exact (Turn.refl [] w).alloc _
  have hm0 := h.still hal
  have box : ∀ wi si bi, MkTo wT As.errN w0 wi wb base s0 si bi → w.heap.size < wi.heap.size ∧ wi.cell? ⟨w.heap.size, 0, none⟩ = some (.int .i64 3) ∧ wi.cell? ⟨w.heap.size, 1, none⟩ = some (.int .i64 corr) ∧ wi.cell? ⟨w.heap.size, 2, none⟩ = some (.int .i64 0) ∧ wi.cell? ⟨w.heap.size, 3, none⟩ = some (.int .i64 offset) ∧ wi.cell? ⟨w.heap.size, 4, none⟩ = some (.int .i64 start) ∧ wi.cell? ⟨w.heap.size, 5, none⟩ = some (.int .i64 fin) ∧ wi.cell? ⟨w.heap.size, 6, none⟩ = some (.bool false) ∧ wi.cell? ⟨w.heap.size, 7, none⟩ = some (.slice a recs.length c) ∧ wi.cell? ⟨w.heap.size, 8, none⟩ = some (.slice ta topics.length tc) :=
    fun wi si bi h2 => by
      have hb := h2.box hbox (by omega) (fun x hx => by have := (hlt.2 x hx).2; omega)
      exact ⟨lt_of_heap hb, by simpa [strV] using cell_of hb 0, by simpa [strV] using cell_of hb 1, by simpa [strV] using cell_of hb 2, by simpa [strV] using cell_of hb 3, by simpa [strV] using cell_of hb 4, by simpa [strV] using cell_of hb 5, by simpa [strV] using cell_of hb 6, by simpa [strV] using cell_of hb 7, by simpa [strV] using cell_of hb 8⟩
  have fin : ∀ wi si bi, MkTo wT As.errN w0 wi wb base s0 si bi → bi = pRun b0 (ansCl ⟨3, corr, 0, offset, start, fin, false, recs, topics⟩) → ∃ sv', MkTo wT As.errN w wi wb base s0 sv' (pRun b0 (ansCl ⟨3, corr, 0, offset, start, fin, false, recs, topics⟩)) :=
    fun wi si bi h2 e => ⟨si, e ▸ MkTo.pre hal h2⟩
  have recsAt : ∀ wi si bi, MkTo wT As.errN w0 wi wb base s0 si bi → RecsAt wi (.slice a recs.length c) recs := fun wi si bi hg =>
    (hrec.still hal).kept' hg.2.1 (fun h0 k hk hm => by
      have h1 := hrb h0 k hk
      rcases List.mem_cons.1 hm with rfl | hm
      · omega
      · have := (hlt.2 k (by simpa using hm)).1; omega)
  have RECS := hide recsAt
  have topsAt : ∀ wi si bi, MkTo wT As.errN w0 wi wb base s0 si bi → TopsAt wi (.slice ta topics.length tc) topics := fun wi si bi hg =>
    (htop.still hal).kept' hg.2.1 (fun h0 k hk hm => by
      have h1 := htb h0 k hk
      rcases List.mem_cons.1 hm with rfl | hm
      · omega
      · have := (hlt.2 k (by simpa using hm)).1; omega)
  have TOPS := hide topsAt
  have hsz0 : base ≤ w0.heap.size := by have := hal.size; omega
  have BOX := hide box
  have FIN := hide fin
  have HT0 := hide hm0.self
  have HW0 := hide hw0
  have HLT := hide hlt
  clear h box fin hm0 hal hbox hw0 hlt recsAt topsAt hrec htop hrb htb hn0 hlt3
  go_enter Tryd.func47, Tryd.ntmps47
  go_upto_region 1 with fail
  rw [show w.alloc (.cells #[.int .i64 3, .int .i64 corr, .int .i64 0, .int .i64 offset, .int .i64 start, .int .i64 fin, .bool false, .slice a recs.length c, .slice ta topics.length tc] 38) = w0 from HW0.out.symm]
  obtain ⟨z0, q0, q1, q2, q3, q4, q5, q6, q7, q8⟩ := BOX.out _ _ _ HT0.out
  go_wp2_with fail
  refine (numbers_new _ wb base s0 b0 HT0.out.1 (by omega) [3, corr, 0] (by rfl) (by rfl) (by rfl) (by simp) (by omega)).mono ?_
  rintro e wz1 ⟨rfl, s1, hto⟩
  have HT1 := hide (HT0.out.trans hto)
  clear hto
  have hl1 := pStep_len b0 (.ns [3, corr, 0]) (by simp)
  have e2 : nums (cut b0) [3, corr, 0] = pStep b0 (.ns [3, corr, 0]) := rfl
  rw [e2] at HT1
  clear e2
  obtain ⟨b1, hb⟩ : ∃ b, b = pStep b0 (.ns [3, corr, 0]) := ⟨_, rfl⟩
  rw [← hb] at HT1 hl1
  have HB1 := hide hb
  clear hb
  have hsz1 := HT1.out.2.1.size
  clear z0 q0 q1 q2 q3 q4 q5 q6 q7 q8
  obtain ⟨z0, q0, q1, q2, q3, q4, q5, q6, q7, q8⟩ := BOX.out _ _ _ HT1.out
  go_wp2_with fail
  refine (truth_any _ false).mono ?_
  rintro e wt ⟨rfl, rfl⟩
  go_wp2_with fail
  refine (numbers_new _ wb base s1 b1 HT1.out.1 (by omega) [tr false] (by rfl) (by rfl) (by rfl) (by simp) (by omega)).mono ?_
  rintro e wz2 ⟨rfl, s2, hto⟩
  have HT2 := hide (HT1.out.trans hto)
  clear hto
  have hl2 := pStep_len b1 (.ns [tr false]) (by simp)
  have e2 : nums (cut b1) [tr false] = pStep b1 (.ns [tr false]) := rfl
  rw [e2] at HT2
  clear e2
  obtain ⟨b2, hb⟩ : ∃ b, b = pStep b1 (.ns [tr false]) := ⟨_, rfl⟩
  rw [← hb] at HT2 hl2
  have HB2 := hide hb
  clear hb
  have hsz2 := HT2.out.2.1.size
  clear z0 q0 q1 q2 q3 q4 q5 q6 q7 q8
  obtain ⟨z0, q0, q1, q2, q3, q4, q5, q6, q7, q8⟩ := BOX.out _ _ _ HT2.out
  go_wp2
  go_end0
  exact ⟨rfl, FIN.out _ _ _ HT2.out (by rw [HB2.out, HB1.out]; rfl)⟩
end Go.Proofs.YtcpjohpbakbggaaDoor.Wi

/- wire's writer: its frame. -/
namespace Go.Proofs.YtcpjohpbakbggaaDoor.Wi
open Go.RowKit Go.Maps
set_option maxRecDepth 100000
set_option linter.unusedSimpArgs false
set_option linter.unusedVariables false

theorem errN_some {e : Int} (h : e ≠ 0) : As.errN e = .iface 26 (.int .i64 e) := by unfold As.errN; rw [if_neg h]
theorem errN_zero : As.errN 0 = .nilIface := by simp [As.errN]
set_option maxHeartbeats 4000000 in
theorem frame_any (w : World) (wb base : Nat) (sv : Value) (s : WS) (h : MkAt wT As.errN w wb base sv s) (hl4 : 4 ≤ s.1.length) (hl : s.1.length ≤ 12000) :
    Calls Tryd.prog 42 #[.pointer (some ⟨wb, 0, none⟩)] w fun e w' => ∃ v, e = .returned (.tuple #[v, As.errN (pF s).2]) ∧ RowAt w' 5 base v (pF s).1 ∧ Turn (sv.ownBlock.toList) w w' := by
  have HM := hide h
  obtain ⟨⟨c0, c1⟩, f0, f1⟩ := h.cells
  have hce : ∀ Z, Turn [] w Z → Z.cell? ⟨wb, 0, none⟩ = some sv ∧ Z.cell? ⟨wb, 1, none⟩ = some (As.errN s.2) := fun Z hZ => (h.still hZ).cells.1
  have HC := hide hce
  clear hce
  by_cases he : s.2 = 0
  · rw [he, errN_zero] at c1
    have hrow := h.2.1
    have hne := h.2.2
    rcases hrow with ⟨-, h0⟩ | ⟨g, cap, cur, rfl, hb, hg, h1, h2, h3, h4⟩
    · rw [h0] at hl4; simp at hl4
    · obtain ⟨n, hn⟩ : ∃ n, n = s.1.length := ⟨_, rfl⟩
      rw [← hn] at hl4 hl h1 h4 c0
      have hp : pF s = if 10004 < n then ([], 4) else (Bt.four (n - 4) ++ s.1.drop 4, 0) := by
        unfold pF
        rw [if_neg (by simpa using he), ← hn]
      have HP := hide hp
      have HG := hide hg
      have HN := hide hn
      have H4 := hide h4
      have hcur : n ≤ cur.size := by omega
      obtain ⟨m, hm⟩ : ∃ m : Nat, m = n - 4 := ⟨_, rfl⟩
      have hsub : ((n : Int) - 4) = (m : Int) := by omega
      clear hp hn h4 h
      by_cases hbig : 10004 < n
      · have hm1 : (m : Int) > 10000 := by omega
        have hp : pF s = ([], 4) := by rw [HP.out, if_pos hbig]
        have HP2 := hide hp
        clear hp hbig hg
        go_enter Tryd.func42, Tryd.ntmps42
        go_wp2
        go_ret2
        refine ⟨.slice none 0 0, ?_, .inl ⟨rfl, by rw [HP2.out]⟩, Turn.refl _ _⟩
        rw [HP2.out]
        simp [As.errN]
      · have hm1 : ¬ (m : Int) > 10000 := by omega
        have hp : pF s = (Bt.four m ++ s.1.drop 4, 0) := by rw [HP.out, if_neg hbig, hm]
        have HP2 := hide hp
        have a0 : w.cell? ⟨g, 0, none⟩ = some (cur[0]'(by omega)) := by rw [cell_of hg]; simp
        have a1 : w.cell? ⟨g, 1, none⟩ = some (cur[1]'(by omega)) := by rw [cell_of hg]; simp
        have a2 : w.cell? ⟨g, 2, none⟩ = some (cur[2]'(by omega)) := by rw [cell_of hg]; simp
        have a3 : w.cell? ⟨g, 3, none⟩ = some (cur[3]'(by omega)) := by rw [cell_of hg]; simp
        have z0 : w.frozen? ⟨g, 0, none⟩ = false := frozen_of hg 0
        have z1 : w.frozen? ⟨g, 1, none⟩ = false := frozen_of hg 1
        have z2 : w.frozen? ⟨g, 2, none⟩ = false := frozen_of hg 2
        have z3 : w.frozen? ⟨g, 3, none⟩ = false := frozen_of hg 3
        have i0 : (0 : Int) < (n : Int) := by omega
        have i1 : (1 : Int) < (n : Int) := by omega
        have i2 : (2 : Int) < (n : Int) := by omega
        have i3 : (3 : Int) < (n : Int) := by omega
        obtain ⟨v0, hv0⟩ : ∃ v, v = cur[0]'(by omega) := ⟨_, rfl⟩
        obtain ⟨v1, hv1⟩ : ∃ v, v = cur[1]'(by omega) := ⟨_, rfl⟩
        obtain ⟨v2, hv2⟩ : ∃ v, v = cur[2]'(by omega) := ⟨_, rfl⟩
        obtain ⟨v3, hv3⟩ : ∃ v, v = cur[3]'(by omega) := ⟨_, rfl⟩
        rw [← hv0] at a0
        rw [← hv1] at a1
        rw [← hv2] at a2
        rw [← hv3] at a3
        clear hv0 hv1 hv2 hv3 hp hbig hg
        go_enter Tryd.func42, Tryd.ntmps42
        go_wp2
        go_region
        obtain ⟨wz, hwz⟩ : ∃ wz, wz = ((((w.setCell ⟨g, 0, none⟩ (.int .u8 ((n - 4 : Nat) / 16777216 : Int))).setCell ⟨g, 1, none⟩ (.int .u8 ((n - 4 : Nat) / 65536 : Int))).setCell ⟨g, 2, none⟩ (.int .u8 ((n - 4 : Nat) / 256 : Int))).setCell ⟨g, 3, none⟩ (.int .u8 ((n - 4 : Nat) % 256 : Int))).drew := ⟨_, rfl⟩
        rw [← hwz]
        have ht : Turn [g] w wz := by
          rw [hwz]
          exact (((((Turn.refl _ _).setCell (.inl (by simp)) _).setCell (.inl (by simp)) _).setCell (.inl (by simp)) _).setCell (.inl (by simp)) _).drew
        have hbw : wz.heap[wb]? = some (.cells #[.slice (some ⟨g, 0, none⟩) n cap, .nilIface] wT (0, 0)) := by
          have h0 := HM.out.1
          rw [he, errN_zero, ← HN.out] at h0
          exact ht.heap h0 (by simp; exact fun e => hne g (by simp [Value.ownBlock]) e.symm)
        have hgz : wz.heap[g]? = some (.cells (set4 cur 0 m) 5 (0, 0)) := by
          have e0 : ((n - 4 : Nat) / 16777216 : Int) = ((m / 16777216 % 256 : Nat) : Int) := by omega
          have e1 : ((n - 4 : Nat) / 65536 : Int) = ((m / 65536 % 256 : Nat) : Int) := by omega
          have e2 : ((n - 4 : Nat) / 256 : Int) = ((m / 256 % 256 : Nat) : Int) := by omega
          have e3 : ((n - 4 : Nat) % 256 : Int) = ((m % 256 : Nat) : Int) := by omega
          rw [hwz, e0, e1, e2, e3]
          exact heap_set (heap_set (heap_set (heap_set HG.out 0 _) 1 _) 2 _) 3 _
        have HT := hide ht
        have HGZ := hide hgz
        have cz : wz.cell? ⟨wb, 0, none⟩ = some (.slice (some ⟨g, 0, none⟩) n cap) := by simpa using cell_of hbw 0
        clear ht hgz hbw hwz a0 a1 a2 a3 z0 z1 z2 z3 c0 c1 f0 f1
        go_wp2
        go_ret2
        refine ⟨.slice (some ⟨g, 0, none⟩) n cap, by rw [HP2.out, errN_zero]; rfl, ?_, by simpa [Value.ownBlock] using HT.out⟩
        rw [HP2.out]
        obtain ⟨b0, b1, b2, b3, post, hs⟩ : ∃ b0 b1 b2 b3 post, s.1 = b0 :: b1 :: b2 :: b3 :: post := by
          have hn := HN.out
          match hh : s.1, hn with
          | [], hn => simp at hn; omega
          | [_], hn => simp at hn; omega
          | [_, _], hn => simp at hn; omega
          | [_, _, _], hn => simp at hn; omega
          | b0 :: b1 :: b2 :: b3 :: post, _ => exact ⟨b0, b1, b2, b3, post, rfl⟩
        have hpl : n = post.length + 4 := by have := HN.out; rw [hs] at this; simpa using this
        have h4 := H4.out
        rw [hs] at h4 ⊢
        have hk := set4_0 (n := m) hpl h4
        refine .inr ⟨g, cap, set4 cur 0 m, ?_, hb, HGZ.out, ?_, by rw [set4_size]; exact h2, h3, ?_⟩
        · simp only [List.drop_succ_cons, List.drop_zero, List.length_append, Bt.four_len]
          rw [hpl, Nat.add_comm]
        · simp only [List.drop_succ_cons, List.drop_zero, List.length_append, Bt.four_len]
          omega
        · simp only [List.drop_succ_cons, List.drop_zero, List.length_append, Bt.four_len]
          rw [show 4 + post.length = n by omega]
          exact hk
  · have hp : pF s = ([], s.2) := by unfold pF; rw [if_pos he]
    have HP := hide hp
    rw [errN_some he] at c1
    obtain ⟨er, her⟩ : ∃ er, er = s.2 := ⟨_, rfl⟩
    have HER := hide her
    rw [← her] at c1 he
    have hc1 : ∀ Z, Turn [] w Z → Z.cell? ⟨wb, 1, none⟩ = some (.iface 26 (.int .i64 er)) := fun Z hZ => by rw [(HC.out Z hZ).2, ← HER.out, errN_some he]
    have HC1 := hide hc1
    have HE := hide he
    clear hp her h hc1 he
    go_enter Tryd.func42, Tryd.ntmps42
    go_wp2
    refine wp_region_loose (Turn []) (by kernel_rfl) (by kernel_rfl) (by kernel_rfl) (by kernel_rfl) rfl (Turn.refl _) (fun _ _ _ h k => h.same k) ?_
    apply Lo.runx 1 rfl rfl [] (by kernel_rfl) (Turn.refl _)
    apply Exists.intro; apply And.intro
    · intro u w1 hR hF
      clear hF
      refine ⟨rfl, fun a ha K hK => ?_⟩
      have e0 := ha 0
      conv at e0 => rhs; whnf
      clear ha
      go_simp
      refine hK _ ?_; rfl
    apply Lo.runx 2 rfl rfl [0] (by kernel_rfl) (Turn.refl _)
    apply Exists.intro; apply And.intro
    · intro u w1 hR hF
      obtain ⟨h0, -⟩ := hF
      refine ⟨rfl, fun a ha K hK => ?_⟩
      have e10 := (ha 10).trans h0
      clear ha h0
      go_simp
      refine hK _ ?_; rfl
    apply Lo.runx 3 rfl rfl [1] (by kernel_rfl) (Turn.refl _)
    apply Exists.intro; apply And.intro
    · intro u w1 hR hF
      obtain ⟨h1, -⟩ := hF
      refine ⟨rfl, fun a ha K hK => ?_⟩
      have e11 := (ha 11).trans h1
      clear ha h1
      go_simp
      refine hK _ ?_; rfl
    apply Lo.runx 4 rfl rfl [2] (by kernel_rfl) (Turn.refl _)
    apply Exists.intro; apply And.intro
    · intro u w1 hR hF
      obtain ⟨h2, -⟩ := hF
      refine ⟨rfl, fun a ha K hK => ?_⟩
      have e12 := (ha 12).trans h2
      clear ha h2
      have c1 := HC1.out w1 (((Turn.refl [] _).drew).same hR)
      go_simp
      refine hK _ ?_; rfl
    apply Lo.runx 5 rfl rfl [] (by kernel_rfl) (Turn.refl _)
    apply Exists.intro; apply And.intro
    · intro u w1 hR hF
      clear hF
      refine ⟨rfl, fun a ha K hK => ?_⟩
      clear ha
      go_simp
      refine hK _ ?_; rfl
    apply Lo.runx 6 rfl rfl [3] (by kernel_rfl) (Turn.refl _)
    apply Exists.intro; apply And.intro
    · intro u w1 hR hF
      obtain ⟨h3, -⟩ := hF
      refine ⟨rfl, fun a ha K hK => ?_⟩
      have e13 := (ha 13).trans h3
      clear ha h3
      go_simp
      refine hK _ ?_; rfl
    refine Lo.done [4, 5] (fun u w1 hRd hSd hF => ?_)
    clear hSd
    obtain ⟨f4, f5, -⟩ := hF
    have d4 : u 4 = _ := f4
    have d5 : u 5 = _ := f5
    clear f4 f5
    simp only [putFrom, Act.put, List.setIfInBounds_toArray, List.set_cons_succ, List.set_cons_zero, Nat.zero_add, Nat.reduceAdd, d4, d5]
    have ht := ((Turn.refl [] w).drew).same hRd
    have HT := hide ht
    clear hRd ht
    go_wp2
    go_ret2
    refine ⟨.slice none 0 0, ?_, .inl ⟨rfl, by rw [HP.out]⟩, HT.out.mono (by simp)⟩
    rw [HP.out, ← HER.out, errN_some HE.out]
    rfl
end Go.Proofs.YtcpjohpbakbggaaDoor.Wi

/- wire.Ask, wire.Tell. -/
namespace Go.Proofs.YtcpjohpbakbggaaDoor.Wi
open Go.RowKit Go.Maps
set_option maxRecDepth 100000
set_option linter.unusedSimpArgs false
set_option linter.unusedVariables false

/-- What the program's writer comes to. -/
def encP (l : List Cl) : List UInt8 × Int := pF (pRun ([0, 0, 0, 0], 0) l)
def askP (x : Req) : List UInt8 × Int := if x.kind < 1 ∨ 7 < x.kind then ([], 1) else encP (reqCl x)
def tellP (x : Ans) : List UInt8 × Int := if x.kind < 1 ∨ 7 < x.kind ∨ x.err < 0 ∨ 15 < x.err then ([], 1) else encP (ansCl x)
def szC : Cl → Prop
  | .ns l => l.length ≤ 9
  | .tx _ m => m ≤ 1000
theorem reqCl_sz (x : Req) : ∀ c ∈ reqCl x, szC c := by
  intro c hc
  unfold reqCl reqTail at hc
  rcases List.mem_cons.1 hc with rfl | hc
  · simp [szC]
  · rcases List.mem_append.1 hc with hc | hc
    · split at hc
      · simp at hc
      · simp at hc; subst hc; simp [szC]
    · split at hc
      · rcases List.mem_cons.1 hc with rfl | hc
        · simp [szC]
        · obtain ⟨r, -, hc⟩ := List.mem_flatMap.1 hc
          have := recCl_sz r c hc
          cases c <;> simpa [szC] using this
      · split at hc
        · simp at hc; subst hc; simp [szC]
        · split at hc
          · simp at hc; subst hc; simp [szC]
          · split at hc
            · simp at hc; subst hc; simp [szC]
            · split at hc
              · simp at hc; subst hc; simp [szC]
              · simp at hc
theorem ansCl_sz (x : Ans) : ∀ c ∈ ansCl x, szC c := by
  intro c hc
  unfold ansCl at hc
  rcases List.mem_cons.1 hc with rfl | hc
  · simp [szC]
  · split at hc
    · unfold ansTail at hc
      split at hc
      · simp at hc; subst hc; simp [szC]
      · split at hc
        · rcases List.mem_cons.1 hc with rfl | hc
          · simp [szC]
          · obtain ⟨r, -, hc⟩ := List.mem_flatMap.1 hc
            have := plCl_sz r c hc
            cases c <;> simpa [szC] using this
        · split at hc
          · rcases List.mem_cons.1 hc with rfl | hc
            · simp [szC]
            · split at hc
              · simp at hc; subst hc; simp [szC]
              · simp at hc
          · split at hc
            · simp at hc; subst hc; simp [szC]
            · split at hc
              · rcases List.mem_cons.1 hc with rfl | hc
                · simp [szC]
                · obtain ⟨r, -, hc⟩ := List.mem_flatMap.1 hc
                  have := tpCl_sz r c hc
                  cases c <;> simpa [szC] using this
              · simp at hc
    · simp at hc
/-! ### where the program's writer finds nothing wrong -/
theorem pStep_ok {s : WS} {c : Cl} (h : (pStep s c).2 = 0) : s.2 = 0 ∧ okC c := by
  cases c with
  | ns l =>
    obtain ⟨h1, h2, -⟩ := nums_ok (show (nums (cut s) l).2 = 0 from h)
    exact ⟨h1, h2⟩
  | tx t most =>
    rw [pStep_tx] at h
    by_cases e : most < t.length
    · rw [if_pos e] at h
      obtain ⟨h1, -, -⟩ := nums_ok h
      simp [cut] at h1
    · rw [if_neg e] at h
      obtain ⟨h1, -, -⟩ := nums_ok h
      exact ⟨h1, by show t.length ≤ most; omega⟩
theorem pRun_ok : ∀ {l : List Cl} {s : WS}, (pRun s l).2 = 0 → ∀ c ∈ l, okC c
  | [], s, h, c, hc => by simp at hc
  | c :: l, s, h, x, hx => by
    rw [pRun_cons] at h
    have h1 : ∀ {l : List Cl} {s : WS}, (pRun s l).2 = 0 → s.2 = 0 := by
      intro l
      induction l with
      | nil => intro s h; exact h
      | cons c l ih => intro s h; rw [pRun_cons] at h; exact (pStep_ok (ih h)).1
    rcases List.mem_cons.1 hx with rfl | hx
    · exact (pStep_ok (h1 h)).2
    · exact pRun_ok h x hx
theorem pF_zero {s : WS} (h : (pF s).2 = 0) : s.2 = 0 := by
  unfold pF at h
  split at h
  · rename_i e; exact absurd h e
  · rename_i e; simpa using e
theorem small_of {l : List Cl} (h : ∀ c ∈ l, okC c) (hs : ∀ c ∈ l, szC c) : ∀ c ∈ l, c.small := by
  intro c hc
  have h1 := h c hc
  have h2 := hs c hc
  cases c with
  | ns l => trivial
  | tx t m => simp only [okC] at h1; simp only [szC] at h2; simp only [Cl.small]; omega
theorem encP_ok {l : List Cl} (hs : ∀ c ∈ l, szC c) (h : (encP l).2 = 0) : encP l = encF l :=
  encF_p (small_of (pRun_ok (pF_zero h)) hs)
theorem askP_ok {x : Req} (h : (askP x).2 = 0) : askP x = askM x := by
  unfold askP at h ⊢
  unfold askM
  split
  · rfl
  · rename_i e
    rw [if_neg e] at h
    exact encP_ok (reqCl_sz x) h
theorem tellP_ok {x : Ans} (h : (tellP x).2 = 0) : tellP x = tellM x := by
  unfold tellP at h ⊢
  unfold tellM
  split
  · rfl
  · rename_i e
    rw [if_neg e] at h
    exact encP_ok (ansCl_sz x) h
theorem askP_small {x : Req} (h : ∀ c ∈ reqCl x, c.small) : askP x = askM x := by
  unfold askP askM
  split
  · rfl
  · exact encF_p h
theorem tellP_small {x : Ans} (h : ∀ c ∈ ansCl x, c.small) : tellP x = tellM x := by
  unfold tellP tellM
  split
  · rfl
  · exact encF_p h

/-! ### the calls -/
theorem wreq_any (w : World) (wb base : Nat) (s0 : Value) (b0 : WS) (h : MkAt wT As.errN w wb base s0 b0) (hbase : base ≤ w.heap.size) (hwb : base ≤ wb) (x : Req) (rv : Value) (hrec : RecsAt w rv x.recs) (hrb : x.recs ≠ [] → ∀ k ∈ rv.ownBlock, k < base) (htl : x.topic.length ≤ 9223372036854775807) (hk : 1 ≤ x.kind ∧ x.kind ≤ 7) (hl0 : b0.1.length ≤ 12000) :
    Calls Tryd.prog 41 #[.pointer (some ⟨wb, 0, none⟩), .agg (reqC x rv)] w fun e w' => e = .returned (.tuple #[]) ∧ ∃ sv', MkTo wT As.errN w w' wb base s0 sv' (pRun b0 (reqCl x)) := by
  obtain ⟨kind, corr, topic, part, offset, most, least, wait, time, parts, sure, compact, recs⟩ := x
  obtain ⟨a, c, rfl, -⟩ := hrec.form
  simp only at hk htl hrec hrb ⊢
  have : kind = 1 ∨ kind = 2 ∨ kind = 3 ∨ kind = 4 ∨ kind = 5 ∨ kind = 6 ∨ kind = 7 := by omega
  rcases this with rfl | rfl | rfl | rfl | rfl | rfl | rfl
  · exact wreq1_any w wb base s0 b0 h hbase hwb corr topic part offset most least wait time parts sure compact recs a c hrec hrb htl hl0
  · exact wreq2_any w wb base s0 b0 h hbase hwb corr topic part offset most least wait time parts sure compact recs a c hrec hrb htl hl0
  · exact wreq3_any w wb base s0 b0 h hbase hwb corr topic part offset most least wait time parts sure compact recs a c hrec hrb htl hl0
  · exact wreq4_any w wb base s0 b0 h hbase hwb corr topic part offset most least wait time parts sure compact recs a c hrec hrb htl hl0
  · exact wreq5_any w wb base s0 b0 h hbase hwb corr topic part offset most least wait time parts sure compact recs a c hrec hrb htl hl0
  · exact wreq6_any w wb base s0 b0 h hbase hwb corr topic part offset most least wait time parts sure compact recs a c hrec hrb htl hl0
  · exact wreq7_any w wb base s0 b0 h hbase hwb corr topic part offset most least wait time parts sure compact recs a c hrec hrb htl hl0
theorem wans_any (w : World) (wb base : Nat) (s0 : Value) (b0 : WS) (h : MkAt wT As.errN w wb base s0 b0) (hbase : base ≤ w.heap.size) (hwb : base ≤ wb) (x : Ans) (rv tv : Value) (hrec : RecsAt w rv x.recs) (htop : TopsAt w tv x.topics) (hrb : x.recs ≠ [] → ∀ k ∈ rv.ownBlock, k < base) (htb : x.topics ≠ [] → ∀ k ∈ tv.ownBlock, k < base) (hk : 1 ≤ x.kind ∧ x.kind ≤ 7) (hl0 : b0.1.length ≤ 12000) :
    Calls Tryd.prog 47 #[.pointer (some ⟨wb, 0, none⟩), .agg (ansC x rv tv)] w fun e w' => e = .returned (.tuple #[]) ∧ ∃ sv', MkTo wT As.errN w w' wb base s0 sv' (pRun b0 (ansCl x)) := by
  obtain ⟨kind, corr, err, offset, start, fin, found, recs, topics⟩ := x
  obtain ⟨a, c, rfl, -⟩ := hrec.form
  obtain ⟨ta, tc, rfl, -⟩ := htop.form
  simp only at hk hrec htop hrb htb ⊢
  by_cases he : err = 0
  · subst he
    have : kind = 1 ∨ kind = 2 ∨ kind = 3 ∨ kind = 4 ∨ kind = 5 ∨ kind = 6 ∨ kind = 7 := by omega
    rcases this with rfl | rfl | rfl | rfl | rfl | rfl | rfl
    · exact wans1_any w wb base s0 b0 h hbase hwb corr offset start fin found recs topics a ta c tc hrec htop hrb htb hl0
    · exact wans2_any w wb base s0 b0 h hbase hwb corr offset start fin found recs topics a ta c tc hrec htop hrb htb hl0
    · cases found
      · exact wans3f_any w wb base s0 b0 h hbase hwb corr offset start fin recs topics a ta c tc hrec htop hrb htb hl0
      · exact wans3t_any w wb base s0 b0 h hbase hwb corr offset start fin recs topics a ta c tc hrec htop hrb htb hl0
    · exact wans4_any w wb base s0 b0 h hbase hwb corr offset start fin found recs topics a ta c tc hrec htop hrb htb hl0
    · exact wans5_any w wb base s0 b0 h hbase hwb corr offset start fin found recs topics a ta c tc hrec htop hrb htb hl0
    · exact wans6_any w wb base s0 b0 h hbase hwb corr offset start fin found recs topics a ta c tc hrec htop hrb htb hl0
    · exact wans7_any w wb base s0 b0 h hbase hwb corr offset start fin found recs topics a ta c tc hrec htop hrb htb hl0
  · have e : ansCl ⟨kind, corr, err, offset, start, fin, found, recs, topics⟩ = [.ns [kind, corr, err]] := by simp [ansCl, he]
    rw [e]
    exact wansE_any w wb base s0 b0 h hbase hwb kind corr err offset start fin found recs topics a ta c tc hrec htop hrb htb he hl0
theorem isKind_any (w : World) (k : Int) : Calls Tryd.prog 39 #[.int .i64 k] w fun e w' => e = .returned (.bool (decide (1 ≤ k ∧ k ≤ 7))) ∧ w' = w := by
  by_cases h0 : 1 ≤ k
  · by_cases h1 : k ≤ 7
    · rw [show decide (1 ≤ k ∧ k ≤ 7) = true from by simpa using ⟨h0, h1⟩]
      go_enter Tryd.func39, Tryd.ntmps39
      go_wp2
      go_ret
      exact ⟨rfl, rfl⟩
    · rw [show decide (1 ≤ k ∧ k ≤ 7) = false from by simp; omega]
      go_enter Tryd.func39, Tryd.ntmps39
      go_wp2
      go_ret
      exact ⟨rfl, rfl⟩
  · rw [show decide (1 ≤ k ∧ k ≤ 7) = false from by simp; omega]
    go_enter Tryd.func39, Tryd.ntmps39
    go_wp2
    go_ret
    exact ⟨rfl, rfl⟩
theorem mk4 (w : World) : (Instr.makeSlice 22 (.int .i64 4) (.int .i64 4)).run Tryd.prog w = .ok (.slice (some ⟨w.heap.size, 0, none⟩) 4 4) (w.alloc (.cells #[.int .u8 0, .int .u8 0, .int .u8 0, .int .u8 0] 5)) := by kernel_rfl
theorem begin_any (w : World) : Calls Tryd.prog 40 #[] w fun e w' => ∃ wb sv, e = .returned (.pointer (some ⟨wb, 0, none⟩)) ∧ MkAt wT As.errN w' wb w.heap.size sv ([0, 0, 0, 0], 0) ∧ Turn [] w w' ∧ w.heap.size ≤ wb := by
  have hmk := mk4 w
  go_enter Tryd.func40, Tryd.ntmps40
  go_wp2
  go_ret
  refine ⟨w.heap.size + 1, .slice (some ⟨w.heap.size, 0, none⟩) 4 4, rfl, ⟨?_, ?_, ?_⟩, ((Turn.refl [] w).alloc _).alloc _, by omega⟩
  · have := heap_new (w.alloc (.cells #[.int .u8 0, .int .u8 0, .int .u8 0, .int .u8 0] 5)) (.cells #[.slice (some ⟨w.heap.size, 0, none⟩) 4 4, .nilIface] wT)
    rw [errN_zero]
    simpa using this
  · refine (new_row (w.alloc (.cells #[.int .u8 0, .int .u8 0, .int .u8 0, .int .u8 0] 5)) [0, 0, 0, 0] w.heap.size _ (heap_new w _) rfl w.heap.size (Nat.le_refl _) (by simp [maxLen])).kept ((Turn.refl [] _).alloc _) (by simp)
  · intro k hk
    simp [Value.ownBlock] at hk
    omega
end Go.Proofs.YtcpjohpbakbggaaDoor.Wi

/- wire.Ask, wire.Tell, whole. -/
namespace Go.Proofs.YtcpjohpbakbggaaDoor.Wi
open Go.RowKit Go.Maps
set_option maxRecDepth 100000
set_option linter.unusedSimpArgs false
set_option linter.unusedVariables false

theorem nums_ge (s : WS) : ∀ l, s.1.length ≤ (nums s l).1.length
  | [] => Nat.le_refl _
  | n :: l => by
    rw [nums_cons]
    refine Nat.le_trans ?_ (nums_ge (pN s n) l)
    unfold pN
    split <;> simp
theorem pStep_ge {s : WS} (h : 4 ≤ s.1.length) (c : Cl) : 4 ≤ (pStep s c).1.length := by
  have h1 : ∀ e, 4 ≤ (cut (s.1, e)).1.length := fun e => by unfold cut; simp only [List.length_take]; omega
  cases c with
  | ns l => exact Nat.le_trans (h1 s.2) (nums_ge (cut s) l)
  | tx t m =>
    rw [pStep_tx]
    split
    · exact Nat.le_trans (h1 4) (nums_ge _ _)
    · have := Nat.le_trans (h1 s.2) (nums_ge (cut s) [(t.length : Int)])
      simp only [List.length_append]
      omega
theorem pRun_ge : ∀ (l : List Cl) {s : WS}, 4 ≤ s.1.length → 4 ≤ (pRun s l).1.length
  | [], _, h => h
  | c :: l, _, h => by rw [pRun_cons]; exact pRun_ge l (pStep_ge h c)
theorem pRun_le (l : List Cl) {s : WS} (h : s.1.length ≤ 12000) (hs : ∀ c ∈ l, szC c) : (pRun s l).1.length ≤ 12000 :=
  pRun_len s l h (fun c hc => by have := hs c hc; cases c <;> simpa [szC] using this)

set_option maxHeartbeats 4000000 in
theorem ask_any (w : World) (x : Req) (rv : Value) (hrec : RecsAt w rv x.recs) (htl : x.topic.length ≤ 9223372036854775807) :
    Calls Tryd.prog 20 #[.agg (reqC x rv)] w fun e w' => ∃ v, e = .returned (.tuple #[v, As.errN (askP x).2]) ∧ RowAt w' 5 w.heap.size v (askP x).1 ∧ Turn [] w w' := by
  obtain ⟨kind, corr, topic, part, offset, most, least, wait, time, parts, sure, compact, recs⟩ := x
  simp only at hrec htl
  simp only [reqC]
  obtain ⟨X, hX⟩ : ∃ X : Req, X = ⟨kind, corr, topic, part, offset, most, least, wait, time, parts, sure, compact, recs⟩ := ⟨_, rfl⟩
  rw [← hX]
  have HX := hide hX
  have HREC := hide hrec

  have hlz : rv.ownBlock.isSome → recs ≠ [] → True := fun _ _ => trivial
  obtain ⟨w0, hw0⟩ : ∃ w0, w0 = w.alloc (.cells #[.int .i64 kind, .int .i64 corr, strV topic, .int .i64 part, .int .i64 offset, .int .i64 most, .int .i64 least, .int .i64 wait, .int .i64 time, .int .i64 parts, .bool sure, .bool compact, rv] 25) := ⟨_, rfl⟩
  have hbox : w0.heap[w.heap.size]? = some (.cells #[.int .i64 kind, .int .i64 corr, strV topic, .int .i64 part, .int .i64 offset, .int .i64 most, .int .i64 least, .int .i64 wait, .int .i64 time, .int .i64 parts, .bool sure, .bool compact, rv] 25 (0, 0)) := by rw [hw0]; exact heap_new w _
  have hal : Turn [] w w0 := by rw [hw0]; exact (Turn.refl [] w).alloc _
  have box : ∀ Z, Turn [] w0 Z → w.heap.size < Z.heap.size ∧ Z.cell? ⟨w.heap.size, 0, none⟩ = some (.int .i64 kind) ∧ Z.cell? ⟨w.heap.size, 1, none⟩ = some (.int .i64 corr) ∧ Z.cell? ⟨w.heap.size, 2, none⟩ = some (strV topic) ∧ Z.cell? ⟨w.heap.size, 3, none⟩ = some (.int .i64 part) ∧ Z.cell? ⟨w.heap.size, 4, none⟩ = some (.int .i64 offset) ∧ Z.cell? ⟨w.heap.size, 5, none⟩ = some (.int .i64 most) ∧ Z.cell? ⟨w.heap.size, 6, none⟩ = some (.int .i64 least) ∧ Z.cell? ⟨w.heap.size, 7, none⟩ = some (.int .i64 wait) ∧ Z.cell? ⟨w.heap.size, 8, none⟩ = some (.int .i64 time) ∧ Z.cell? ⟨w.heap.size, 9, none⟩ = some (.int .i64 parts) ∧ Z.cell? ⟨w.heap.size, 10, none⟩ = some (.bool sure) ∧ Z.cell? ⟨w.heap.size, 11, none⟩ = some (.bool compact) ∧ Z.cell? ⟨w.heap.size, 12, none⟩ = some (rv) :=
    fun Z hZ => by
      have hb := hZ.heap hbox (by simp)
      exact ⟨lt_of_heap hb, by simpa [strV] using cell_of hb 0, by simpa [strV] using cell_of hb 1, by simpa [strV] using cell_of hb 2, by simpa [strV] using cell_of hb 3, by simpa [strV] using cell_of hb 4, by simpa [strV] using cell_of hb 5, by simpa [strV] using cell_of hb 6, by simpa [strV] using cell_of hb 7, by simpa [strV] using cell_of hb 8, by simpa [strV] using cell_of hb 9, by simpa [strV] using cell_of hb 10, by simpa [strV] using cell_of hb 11, by simpa [strV] using cell_of hb 12⟩
  have BOX := hide box
  have HAL := hide hal
  have HW0 := hide hw0
  clear hbox hal box hw0 hX hrec hlz 
  by_cases hk : kind < 1 ∨ 7 < kind
  · have hm : askP X = ([], 1) := by rw [HX.out]; unfold askP; rw [if_pos hk]
    have HM := hide hm
    clear hm
    have hd : decide (1 ≤ kind ∧ kind ≤ 7) = false := decide_eq_false (by omega)
    have HD := hide hd
    clear hd hk
    go_enter Tryd.func20, Tryd.ntmps20
    go_upto_region 1 with fail
    rw [show w.alloc (.cells #[.int .i64 kind, .int .i64 corr, strV topic, .int .i64 part, .int .i64 offset, .int .i64 most, .int .i64 least, .int .i64 wait, .int .i64 time, .int .i64 parts, .bool sure, .bool compact, rv] 25) = w0 from HW0.out.symm]
    obtain ⟨z0, q0, q1, q2, q3, q4, q5, q6, q7, q8, q9, q10, q11, q12⟩ := BOX.out w0 (Turn.refl _ _)
    go_wp2_with fail
    refine (isKind_any _ kind).mono ?_
    rintro e w1 ⟨rfl, rfl⟩
    rw [HD.out]
    go_wp2
    go_ret2
    exact ⟨.slice none 0 0, by rw [HM.out]; simp [As.errN], .inl ⟨rfl, by rw [HM.out]⟩, HAL.out⟩
  · have hm : askP X = encP (reqCl X) := by rw [HX.out]; unfold askP; rw [if_neg hk]
    have HM := hide hm
    have hd : decide (1 ≤ kind ∧ kind ≤ 7) = true := decide_eq_true (by omega)
    have HD := hide hd
    have hk1 : 1 ≤ X.kind ∧ X.kind ≤ 7 := by rw [HX.out]; show 1 ≤ kind ∧ kind ≤ 7; omega
    have HK1 := hide hk1

    clear hd hm hk hk1
    go_enter Tryd.func20, Tryd.ntmps20
    go_upto_region 1 with fail
    rw [show w.alloc (.cells #[.int .i64 kind, .int .i64 corr, strV topic, .int .i64 part, .int .i64 offset, .int .i64 most, .int .i64 least, .int .i64 wait, .int .i64 time, .int .i64 parts, .bool sure, .bool compact, rv] 25) = w0 from HW0.out.symm]
    obtain ⟨z0, q0, q1, q2, q3, q4, q5, q6, q7, q8, q9, q10, q11, q12⟩ := BOX.out w0 (Turn.refl _ _)
    go_wp2_with fail
    refine (isKind_any _ kind).mono ?_
    rintro e w1 ⟨rfl, rfl⟩
    rw [HD.out]
    go_wp2_with fail
    refine (begin_any _).mono ?_
    rintro e w2 ⟨wb, sv, rfl, hmk, ht2, hwb⟩
    have HMK := hide hmk
    have HT2 := hide ht2
    have HWB := hide hwb
    clear z0 q0 q1 q2 q3 q4 q5 q6 q7 q8 q9 q10 q11 q12 hmk ht2 hwb
    obtain ⟨z0, q0, q1, q2, q3, q4, q5, q6, q7, q8, q9, q10, q11, q12⟩ := BOX.out w2 HT2.out
    go_wp2_with fail
    have hr2 : RecsAt w2 rv X.recs := by rw [HX.out]; exact (HREC.out.still HAL.out).still HT2.out
    have hrb : X.recs ≠ [] → ∀ k ∈ rv.ownBlock, k < w1.heap.size := fun h0 k hk => by
      rw [HX.out] at h0
      have := HREC.out.lt h0 k hk
      have := HAL.out.size
      omega
    have htx : X.topic.length ≤ 9223372036854775807 := by rw [HX.out]; exact htl
    have hcall := wreq_any w2 wb w1.heap.size sv ([0, 0, 0, 0], 0) HMK.out HT2.out.size HWB.out X rv hr2 hrb htx HK1.out (by simp)
    rw [show reqC X rv = #[.int .i64 kind, .int .i64 corr, strV topic, .int .i64 part, .int .i64 offset, .int .i64 most, .int .i64 least, .int .i64 wait, .int .i64 time, .int .i64 parts, .bool sure, .bool compact, rv] by rw [HX.out]; rfl] at hcall
    refine hcall.mono ?_
    rintro e w3 ⟨rfl, sv3, hmt⟩
    have HMT := hide hmt
    clear hcall hmt hr2 hrb z0 q0 q1 q2 q3 q4 q5 q6 q7 q8 q9 q10 q11 q12 htx
    go_wp2_with fail
    refine (frame_any w3 wb w1.heap.size sv3 _ HMT.out.1 (pRun_ge _ (by simp)) (pRun_le _ (by simp) (reqCl_sz X))).mono ?_
    rintro e w4 ⟨v, rfl, hrow, ht4⟩
    have hrow' : RowAt w4 5 w.heap.size v (encP (reqCl X)).1 := by
      rcases hrow with h | ⟨g, cap, cur, h1, h2, h3⟩
      · exact .inl h
      · exact .inr ⟨g, cap, cur, h1, by have := HAL.out.size; omega, h3⟩
    have htw : Turn [] w w4 := by
      have h1 := HAL.out.same HT2.out
      have h2 : Turn [] w w3 := h1.trans HMT.out.2.1 (fun k hk => .inr (by
        have := HAL.out.size
        rcases List.mem_cons.1 hk with rfl | hk
        · have := HWB.out; omega
        · have := (HMK.out.lt.2 k (by simpa using hk)).1; omega))
      exact h2.trans ht4 (fun k hk => .inr (by
        have := HAL.out.size
        have := (HMT.out.1.lt.2 k (by simpa using hk)).1; omega))
    have HROW := hide hrow'
    have HTW := hide htw
    clear hrow hrow' ht4 htw
    go_wp2
    go_ret2
    exact ⟨v, by rw [HM.out]; rfl, by rw [HM.out]; exact HROW.out, HTW.out⟩

set_option maxHeartbeats 4000000 in
theorem tell_any (w : World) (x : Ans) (rv tv : Value) (hrec : RecsAt w rv x.recs) (htop : TopsAt w tv x.topics) :
    Calls Tryd.prog 26 #[.agg (ansC x rv tv)] w fun e w' => ∃ v, e = .returned (.tuple #[v, As.errN (tellP x).2]) ∧ RowAt w' 5 w.heap.size v (tellP x).1 ∧ Turn [] w w' := by
  obtain ⟨kind, corr, err, offset, start, fin, found, recs, topics⟩ := x
  simp only at hrec htop
  simp only [ansC]
  obtain ⟨X, hX⟩ : ∃ X : Ans, X = ⟨kind, corr, err, offset, start, fin, found, recs, topics⟩ := ⟨_, rfl⟩
  rw [← hX]
  have HX := hide hX
  have HREC := hide hrec
  have HTOP := hide htop
  have hlz : rv.ownBlock.isSome → recs ≠ [] → True := fun _ _ => trivial
  obtain ⟨w0, hw0⟩ : ∃ w0, w0 = w.alloc (.cells #[.int .i64 kind, .int .i64 corr, .int .i64 err, .int .i64 offset, .int .i64 start, .int .i64 fin, .bool found, rv, tv] 38) := ⟨_, rfl⟩
  have hbox : w0.heap[w.heap.size]? = some (.cells #[.int .i64 kind, .int .i64 corr, .int .i64 err, .int .i64 offset, .int .i64 start, .int .i64 fin, .bool found, rv, tv] 38 (0, 0)) := by rw [hw0]; exact heap_new w _
  have hal : Turn [] w w0 := by rw [hw0]; exact (Turn.refl [] w).alloc _
  have box : ∀ Z, Turn [] w0 Z → w.heap.size < Z.heap.size ∧ Z.cell? ⟨w.heap.size, 0, none⟩ = some (.int .i64 kind) ∧ Z.cell? ⟨w.heap.size, 1, none⟩ = some (.int .i64 corr) ∧ Z.cell? ⟨w.heap.size, 2, none⟩ = some (.int .i64 err) ∧ Z.cell? ⟨w.heap.size, 3, none⟩ = some (.int .i64 offset) ∧ Z.cell? ⟨w.heap.size, 4, none⟩ = some (.int .i64 start) ∧ Z.cell? ⟨w.heap.size, 5, none⟩ = some (.int .i64 fin) ∧ Z.cell? ⟨w.heap.size, 6, none⟩ = some (.bool found) ∧ Z.cell? ⟨w.heap.size, 7, none⟩ = some (rv) ∧ Z.cell? ⟨w.heap.size, 8, none⟩ = some (tv) :=
    fun Z hZ => by
      have hb := hZ.heap hbox (by simp)
      exact ⟨lt_of_heap hb, by simpa [strV] using cell_of hb 0, by simpa [strV] using cell_of hb 1, by simpa [strV] using cell_of hb 2, by simpa [strV] using cell_of hb 3, by simpa [strV] using cell_of hb 4, by simpa [strV] using cell_of hb 5, by simpa [strV] using cell_of hb 6, by simpa [strV] using cell_of hb 7, by simpa [strV] using cell_of hb 8⟩
  have BOX := hide box
  have HAL := hide hal
  have HW0 := hide hw0
  clear hbox hal box hw0 hX hrec hlz htop
  by_cases hk : kind < 1 ∨ 7 < kind ∨ err < 0 ∨ 15 < err
  · have hm : tellP X = ([], 1) := by rw [HX.out]; unfold tellP; rw [if_pos hk]
    have HM := hide hm
    clear hm
    by_cases hk1 : 1 ≤ kind ∧ kind ≤ 7
    · have hd : decide (1 ≤ kind ∧ kind ≤ 7) = true := decide_eq_true hk1
      have HD := hide hd
      have hko : err < 0 ∨ (¬ err < 0 ∧ err > 15) := by omega
      clear hd hk hk1
      rcases hko with he | ⟨he, he2⟩
      · go_enter Tryd.func26, Tryd.ntmps26
        go_upto_region 1 with fail
        rw [show w.alloc (.cells #[.int .i64 kind, .int .i64 corr, .int .i64 err, .int .i64 offset, .int .i64 start, .int .i64 fin, .bool found, rv, tv] 38) = w0 from HW0.out.symm]
        obtain ⟨z0, q0, q1, q2, q3, q4, q5, q6, q7, q8⟩ := BOX.out w0 (Turn.refl _ _)
        go_wp2_with fail
        refine (isKind_any _ kind).mono ?_
        rintro e w1 ⟨rfl, rfl⟩
        rw [HD.out]
        go_wp2
        go_ret2
        exact ⟨.slice none 0 0, by rw [HM.out]; simp [As.errN], .inl ⟨rfl, by rw [HM.out]⟩, HAL.out⟩
      · go_enter Tryd.func26, Tryd.ntmps26
        go_upto_region 1 with fail
        rw [show w.alloc (.cells #[.int .i64 kind, .int .i64 corr, .int .i64 err, .int .i64 offset, .int .i64 start, .int .i64 fin, .bool found, rv, tv] 38) = w0 from HW0.out.symm]
        obtain ⟨z0, q0, q1, q2, q3, q4, q5, q6, q7, q8⟩ := BOX.out w0 (Turn.refl _ _)
        go_wp2_with fail
        refine (isKind_any _ kind).mono ?_
        rintro e w1 ⟨rfl, rfl⟩
        rw [HD.out]
        go_wp2
        go_ret2
        exact ⟨.slice none 0 0, by rw [HM.out]; simp [As.errN], .inl ⟨rfl, by rw [HM.out]⟩, HAL.out⟩
    · have hd : decide (1 ≤ kind ∧ kind ≤ 7) = false := decide_eq_false hk1
      have HD := hide hd
      clear hd hk hk1
      go_enter Tryd.func26, Tryd.ntmps26
      go_upto_region 1 with fail
      rw [show w.alloc (.cells #[.int .i64 kind, .int .i64 corr, .int .i64 err, .int .i64 offset, .int .i64 start, .int .i64 fin, .bool found, rv, tv] 38) = w0 from HW0.out.symm]
      obtain ⟨z0, q0, q1, q2, q3, q4, q5, q6, q7, q8⟩ := BOX.out w0 (Turn.refl _ _)
      go_wp2_with fail
      refine (isKind_any _ kind).mono ?_
      rintro e w1 ⟨rfl, rfl⟩
      rw [HD.out]
      go_wp2
      go_ret2
      exact ⟨.slice none 0 0, by rw [HM.out]; simp [As.errN], .inl ⟨rfl, by rw [HM.out]⟩, HAL.out⟩
  · have hm : tellP X = encP (ansCl X) := by rw [HX.out]; unfold tellP; rw [if_neg hk]
    have HM := hide hm
    have hd : decide (1 ≤ kind ∧ kind ≤ 7) = true := decide_eq_true (by omega)
    have HD := hide hd
    have hk1 : 1 ≤ X.kind ∧ X.kind ≤ 7 := by rw [HX.out]; show 1 ≤ kind ∧ kind ≤ 7; omega
    have HK1 := hide hk1
    have he1 : ¬ err < 0 := by omega
    have he2 : ¬ err > 15 := by omega
    clear hd hm hk hk1
    go_enter Tryd.func26, Tryd.ntmps26
    go_upto_region 1 with fail
    rw [show w.alloc (.cells #[.int .i64 kind, .int .i64 corr, .int .i64 err, .int .i64 offset, .int .i64 start, .int .i64 fin, .bool found, rv, tv] 38) = w0 from HW0.out.symm]
    obtain ⟨z0, q0, q1, q2, q3, q4, q5, q6, q7, q8⟩ := BOX.out w0 (Turn.refl _ _)
    go_wp2_with fail
    refine (isKind_any _ kind).mono ?_
    rintro e w1 ⟨rfl, rfl⟩
    rw [HD.out]
    go_wp2_with fail
    refine (begin_any _).mono ?_
    rintro e w2 ⟨wb, sv, rfl, hmk, ht2, hwb⟩
    have HMK := hide hmk
    have HT2 := hide ht2
    have HWB := hide hwb
    clear z0 q0 q1 q2 q3 q4 q5 q6 q7 q8 hmk ht2 hwb
    obtain ⟨z0, q0, q1, q2, q3, q4, q5, q6, q7, q8⟩ := BOX.out w2 HT2.out
    go_wp2_with fail
    have hr2 : RecsAt w2 rv X.recs := by rw [HX.out]; exact (HREC.out.still HAL.out).still HT2.out
    have hrb : X.recs ≠ [] → ∀ k ∈ rv.ownBlock, k < w1.heap.size := fun h0 k hk => by
      rw [HX.out] at h0
      have := HREC.out.lt h0 k hk
      have := HAL.out.size
      omega
    have ht3 : TopsAt w2 tv X.topics := by rw [HX.out]; exact (HTOP.out.still HAL.out).still HT2.out
    have htb : X.topics ≠ [] → ∀ k ∈ tv.ownBlock, k < w1.heap.size := fun h0 k hk => by
      rw [HX.out] at h0
      have := HTOP.out.lt h0 k hk
      have := HAL.out.size
      omega
    have hcall := wans_any w2 wb w1.heap.size sv ([0, 0, 0, 0], 0) HMK.out HT2.out.size HWB.out X rv tv hr2 ht3 hrb htb HK1.out (by simp)
    rw [show ansC X rv tv = #[.int .i64 kind, .int .i64 corr, .int .i64 err, .int .i64 offset, .int .i64 start, .int .i64 fin, .bool found, rv, tv] by rw [HX.out]; rfl] at hcall
    refine hcall.mono ?_
    rintro e w3 ⟨rfl, sv3, hmt⟩
    have HMT := hide hmt
    clear hcall hmt hr2 hrb z0 q0 q1 q2 q3 q4 q5 q6 q7 q8 ht3 htb
    go_wp2_with fail
    refine (frame_any w3 wb w1.heap.size sv3 _ HMT.out.1 (pRun_ge _ (by simp)) (pRun_le _ (by simp) (ansCl_sz X))).mono ?_
    rintro e w4 ⟨v, rfl, hrow, ht4⟩
    have hrow' : RowAt w4 5 w.heap.size v (encP (ansCl X)).1 := by
      rcases hrow with h | ⟨g, cap, cur, h1, h2, h3⟩
      · exact .inl h
      · exact .inr ⟨g, cap, cur, h1, by have := HAL.out.size; omega, h3⟩
    have htw : Turn [] w w4 := by
      have h1 := HAL.out.same HT2.out
      have h2 : Turn [] w w3 := h1.trans HMT.out.2.1 (fun k hk => .inr (by
        have := HAL.out.size
        rcases List.mem_cons.1 hk with rfl | hk
        · have := HWB.out; omega
        · have := (HMK.out.lt.2 k (by simpa using hk)).1; omega))
      exact h2.trans ht4 (fun k hk => .inr (by
        have := HAL.out.size
        have := (HMT.out.1.lt.2 k (by simpa using hk)).1; omega))
    have HROW := hide hrow'
    have HTW := hide htw
    clear hrow hrow' ht4 htw
    go_wp2
    go_ret2
    exact ⟨v, by rw [HM.out]; rfl, by rw [HM.out]; exact HROW.out, HTW.out⟩
end Go.Proofs.YtcpjohpbakbggaaDoor.Wi

/- The document's Ask and Tell, of any kind. -/
namespace Go.Proofs.YtcpjohpbakbggaaDoor.Wi
open Go.RowKit Go.Maps
set_option maxRecDepth 100000
set_option linter.unusedSimpArgs false
set_option linter.unusedVariables false

theorem refAsk_any (w : World) (x : Req) (rv : Value) (hrec : RecsAt w rv x.recs) (htl : x.topic.length ≤ 1048576) (hsm : ∀ r ∈ x.recs, RecSm r) (hlr : x.recs.length ≤ 10000) :
    Calls Tryd.prog 17 #[.agg (reqC x rv)] w fun e w' => ∃ v, e = .returned (.tuple #[v, .int .i64 (askM x).2]) ∧ RowAt w' 5 w.heap.size v (askM x).1 ∧ Turn [] w w' := by
  obtain ⟨kind, corr, topic, part, offset, most, least, wait, time, parts, sure, compact, recs⟩ := x
  obtain ⟨a, c, rfl, -⟩ := hrec.form
  simp only at hrec htl hsm hlr ⊢
  by_cases hk : kind < 1 ∨ 7 < kind
  · have hm : askM ⟨kind, corr, topic, part, offset, most, least, wait, time, parts, sure, compact, recs⟩ = ([], 1) := by unfold askM; rw [if_pos hk]
    have HM := hide hm
    clear hm hrec hsm
    simp only [reqC]
    by_cases h1 : kind < 1
    · clear hk
      go_enter Tryd.func17, Tryd.ntmps17
      go_wp2
      go_ret2
      exact ⟨.slice none 0 0, by rw [HM.out]; rfl, .inl ⟨rfl, by rw [HM.out]⟩, (Turn.refl _ _).alloc _⟩
    · have h2 : kind > 7 := by omega
      clear hk
      go_enter Tryd.func17, Tryd.ntmps17
      go_wp2
      go_ret2
      exact ⟨.slice none 0 0, by rw [HM.out]; rfl, .inl ⟨rfl, by rw [HM.out]⟩, (Turn.refl _ _).alloc _⟩
  · have : kind = 1 ∨ kind = 2 ∨ kind = 3 ∨ kind = 4 ∨ kind = 5 ∨ kind = 6 ∨ kind = 7 := by omega
    rcases this with rfl | rfl | rfl | rfl | rfl | rfl | rfl
    · exact mAsk1_any w corr topic part offset most least wait time parts sure compact recs a c hrec htl hsm hlr
    · exact mAsk2_any w corr topic part offset most least wait time parts sure compact recs a c hrec htl hsm hlr
    · exact mAsk3_any w corr topic part offset most least wait time parts sure compact recs a c hrec htl hsm hlr
    · exact mAsk4_any w corr topic part offset most least wait time parts sure compact recs a c hrec htl hsm hlr
    · exact mAsk5_any w corr topic part offset most least wait time parts sure compact recs a c hrec htl hsm hlr
    · exact mAsk6_any w corr topic part offset most least wait time parts sure compact recs a c hrec htl hsm hlr
    · exact mAsk7_any w corr topic part offset most least wait time parts sure compact recs a c hrec htl hsm hlr
theorem refTell_any (w : World) (x : Ans) (rv tv : Value) (hrec : RecsAt w rv x.recs) (htop : TopsAt w tv x.topics) (hsm : ∀ r ∈ x.recs, RecSm r) (hlr : x.recs.length ≤ 10000) (htm : ∀ t ∈ x.topics, t.name.length ≤ 1048576) (hlt : x.topics.length ≤ 10000) :
    Calls Tryd.prog 24 #[.agg (ansC x rv tv)] w fun e w' => ∃ v, e = .returned (.tuple #[v, .int .i64 (tellM x).2]) ∧ RowAt w' 5 w.heap.size v (tellM x).1 ∧ Turn [] w w' := by
  obtain ⟨kind, corr, err, offset, start, fin, found, recs, topics⟩ := x
  obtain ⟨a, c, rfl, -⟩ := hrec.form
  obtain ⟨ta, tc, rfl, -⟩ := htop.form
  simp only at hrec htop hsm hlr htm hlt ⊢
  by_cases hk : kind < 1 ∨ 7 < kind ∨ err < 0 ∨ 15 < err
  · have hm : tellM ⟨kind, corr, err, offset, start, fin, found, recs, topics⟩ = ([], 1) := by unfold tellM; rw [if_pos hk]
    have HM := hide hm
    clear hm hrec htop hsm htm
    simp only [ansC]
    have hk' : kind < 1 ∨ (¬ kind < 1 ∧ kind > 7) ∨ (¬ kind < 1 ∧ ¬ kind > 7 ∧ err < 0) ∨ (¬ kind < 1 ∧ ¬ kind > 7 ∧ ¬ err < 0 ∧ err > 15) := by omega
    clear hk
    rcases hk' with h1 | ⟨h1, h2⟩ | ⟨h1, h2, h3⟩ | ⟨h1, h2, h3, h4⟩
    all_goals
      go_enter Tryd.func24, Tryd.ntmps24
      go_wp2
      go_ret2
      exact ⟨.slice none 0 0, by rw [HM.out]; rfl, .inl ⟨rfl, by rw [HM.out]⟩, (Turn.refl _ _).alloc _⟩
  · by_cases he : err = 0
    · subst he
      have : kind = 1 ∨ kind = 2 ∨ kind = 3 ∨ kind = 4 ∨ kind = 5 ∨ kind = 6 ∨ kind = 7 := by omega
      rcases this with rfl | rfl | rfl | rfl | rfl | rfl | rfl
      · exact mTell1_any w corr offset start fin found recs topics a ta c tc hrec htop hsm hlr htm hlt
      · exact mTell2_any w corr offset start fin found recs topics a ta c tc hrec htop hsm hlr htm hlt
      · cases found
        · exact mTell3f_any w corr offset start fin recs topics a ta c tc hrec htop hsm hlr htm hlt
        · exact mTell3t_any w corr offset start fin recs topics a ta c tc hrec htop hsm hlr htm hlt
      · exact mTell4_any w corr offset start fin found recs topics a ta c tc hrec htop hsm hlr htm hlt
      · exact mTell5_any w corr offset start fin found recs topics a ta c tc hrec htop hsm hlr htm hlt
      · exact mTell6_any w corr offset start fin found recs topics a ta c tc hrec htop hsm hlr htm hlt
      · exact mTell7_any w corr offset start fin found recs topics a ta c tc hrec htop hsm hlr htm hlt
    · exact mTellE_any w kind corr err offset start fin found recs topics a ta c tc hrec htop hsm hlr htm hlt he (by omega) (by omega) (by omega) (by omega)

/-! ### texts of such sizes could all be told -/
theorem recCl_small {r : Bt.Rec} (h : RecSm r) : ∀ c ∈ recCl r, c.small := by
  obtain ⟨off, time, keyed, key, gone, value⟩ := r
  have h1 := h.key
  have h2 := h.value
  simp only at h1 h2
  intro c hc
  cases keyed <;> cases gone <;> simp [recCl] at hc
  · rcases hc with rfl | rfl | rfl <;> simp [Cl.small]; omega
  · rcases hc with rfl | rfl <;> simp [Cl.small]
  · rcases hc with rfl | rfl | rfl | rfl <;> simp [Cl.small] <;> omega
  · rcases hc with rfl | rfl | rfl <;> simp [Cl.small]; omega
theorem reqCl_small {x : Req} (ht : x.topic.length ≤ 1048576) (hs : ∀ r ∈ x.recs, RecSm r) : ∀ c ∈ reqCl x, c.small := by
  intro c hc
  unfold reqCl reqTail at hc
  rcases List.mem_cons.1 hc with rfl | hc
  · trivial
  · rcases List.mem_append.1 hc with hc | hc
    · split at hc
      · simp at hc
      · simp at hc; subst hc; simp only [Cl.small]; omega
    · split at hc
      · rcases List.mem_cons.1 hc with rfl | hc
        · trivial
        · obtain ⟨r, hr, hc⟩ := List.mem_flatMap.1 hc
          exact recCl_small (hs r hr) c hc
      · split at hc
        · simp at hc; subst hc; trivial
        · split at hc
          · simp at hc; subst hc; trivial
          · split at hc
            · simp at hc; subst hc; trivial
            · split at hc
              · simp at hc; subst hc; trivial
              · simp at hc
theorem ansCl_small {x : Ans} (hs : ∀ r ∈ x.recs, RecSm r) (ht : ∀ t ∈ x.topics, t.name.length ≤ 1048576) : ∀ c ∈ ansCl x, c.small := by
  intro c hc
  unfold ansCl at hc
  rcases List.mem_cons.1 hc with rfl | hc
  · trivial
  · split at hc
    · unfold ansTail at hc
      split at hc
      · simp at hc; subst hc; trivial
      · split at hc
        · rcases List.mem_cons.1 hc with rfl | hc
          · trivial
          · obtain ⟨r, hr, hc⟩ := List.mem_flatMap.1 hc
            rcases List.mem_cons.1 hc with rfl | hc
            · trivial
            · exact recCl_small (hs r hr) c hc
        · split at hc
          · rcases List.mem_cons.1 hc with rfl | hc
            · trivial
            · split at hc
              · simp at hc; subst hc; trivial
              · simp at hc
          · split at hc
            · simp at hc; subst hc; trivial
            · split at hc
              · rcases List.mem_cons.1 hc with rfl | hc
                · trivial
                · obtain ⟨t, hr, hc⟩ := List.mem_flatMap.1 hc
                  have := ht t hr
                  simp [tpCl] at hc
                  rcases hc with rfl | rfl
                  · simp only [Cl.small]; omega
                  · trivial
              · simp at hc
    · simp at hc
end Go.Proofs.YtcpjohpbakbggaaDoor.Wi

/- conveyorlaw.WireAsks, WireTells, walked. -/
namespace Go.Proofs.YtcpjohpbakbggaaDoor.Wi
open Go.RowKit Go.Maps
set_option maxRecDepth 100000
set_option linter.unusedSimpArgs false
set_option linter.unusedVariables false


end Go.Proofs.YtcpjohpbakbggaaDoor.Wi

/- record.Decode. -/
namespace Go.Proofs.YtcpjohpbakbggaaDoor
open Go.RowKit Go.Maps
set_option maxRecDepth 100000
set_option linter.unusedSimpArgs false
set_option linter.unusedVariables false

def noBat : Bt.Bat := ⟨0, 0, []⟩
/-- What is between a batch's head and its end. -/
def midB (b : List UInt8) : List UInt8 := (b.take (Bt.fourV b)).drop 8
def isB (b : List UInt8) (x : Bt.Bat) : Prop := Bt.encErr x = 0 ∧ Bt.encB x = b.take (Bt.fourV b)
instance (b : List UInt8) (x : Bt.Bat) : Decidable (isB b x) := by unfold isB; exact inferInstance
/-- What Decode answers. -/
def dec (b : List UInt8) : Bt.Bat × Nat × Int :=
  if b.length < 8 then (noBat, 0, 12) else if Bt.fourV b < 11 ∨ 6000 < Bt.fourV b then (noBat, 0, 3) else if b.length < Bt.fourV b then (noBat, 0, 12) else if isB b (Bt.bat1 (midB b)) then (Bt.bat1 (midB b), Bt.fourV b, 0) else (noBat, 0, 3)

theorem equal_any (w : World) (v x : Value) (a b : List UInt8) (hv : BytesAt w v a) (hx : BytesAt w x b) :
    Calls Tryd.prog 21 #[v, x] w fun e w' => e = .returned (.bool (a == b)) ∧ w = w' := by
  have h1 := hv.conv
  have h2 := hx.conv
  clear hv hx
  go_enter Tryd.func21, Tryd.ntmps21
  go_wp2
  go_ret
  exact ⟨rfl, rfl⟩
theorem bat1_ok (l : List UInt8) (hl : l.length ≤ 1000000) : 0 ≤ (Bt.bat1 l).base ∧ (Bt.bat1 l).base ≤ 1099511627776 ∧ 0 ≤ (Bt.bat1 l).fin ∧ (Bt.bat1 l).fin ≤ 2199023255552 ∧ ∀ r ∈ (Bt.bat1 l).recs, RecOk r := by
  have g0 := num_len l
  have g1 := num_len (Bt.num l).2
  have g2 := num_len (Bt.num (Bt.num l).2).2
  unfold Bt.bat1
  simp only
  exact ⟨by omega, by omega, by omega, by omega, recs1_ok _ (by omega) (by omega) _ _ (by omega)⟩

end Go.Proofs.YtcpjohpbakbggaaDoor
