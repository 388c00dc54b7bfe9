/- Wir: texts merged. -/
import Derived.Test.YtcpjohpbakbggaaDoorM7
import Derived.Deep.CutBlock
import Derived.Deep.DeepCutAuto
/- The document's Tell. -/
namespace Go.Proofs.YtcpjohpbakbggaaDoor.Wi
open Go.RowKit Go.Maps
set_option maxRecDepth 100000
set_option linter.unusedSimpArgs false
set_option linter.unusedVariables false

theorem tpCl_len {t : Tp} (h : t.name.length ≤ 1048576) : ((tpCl t).map clLen).sum ≤ 2200000 := by
  simp [tpCl, clLen]; omega

set_option maxHeartbeats 8000000 in
theorem mTellE_any (w : World) (kind corr err offset start fin : Int) (found : Bool) (recs : List Bt.Rec) (topics : List Tp) (a ta : Option Addr) (c tc : Nat) (hrec : RecsAt w (.slice a recs.length c) recs) (htop : TopsAt w (.slice ta topics.length tc) topics) (hsm : ∀ r ∈ recs, RecSm r) (hlr : recs.length ≤ 10000) (htm : ∀ t ∈ topics, t.name.length ≤ 1048576) (hlt : topics.length ≤ 10000) (he : err ≠ 0) (he0 : 0 ≤ err) (he15 : err ≤ 15) (hk1 : 1 ≤ kind) (hk7 : kind ≤ 7) :
    Calls Tryd.prog 24 #[.agg #[.int .i64 kind, .int .i64 corr, .int .i64 err, .int .i64 offset, .int .i64 start, .int .i64 fin, .bool found, .slice a recs.length c, .slice ta topics.length tc]] w fun e w' => ∃ v, e = .returned (.tuple #[v, .int .i64 (tellM (⟨kind, corr, err, offset, start, fin, found, recs, topics⟩ : Ans)).2]) ∧ RowAt w' 5 w.heap.size v (tellM (⟨kind, corr, err, offset, start, fin, found, recs, topics⟩ : Ans)).1 ∧ Turn [] w w' := by
  have HX : Hid (ansCl ⟨kind, corr, err, offset, start, fin, found, recs, topics⟩ = [.ns [kind, corr, err]]) := by show _ = _; simp [ansCl, he]
  have HK : Hid (tellM ⟨kind, corr, err, offset, start, fin, found, recs, topics⟩ = encF (ansCl ⟨kind, corr, err, offset, start, fin, found, recs, topics⟩)) := by
    show _ = _
    unfold tellM
    rw [if_neg (by simp only; omega)]
  have hb1 : (err == 0) = false := by simpa using he
  have hb2 : (err != 0) = true := by simp [he]
  have hq1 : ¬ err < 0 := by omega
  have hq2 : ¬ err > 15 := by omega
  have hq3 : ¬ kind < 1 := by omega
  have hq4 : ¬ kind > 7 := by omega
  clear he he0 he15 hk1 hk7
  obtain ⟨w0, hw0⟩ : ∃ w0, w0 = w.alloc (.cells #[.int .i64 kind, .int .i64 corr, .int .i64 err, .int .i64 offset, .int .i64 start, .int .i64 fin, .bool found, .slice a recs.length c, .slice ta topics.length tc] 38) := ⟨_, rfl⟩
  have hbox : w0.heap[w.heap.size]? = some (.cells #[.int .i64 kind, .int .i64 corr, .int .i64 err, .int .i64 offset, .int .i64 start, .int .i64 fin, .bool found, .slice a recs.length c, .slice ta topics.length tc] 38 (0, 0)) := by rw [hw0]; exact heap_new w _
  have hal : Turn [] w w0 := by rw [hw0]; exact (Turn.refl [] w).alloc _
  obtain ⟨wm, hwm⟩ : ∃ wm, wm = w0.alloc (.cells #[.slice none 0 0, .int .i64 0] mT) := ⟨_, rfl⟩
  have hmx2 : wm.heap[w0.heap.size]? = some (.cells #[.slice none 0 0, .int .i64 0] mT (0, 0)) := by rw [hwm]; exact heap_new w0 _
  have hal2 : Turn [] w0 wm := by rw [hwm]; exact (Turn.refl [] w0).alloc _
  have hbox2 := hal2.heap hbox (by simp)
  have hsw : w.heap.size < w0.heap.size := lt_of_heap hbox
  have hmk : MkAt mT eI wm w0.heap.size w0.heap.size (.slice none 0 0) ([], 0) := ⟨hmx2, .inl ⟨rfl, rfl⟩, by simp [Value.ownBlock]⟩
  obtain ⟨s0, hs0⟩ : ∃ s : Value, s = .slice none 0 0 := ⟨_, rfl⟩
  obtain ⟨b0, hb0⟩ : ∃ b : WS, b = ([], 0) := ⟨_, rfl⟩
  rw [← hs0, ← hb0] at hmk
  have hl0 : b0.1.length ≤ 100 := by rw [hb0]; simp
  have box : ∀ wi si bi, MkTo mT eI wm wi w0.heap.size w0.heap.size s0 si bi → w.heap.size < wi.heap.size ∧ wi.cell? ⟨w.heap.size, 0, none⟩ = some (.int .i64 kind) ∧ wi.cell? ⟨w.heap.size, 1, none⟩ = some (.int .i64 corr) ∧ wi.cell? ⟨w.heap.size, 2, none⟩ = some (.int .i64 err) ∧ wi.cell? ⟨w.heap.size, 3, none⟩ = some (.int .i64 offset) ∧ wi.cell? ⟨w.heap.size, 4, none⟩ = some (.int .i64 start) ∧ wi.cell? ⟨w.heap.size, 5, none⟩ = some (.int .i64 fin) ∧ wi.cell? ⟨w.heap.size, 6, none⟩ = some (.bool found) ∧ wi.cell? ⟨w.heap.size, 7, none⟩ = some (.slice a recs.length c) ∧ wi.cell? ⟨w.heap.size, 8, none⟩ = some (.slice ta topics.length tc) :=
    fun wi si bi h2 => by
      have hb := h2.box hbox2 (by omega) (fun x hx => by rw [hs0] at hx; simp [Value.ownBlock] at hx)
      exact ⟨lt_of_heap hb, by simpa [strV] using cell_of hb 0, by simpa [strV] using cell_of hb 1, by simpa [strV] using cell_of hb 2, by simpa [strV] using cell_of hb 3, by simpa [strV] using cell_of hb 4, by simpa [strV] using cell_of hb 5, by simpa [strV] using cell_of hb 6, by simpa [strV] using cell_of hb 7, by simpa [strV] using cell_of hb 8⟩
  have z0 : w.heap.size < w0.heap.size ∧ w0.cell? ⟨w.heap.size, 0, none⟩ = some (.int .i64 kind) ∧ w0.cell? ⟨w.heap.size, 1, none⟩ = some (.int .i64 corr) ∧ w0.cell? ⟨w.heap.size, 2, none⟩ = some (.int .i64 err) ∧ w0.cell? ⟨w.heap.size, 3, none⟩ = some (.int .i64 offset) ∧ w0.cell? ⟨w.heap.size, 4, none⟩ = some (.int .i64 start) ∧ w0.cell? ⟨w.heap.size, 5, none⟩ = some (.int .i64 fin) ∧ w0.cell? ⟨w.heap.size, 6, none⟩ = some (.bool found) ∧ w0.cell? ⟨w.heap.size, 7, none⟩ = some (.slice a recs.length c) ∧ w0.cell? ⟨w.heap.size, 8, none⟩ = some (.slice ta topics.length tc) := by
    have hb := hbox
    exact ⟨hsw, by simpa [strV] using cell_of hb 0, by simpa [strV] using cell_of hb 1, by simpa [strV] using cell_of hb 2, by simpa [strV] using cell_of hb 3, by simpa [strV] using cell_of hb 4, by simpa [strV] using cell_of hb 5, by simpa [strV] using cell_of hb 6, by simpa [strV] using cell_of hb 7, by simpa [strV] using cell_of hb 8⟩
  have recsAt : ∀ wi si bi, MkTo mT eI wm wi w0.heap.size w0.heap.size s0 si bi → RecsAt wi (.slice a recs.length c) recs := fun wi si bi hg =>
    ((hrec.still hal).still hal2).kept' hg.2.1 (fun h0 k hk hm => by
      have h1 := hrec.lt h0 k hk
      rcases List.mem_cons.1 hm with rfl | hm
      · omega
      · rw [hs0] at hm; simp [Value.ownBlock] at hm)
  have hrb : recs ≠ [] → ∀ k ∈ (Value.slice a recs.length c).ownBlock, k < w0.heap.size := fun h0 k hk => by have := hrec.lt h0 k hk; omega
  have RECS := hide recsAt
  have topsAt : ∀ wi si bi, MkTo mT eI wm wi w0.heap.size w0.heap.size s0 si bi → TopsAt wi (.slice ta topics.length tc) topics := fun wi si bi hg =>
    ((htop.still hal).still hal2).kept' hg.2.1 (fun h0 k hk hm => by
      have h1 := htop.lt h0 k hk
      rcases List.mem_cons.1 hm with rfl | hm
      · omega
      · rw [hs0] at hm; simp [Value.ownBlock] at hm)
  have TOPS := hide topsAt
  have fin : ∀ wi si bi, MkTo mT eI wm wi w0.heap.size w0.heap.size s0 si bi → Turn [] w wi := fun wi si bi h2 =>
    (hal.same hal2).trans h2.2.1 (fun k hk => .inr (by
      rcases List.mem_cons.1 hk with rfl | hk
      · omega
      · rw [hs0] at hk; simp [Value.ownBlock] at hk))
  have FIN := hide fin
  have BOX := hide box
  have HT0 := hide hmk.self
  have HW0 := hide hw0
  have HWM := hide hwm
  have HB0 := hide hb0
  have hszm : w0.heap.size < wm.heap.size := lt_of_heap hmx2
  clear hbox hal hal2 hw0 hwm hmx2 hbox2 hmk hs0 hb0 box fin recsAt hrec topsAt htop
  obtain ⟨z0, q0, q1, q2, q3, q4, q5, q6, q7, q8⟩ := z0
  go_enter Tryd.func24, Tryd.ntmps24
  go_upto_region 1 with fail
  rw [show w.alloc (.cells #[.int .i64 kind, .int .i64 corr, .int .i64 err, .int .i64 offset, .int .i64 start, .int .i64 fin, .bool found, .slice a recs.length c, .slice ta topics.length tc] 38) = w0 from HW0.out.symm]
  go_upto_region 4 with fail
  rw [show w0.alloc (.cells #[.slice none 0 0, .int .i64 0] mT) = wm from HWM.out.symm]
  clear z0 q0 q1 q2 q3 q4 q5 q6 q7 q8
  obtain ⟨z0, q0, q1, q2, q3, q4, q5, q6, q7, q8⟩ := BOX.out _ _ _ HT0.out
  go_wp2_with fail
  refine (mnum_new _ w0.heap.size w0.heap.size s0 b0 HT0.out.1 (by omega) [kind, corr, err] (by rfl) (by rfl) (by rfl) (by simp) (by omega)).mono ?_
  rintro e wz1 ⟨rfl, s1, hto⟩
  have HT1 := hide (HT0.out.trans hto)
  clear hto
  have hl1 := (show (nums b0 [kind, corr, err]).1.length ≤ b0.1.length + 18 from nums_len b0 [kind, corr, err])
  obtain ⟨b1, hb⟩ : ∃ b, b = nums b0 [kind, corr, err] := ⟨_, rfl⟩
  rw [← hb] at HT1 hl1
  have HB1 := hide hb
  clear hb
  have hsz1 := HT1.out.2.1.size
  clear z0 q0 q1 q2 q3 q4 q5 q6 q7 q8
  obtain ⟨z0, q0, q1, q2, q3, q4, q5, q6, q7, q8⟩ := BOX.out _ _ _ HT1.out
  have hbf : b1 = rRun ([], 0) (ansCl (⟨kind, corr, err, offset, start, fin, found, recs, topics⟩ : Ans)) := by rw [HX.out, HB1.out, HB0.out]; rfl
  have hm : tellM (⟨kind, corr, err, offset, start, fin, found, recs, topics⟩ : Ans) = rF b1 := by rw [hbf, HK.out]; rfl
  have hne : b1.1 ≠ [] := by rw [hbf]; exact ansRun_ne _ _
  have HMM := hide hm
  clear hbf hm
  go_wp2_with fail
  refine (mframe_any _ w0.heap.size w0.heap.size s1 b1 HT1.out.1 (by omega) hne).mono ?_
  rintro e wf ⟨v, rfl, hrow, htf⟩
  have hrow' : RowAt wf 5 w.heap.size v (rF b1).1 := by
    rcases hrow with h | ⟨g, cap, cur, h1, h2, h3⟩
    · exact .inl h
    · exact .inr ⟨g, cap, cur, h1, by omega, h3⟩
  have HROW := hide hrow'
  have HTF := hide ((FIN.out _ _ _ HT1.out).same htf)
  clear hrow hrow' htf hne z0 q0 q1 q2 q3 q4 q5 q6 q7 q8
  go_wp2
  go_ret2
  exact ⟨v, by rw [HMM.out]; rfl, by rw [HMM.out]; exact HROW.out, HTF.out⟩

set_option maxHeartbeats 8000000 in
theorem mTell1_any (w : World) (corr offset start fin : Int) (found : Bool) (recs : List Bt.Rec) (topics : List Tp) (a ta : Option Addr) (c tc : Nat) (hrec : RecsAt w (.slice a recs.length c) recs) (htop : TopsAt w (.slice ta topics.length tc) topics) (hsm : ∀ r ∈ recs, RecSm r) (hlr : recs.length ≤ 10000) (htm : ∀ t ∈ topics, t.name.length ≤ 1048576) (hlt : topics.length ≤ 10000) :
    Calls Tryd.prog 24 #[.agg #[.int .i64 1, .int .i64 corr, .int .i64 0, .int .i64 offset, .int .i64 start, .int .i64 fin, .bool found, .slice a recs.length c, .slice ta topics.length tc]] w fun e w' => ∃ v, e = .returned (.tuple #[v, .int .i64 (tellM (⟨1, corr, 0, offset, start, fin, found, recs, topics⟩ : Ans)).2]) ∧ RowAt w' 5 w.heap.size v (tellM (⟨1, corr, 0, offset, start, fin, found, recs, topics⟩ : Ans)).1 ∧ Turn [] w w' := by

  obtain ⟨w0, hw0⟩ : ∃ w0, w0 = w.alloc (.cells #[.int .i64 1, .int .i64 corr, .int .i64 0, .int .i64 offset, .int .i64 start, .int .i64 fin, .bool found, .slice a recs.length c, .slice ta topics.length tc] 38) := ⟨_, rfl⟩
  have hbox : w0.heap[w.heap.size]? = some (.cells #[.int .i64 1, .int .i64 corr, .int .i64 0, .int .i64 offset, .int .i64 start, .int .i64 fin, .bool found, .slice a recs.length c, .slice ta topics.length tc] 38 (0, 0)) := by rw [hw0]; exact heap_new w _
  have hal : Turn [] w w0 := by rw [hw0]; exact (Turn.refl [] w).alloc _
  obtain ⟨wm, hwm⟩ : ∃ wm, wm = w0.alloc (.cells #[.slice none 0 0, .int .i64 0] mT) := ⟨_, rfl⟩
  have hmx2 : wm.heap[w0.heap.size]? = some (.cells #[.slice none 0 0, .int .i64 0] mT (0, 0)) := by rw [hwm]; exact heap_new w0 _
  have hal2 : Turn [] w0 wm := by rw [hwm]; exact (Turn.refl [] w0).alloc _
  have hbox2 := hal2.heap hbox (by simp)
  have hsw : w.heap.size < w0.heap.size := lt_of_heap hbox
  have hmk : MkAt mT eI wm w0.heap.size w0.heap.size (.slice none 0 0) ([], 0) := ⟨hmx2, .inl ⟨rfl, rfl⟩, by simp [Value.ownBlock]⟩
  obtain ⟨s0, hs0⟩ : ∃ s : Value, s = .slice none 0 0 := ⟨_, rfl⟩
  obtain ⟨b0, hb0⟩ : ∃ b : WS, b = ([], 0) := ⟨_, rfl⟩
  rw [← hs0, ← hb0] at hmk
  have hl0 : b0.1.length ≤ 100 := by rw [hb0]; simp
  have box : ∀ wi si bi, MkTo mT eI wm wi w0.heap.size w0.heap.size s0 si bi → w.heap.size < wi.heap.size ∧ wi.cell? ⟨w.heap.size, 0, none⟩ = some (.int .i64 1) ∧ wi.cell? ⟨w.heap.size, 1, none⟩ = some (.int .i64 corr) ∧ wi.cell? ⟨w.heap.size, 2, none⟩ = some (.int .i64 0) ∧ wi.cell? ⟨w.heap.size, 3, none⟩ = some (.int .i64 offset) ∧ wi.cell? ⟨w.heap.size, 4, none⟩ = some (.int .i64 start) ∧ wi.cell? ⟨w.heap.size, 5, none⟩ = some (.int .i64 fin) ∧ wi.cell? ⟨w.heap.size, 6, none⟩ = some (.bool found) ∧ wi.cell? ⟨w.heap.size, 7, none⟩ = some (.slice a recs.length c) ∧ wi.cell? ⟨w.heap.size, 8, none⟩ = some (.slice ta topics.length tc) :=
    fun wi si bi h2 => by
      have hb := h2.box hbox2 (by omega) (fun x hx => by rw [hs0] at hx; simp [Value.ownBlock] at hx)
      exact ⟨lt_of_heap hb, by simpa [strV] using cell_of hb 0, by simpa [strV] using cell_of hb 1, by simpa [strV] using cell_of hb 2, by simpa [strV] using cell_of hb 3, by simpa [strV] using cell_of hb 4, by simpa [strV] using cell_of hb 5, by simpa [strV] using cell_of hb 6, by simpa [strV] using cell_of hb 7, by simpa [strV] using cell_of hb 8⟩
  have z0 : w.heap.size < w0.heap.size ∧ w0.cell? ⟨w.heap.size, 0, none⟩ = some (.int .i64 1) ∧ w0.cell? ⟨w.heap.size, 1, none⟩ = some (.int .i64 corr) ∧ w0.cell? ⟨w.heap.size, 2, none⟩ = some (.int .i64 0) ∧ w0.cell? ⟨w.heap.size, 3, none⟩ = some (.int .i64 offset) ∧ w0.cell? ⟨w.heap.size, 4, none⟩ = some (.int .i64 start) ∧ w0.cell? ⟨w.heap.size, 5, none⟩ = some (.int .i64 fin) ∧ w0.cell? ⟨w.heap.size, 6, none⟩ = some (.bool found) ∧ w0.cell? ⟨w.heap.size, 7, none⟩ = some (.slice a recs.length c) ∧ w0.cell? ⟨w.heap.size, 8, none⟩ = some (.slice ta topics.length tc) := by
    have hb := hbox
    exact ⟨hsw, by simpa [strV] using cell_of hb 0, by simpa [strV] using cell_of hb 1, by simpa [strV] using cell_of hb 2, by simpa [strV] using cell_of hb 3, by simpa [strV] using cell_of hb 4, by simpa [strV] using cell_of hb 5, by simpa [strV] using cell_of hb 6, by simpa [strV] using cell_of hb 7, by simpa [strV] using cell_of hb 8⟩
  have recsAt : ∀ wi si bi, MkTo mT eI wm wi w0.heap.size w0.heap.size s0 si bi → RecsAt wi (.slice a recs.length c) recs := fun wi si bi hg =>
    ((hrec.still hal).still hal2).kept' hg.2.1 (fun h0 k hk hm => by
      have h1 := hrec.lt h0 k hk
      rcases List.mem_cons.1 hm with rfl | hm
      · omega
      · rw [hs0] at hm; simp [Value.ownBlock] at hm)
  have hrb : recs ≠ [] → ∀ k ∈ (Value.slice a recs.length c).ownBlock, k < w0.heap.size := fun h0 k hk => by have := hrec.lt h0 k hk; omega
  have RECS := hide recsAt
  have topsAt : ∀ wi si bi, MkTo mT eI wm wi w0.heap.size w0.heap.size s0 si bi → TopsAt wi (.slice ta topics.length tc) topics := fun wi si bi hg =>
    ((htop.still hal).still hal2).kept' hg.2.1 (fun h0 k hk hm => by
      have h1 := htop.lt h0 k hk
      rcases List.mem_cons.1 hm with rfl | hm
      · omega
      · rw [hs0] at hm; simp [Value.ownBlock] at hm)
  have TOPS := hide topsAt
  have fin : ∀ wi si bi, MkTo mT eI wm wi w0.heap.size w0.heap.size s0 si bi → Turn [] w wi := fun wi si bi h2 =>
    (hal.same hal2).trans h2.2.1 (fun k hk => .inr (by
      rcases List.mem_cons.1 hk with rfl | hk
      · omega
      · rw [hs0] at hk; simp [Value.ownBlock] at hk))
  have FIN := hide fin
  have BOX := hide box
  have HT0 := hide hmk.self
  have HW0 := hide hw0
  have HWM := hide hwm
  have HB0 := hide hb0
  have hszm : w0.heap.size < wm.heap.size := lt_of_heap hmx2
  clear hbox hal hal2 hw0 hwm hmx2 hbox2 hmk hs0 hb0 box fin recsAt hrec topsAt htop
  obtain ⟨z0, q0, q1, q2, q3, q4, q5, q6, q7, q8⟩ := z0
  go_enter Tryd.func24, Tryd.ntmps24
  go_upto_region 1 with fail
  rw [show w.alloc (.cells #[.int .i64 1, .int .i64 corr, .int .i64 0, .int .i64 offset, .int .i64 start, .int .i64 fin, .bool found, .slice a recs.length c, .slice ta topics.length tc] 38) = w0 from HW0.out.symm]
  go_upto_region 4 with fail
  rw [show w0.alloc (.cells #[.slice none 0 0, .int .i64 0] mT) = wm from HWM.out.symm]
  clear z0 q0 q1 q2 q3 q4 q5 q6 q7 q8
  obtain ⟨z0, q0, q1, q2, q3, q4, q5, q6, q7, q8⟩ := BOX.out _ _ _ HT0.out
  go_wp2_with fail
  refine (mnum_new _ w0.heap.size w0.heap.size s0 b0 HT0.out.1 (by omega) [1, corr, 0] (by rfl) (by rfl) (by rfl) (by simp) (by omega)).mono ?_
  rintro e wz1 ⟨rfl, s1, hto⟩
  have HT1 := hide (HT0.out.trans hto)
  clear hto
  have hl1 := (show (nums b0 [1, corr, 0]).1.length ≤ b0.1.length + 18 from nums_len b0 [1, corr, 0])
  obtain ⟨b1, hb⟩ : ∃ b, b = nums b0 [1, corr, 0] := ⟨_, rfl⟩
  rw [← hb] at HT1 hl1
  have HB1 := hide hb
  clear hb
  have hsz1 := HT1.out.2.1.size
  clear z0 q0 q1 q2 q3 q4 q5 q6 q7 q8
  obtain ⟨z0, q0, q1, q2, q3, q4, q5, q6, q7, q8⟩ := BOX.out _ _ _ HT1.out
  go_wp2_with fail
  refine (mnum_new _ w0.heap.size w0.heap.size s1 b1 HT1.out.1 (by omega) [offset] (by rfl) (by rfl) (by rfl) (by simp) (by omega)).mono ?_
  rintro e wz2 ⟨rfl, s2, hto⟩
  have HT2 := hide (HT1.out.trans hto)
  clear hto
  have hl2 := (show (nums b1 [offset]).1.length ≤ b1.1.length + 6 from nums_len b1 [offset])
  obtain ⟨b2, hb⟩ : ∃ b, b = nums b1 [offset] := ⟨_, rfl⟩
  rw [← hb] at HT2 hl2
  have HB2 := hide hb
  clear hb
  have hsz2 := HT2.out.2.1.size
  clear z0 q0 q1 q2 q3 q4 q5 q6 q7 q8
  obtain ⟨z0, q0, q1, q2, q3, q4, q5, q6, q7, q8⟩ := BOX.out _ _ _ HT2.out
  have hbf : b2 = rRun ([], 0) (ansCl (⟨1, corr, 0, offset, start, fin, found, recs, topics⟩ : Ans)) := by rw [HB2.out, HB1.out, HB0.out]; rfl
  have hm : tellM (⟨1, corr, 0, offset, start, fin, found, recs, topics⟩ : Ans) = rF b2 := by rw [hbf]; rfl
  have hne : b2.1 ≠ [] := by rw [hbf]; exact ansRun_ne _ _
  have HMM := hide hm
  clear hbf hm
  go_wp2_with fail
  refine (mframe_any _ w0.heap.size w0.heap.size s2 b2 HT2.out.1 (by omega) hne).mono ?_
  rintro e wf ⟨v, rfl, hrow, htf⟩
  have hrow' : RowAt wf 5 w.heap.size v (rF b2).1 := by
    rcases hrow with h | ⟨g, cap, cur, h1, h2, h3⟩
    · exact .inl h
    · exact .inr ⟨g, cap, cur, h1, by omega, h3⟩
  have HROW := hide hrow'
  have HTF := hide ((FIN.out _ _ _ HT2.out).same htf)
  clear hrow hrow' htf hne z0 q0 q1 q2 q3 q4 q5 q6 q7 q8
  go_wp2
  go_ret2
  exact ⟨v, by rw [HMM.out]; rfl, by rw [HMM.out]; exact HROW.out, HTF.out⟩

set_option maxHeartbeats 8000000 in
theorem mTell2_any (w : World) (corr offset start fin : Int) (found : Bool) (recs : List Bt.Rec) (topics : List Tp) (a ta : Option Addr) (c tc : Nat) (hrec : RecsAt w (.slice a recs.length c) recs) (htop : TopsAt w (.slice ta topics.length tc) topics) (hsm : ∀ r ∈ recs, RecSm r) (hlr : recs.length ≤ 10000) (htm : ∀ t ∈ topics, t.name.length ≤ 1048576) (hlt : topics.length ≤ 10000) :
    Calls Tryd.prog 24 #[.agg #[.int .i64 2, .int .i64 corr, .int .i64 0, .int .i64 offset, .int .i64 start, .int .i64 fin, .bool found, .slice a recs.length c, .slice ta topics.length tc]] w fun e w' => ∃ v, e = .returned (.tuple #[v, .int .i64 (tellM (⟨2, corr, 0, offset, start, fin, found, recs, topics⟩ : Ans)).2]) ∧ RowAt w' 5 w.heap.size v (tellM (⟨2, corr, 0, offset, start, fin, found, recs, topics⟩ : Ans)).1 ∧ Turn [] w w' := by

  obtain ⟨w0, hw0⟩ : ∃ w0, w0 = w.alloc (.cells #[.int .i64 2, .int .i64 corr, .int .i64 0, .int .i64 offset, .int .i64 start, .int .i64 fin, .bool found, .slice a recs.length c, .slice ta topics.length tc] 38) := ⟨_, rfl⟩
  have hbox : w0.heap[w.heap.size]? = some (.cells #[.int .i64 2, .int .i64 corr, .int .i64 0, .int .i64 offset, .int .i64 start, .int .i64 fin, .bool found, .slice a recs.length c, .slice ta topics.length tc] 38 (0, 0)) := by rw [hw0]; exact heap_new w _
  have hal : Turn [] w w0 := by rw [hw0]; exact (Turn.refl [] w).alloc _
  obtain ⟨wm, hwm⟩ : ∃ wm, wm = w0.alloc (.cells #[.slice none 0 0, .int .i64 0] mT) := ⟨_, rfl⟩
  have hmx2 : wm.heap[w0.heap.size]? = some (.cells #[.slice none 0 0, .int .i64 0] mT (0, 0)) := by rw [hwm]; exact heap_new w0 _
  have hal2 : Turn [] w0 wm := by rw [hwm]; exact (Turn.refl [] w0).alloc _
  have hbox2 := hal2.heap hbox (by simp)
  have hsw : w.heap.size < w0.heap.size := lt_of_heap hbox
  have hmk : MkAt mT eI wm w0.heap.size w0.heap.size (.slice none 0 0) ([], 0) := ⟨hmx2, .inl ⟨rfl, rfl⟩, by simp [Value.ownBlock]⟩
  obtain ⟨s0, hs0⟩ : ∃ s : Value, s = .slice none 0 0 := ⟨_, rfl⟩
  obtain ⟨b0, hb0⟩ : ∃ b : WS, b = ([], 0) := ⟨_, rfl⟩
  rw [← hs0, ← hb0] at hmk
  have hl0 : b0.1.length ≤ 100 := by rw [hb0]; simp
  have box : ∀ wi si bi, MkTo mT eI wm wi w0.heap.size w0.heap.size s0 si bi → w.heap.size < wi.heap.size ∧ wi.cell? ⟨w.heap.size, 0, none⟩ = some (.int .i64 2) ∧ wi.cell? ⟨w.heap.size, 1, none⟩ = some (.int .i64 corr) ∧ wi.cell? ⟨w.heap.size, 2, none⟩ = some (.int .i64 0) ∧ wi.cell? ⟨w.heap.size, 3, none⟩ = some (.int .i64 offset) ∧ wi.cell? ⟨w.heap.size, 4, none⟩ = some (.int .i64 start) ∧ wi.cell? ⟨w.heap.size, 5, none⟩ = some (.int .i64 fin) ∧ wi.cell? ⟨w.heap.size, 6, none⟩ = some (.bool found) ∧ wi.cell? ⟨w.heap.size, 7, none⟩ = some (.slice a recs.length c) ∧ wi.cell? ⟨w.heap.size, 8, none⟩ = some (.slice ta topics.length tc) :=
    fun wi si bi h2 => by
      have hb := h2.box hbox2 (by omega) (fun x hx => by rw [hs0] at hx; simp [Value.ownBlock] at hx)
      exact ⟨lt_of_heap hb, by simpa [strV] using cell_of hb 0, by simpa [strV] using cell_of hb 1, by simpa [strV] using cell_of hb 2, by simpa [strV] using cell_of hb 3, by simpa [strV] using cell_of hb 4, by simpa [strV] using cell_of hb 5, by simpa [strV] using cell_of hb 6, by simpa [strV] using cell_of hb 7, by simpa [strV] using cell_of hb 8⟩
  have z0 : w.heap.size < w0.heap.size ∧ w0.cell? ⟨w.heap.size, 0, none⟩ = some (.int .i64 2) ∧ w0.cell? ⟨w.heap.size, 1, none⟩ = some (.int .i64 corr) ∧ w0.cell? ⟨w.heap.size, 2, none⟩ = some (.int .i64 0) ∧ w0.cell? ⟨w.heap.size, 3, none⟩ = some (.int .i64 offset) ∧ w0.cell? ⟨w.heap.size, 4, none⟩ = some (.int .i64 start) ∧ w0.cell? ⟨w.heap.size, 5, none⟩ = some (.int .i64 fin) ∧ w0.cell? ⟨w.heap.size, 6, none⟩ = some (.bool found) ∧ w0.cell? ⟨w.heap.size, 7, none⟩ = some (.slice a recs.length c) ∧ w0.cell? ⟨w.heap.size, 8, none⟩ = some (.slice ta topics.length tc) := by
    have hb := hbox
    exact ⟨hsw, by simpa [strV] using cell_of hb 0, by simpa [strV] using cell_of hb 1, by simpa [strV] using cell_of hb 2, by simpa [strV] using cell_of hb 3, by simpa [strV] using cell_of hb 4, by simpa [strV] using cell_of hb 5, by simpa [strV] using cell_of hb 6, by simpa [strV] using cell_of hb 7, by simpa [strV] using cell_of hb 8⟩
  have recsAt : ∀ wi si bi, MkTo mT eI wm wi w0.heap.size w0.heap.size s0 si bi → RecsAt wi (.slice a recs.length c) recs := fun wi si bi hg =>
    ((hrec.still hal).still hal2).kept' hg.2.1 (fun h0 k hk hm => by
      have h1 := hrec.lt h0 k hk
      rcases List.mem_cons.1 hm with rfl | hm
      · omega
      · rw [hs0] at hm; simp [Value.ownBlock] at hm)
  have hrb : recs ≠ [] → ∀ k ∈ (Value.slice a recs.length c).ownBlock, k < w0.heap.size := fun h0 k hk => by have := hrec.lt h0 k hk; omega
  have RECS := hide recsAt
  have topsAt : ∀ wi si bi, MkTo mT eI wm wi w0.heap.size w0.heap.size s0 si bi → TopsAt wi (.slice ta topics.length tc) topics := fun wi si bi hg =>
    ((htop.still hal).still hal2).kept' hg.2.1 (fun h0 k hk hm => by
      have h1 := htop.lt h0 k hk
      rcases List.mem_cons.1 hm with rfl | hm
      · omega
      · rw [hs0] at hm; simp [Value.ownBlock] at hm)
  have TOPS := hide topsAt
  have fin : ∀ wi si bi, MkTo mT eI wm wi w0.heap.size w0.heap.size s0 si bi → Turn [] w wi := fun wi si bi h2 =>
    (hal.same hal2).trans h2.2.1 (fun k hk => .inr (by
      rcases List.mem_cons.1 hk with rfl | hk
      · omega
      · rw [hs0] at hk; simp [Value.ownBlock] at hk))
  have FIN := hide fin
  have BOX := hide box
  have HT0 := hide hmk.self
  have HW0 := hide hw0
  have HWM := hide hwm
  have HB0 := hide hb0
  have hszm : w0.heap.size < wm.heap.size := lt_of_heap hmx2
  clear hbox hal hal2 hw0 hwm hmx2 hbox2 hmk hs0 hb0 box fin recsAt hrec topsAt htop
  obtain ⟨z0, q0, q1, q2, q3, q4, q5, q6, q7, q8⟩ := z0
  go_enter Tryd.func24, Tryd.ntmps24
  go_upto_region 1 with fail
  rw [show w.alloc (.cells #[.int .i64 2, .int .i64 corr, .int .i64 0, .int .i64 offset, .int .i64 start, .int .i64 fin, .bool found, .slice a recs.length c, .slice ta topics.length tc] 38) = w0 from HW0.out.symm]
  go_upto_region 4 with fail
  rw [show w0.alloc (.cells #[.slice none 0 0, .int .i64 0] mT) = wm from HWM.out.symm]
  clear z0 q0 q1 q2 q3 q4 q5 q6 q7 q8
  obtain ⟨z0, q0, q1, q2, q3, q4, q5, q6, q7, q8⟩ := BOX.out _ _ _ HT0.out
  go_wp2_with fail
  refine (mnum_new _ w0.heap.size w0.heap.size s0 b0 HT0.out.1 (by omega) [2, corr, 0] (by rfl) (by rfl) (by rfl) (by simp) (by omega)).mono ?_
  rintro e wz1 ⟨rfl, s1, hto⟩
  have HT1 := hide (HT0.out.trans hto)
  clear hto
  have hl1 := (show (nums b0 [2, corr, 0]).1.length ≤ b0.1.length + 18 from nums_len b0 [2, corr, 0])
  obtain ⟨b1, hb⟩ : ∃ b, b = nums b0 [2, corr, 0] := ⟨_, rfl⟩
  rw [← hb] at HT1 hl1
  have HB1 := hide hb
  clear hb
  have hsz1 := HT1.out.2.1.size
  clear z0 q0 q1 q2 q3 q4 q5 q6 q7 q8
  obtain ⟨z0, q0, q1, q2, q3, q4, q5, q6, q7, q8⟩ := BOX.out _ _ _ HT1.out
  go_wp2_with fail
  refine (mnum_new _ w0.heap.size w0.heap.size s1 b1 HT1.out.1 (by omega) [start, fin] (by rfl) (by rfl) (by rfl) (by simp) (by omega)).mono ?_
  rintro e wz2 ⟨rfl, s2, hto⟩
  have HT2 := hide (HT1.out.trans hto)
  clear hto
  have hl2 := (show (nums b1 [start, fin]).1.length ≤ b1.1.length + 12 from nums_len b1 [start, fin])
  obtain ⟨b2, hb⟩ : ∃ b, b = nums b1 [start, fin] := ⟨_, rfl⟩
  rw [← hb] at HT2 hl2
  have HB2 := hide hb
  clear hb
  have hsz2 := HT2.out.2.1.size
  clear z0 q0 q1 q2 q3 q4 q5 q6 q7 q8
  obtain ⟨z0, q0, q1, q2, q3, q4, q5, q6, q7, q8⟩ := BOX.out _ _ _ HT2.out
  go_wp2_with fail
  refine (mrecsT_any _ w0.heap.size w0.heap.size s2 b2 HT2.out.1 (by omega) (Nat.le_refl _) recs a c (RECS.out _ _ _ HT2.out) hrb hsm hlr (by omega)).mono ?_
  rintro e wz3 ⟨rfl, s3, hto⟩
  have HT3 := hide (HT2.out.trans hto)
  clear hto
  obtain ⟨b3, hb⟩ : ∃ b, b = rRun b2 (.ns [(recs.length : Int)] :: recs.flatMap plCl) := ⟨_, rfl⟩
  rw [← hb] at HT3
  have HB3 := hide hb
  clear hb
  have hsz3 := HT3.out.2.1.size
  clear z0 q0 q1 q2 q3 q4 q5 q6 q7 q8
  obtain ⟨z0, q0, q1, q2, q3, q4, q5, q6, q7, q8⟩ := BOX.out _ _ _ HT3.out
  have hbf : b3 = rRun ([], 0) (ansCl (⟨2, corr, 0, offset, start, fin, found, recs, topics⟩ : Ans)) := by rw [HB3.out, HB2.out, HB1.out, HB0.out]; rfl
  have hm : tellM (⟨2, corr, 0, offset, start, fin, found, recs, topics⟩ : Ans) = rF b3 := by rw [hbf]; rfl
  have hne : b3.1 ≠ [] := by rw [hbf]; exact ansRun_ne _ _
  have HMM := hide hm
  clear hbf hm
  go_wp2_with fail
  refine (mframe_any _ w0.heap.size w0.heap.size s3 b3 HT3.out.1 (by omega) hne).mono ?_
  rintro e wf ⟨v, rfl, hrow, htf⟩
  have hrow' : RowAt wf 5 w.heap.size v (rF b3).1 := by
    rcases hrow with h | ⟨g, cap, cur, h1, h2, h3⟩
    · exact .inl h
    · exact .inr ⟨g, cap, cur, h1, by omega, h3⟩
  have HROW := hide hrow'
  have HTF := hide ((FIN.out _ _ _ HT3.out).same htf)
  clear hrow hrow' htf hne z0 q0 q1 q2 q3 q4 q5 q6 q7 q8
  go_wp2
  go_ret2
  exact ⟨v, by rw [HMM.out]; rfl, by rw [HMM.out]; exact HROW.out, HTF.out⟩

set_option maxHeartbeats 8000000 in
theorem mTell4_any (w : World) (corr offset start fin : Int) (found : Bool) (recs : List Bt.Rec) (topics : List Tp) (a ta : Option Addr) (c tc : Nat) (hrec : RecsAt w (.slice a recs.length c) recs) (htop : TopsAt w (.slice ta topics.length tc) topics) (hsm : ∀ r ∈ recs, RecSm r) (hlr : recs.length ≤ 10000) (htm : ∀ t ∈ topics, t.name.length ≤ 1048576) (hlt : topics.length ≤ 10000) :
    Calls Tryd.prog 24 #[.agg #[.int .i64 4, .int .i64 corr, .int .i64 0, .int .i64 offset, .int .i64 start, .int .i64 fin, .bool found, .slice a recs.length c, .slice ta topics.length tc]] w fun e w' => ∃ v, e = .returned (.tuple #[v, .int .i64 (tellM (⟨4, corr, 0, offset, start, fin, found, recs, topics⟩ : Ans)).2]) ∧ RowAt w' 5 w.heap.size v (tellM (⟨4, corr, 0, offset, start, fin, found, recs, topics⟩ : Ans)).1 ∧ Turn [] w w' := by

  obtain ⟨w0, hw0⟩ : ∃ w0, w0 = w.alloc (.cells #[.int .i64 4, .int .i64 corr, .int .i64 0, .int .i64 offset, .int .i64 start, .int .i64 fin, .bool found, .slice a recs.length c, .slice ta topics.length tc] 38) := ⟨_, rfl⟩
  have hbox : w0.heap[w.heap.size]? = some (.cells #[.int .i64 4, .int .i64 corr, .int .i64 0, .int .i64 offset, .int .i64 start, .int .i64 fin, .bool found, .slice a recs.length c, .slice ta topics.length tc] 38 (0, 0)) := by rw [hw0]; exact heap_new w _
  have hal : Turn [] w w0 := by rw [hw0]; exact (Turn.refl [] w).alloc _
  obtain ⟨wm, hwm⟩ : ∃ wm, wm = w0.alloc (.cells #[.slice none 0 0, .int .i64 0] mT) := ⟨_, rfl⟩
  have hmx2 : wm.heap[w0.heap.size]? = some (.cells #[.slice none 0 0, .int .i64 0] mT (0, 0)) := by rw [hwm]; exact heap_new w0 _
  have hal2 : Turn [] w0 wm := by rw [hwm]; exact (Turn.refl [] w0).alloc _
  have hbox2 := hal2.heap hbox (by simp)
  have hsw : w.heap.size < w0.heap.size := lt_of_heap hbox
  have hmk : MkAt mT eI wm w0.heap.size w0.heap.size (.slice none 0 0) ([], 0) := ⟨hmx2, .inl ⟨rfl, rfl⟩, by simp [Value.ownBlock]⟩
  obtain ⟨s0, hs0⟩ : ∃ s : Value, s = .slice none 0 0 := ⟨_, rfl⟩
  obtain ⟨b0, hb0⟩ : ∃ b : WS, b = ([], 0) := ⟨_, rfl⟩
  rw [← hs0, ← hb0] at hmk
  have hl0 : b0.1.length ≤ 100 := by rw [hb0]; simp
  have box : ∀ wi si bi, MkTo mT eI wm wi w0.heap.size w0.heap.size s0 si bi → w.heap.size < wi.heap.size ∧ wi.cell? ⟨w.heap.size, 0, none⟩ = some (.int .i64 4) ∧ wi.cell? ⟨w.heap.size, 1, none⟩ = some (.int .i64 corr) ∧ wi.cell? ⟨w.heap.size, 2, none⟩ = some (.int .i64 0) ∧ wi.cell? ⟨w.heap.size, 3, none⟩ = some (.int .i64 offset) ∧ wi.cell? ⟨w.heap.size, 4, none⟩ = some (.int .i64 start) ∧ wi.cell? ⟨w.heap.size, 5, none⟩ = some (.int .i64 fin) ∧ wi.cell? ⟨w.heap.size, 6, none⟩ = some (.bool found) ∧ wi.cell? ⟨w.heap.size, 7, none⟩ = some (.slice a recs.length c) ∧ wi.cell? ⟨w.heap.size, 8, none⟩ = some (.slice ta topics.length tc) :=
    fun wi si bi h2 => by
      have hb := h2.box hbox2 (by omega) (fun x hx => by rw [hs0] at hx; simp [Value.ownBlock] at hx)
      exact ⟨lt_of_heap hb, by simpa [strV] using cell_of hb 0, by simpa [strV] using cell_of hb 1, by simpa [strV] using cell_of hb 2, by simpa [strV] using cell_of hb 3, by simpa [strV] using cell_of hb 4, by simpa [strV] using cell_of hb 5, by simpa [strV] using cell_of hb 6, by simpa [strV] using cell_of hb 7, by simpa [strV] using cell_of hb 8⟩
  have z0 : w.heap.size < w0.heap.size ∧ w0.cell? ⟨w.heap.size, 0, none⟩ = some (.int .i64 4) ∧ w0.cell? ⟨w.heap.size, 1, none⟩ = some (.int .i64 corr) ∧ w0.cell? ⟨w.heap.size, 2, none⟩ = some (.int .i64 0) ∧ w0.cell? ⟨w.heap.size, 3, none⟩ = some (.int .i64 offset) ∧ w0.cell? ⟨w.heap.size, 4, none⟩ = some (.int .i64 start) ∧ w0.cell? ⟨w.heap.size, 5, none⟩ = some (.int .i64 fin) ∧ w0.cell? ⟨w.heap.size, 6, none⟩ = some (.bool found) ∧ w0.cell? ⟨w.heap.size, 7, none⟩ = some (.slice a recs.length c) ∧ w0.cell? ⟨w.heap.size, 8, none⟩ = some (.slice ta topics.length tc) := by
    have hb := hbox
    exact ⟨hsw, by simpa [strV] using cell_of hb 0, by simpa [strV] using cell_of hb 1, by simpa [strV] using cell_of hb 2, by simpa [strV] using cell_of hb 3, by simpa [strV] using cell_of hb 4, by simpa [strV] using cell_of hb 5, by simpa [strV] using cell_of hb 6, by simpa [strV] using cell_of hb 7, by simpa [strV] using cell_of hb 8⟩
  have recsAt : ∀ wi si bi, MkTo mT eI wm wi w0.heap.size w0.heap.size s0 si bi → RecsAt wi (.slice a recs.length c) recs := fun wi si bi hg =>
    ((hrec.still hal).still hal2).kept' hg.2.1 (fun h0 k hk hm => by
      have h1 := hrec.lt h0 k hk
      rcases List.mem_cons.1 hm with rfl | hm
      · omega
      · rw [hs0] at hm; simp [Value.ownBlock] at hm)
  have hrb : recs ≠ [] → ∀ k ∈ (Value.slice a recs.length c).ownBlock, k < w0.heap.size := fun h0 k hk => by have := hrec.lt h0 k hk; omega
  have RECS := hide recsAt
  have topsAt : ∀ wi si bi, MkTo mT eI wm wi w0.heap.size w0.heap.size s0 si bi → TopsAt wi (.slice ta topics.length tc) topics := fun wi si bi hg =>
    ((htop.still hal).still hal2).kept' hg.2.1 (fun h0 k hk hm => by
      have h1 := htop.lt h0 k hk
      rcases List.mem_cons.1 hm with rfl | hm
      · omega
      · rw [hs0] at hm; simp [Value.ownBlock] at hm)
  have TOPS := hide topsAt
  have fin : ∀ wi si bi, MkTo mT eI wm wi w0.heap.size w0.heap.size s0 si bi → Turn [] w wi := fun wi si bi h2 =>
    (hal.same hal2).trans h2.2.1 (fun k hk => .inr (by
      rcases List.mem_cons.1 hk with rfl | hk
      · omega
      · rw [hs0] at hk; simp [Value.ownBlock] at hk))
  have FIN := hide fin
  have BOX := hide box
  have HT0 := hide hmk.self
  have HW0 := hide hw0
  have HWM := hide hwm
  have HB0 := hide hb0
  have hszm : w0.heap.size < wm.heap.size := lt_of_heap hmx2
  clear hbox hal hal2 hw0 hwm hmx2 hbox2 hmk hs0 hb0 box fin recsAt hrec topsAt htop
  obtain ⟨z0, q0, q1, q2, q3, q4, q5, q6, q7, q8⟩ := z0
  go_enter Tryd.func24, Tryd.ntmps24
  go_upto_region 1 with fail
  rw [show w.alloc (.cells #[.int .i64 4, .int .i64 corr, .int .i64 0, .int .i64 offset, .int .i64 start, .int .i64 fin, .bool found, .slice a recs.length c, .slice ta topics.length tc] 38) = w0 from HW0.out.symm]
  go_upto_region 4 with fail
  rw [show w0.alloc (.cells #[.slice none 0 0, .int .i64 0] mT) = wm from HWM.out.symm]
  clear z0 q0 q1 q2 q3 q4 q5 q6 q7 q8
  obtain ⟨z0, q0, q1, q2, q3, q4, q5, q6, q7, q8⟩ := BOX.out _ _ _ HT0.out
  go_wp2_with fail
  refine (mnum_new _ w0.heap.size w0.heap.size s0 b0 HT0.out.1 (by omega) [4, corr, 0] (by rfl) (by rfl) (by rfl) (by simp) (by omega)).mono ?_
  rintro e wz1 ⟨rfl, s1, hto⟩
  have HT1 := hide (HT0.out.trans hto)
  clear hto
  have hl1 := (show (nums b0 [4, corr, 0]).1.length ≤ b0.1.length + 18 from nums_len b0 [4, corr, 0])
  obtain ⟨b1, hb⟩ : ∃ b, b = nums b0 [4, corr, 0] := ⟨_, rfl⟩
  rw [← hb] at HT1 hl1
  have HB1 := hide hb
  clear hb
  have hsz1 := HT1.out.2.1.size
  clear z0 q0 q1 q2 q3 q4 q5 q6 q7 q8
  obtain ⟨z0, q0, q1, q2, q3, q4, q5, q6, q7, q8⟩ := BOX.out _ _ _ HT1.out
  go_wp2_with fail
  refine (mnum_new _ w0.heap.size w0.heap.size s1 b1 HT1.out.1 (by omega) [start] (by rfl) (by rfl) (by rfl) (by simp) (by omega)).mono ?_
  rintro e wz2 ⟨rfl, s2, hto⟩
  have HT2 := hide (HT1.out.trans hto)
  clear hto
  have hl2 := (show (nums b1 [start]).1.length ≤ b1.1.length + 6 from nums_len b1 [start])
  obtain ⟨b2, hb⟩ : ∃ b, b = nums b1 [start] := ⟨_, rfl⟩
  rw [← hb] at HT2 hl2
  have HB2 := hide hb
  clear hb
  have hsz2 := HT2.out.2.1.size
  clear z0 q0 q1 q2 q3 q4 q5 q6 q7 q8
  obtain ⟨z0, q0, q1, q2, q3, q4, q5, q6, q7, q8⟩ := BOX.out _ _ _ HT2.out
  have hbf : b2 = rRun ([], 0) (ansCl (⟨4, corr, 0, offset, start, fin, found, recs, topics⟩ : Ans)) := by rw [HB2.out, HB1.out, HB0.out]; rfl
  have hm : tellM (⟨4, corr, 0, offset, start, fin, found, recs, topics⟩ : Ans) = rF b2 := by rw [hbf]; rfl
  have hne : b2.1 ≠ [] := by rw [hbf]; exact ansRun_ne _ _
  have HMM := hide hm
  clear hbf hm
  go_wp2_with fail
  refine (mframe_any _ w0.heap.size w0.heap.size s2 b2 HT2.out.1 (by omega) hne).mono ?_
  rintro e wf ⟨v, rfl, hrow, htf⟩
  have hrow' : RowAt wf 5 w.heap.size v (rF b2).1 := by
    rcases hrow with h | ⟨g, cap, cur, h1, h2, h3⟩
    · exact .inl h
    · exact .inr ⟨g, cap, cur, h1, by omega, h3⟩
  have HROW := hide hrow'
  have HTF := hide ((FIN.out _ _ _ HT2.out).same htf)
  clear hrow hrow' htf hne z0 q0 q1 q2 q3 q4 q5 q6 q7 q8
  go_wp2
  go_ret2
  exact ⟨v, by rw [HMM.out]; rfl, by rw [HMM.out]; exact HROW.out, HTF.out⟩

set_option maxHeartbeats 8000000 in
theorem mTell5_any (w : World) (corr offset start fin : Int) (found : Bool) (recs : List Bt.Rec) (topics : List Tp) (a ta : Option Addr) (c tc : Nat) (hrec : RecsAt w (.slice a recs.length c) recs) (htop : TopsAt w (.slice ta topics.length tc) topics) (hsm : ∀ r ∈ recs, RecSm r) (hlr : recs.length ≤ 10000) (htm : ∀ t ∈ topics, t.name.length ≤ 1048576) (hlt : topics.length ≤ 10000) :
    Calls Tryd.prog 24 #[.agg #[.int .i64 5, .int .i64 corr, .int .i64 0, .int .i64 offset, .int .i64 start, .int .i64 fin, .bool found, .slice a recs.length c, .slice ta topics.length tc]] w fun e w' => ∃ v, e = .returned (.tuple #[v, .int .i64 (tellM (⟨5, corr, 0, offset, start, fin, found, recs, topics⟩ : Ans)).2]) ∧ RowAt w' 5 w.heap.size v (tellM (⟨5, corr, 0, offset, start, fin, found, recs, topics⟩ : Ans)).1 ∧ Turn [] w w' := by

  obtain ⟨w0, hw0⟩ : ∃ w0, w0 = w.alloc (.cells #[.int .i64 5, .int .i64 corr, .int .i64 0, .int .i64 offset, .int .i64 start, .int .i64 fin, .bool found, .slice a recs.length c, .slice ta topics.length tc] 38) := ⟨_, rfl⟩
  have hbox : w0.heap[w.heap.size]? = some (.cells #[.int .i64 5, .int .i64 corr, .int .i64 0, .int .i64 offset, .int .i64 start, .int .i64 fin, .bool found, .slice a recs.length c, .slice ta topics.length tc] 38 (0, 0)) := by rw [hw0]; exact heap_new w _
  have hal : Turn [] w w0 := by rw [hw0]; exact (Turn.refl [] w).alloc _
  obtain ⟨wm, hwm⟩ : ∃ wm, wm = w0.alloc (.cells #[.slice none 0 0, .int .i64 0] mT) := ⟨_, rfl⟩
  have hmx2 : wm.heap[w0.heap.size]? = some (.cells #[.slice none 0 0, .int .i64 0] mT (0, 0)) := by rw [hwm]; exact heap_new w0 _
  have hal2 : Turn [] w0 wm := by rw [hwm]; exact (Turn.refl [] w0).alloc _
  have hbox2 := hal2.heap hbox (by simp)
  have hsw : w.heap.size < w0.heap.size := lt_of_heap hbox
  have hmk : MkAt mT eI wm w0.heap.size w0.heap.size (.slice none 0 0) ([], 0) := ⟨hmx2, .inl ⟨rfl, rfl⟩, by simp [Value.ownBlock]⟩
  obtain ⟨s0, hs0⟩ : ∃ s : Value, s = .slice none 0 0 := ⟨_, rfl⟩
  obtain ⟨b0, hb0⟩ : ∃ b : WS, b = ([], 0) := ⟨_, rfl⟩
  rw [← hs0, ← hb0] at hmk
  have hl0 : b0.1.length ≤ 100 := by rw [hb0]; simp
  have box : ∀ wi si bi, MkTo mT eI wm wi w0.heap.size w0.heap.size s0 si bi → w.heap.size < wi.heap.size ∧ wi.cell? ⟨w.heap.size, 0, none⟩ = some (.int .i64 5) ∧ wi.cell? ⟨w.heap.size, 1, none⟩ = some (.int .i64 corr) ∧ wi.cell? ⟨w.heap.size, 2, none⟩ = some (.int .i64 0) ∧ wi.cell? ⟨w.heap.size, 3, none⟩ = some (.int .i64 offset) ∧ wi.cell? ⟨w.heap.size, 4, none⟩ = some (.int .i64 start) ∧ wi.cell? ⟨w.heap.size, 5, none⟩ = some (.int .i64 fin) ∧ wi.cell? ⟨w.heap.size, 6, none⟩ = some (.bool found) ∧ wi.cell? ⟨w.heap.size, 7, none⟩ = some (.slice a recs.length c) ∧ wi.cell? ⟨w.heap.size, 8, none⟩ = some (.slice ta topics.length tc) :=
    fun wi si bi h2 => by
      have hb := h2.box hbox2 (by omega) (fun x hx => by rw [hs0] at hx; simp [Value.ownBlock] at hx)
      exact ⟨lt_of_heap hb, by simpa [strV] using cell_of hb 0, by simpa [strV] using cell_of hb 1, by simpa [strV] using cell_of hb 2, by simpa [strV] using cell_of hb 3, by simpa [strV] using cell_of hb 4, by simpa [strV] using cell_of hb 5, by simpa [strV] using cell_of hb 6, by simpa [strV] using cell_of hb 7, by simpa [strV] using cell_of hb 8⟩
  have z0 : w.heap.size < w0.heap.size ∧ w0.cell? ⟨w.heap.size, 0, none⟩ = some (.int .i64 5) ∧ w0.cell? ⟨w.heap.size, 1, none⟩ = some (.int .i64 corr) ∧ w0.cell? ⟨w.heap.size, 2, none⟩ = some (.int .i64 0) ∧ w0.cell? ⟨w.heap.size, 3, none⟩ = some (.int .i64 offset) ∧ w0.cell? ⟨w.heap.size, 4, none⟩ = some (.int .i64 start) ∧ w0.cell? ⟨w.heap.size, 5, none⟩ = some (.int .i64 fin) ∧ w0.cell? ⟨w.heap.size, 6, none⟩ = some (.bool found) ∧ w0.cell? ⟨w.heap.size, 7, none⟩ = some (.slice a recs.length c) ∧ w0.cell? ⟨w.heap.size, 8, none⟩ = some (.slice ta topics.length tc) := by
    have hb := hbox
    exact ⟨hsw, by simpa [strV] using cell_of hb 0, by simpa [strV] using cell_of hb 1, by simpa [strV] using cell_of hb 2, by simpa [strV] using cell_of hb 3, by simpa [strV] using cell_of hb 4, by simpa [strV] using cell_of hb 5, by simpa [strV] using cell_of hb 6, by simpa [strV] using cell_of hb 7, by simpa [strV] using cell_of hb 8⟩
  have recsAt : ∀ wi si bi, MkTo mT eI wm wi w0.heap.size w0.heap.size s0 si bi → RecsAt wi (.slice a recs.length c) recs := fun wi si bi hg =>
    ((hrec.still hal).still hal2).kept' hg.2.1 (fun h0 k hk hm => by
      have h1 := hrec.lt h0 k hk
      rcases List.mem_cons.1 hm with rfl | hm
      · omega
      · rw [hs0] at hm; simp [Value.ownBlock] at hm)
  have hrb : recs ≠ [] → ∀ k ∈ (Value.slice a recs.length c).ownBlock, k < w0.heap.size := fun h0 k hk => by have := hrec.lt h0 k hk; omega
  have RECS := hide recsAt
  have topsAt : ∀ wi si bi, MkTo mT eI wm wi w0.heap.size w0.heap.size s0 si bi → TopsAt wi (.slice ta topics.length tc) topics := fun wi si bi hg =>
    ((htop.still hal).still hal2).kept' hg.2.1 (fun h0 k hk hm => by
      have h1 := htop.lt h0 k hk
      rcases List.mem_cons.1 hm with rfl | hm
      · omega
      · rw [hs0] at hm; simp [Value.ownBlock] at hm)
  have TOPS := hide topsAt
  have fin : ∀ wi si bi, MkTo mT eI wm wi w0.heap.size w0.heap.size s0 si bi → Turn [] w wi := fun wi si bi h2 =>
    (hal.same hal2).trans h2.2.1 (fun k hk => .inr (by
      rcases List.mem_cons.1 hk with rfl | hk
      · omega
      · rw [hs0] at hk; simp [Value.ownBlock] at hk))
  have FIN := hide fin
  have BOX := hide box
  have HT0 := hide hmk.self
  have HW0 := hide hw0
  have HWM := hide hwm
  have HB0 := hide hb0
  have hszm : w0.heap.size < wm.heap.size := lt_of_heap hmx2
  clear hbox hal hal2 hw0 hwm hmx2 hbox2 hmk hs0 hb0 box fin recsAt hrec topsAt htop
  obtain ⟨z0, q0, q1, q2, q3, q4, q5, q6, q7, q8⟩ := z0
  go_enter Tryd.func24, Tryd.ntmps24
  go_upto_region 1 with fail
  rw [show w.alloc (.cells #[.int .i64 5, .int .i64 corr, .int .i64 0, .int .i64 offset, .int .i64 start, .int .i64 fin, .bool found, .slice a recs.length c, .slice ta topics.length tc] 38) = w0 from HW0.out.symm]
  go_upto_region 4 with fail
  rw [show w0.alloc (.cells #[.slice none 0 0, .int .i64 0] mT) = wm from HWM.out.symm]
  clear z0 q0 q1 q2 q3 q4 q5 q6 q7 q8
  obtain ⟨z0, q0, q1, q2, q3, q4, q5, q6, q7, q8⟩ := BOX.out _ _ _ HT0.out
  go_wp2_with fail
  refine (mnum_new _ w0.heap.size w0.heap.size s0 b0 HT0.out.1 (by omega) [5, corr, 0] (by rfl) (by rfl) (by rfl) (by simp) (by omega)).mono ?_
  rintro e wz1 ⟨rfl, s1, hto⟩
  have HT1 := hide (HT0.out.trans hto)
  clear hto
  have hl1 := (show (nums b0 [5, corr, 0]).1.length ≤ b0.1.length + 18 from nums_len b0 [5, corr, 0])
  obtain ⟨b1, hb⟩ : ∃ b, b = nums b0 [5, corr, 0] := ⟨_, rfl⟩
  rw [← hb] at HT1 hl1
  have HB1 := hide hb
  clear hb
  have hsz1 := HT1.out.2.1.size
  clear z0 q0 q1 q2 q3 q4 q5 q6 q7 q8
  obtain ⟨z0, q0, q1, q2, q3, q4, q5, q6, q7, q8⟩ := BOX.out _ _ _ HT1.out
  have hbf : b1 = rRun ([], 0) (ansCl (⟨5, corr, 0, offset, start, fin, found, recs, topics⟩ : Ans)) := by rw [HB1.out, HB0.out]; rfl
  have hm : tellM (⟨5, corr, 0, offset, start, fin, found, recs, topics⟩ : Ans) = rF b1 := by rw [hbf]; rfl
  have hne : b1.1 ≠ [] := by rw [hbf]; exact ansRun_ne _ _
  have HMM := hide hm
  clear hbf hm
  go_wp2_with fail
  refine (mframe_any _ w0.heap.size w0.heap.size s1 b1 HT1.out.1 (by omega) hne).mono ?_
  rintro e wf ⟨v, rfl, hrow, htf⟩
  have hrow' : RowAt wf 5 w.heap.size v (rF b1).1 := by
    rcases hrow with h | ⟨g, cap, cur, h1, h2, h3⟩
    · exact .inl h
    · exact .inr ⟨g, cap, cur, h1, by omega, h3⟩
  have HROW := hide hrow'
  have HTF := hide ((FIN.out _ _ _ HT1.out).same htf)
  clear hrow hrow' htf hne z0 q0 q1 q2 q3 q4 q5 q6 q7 q8
  go_wp2
  go_ret2
  exact ⟨v, by rw [HMM.out]; rfl, by rw [HMM.out]; exact HROW.out, HTF.out⟩

set_option maxHeartbeats 8000000 in
theorem mTell6_any (w : World) (corr offset start fin : Int) (found : Bool) (recs : List Bt.Rec) (topics : List Tp) (a ta : Option Addr) (c tc : Nat) (hrec : RecsAt w (.slice a recs.length c) recs) (htop : TopsAt w (.slice ta topics.length tc) topics) (hsm : ∀ r ∈ recs, RecSm r) (hlr : recs.length ≤ 10000) (htm : ∀ t ∈ topics, t.name.length ≤ 1048576) (hlt : topics.length ≤ 10000) :
    Calls Tryd.prog 24 #[.agg #[.int .i64 6, .int .i64 corr, .int .i64 0, .int .i64 offset, .int .i64 start, .int .i64 fin, .bool found, .slice a recs.length c, .slice ta topics.length tc]] w fun e w' => ∃ v, e = .returned (.tuple #[v, .int .i64 (tellM (⟨6, corr, 0, offset, start, fin, found, recs, topics⟩ : Ans)).2]) ∧ RowAt w' 5 w.heap.size v (tellM (⟨6, corr, 0, offset, start, fin, found, recs, topics⟩ : Ans)).1 ∧ Turn [] w w' := by

  obtain ⟨w0, hw0⟩ : ∃ w0, w0 = w.alloc (.cells #[.int .i64 6, .int .i64 corr, .int .i64 0, .int .i64 offset, .int .i64 start, .int .i64 fin, .bool found, .slice a recs.length c, .slice ta topics.length tc] 38) := ⟨_, rfl⟩
  have hbox : w0.heap[w.heap.size]? = some (.cells #[.int .i64 6, .int .i64 corr, .int .i64 0, .int .i64 offset, .int .i64 start, .int .i64 fin, .bool found, .slice a recs.length c, .slice ta topics.length tc] 38 (0, 0)) := by rw [hw0]; exact heap_new w _
  have hal : Turn [] w w0 := by rw [hw0]; exact (Turn.refl [] w).alloc _
  obtain ⟨wm, hwm⟩ : ∃ wm, wm = w0.alloc (.cells #[.slice none 0 0, .int .i64 0] mT) := ⟨_, rfl⟩
  have hmx2 : wm.heap[w0.heap.size]? = some (.cells #[.slice none 0 0, .int .i64 0] mT (0, 0)) := by rw [hwm]; exact heap_new w0 _
  have hal2 : Turn [] w0 wm := by rw [hwm]; exact (Turn.refl [] w0).alloc _
  have hbox2 := hal2.heap hbox (by simp)
  have hsw : w.heap.size < w0.heap.size := lt_of_heap hbox
  have hmk : MkAt mT eI wm w0.heap.size w0.heap.size (.slice none 0 0) ([], 0) := ⟨hmx2, .inl ⟨rfl, rfl⟩, by simp [Value.ownBlock]⟩
  obtain ⟨s0, hs0⟩ : ∃ s : Value, s = .slice none 0 0 := ⟨_, rfl⟩
  obtain ⟨b0, hb0⟩ : ∃ b : WS, b = ([], 0) := ⟨_, rfl⟩
  rw [← hs0, ← hb0] at hmk
  have hl0 : b0.1.length ≤ 100 := by rw [hb0]; simp
  have box : ∀ wi si bi, MkTo mT eI wm wi w0.heap.size w0.heap.size s0 si bi → w.heap.size < wi.heap.size ∧ wi.cell? ⟨w.heap.size, 0, none⟩ = some (.int .i64 6) ∧ wi.cell? ⟨w.heap.size, 1, none⟩ = some (.int .i64 corr) ∧ wi.cell? ⟨w.heap.size, 2, none⟩ = some (.int .i64 0) ∧ wi.cell? ⟨w.heap.size, 3, none⟩ = some (.int .i64 offset) ∧ wi.cell? ⟨w.heap.size, 4, none⟩ = some (.int .i64 start) ∧ wi.cell? ⟨w.heap.size, 5, none⟩ = some (.int .i64 fin) ∧ wi.cell? ⟨w.heap.size, 6, none⟩ = some (.bool found) ∧ wi.cell? ⟨w.heap.size, 7, none⟩ = some (.slice a recs.length c) ∧ wi.cell? ⟨w.heap.size, 8, none⟩ = some (.slice ta topics.length tc) :=
    fun wi si bi h2 => by
      have hb := h2.box hbox2 (by omega) (fun x hx => by rw [hs0] at hx; simp [Value.ownBlock] at hx)
      exact ⟨lt_of_heap hb, by simpa [strV] using cell_of hb 0, by simpa [strV] using cell_of hb 1, by simpa [strV] using cell_of hb 2, by simpa [strV] using cell_of hb 3, by simpa [strV] using cell_of hb 4, by simpa [strV] using cell_of hb 5, by simpa [strV] using cell_of hb 6, by simpa [strV] using cell_of hb 7, by simpa [strV] using cell_of hb 8⟩
  have z0 : w.heap.size < w0.heap.size ∧ w0.cell? ⟨w.heap.size, 0, none⟩ = some (.int .i64 6) ∧ w0.cell? ⟨w.heap.size, 1, none⟩ = some (.int .i64 corr) ∧ w0.cell? ⟨w.heap.size, 2, none⟩ = some (.int .i64 0) ∧ w0.cell? ⟨w.heap.size, 3, none⟩ = some (.int .i64 offset) ∧ w0.cell? ⟨w.heap.size, 4, none⟩ = some (.int .i64 start) ∧ w0.cell? ⟨w.heap.size, 5, none⟩ = some (.int .i64 fin) ∧ w0.cell? ⟨w.heap.size, 6, none⟩ = some (.bool found) ∧ w0.cell? ⟨w.heap.size, 7, none⟩ = some (.slice a recs.length c) ∧ w0.cell? ⟨w.heap.size, 8, none⟩ = some (.slice ta topics.length tc) := by
    have hb := hbox
    exact ⟨hsw, by simpa [strV] using cell_of hb 0, by simpa [strV] using cell_of hb 1, by simpa [strV] using cell_of hb 2, by simpa [strV] using cell_of hb 3, by simpa [strV] using cell_of hb 4, by simpa [strV] using cell_of hb 5, by simpa [strV] using cell_of hb 6, by simpa [strV] using cell_of hb 7, by simpa [strV] using cell_of hb 8⟩
  have recsAt : ∀ wi si bi, MkTo mT eI wm wi w0.heap.size w0.heap.size s0 si bi → RecsAt wi (.slice a recs.length c) recs := fun wi si bi hg =>
    ((hrec.still hal).still hal2).kept' hg.2.1 (fun h0 k hk hm => by
      have h1 := hrec.lt h0 k hk
      rcases List.mem_cons.1 hm with rfl | hm
      · omega
      · rw [hs0] at hm; simp [Value.ownBlock] at hm)
  have hrb : recs ≠ [] → ∀ k ∈ (Value.slice a recs.length c).ownBlock, k < w0.heap.size := fun h0 k hk => by have := hrec.lt h0 k hk; omega
  have RECS := hide recsAt
  have topsAt : ∀ wi si bi, MkTo mT eI wm wi w0.heap.size w0.heap.size s0 si bi → TopsAt wi (.slice ta topics.length tc) topics := fun wi si bi hg =>
    ((htop.still hal).still hal2).kept' hg.2.1 (fun h0 k hk hm => by
      have h1 := htop.lt h0 k hk
      rcases List.mem_cons.1 hm with rfl | hm
      · omega
      · rw [hs0] at hm; simp [Value.ownBlock] at hm)
  have TOPS := hide topsAt
  have fin : ∀ wi si bi, MkTo mT eI wm wi w0.heap.size w0.heap.size s0 si bi → Turn [] w wi := fun wi si bi h2 =>
    (hal.same hal2).trans h2.2.1 (fun k hk => .inr (by
      rcases List.mem_cons.1 hk with rfl | hk
      · omega
      · rw [hs0] at hk; simp [Value.ownBlock] at hk))
  have FIN := hide fin
  have BOX := hide box
  have HT0 := hide hmk.self
  have HW0 := hide hw0
  have HWM := hide hwm
  have HB0 := hide hb0
  have hszm : w0.heap.size < wm.heap.size := lt_of_heap hmx2
  clear hbox hal hal2 hw0 hwm hmx2 hbox2 hmk hs0 hb0 box fin recsAt hrec topsAt htop
  obtain ⟨z0, q0, q1, q2, q3, q4, q5, q6, q7, q8⟩ := z0
  go_enter Tryd.func24, Tryd.ntmps24
  go_upto_region 1 with fail
  rw [show w.alloc (.cells #[.int .i64 6, .int .i64 corr, .int .i64 0, .int .i64 offset, .int .i64 start, .int .i64 fin, .bool found, .slice a recs.length c, .slice ta topics.length tc] 38) = w0 from HW0.out.symm]
  go_upto_region 4 with fail
  rw [show w0.alloc (.cells #[.slice none 0 0, .int .i64 0] mT) = wm from HWM.out.symm]
  clear z0 q0 q1 q2 q3 q4 q5 q6 q7 q8
  obtain ⟨z0, q0, q1, q2, q3, q4, q5, q6, q7, q8⟩ := BOX.out _ _ _ HT0.out
  go_wp2_with fail
  refine (mnum_new _ w0.heap.size w0.heap.size s0 b0 HT0.out.1 (by omega) [6, corr, 0] (by rfl) (by rfl) (by rfl) (by simp) (by omega)).mono ?_
  rintro e wz1 ⟨rfl, s1, hto⟩
  have HT1 := hide (HT0.out.trans hto)
  clear hto
  have hl1 := (show (nums b0 [6, corr, 0]).1.length ≤ b0.1.length + 18 from nums_len b0 [6, corr, 0])
  obtain ⟨b1, hb⟩ : ∃ b, b = nums b0 [6, corr, 0] := ⟨_, rfl⟩
  rw [← hb] at HT1 hl1
  have HB1 := hide hb
  clear hb
  have hsz1 := HT1.out.2.1.size
  clear z0 q0 q1 q2 q3 q4 q5 q6 q7 q8
  obtain ⟨z0, q0, q1, q2, q3, q4, q5, q6, q7, q8⟩ := BOX.out _ _ _ HT1.out
  have hbf : b1 = rRun ([], 0) (ansCl (⟨6, corr, 0, offset, start, fin, found, recs, topics⟩ : Ans)) := by rw [HB1.out, HB0.out]; rfl
  have hm : tellM (⟨6, corr, 0, offset, start, fin, found, recs, topics⟩ : Ans) = rF b1 := by rw [hbf]; rfl
  have hne : b1.1 ≠ [] := by rw [hbf]; exact ansRun_ne _ _
  have HMM := hide hm
  clear hbf hm
  go_wp2_with fail
  refine (mframe_any _ w0.heap.size w0.heap.size s1 b1 HT1.out.1 (by omega) hne).mono ?_
  rintro e wf ⟨v, rfl, hrow, htf⟩
  have hrow' : RowAt wf 5 w.heap.size v (rF b1).1 := by
    rcases hrow with h | ⟨g, cap, cur, h1, h2, h3⟩
    · exact .inl h
    · exact .inr ⟨g, cap, cur, h1, by omega, h3⟩
  have HROW := hide hrow'
  have HTF := hide ((FIN.out _ _ _ HT1.out).same htf)
  clear hrow hrow' htf hne z0 q0 q1 q2 q3 q4 q5 q6 q7 q8
  go_wp2
  go_ret2
  exact ⟨v, by rw [HMM.out]; rfl, by rw [HMM.out]; exact HROW.out, HTF.out⟩

set_option maxHeartbeats 8000000 in
theorem mTell7_any (w : World) (corr offset start fin : Int) (found : Bool) (recs : List Bt.Rec) (topics : List Tp) (a ta : Option Addr) (c tc : Nat) (hrec : RecsAt w (.slice a recs.length c) recs) (htop : TopsAt w (.slice ta topics.length tc) topics) (hsm : ∀ r ∈ recs, RecSm r) (hlr : recs.length ≤ 10000) (htm : ∀ t ∈ topics, t.name.length ≤ 1048576) (hlt : topics.length ≤ 10000) :
    Calls Tryd.prog 24 #[.agg #[.int .i64 7, .int .i64 corr, .int .i64 0, .int .i64 offset, .int .i64 start, .int .i64 fin, .bool found, .slice a recs.length c, .slice ta topics.length tc]] w fun e w' => ∃ v, e = .returned (.tuple #[v, .int .i64 (tellM (⟨7, corr, 0, offset, start, fin, found, recs, topics⟩ : Ans)).2]) ∧ RowAt w' 5 w.heap.size v (tellM (⟨7, corr, 0, offset, start, fin, found, recs, topics⟩ : Ans)).1 ∧ Turn [] w w' := by
  obtain ⟨ta', tc', ea, hlt1, hlt2, hlt3, hpt⟩ := htop.form
  simp only [Value.slice.injEq, true_and] at ea
  obtain ⟨rfl, rfl⟩ := ea
  have HTM := hide htm
  clear htm hlt3
  obtain ⟨w0, hw0⟩ : ∃ w0, w0 = w.alloc (.cells #[.int .i64 7, .int .i64 corr, .int .i64 0, .int .i64 offset, .int .i64 start, .int .i64 fin, .bool found, .slice a recs.length c, .slice ta topics.length tc] 38) := ⟨_, rfl⟩
  have hbox : w0.heap[w.heap.size]? = some (.cells #[.int .i64 7, .int .i64 corr, .int .i64 0, .int .i64 offset, .int .i64 start, .int .i64 fin, .bool found, .slice a recs.length c, .slice ta topics.length tc] 38 (0, 0)) := by rw [hw0]; exact heap_new w _
  have hal : Turn [] w w0 := by rw [hw0]; exact (Turn.refl [] w).alloc _
  obtain ⟨wm, hwm⟩ : ∃ wm, wm = w0.alloc (.cells #[.slice none 0 0, .int .i64 0] mT) := ⟨_, rfl⟩
  have hmx2 : wm.heap[w0.heap.size]? = some (.cells #[.slice none 0 0, .int .i64 0] mT (0, 0)) := by rw [hwm]; exact heap_new w0 _
  have hal2 : Turn [] w0 wm := by rw [hwm]; exact (Turn.refl [] w0).alloc _
  have hbox2 := hal2.heap hbox (by simp)
  have hsw : w.heap.size < w0.heap.size := lt_of_heap hbox
  have hmk : MkAt mT eI wm w0.heap.size w0.heap.size (.slice none 0 0) ([], 0) := ⟨hmx2, .inl ⟨rfl, rfl⟩, by simp [Value.ownBlock]⟩
  obtain ⟨s0, hs0⟩ : ∃ s : Value, s = .slice none 0 0 := ⟨_, rfl⟩
  obtain ⟨b0, hb0⟩ : ∃ b : WS, b = ([], 0) := ⟨_, rfl⟩
  rw [← hs0, ← hb0] at hmk
  have hl0 : b0.1.length ≤ 100 := by rw [hb0]; simp
  have box : ∀ wi si bi, MkTo mT eI wm wi w0.heap.size w0.heap.size s0 si bi → w.heap.size < wi.heap.size ∧ wi.cell? ⟨w.heap.size, 0, none⟩ = some (.int .i64 7) ∧ wi.cell? ⟨w.heap.size, 1, none⟩ = some (.int .i64 corr) ∧ wi.cell? ⟨w.heap.size, 2, none⟩ = some (.int .i64 0) ∧ wi.cell? ⟨w.heap.size, 3, none⟩ = some (.int .i64 offset) ∧ wi.cell? ⟨w.heap.size, 4, none⟩ = some (.int .i64 start) ∧ wi.cell? ⟨w.heap.size, 5, none⟩ = some (.int .i64 fin) ∧ wi.cell? ⟨w.heap.size, 6, none⟩ = some (.bool found) ∧ wi.cell? ⟨w.heap.size, 7, none⟩ = some (.slice a recs.length c) ∧ wi.cell? ⟨w.heap.size, 8, none⟩ = some (.slice ta topics.length tc) :=
    fun wi si bi h2 => by
      have hb := h2.box hbox2 (by omega) (fun x hx => by rw [hs0] at hx; simp [Value.ownBlock] at hx)
      exact ⟨lt_of_heap hb, by simpa [strV] using cell_of hb 0, by simpa [strV] using cell_of hb 1, by simpa [strV] using cell_of hb 2, by simpa [strV] using cell_of hb 3, by simpa [strV] using cell_of hb 4, by simpa [strV] using cell_of hb 5, by simpa [strV] using cell_of hb 6, by simpa [strV] using cell_of hb 7, by simpa [strV] using cell_of hb 8⟩
  have z0 : w.heap.size < w0.heap.size ∧ w0.cell? ⟨w.heap.size, 0, none⟩ = some (.int .i64 7) ∧ w0.cell? ⟨w.heap.size, 1, none⟩ = some (.int .i64 corr) ∧ w0.cell? ⟨w.heap.size, 2, none⟩ = some (.int .i64 0) ∧ w0.cell? ⟨w.heap.size, 3, none⟩ = some (.int .i64 offset) ∧ w0.cell? ⟨w.heap.size, 4, none⟩ = some (.int .i64 start) ∧ w0.cell? ⟨w.heap.size, 5, none⟩ = some (.int .i64 fin) ∧ w0.cell? ⟨w.heap.size, 6, none⟩ = some (.bool found) ∧ w0.cell? ⟨w.heap.size, 7, none⟩ = some (.slice a recs.length c) ∧ w0.cell? ⟨w.heap.size, 8, none⟩ = some (.slice ta topics.length tc) := by
    have hb := hbox
    exact ⟨hsw, by simpa [strV] using cell_of hb 0, by simpa [strV] using cell_of hb 1, by simpa [strV] using cell_of hb 2, by simpa [strV] using cell_of hb 3, by simpa [strV] using cell_of hb 4, by simpa [strV] using cell_of hb 5, by simpa [strV] using cell_of hb 6, by simpa [strV] using cell_of hb 7, by simpa [strV] using cell_of hb 8⟩
  have recsAt : ∀ wi si bi, MkTo mT eI wm wi w0.heap.size w0.heap.size s0 si bi → RecsAt wi (.slice a recs.length c) recs := fun wi si bi hg =>
    ((hrec.still hal).still hal2).kept' hg.2.1 (fun h0 k hk hm => by
      have h1 := hrec.lt h0 k hk
      rcases List.mem_cons.1 hm with rfl | hm
      · omega
      · rw [hs0] at hm; simp [Value.ownBlock] at hm)
  have hrb : recs ≠ [] → ∀ k ∈ (Value.slice a recs.length c).ownBlock, k < w0.heap.size := fun h0 k hk => by have := hrec.lt h0 k hk; omega
  have RECS := hide recsAt
  have topsAt : ∀ wi si bi, MkTo mT eI wm wi w0.heap.size w0.heap.size s0 si bi → TopsAt wi (.slice ta topics.length tc) topics := fun wi si bi hg =>
    ((htop.still hal).still hal2).kept' hg.2.1 (fun h0 k hk hm => by
      have h1 := htop.lt h0 k hk
      rcases List.mem_cons.1 hm with rfl | hm
      · omega
      · rw [hs0] at hm; simp [Value.ownBlock] at hm)
  have TOPS := hide topsAt
  have fin : ∀ wi si bi, MkTo mT eI wm wi w0.heap.size w0.heap.size s0 si bi → Turn [] w wi := fun wi si bi h2 =>
    (hal.same hal2).trans h2.2.1 (fun k hk => .inr (by
      rcases List.mem_cons.1 hk with rfl | hk
      · omega
      · rw [hs0] at hk; simp [Value.ownBlock] at hk))
  have FIN := hide fin
  have BOX := hide box
  have HT0 := hide hmk.self
  have HW0 := hide hw0
  have HWM := hide hwm
  have HB0 := hide hb0
  have hszm : w0.heap.size < wm.heap.size := lt_of_heap hmx2
  clear hbox hal hal2 hw0 hwm hmx2 hbox2 hmk hs0 hb0 box fin recsAt hrec topsAt htop
  obtain ⟨z0, q0, q1, q2, q3, q4, q5, q6, q7, q8⟩ := z0
  go_enter Tryd.func24, Tryd.ntmps24
  go_upto_region 1 with fail
  rw [show w.alloc (.cells #[.int .i64 7, .int .i64 corr, .int .i64 0, .int .i64 offset, .int .i64 start, .int .i64 fin, .bool found, .slice a recs.length c, .slice ta topics.length tc] 38) = w0 from HW0.out.symm]
  go_upto_region 4 with fail
  rw [show w0.alloc (.cells #[.slice none 0 0, .int .i64 0] mT) = wm from HWM.out.symm]
  clear z0 q0 q1 q2 q3 q4 q5 q6 q7 q8
  obtain ⟨z0, q0, q1, q2, q3, q4, q5, q6, q7, q8⟩ := BOX.out _ _ _ HT0.out
  go_wp2_with fail
  refine (mnum_new _ w0.heap.size w0.heap.size s0 b0 HT0.out.1 (by omega) [7, corr, 0] (by rfl) (by rfl) (by rfl) (by simp) (by omega)).mono ?_
  rintro e wz1 ⟨rfl, s1, hto⟩
  have HT1 := hide (HT0.out.trans hto)
  clear hto
  have hl1 := (show (nums b0 [7, corr, 0]).1.length ≤ b0.1.length + 18 from nums_len b0 [7, corr, 0])
  obtain ⟨b1, hb⟩ : ∃ b, b = nums b0 [7, corr, 0] := ⟨_, rfl⟩
  rw [← hb] at HT1 hl1
  have HB1 := hide hb
  clear hb
  have hsz1 := HT1.out.2.1.size
  clear z0 q0 q1 q2 q3 q4 q5 q6 q7 q8
  obtain ⟨z0, q0, q1, q2, q3, q4, q5, q6, q7, q8⟩ := BOX.out _ _ _ HT1.out
  go_wp2_with fail
  refine (mnum_new _ w0.heap.size w0.heap.size s1 b1 HT1.out.1 (by omega) [(topics.length : Int)] (by rfl) (by rfl) (by rfl) (by simp) (by omega)).mono ?_
  rintro e wz2 ⟨rfl, s2, hto⟩
  have HT2 := hide (HT1.out.trans hto)
  clear hto
  have hl2 := (show (nums b1 [(topics.length : Int)]).1.length ≤ b1.1.length + 6 from nums_len b1 [(topics.length : Int)])
  obtain ⟨b2, hb⟩ : ∃ b, b = nums b1 [(topics.length : Int)] := ⟨_, rfl⟩
  rw [← hb] at HT2 hl2
  have HB2 := hide hb
  clear hb
  have hsz2 := HT2.out.2.1.size
  clear z0 q0 q1 q2 q3 q4 q5 q6 q7 q8
  obtain ⟨z0, q0, q1, q2, q3, q4, q5, q6, q7, q8⟩ := BOX.out _ _ _ HT2.out
  go_wp2
  go_loopw [96] (fun iv wr => ∃ (j : Nat) (sr : Value), j ≤ topics.length ∧ iv = .int .i64 (j : Int) ∧ MkTo mT eI wm wr w0.heap.size w0.heap.size s0 sr (rRun b2 ((topics.take j).flatMap tpCl))) (fun iv _ => topics.length - (intOf iv).toNat)
  case atStart => exact ⟨0, _, Nat.zero_le _, rfl, HT2.out⟩
  case round =>
    obtain ⟨j, sr, hj, rfl, hr⟩ := hrel
    have hszr := hr.2.1.size
    have hrl := rRun_len b2 ((topics.take j).flatMap tpCl)
    have hrl2 := flat_len (f := tpCl) (fun t h => tpCl_len h) (topics.take j) (fun r hr => HTM.out r (List.mem_of_mem_take hr))
    have hrl3 : (topics.take j).length ≤ j := List.length_take_le _ _
    by_cases hltj : j < topics.length
    · have hlt1' : (j : Int) < topics.length := by omega
      obtain ⟨p, rfl⟩ := hpt j hltj
      obtain ⟨g0, g1, g2⟩ := (TOPS.out _ _ _ hr).three hltj
      have hsn := rRun_snoc tpCl b2 hltj
      have hnl := HTM.out topics[j] (List.getElem_mem _)
      obtain ⟨r, hrr⟩ : ∃ r, r = topics[j] := ⟨_, rfl⟩
      rw [← hrr] at g0 g1 g2 hsn hnl
      obtain ⟨c0, ht⟩ : ∃ t, t = rRun b2 ((topics.take j).flatMap tpCl) := ⟨_, rfl⟩
      rw [← ht] at hsn hr hrl
      have hlc0 : c0.1.length ≤ 30000000000 := by omega
      have HR := hide hr
      have HSN := hide hsn
      clear hrr ht hr hsn hrl hrl2 hrl3
      obtain ⟨name, parts, compact⟩ := r
      simp only at g0 g1 g2 hnl
      obtain ⟨wa, hwa⟩ : ∃ wa, wa = wr.alloc (.cells #[.string ⟨name.toArray⟩, .int .i64 parts, .bool compact] 67) := ⟨_, rfl⟩
      have hta : Turn [] wr wa := by rw [hwa]; exact (Turn.refl [] wr).alloc _
      have hbx : wa.heap[wr.heap.size]? = some (.cells #[.string ⟨name.toArray⟩, .int .i64 parts, .bool compact] 67 (0, 0)) := by rw [hwa]; exact heap_new wr _
      have hla := HR.out.1.lt
      have box2 : ∀ wi si bi, MkTo mT eI wa wi w0.heap.size w0.heap.size sr si bi → wr.heap.size < wi.heap.size ∧ wi.cell? ⟨wr.heap.size, 0, none⟩ = some (.string ⟨name.toArray⟩) ∧ wi.cell? ⟨wr.heap.size, 1, none⟩ = some (.int .i64 parts) ∧ wi.cell? ⟨wr.heap.size, 2, none⟩ = some (.bool compact) := fun wi si bi h2 => by
        have hb := h2.box hbx (by omega) (fun x hx => by have := (hla.2 x hx).2; omega)
        exact ⟨lt_of_heap hb, by simpa using cell_of hb 0, by simpa using cell_of hb 1, by simpa using cell_of hb 2⟩
      have BOX2 := hide box2
      have HU0 := hide (HR.out.1.still hta).self
      have HTA := hide hta
      have HWA := hide hwa
      have hsa := hta.size
      clear box2 hbx hla hwa hta
      go_upto_region 24 with fail
      rw [show wr.alloc (.cells #[.string ⟨name.toArray⟩, .int .i64 parts, .bool compact] 67) = wa from HWA.out.symm]
      clear g0 g1 g2 z0 q0 q1 q2 q3 q4 q5 q6 q7 q8
      obtain ⟨y0, y1, y2, y3⟩ := BOX2.out _ _ _ HU0.out
      go_wp2_with fail
      refine (mtext_any _ w0.heap.size w0.heap.size sr c0 HU0.out.1 (by omega) name 40 (by omega) hnl (by omega)).mono ?_
      rintro e wy1 ⟨rfl, u1, hto⟩
      have HU1 := hide (HU0.out.trans hto)
      clear hto
      have hlc1 := rStep_len c0 (.tx name 40)
      obtain ⟨c1, hb⟩ : ∃ b, b = rStep c0 (.tx name 40) := ⟨_, rfl⟩
      rw [← hb] at HU1 hlc1
      have HC1 := hide hb
      clear hb
      have hsc1 := HU1.out.2.1.size
      clear y0 y1 y2 y3
      obtain ⟨y0, y1, y2, y3⟩ := BOX2.out _ _ _ HU1.out
      simp only [clLen] at hlc1
      go_wp2_with fail
      refine (mnum_new _ w0.heap.size w0.heap.size u1 c1 HU1.out.1 (by omega) [parts] (by rfl) (by rfl) (by rfl) (by simp) (by omega)).mono ?_
      rintro e wy2 ⟨rfl, u2, hto⟩
      have HU2 := hide (HU1.out.trans hto)
      clear hto
      have hlc2 := (show (nums c1 [parts]).1.length ≤ c1.1.length + 6 from nums_len c1 [parts])
      obtain ⟨c2, hb⟩ : ∃ b, b = nums c1 [parts] := ⟨_, rfl⟩
      rw [← hb] at HU2 hlc2
      have HC2 := hide hb
      clear hb
      have hsc2 := HU2.out.2.1.size
      clear y0 y1 y2 y3
      obtain ⟨y0, y1, y2, y3⟩ := BOX2.out _ _ _ HU2.out
      go_wp2_with fail
      refine (mtru_any _ w0.heap.size w0.heap.size u2 c2 HU2.out.1 (by omega) compact (by omega)).mono ?_
      rintro e wy3 ⟨rfl, u3, hto⟩
      have HU3 := hide (HU2.out.trans hto)
      clear hto
      have hlc3 := (show (nums c2 [tr compact]).1.length ≤ c2.1.length + 6 from nums_len c2 [tr compact])
      obtain ⟨c3, hb⟩ : ∃ b, b = nums c2 [tr compact] := ⟨_, rfl⟩
      rw [← hb] at HU3 hlc3
      have HC3 := hide hb
      clear hb
      have hsc3 := HU3.out.2.1.size
      clear y0 y1 y2 y3
      obtain ⟨y0, y1, y2, y3⟩ := BOX2.out _ _ _ HU3.out
      have HT := hide (HR.out.trans (MkTo.pre HTA.out HU3.out))
      clear HU3
      go_wp2
      refine ⟨⟨j + 1, _, by omega, by go_num, by rw [HSN.out, show rRun c0 (tpCl ⟨name, parts, compact⟩) = c3 by rw [HC3.out, HC2.out, HC1.out]; rfl]; exact HT.out⟩, ?_⟩
      simp only [intOf]; omega
    · obtain rfl : j = topics.length := by omega
      have hlt1' : ¬ (topics.length : Int) < topics.length := by omega
      rw [List.take_of_length_le (Nat.le_refl _)] at hr
      clear z0 q0 q1 q2 q3 q4 q5 q6 q7 q8 hrl hrl2
      obtain ⟨z0, q0, q1, q2, q3, q4, q5, q6, q7, q8⟩ := BOX.out _ _ _ hr
      have HT3 := hide hr
      obtain ⟨b3, hb⟩ : ∃ b, b = rRun b2 (topics.flatMap tpCl) := ⟨_, rfl⟩
      rw [← hb] at HT3
      have HB3 := hide hb
      clear hb hr
      obtain ⟨s3, rfl⟩ : ∃ s, s = sr := ⟨_, rfl⟩
      have hbf : b3 = rRun ([], 0) (ansCl (⟨7, corr, 0, offset, start, fin, found, recs, topics⟩ : Ans)) := by rw [HB3.out, HB2.out, HB1.out, HB0.out]; rfl
      have hm : tellM (⟨7, corr, 0, offset, start, fin, found, recs, topics⟩ : Ans) = rF b3 := by rw [hbf]; rfl
      have hne : b3.1 ≠ [] := by rw [hbf]; exact ansRun_ne _ _
      have HMM := hide hm
      clear hbf hm
      go_wp2_with fail
      refine (mframe_any _ w0.heap.size w0.heap.size s3 b3 HT3.out.1 (by omega) hne).mono ?_
      rintro e wf ⟨v, rfl, hrow, htf⟩
      have hrow' : RowAt wf 5 w.heap.size v (rF b3).1 := by
        rcases hrow with h | ⟨g, cap, cur, h1, h2, h3⟩
        · exact .inl h
        · exact .inr ⟨g, cap, cur, h1, by omega, h3⟩
      have HROW := hide hrow'
      have HTF := hide ((FIN.out _ _ _ HT3.out).same htf)
      clear hrow hrow' htf hne z0 q0 q1 q2 q3 q4 q5 q6 q7 q8
      go_wp2
      go_ret2
      exact ⟨v, by rw [HMM.out]; rfl, by rw [HMM.out]; exact HROW.out, HTF.out⟩

set_option maxHeartbeats 8000000 in
theorem mTell3t_any (w : World) (corr offset start fin : Int) (recs : List Bt.Rec) (topics : List Tp) (a ta : Option Addr) (c tc : Nat) (hrec : RecsAt w (.slice a recs.length c) recs) (htop : TopsAt w (.slice ta topics.length tc) topics) (hsm : ∀ r ∈ recs, RecSm r) (hlr : recs.length ≤ 10000) (htm : ∀ t ∈ topics, t.name.length ≤ 1048576) (hlt : topics.length ≤ 10000) :
    Calls Tryd.prog 24 #[.agg #[.int .i64 3, .int .i64 corr, .int .i64 0, .int .i64 offset, .int .i64 start, .int .i64 fin, .bool true, .slice a recs.length c, .slice ta topics.length tc]] w fun e w' => ∃ v, e = .returned (.tuple #[v, .int .i64 (tellM (⟨3, corr, 0, offset, start, fin, true, recs, topics⟩ : Ans)).2]) ∧ RowAt w' 5 w.heap.size v (tellM (⟨3, corr, 0, offset, start, fin, true, recs, topics⟩ : Ans)).1 ∧ Turn [] w w' := by

  obtain ⟨w0, hw0⟩ : ∃ w0, w0 = w.alloc (.cells #[.int .i64 3, .int .i64 corr, .int .i64 0, .int .i64 offset, .int .i64 start, .int .i64 fin, .bool true, .slice a recs.length c, .slice ta topics.length tc] 38) := ⟨_, rfl⟩
  have hbox : w0.heap[w.heap.size]? = some (.cells #[.int .i64 3, .int .i64 corr, .int .i64 0, .int .i64 offset, .int .i64 start, .int .i64 fin, .bool true, .slice a recs.length c, .slice ta topics.length tc] 38 (0, 0)) := by rw [hw0]; exact heap_new w _
  have hal : Turn [] w w0 := by rw [hw0]; exact (Turn.refl [] w).alloc _
  obtain ⟨wm, hwm⟩ : ∃ wm, wm = w0.alloc (.cells #[.slice none 0 0, .int .i64 0] mT) := ⟨_, rfl⟩
  have hmx2 : wm.heap[w0.heap.size]? = some (.cells #[.slice none 0 0, .int .i64 0] mT (0, 0)) := by rw [hwm]; exact heap_new w0 _
  have hal2 : Turn [] w0 wm := by rw [hwm]; exact (Turn.refl [] w0).alloc _
  have hbox2 := hal2.heap hbox (by simp)
  have hsw : w.heap.size < w0.heap.size := lt_of_heap hbox
  have hmk : MkAt mT eI wm w0.heap.size w0.heap.size (.slice none 0 0) ([], 0) := ⟨hmx2, .inl ⟨rfl, rfl⟩, by simp [Value.ownBlock]⟩
  obtain ⟨s0, hs0⟩ : ∃ s : Value, s = .slice none 0 0 := ⟨_, rfl⟩
  obtain ⟨b0, hb0⟩ : ∃ b : WS, b = ([], 0) := ⟨_, rfl⟩
  rw [← hs0, ← hb0] at hmk
  have hl0 : b0.1.length ≤ 100 := by rw [hb0]; simp
  have box : ∀ wi si bi, MkTo mT eI wm wi w0.heap.size w0.heap.size s0 si bi → w.heap.size < wi.heap.size ∧ wi.cell? ⟨w.heap.size, 0, none⟩ = some (.int .i64 3) ∧ wi.cell? ⟨w.heap.size, 1, none⟩ = some (.int .i64 corr) ∧ wi.cell? ⟨w.heap.size, 2, none⟩ = some (.int .i64 0) ∧ wi.cell? ⟨w.heap.size, 3, none⟩ = some (.int .i64 offset) ∧ wi.cell? ⟨w.heap.size, 4, none⟩ = some (.int .i64 start) ∧ wi.cell? ⟨w.heap.size, 5, none⟩ = some (.int .i64 fin) ∧ wi.cell? ⟨w.heap.size, 6, none⟩ = some (.bool true) ∧ wi.cell? ⟨w.heap.size, 7, none⟩ = some (.slice a recs.length c) ∧ wi.cell? ⟨w.heap.size, 8, none⟩ = some (.slice ta topics.length tc) :=
    fun wi si bi h2 => by
      have hb := h2.box hbox2 (by omega) (fun x hx => by rw [hs0] at hx; simp [Value.ownBlock] at hx)
      exact ⟨lt_of_heap hb, by simpa [strV] using cell_of hb 0, by simpa [strV] using cell_of hb 1, by simpa [strV] using cell_of hb 2, by simpa [strV] using cell_of hb 3, by simpa [strV] using cell_of hb 4, by simpa [strV] using cell_of hb 5, by simpa [strV] using cell_of hb 6, by simpa [strV] using cell_of hb 7, by simpa [strV] using cell_of hb 8⟩
  have z0 : w.heap.size < w0.heap.size ∧ w0.cell? ⟨w.heap.size, 0, none⟩ = some (.int .i64 3) ∧ w0.cell? ⟨w.heap.size, 1, none⟩ = some (.int .i64 corr) ∧ w0.cell? ⟨w.heap.size, 2, none⟩ = some (.int .i64 0) ∧ w0.cell? ⟨w.heap.size, 3, none⟩ = some (.int .i64 offset) ∧ w0.cell? ⟨w.heap.size, 4, none⟩ = some (.int .i64 start) ∧ w0.cell? ⟨w.heap.size, 5, none⟩ = some (.int .i64 fin) ∧ w0.cell? ⟨w.heap.size, 6, none⟩ = some (.bool true) ∧ w0.cell? ⟨w.heap.size, 7, none⟩ = some (.slice a recs.length c) ∧ w0.cell? ⟨w.heap.size, 8, none⟩ = some (.slice ta topics.length tc) := by
    have hb := hbox
    exact ⟨hsw, by simpa [strV] using cell_of hb 0, by simpa [strV] using cell_of hb 1, by simpa [strV] using cell_of hb 2, by simpa [strV] using cell_of hb 3, by simpa [strV] using cell_of hb 4, by simpa [strV] using cell_of hb 5, by simpa [strV] using cell_of hb 6, by simpa [strV] using cell_of hb 7, by simpa [strV] using cell_of hb 8⟩
  have recsAt : ∀ wi si bi, MkTo mT eI wm wi w0.heap.size w0.heap.size s0 si bi → RecsAt wi (.slice a recs.length c) recs := fun wi si bi hg =>
    ((hrec.still hal).still hal2).kept' hg.2.1 (fun h0 k hk hm => by
      have h1 := hrec.lt h0 k hk
      rcases List.mem_cons.1 hm with rfl | hm
      · omega
      · rw [hs0] at hm; simp [Value.ownBlock] at hm)
  have hrb : recs ≠ [] → ∀ k ∈ (Value.slice a recs.length c).ownBlock, k < w0.heap.size := fun h0 k hk => by have := hrec.lt h0 k hk; omega
  have RECS := hide recsAt
  have topsAt : ∀ wi si bi, MkTo mT eI wm wi w0.heap.size w0.heap.size s0 si bi → TopsAt wi (.slice ta topics.length tc) topics := fun wi si bi hg =>
    ((htop.still hal).still hal2).kept' hg.2.1 (fun h0 k hk hm => by
      have h1 := htop.lt h0 k hk
      rcases List.mem_cons.1 hm with rfl | hm
      · omega
      · rw [hs0] at hm; simp [Value.ownBlock] at hm)
  have TOPS := hide topsAt
  have fin : ∀ wi si bi, MkTo mT eI wm wi w0.heap.size w0.heap.size s0 si bi → Turn [] w wi := fun wi si bi h2 =>
    (hal.same hal2).trans h2.2.1 (fun k hk => .inr (by
      rcases List.mem_cons.1 hk with rfl | hk
      · omega
      · rw [hs0] at hk; simp [Value.ownBlock] at hk))
  have FIN := hide fin
  have BOX := hide box
  have HT0 := hide hmk.self
  have HW0 := hide hw0
  have HWM := hide hwm
  have HB0 := hide hb0
  have hszm : w0.heap.size < wm.heap.size := lt_of_heap hmx2
  clear hbox hal hal2 hw0 hwm hmx2 hbox2 hmk hs0 hb0 box fin recsAt hrec topsAt htop
  obtain ⟨z0, q0, q1, q2, q3, q4, q5, q6, q7, q8⟩ := z0
  go_enter Tryd.func24, Tryd.ntmps24
  go_upto_region 1 with fail
  rw [show w.alloc (.cells #[.int .i64 3, .int .i64 corr, .int .i64 0, .int .i64 offset, .int .i64 start, .int .i64 fin, .bool true, .slice a recs.length c, .slice ta topics.length tc] 38) = w0 from HW0.out.symm]
  go_upto_region 4 with fail
  rw [show w0.alloc (.cells #[.slice none 0 0, .int .i64 0] mT) = wm from HWM.out.symm]
  clear z0 q0 q1 q2 q3 q4 q5 q6 q7 q8
  obtain ⟨z0, q0, q1, q2, q3, q4, q5, q6, q7, q8⟩ := BOX.out _ _ _ HT0.out
  go_wp2_with fail
  refine (mnum_new _ w0.heap.size w0.heap.size s0 b0 HT0.out.1 (by omega) [3, corr, 0] (by rfl) (by rfl) (by rfl) (by simp) (by omega)).mono ?_
  rintro e wz1 ⟨rfl, s1, hto⟩
  have HT1 := hide (HT0.out.trans hto)
  clear hto
  have hl1 := (show (nums b0 [3, corr, 0]).1.length ≤ b0.1.length + 18 from nums_len b0 [3, corr, 0])
  obtain ⟨b1, hb⟩ : ∃ b, b = nums b0 [3, corr, 0] := ⟨_, rfl⟩
  rw [← hb] at HT1 hl1
  have HB1 := hide hb
  clear hb
  have hsz1 := HT1.out.2.1.size
  clear z0 q0 q1 q2 q3 q4 q5 q6 q7 q8
  obtain ⟨z0, q0, q1, q2, q3, q4, q5, q6, q7, q8⟩ := BOX.out _ _ _ HT1.out
  go_wp2_with fail
  refine (mtru_any _ w0.heap.size w0.heap.size s1 b1 HT1.out.1 (by omega) true (by omega)).mono ?_
  rintro e wz2 ⟨rfl, s2, hto⟩
  have HT2 := hide (HT1.out.trans hto)
  clear hto
  have hl2 := (show (nums b1 [tr true]).1.length ≤ b1.1.length + 6 from nums_len b1 [tr true])
  obtain ⟨b2, hb⟩ : ∃ b, b = nums b1 [tr true] := ⟨_, rfl⟩
  rw [← hb] at HT2 hl2
  have HB2 := hide hb
  clear hb
  have hsz2 := HT2.out.2.1.size
  clear z0 q0 q1 q2 q3 q4 q5 q6 q7 q8
  obtain ⟨z0, q0, q1, q2, q3, q4, q5, q6, q7, q8⟩ := BOX.out _ _ _ HT2.out
  go_wp2_with fail
  refine (mnum_new _ w0.heap.size w0.heap.size s2 b2 HT2.out.1 (by omega) [offset] (by rfl) (by rfl) (by rfl) (by simp) (by omega)).mono ?_
  rintro e wz3 ⟨rfl, s3, hto⟩
  have HT3 := hide (HT2.out.trans hto)
  clear hto
  have hl3 := (show (nums b2 [offset]).1.length ≤ b2.1.length + 6 from nums_len b2 [offset])
  obtain ⟨b3, hb⟩ : ∃ b, b = nums b2 [offset] := ⟨_, rfl⟩
  rw [← hb] at HT3 hl3
  have HB3 := hide hb
  clear hb
  have hsz3 := HT3.out.2.1.size
  clear z0 q0 q1 q2 q3 q4 q5 q6 q7 q8
  obtain ⟨z0, q0, q1, q2, q3, q4, q5, q6, q7, q8⟩ := BOX.out _ _ _ HT3.out
  have hbf : b3 = rRun ([], 0) (ansCl (⟨3, corr, 0, offset, start, fin, true, recs, topics⟩ : Ans)) := by rw [HB3.out, HB2.out, HB1.out, HB0.out]; rfl
  have hm : tellM (⟨3, corr, 0, offset, start, fin, true, recs, topics⟩ : Ans) = rF b3 := by rw [hbf]; rfl
  have hne : b3.1 ≠ [] := by rw [hbf]; exact ansRun_ne _ _
  have HMM := hide hm
  clear hbf hm
  go_wp2_with fail
  refine (mframe_any _ w0.heap.size w0.heap.size s3 b3 HT3.out.1 (by omega) hne).mono ?_
  rintro e wf ⟨v, rfl, hrow, htf⟩
  have hrow' : RowAt wf 5 w.heap.size v (rF b3).1 := by
    rcases hrow with h | ⟨g, cap, cur, h1, h2, h3⟩
    · exact .inl h
    · exact .inr ⟨g, cap, cur, h1, by omega, h3⟩
  have HROW := hide hrow'
  have HTF := hide ((FIN.out _ _ _ HT3.out).same htf)
  clear hrow hrow' htf hne z0 q0 q1 q2 q3 q4 q5 q6 q7 q8
  go_wp2
  go_ret2
  exact ⟨v, by rw [HMM.out]; rfl, by rw [HMM.out]; exact HROW.out, HTF.out⟩

set_option maxHeartbeats 8000000 in
theorem mTell3f_any (w : World) (corr offset start fin : Int) (recs : List Bt.Rec) (topics : List Tp) (a ta : Option Addr) (c tc : Nat) (hrec : RecsAt w (.slice a recs.length c) recs) (htop : TopsAt w (.slice ta topics.length tc) topics) (hsm : ∀ r ∈ recs, RecSm r) (hlr : recs.length ≤ 10000) (htm : ∀ t ∈ topics, t.name.length ≤ 1048576) (hlt : topics.length ≤ 10000) :
    Calls Tryd.prog 24 #[.agg #[.int .i64 3, .int .i64 corr, .int .i64 0, .int .i64 offset, .int .i64 start, .int .i64 fin, .bool false, .slice a recs.length c, .slice ta topics.length tc]] w fun e w' => ∃ v, e = .returned (.tuple #[v, .int .i64 (tellM (⟨3, corr, 0, offset, start, fin, false, recs, topics⟩ : Ans)).2]) ∧ RowAt w' 5 w.heap.size v (tellM (⟨3, corr, 0, offset, start, fin, false, recs, topics⟩ : Ans)).1 ∧ Turn [] w w' := by

  obtain ⟨w0, hw0⟩ : ∃ w0, w0 = w.alloc (.cells #[.int .i64 3, .int .i64 corr, .int .i64 0, .int .i64 offset, .int .i64 start, .int .i64 fin, .bool false, .slice a recs.length c, .slice ta topics.length tc] 38) := ⟨_, rfl⟩
  have hbox : w0.heap[w.heap.size]? = some (.cells #[.int .i64 3, .int .i64 corr, .int .i64 0, .int .i64 offset, .int .i64 start, .int .i64 fin, .bool false, .slice a recs.length c, .slice ta topics.length tc] 38 (0, 0)) := by rw [hw0]; exact heap_new w _
  have hal : Turn [] w w0 := by rw [hw0]; exact (Turn.refl [] w).alloc _
  obtain ⟨wm, hwm⟩ : ∃ wm, wm = w0.alloc (.cells #[.slice none 0 0, .int .i64 0] mT) := ⟨_, rfl⟩
  have hmx2 : wm.heap[w0.heap.size]? = some (.cells #[.slice none 0 0, .int .i64 0] mT (0, 0)) := by rw [hwm]; exact heap_new w0 _
  have hal2 : Turn [] w0 wm := by rw [hwm]; exact (Turn.refl [] w0).alloc _
  have hbox2 := hal2.heap hbox (by simp)
  have hsw : w.heap.size < w0.heap.size := lt_of_heap hbox
  have hmk : MkAt mT eI wm w0.heap.size w0.heap.size (.slice none 0 0) ([], 0) := ⟨hmx2, .inl ⟨rfl, rfl⟩, by simp [Value.ownBlock]⟩
  obtain ⟨s0, hs0⟩ : ∃ s : Value, s = .slice none 0 0 := ⟨_, rfl⟩
  obtain ⟨b0, hb0⟩ : ∃ b : WS, b = ([], 0) := ⟨_, rfl⟩
  rw [← hs0, ← hb0] at hmk
  have hl0 : b0.1.length ≤ 100 := by rw [hb0]; simp
  have box : ∀ wi si bi, MkTo mT eI wm wi w0.heap.size w0.heap.size s0 si bi → w.heap.size < wi.heap.size ∧ wi.cell? ⟨w.heap.size, 0, none⟩ = some (.int .i64 3) ∧ wi.cell? ⟨w.heap.size, 1, none⟩ = some (.int .i64 corr) ∧ wi.cell? ⟨w.heap.size, 2, none⟩ = some (.int .i64 0) ∧ wi.cell? ⟨w.heap.size, 3, none⟩ = some (.int .i64 offset) ∧ wi.cell? ⟨w.heap.size, 4, none⟩ = some (.int .i64 start) ∧ wi.cell? ⟨w.heap.size, 5, none⟩ = some (.int .i64 fin) ∧ wi.cell? ⟨w.heap.size, 6, none⟩ = some (.bool false) ∧ wi.cell? ⟨w.heap.size, 7, none⟩ = some (.slice a recs.length c) ∧ wi.cell? ⟨w.heap.size, 8, none⟩ = some (.slice ta topics.length tc) :=
    fun wi si bi h2 => by
      have hb := h2.box hbox2 (by omega) (fun x hx => by rw [hs0] at hx; simp [Value.ownBlock] at hx)
      exact ⟨lt_of_heap hb, by simpa [strV] using cell_of hb 0, by simpa [strV] using cell_of hb 1, by simpa [strV] using cell_of hb 2, by simpa [strV] using cell_of hb 3, by simpa [strV] using cell_of hb 4, by simpa [strV] using cell_of hb 5, by simpa [strV] using cell_of hb 6, by simpa [strV] using cell_of hb 7, by simpa [strV] using cell_of hb 8⟩
  have z0 : w.heap.size < w0.heap.size ∧ w0.cell? ⟨w.heap.size, 0, none⟩ = some (.int .i64 3) ∧ w0.cell? ⟨w.heap.size, 1, none⟩ = some (.int .i64 corr) ∧ w0.cell? ⟨w.heap.size, 2, none⟩ = some (.int .i64 0) ∧ w0.cell? ⟨w.heap.size, 3, none⟩ = some (.int .i64 offset) ∧ w0.cell? ⟨w.heap.size, 4, none⟩ = some (.int .i64 start) ∧ w0.cell? ⟨w.heap.size, 5, none⟩ = some (.int .i64 fin) ∧ w0.cell? ⟨w.heap.size, 6, none⟩ = some (.bool false) ∧ w0.cell? ⟨w.heap.size, 7, none⟩ = some (.slice a recs.length c) ∧ w0.cell? ⟨w.heap.size, 8, none⟩ = some (.slice ta topics.length tc) := by
    have hb := hbox
    exact ⟨hsw, by simpa [strV] using cell_of hb 0, by simpa [strV] using cell_of hb 1, by simpa [strV] using cell_of hb 2, by simpa [strV] using cell_of hb 3, by simpa [strV] using cell_of hb 4, by simpa [strV] using cell_of hb 5, by simpa [strV] using cell_of hb 6, by simpa [strV] using cell_of hb 7, by simpa [strV] using cell_of hb 8⟩
  have recsAt : ∀ wi si bi, MkTo mT eI wm wi w0.heap.size w0.heap.size s0 si bi → RecsAt wi (.slice a recs.length c) recs := fun wi si bi hg =>
    ((hrec.still hal).still hal2).kept' hg.2.1 (fun h0 k hk hm => by
      have h1 := hrec.lt h0 k hk
      rcases List.mem_cons.1 hm with rfl | hm
      · omega
      · rw [hs0] at hm; simp [Value.ownBlock] at hm)
  have hrb : recs ≠ [] → ∀ k ∈ (Value.slice a recs.length c).ownBlock, k < w0.heap.size := fun h0 k hk => by have := hrec.lt h0 k hk; omega
  have RECS := hide recsAt
  have topsAt : ∀ wi si bi, MkTo mT eI wm wi w0.heap.size w0.heap.size s0 si bi → TopsAt wi (.slice ta topics.length tc) topics := fun wi si bi hg =>
    ((htop.still hal).still hal2).kept' hg.2.1 (fun h0 k hk hm => by
      have h1 := htop.lt h0 k hk
      rcases List.mem_cons.1 hm with rfl | hm
      · omega
      · rw [hs0] at hm; simp [Value.ownBlock] at hm)
  have TOPS := hide topsAt
  have fin : ∀ wi si bi, MkTo mT eI wm wi w0.heap.size w0.heap.size s0 si bi → Turn [] w wi := fun wi si bi h2 =>
    (hal.same hal2).trans h2.2.1 (fun k hk => .inr (by
      rcases List.mem_cons.1 hk with rfl | hk
      · omega
      · rw [hs0] at hk; simp [Value.ownBlock] at hk))
  have FIN := hide fin
  have BOX := hide box
  have HT0 := hide hmk.self
  have HW0 := hide hw0
  have HWM := hide hwm
  have HB0 := hide hb0
  have hszm : w0.heap.size < wm.heap.size := lt_of_heap hmx2
  clear hbox hal hal2 hw0 hwm hmx2 hbox2 hmk hs0 hb0 box fin recsAt hrec topsAt htop
  obtain ⟨z0, q0, q1, q2, q3, q4, q5, q6, q7, q8⟩ := z0
  go_enter Tryd.func24, Tryd.ntmps24
  go_upto_region 1 with fail
  rw [show w.alloc (.cells #[.int .i64 3, .int .i64 corr, .int .i64 0, .int .i64 offset, .int .i64 start, .int .i64 fin, .bool false, .slice a recs.length c, .slice ta topics.length tc] 38) = w0 from HW0.out.symm]
  go_upto_region 4 with fail
  rw [show w0.alloc (.cells #[.slice none 0 0, .int .i64 0] mT) = wm from HWM.out.symm]
  clear z0 q0 q1 q2 q3 q4 q5 q6 q7 q8
  obtain ⟨z0, q0, q1, q2, q3, q4, q5, q6, q7, q8⟩ := BOX.out _ _ _ HT0.out
  go_wp2_with fail
  refine (mnum_new _ w0.heap.size w0.heap.size s0 b0 HT0.out.1 (by omega) [3, corr, 0] (by rfl) (by rfl) (by rfl) (by simp) (by omega)).mono ?_
  rintro e wz1 ⟨rfl, s1, hto⟩
  have HT1 := hide (HT0.out.trans hto)
  clear hto
  have hl1 := (show (nums b0 [3, corr, 0]).1.length ≤ b0.1.length + 18 from nums_len b0 [3, corr, 0])
  obtain ⟨b1, hb⟩ : ∃ b, b = nums b0 [3, corr, 0] := ⟨_, rfl⟩
  rw [← hb] at HT1 hl1
  have HB1 := hide hb
  clear hb
  have hsz1 := HT1.out.2.1.size
  clear z0 q0 q1 q2 q3 q4 q5 q6 q7 q8
  obtain ⟨z0, q0, q1, q2, q3, q4, q5, q6, q7, q8⟩ := BOX.out _ _ _ HT1.out
  go_wp2_with fail
  refine (mtru_any _ w0.heap.size w0.heap.size s1 b1 HT1.out.1 (by omega) false (by omega)).mono ?_
  rintro e wz2 ⟨rfl, s2, hto⟩
  have HT2 := hide (HT1.out.trans hto)
  clear hto
  have hl2 := (show (nums b1 [tr false]).1.length ≤ b1.1.length + 6 from nums_len b1 [tr false])
  obtain ⟨b2, hb⟩ : ∃ b, b = nums b1 [tr false] := ⟨_, rfl⟩
  rw [← hb] at HT2 hl2
  have HB2 := hide hb
  clear hb
  have hsz2 := HT2.out.2.1.size
  clear z0 q0 q1 q2 q3 q4 q5 q6 q7 q8
  obtain ⟨z0, q0, q1, q2, q3, q4, q5, q6, q7, q8⟩ := BOX.out _ _ _ HT2.out
  have hbf : b2 = rRun ([], 0) (ansCl (⟨3, corr, 0, offset, start, fin, false, recs, topics⟩ : Ans)) := by rw [HB2.out, HB1.out, HB0.out]; rfl
  have hm : tellM (⟨3, corr, 0, offset, start, fin, false, recs, topics⟩ : Ans) = rF b2 := by rw [hbf]; rfl
  have hne : b2.1 ≠ [] := by rw [hbf]; exact ansRun_ne _ _
  have HMM := hide hm
  clear hbf hm
  go_wp2_with fail
  refine (mframe_any _ w0.heap.size w0.heap.size s2 b2 HT2.out.1 (by omega) hne).mono ?_
  rintro e wf ⟨v, rfl, hrow, htf⟩
  have hrow' : RowAt wf 5 w.heap.size v (rF b2).1 := by
    rcases hrow with h | ⟨g, cap, cur, h1, h2, h3⟩
    · exact .inl h
    · exact .inr ⟨g, cap, cur, h1, by omega, h3⟩
  have HROW := hide hrow'
  have HTF := hide ((FIN.out _ _ _ HT2.out).same htf)
  clear hrow hrow' htf hne z0 q0 q1 q2 q3 q4 q5 q6 q7 q8
  go_wp2
  go_ret2
  exact ⟨v, by rw [HMM.out]; rfl, by rw [HMM.out]; exact HROW.out, HTF.out⟩
end Go.Proofs.YtcpjohpbakbggaaDoor.Wi
