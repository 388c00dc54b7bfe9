/- wire.Ask, wire.Tell. -/
import Derived.Test.YtodadoaindfecaaDoorWik
import Derived.Test.YtodadoaindfecaaDoorWid
namespace Go.Proofs.YtodadoaindfecaaDoor.Wi
open Go.RowKit Go.Maps
set_option maxRecDepth 100000
set_option linter.unusedSimpArgs false
set_option linter.unusedVariables false

/-- What the program's writer comes to. -/
def encP (l : List Cl) : List UInt8 × Int := pF (pRun ([0, 0, 0, 0], 0) l)
def askP (x : Req) : List UInt8 × Int := if x.kind < 1 ∨ 7 < x.kind then ([], 1) else encP (reqCl x)
def tellP (x : Ans) : List UInt8 × Int := if x.kind < 1 ∨ 7 < x.kind ∨ x.err < 0 ∨ 15 < x.err then ([], 1) else encP (ansCl x)
def szC : Cl → Prop
  | .ns l => l.length ≤ 9
  | .tx _ m => m ≤ 1000
theorem reqCl_sz (x : Req) : ∀ c ∈ reqCl x, szC c := by
  intro c hc
  unfold reqCl reqTail at hc
  rcases List.mem_cons.1 hc with rfl | hc
  · simp [szC]
  · rcases List.mem_append.1 hc with hc | hc
    · split at hc
      · simp at hc
      · simp at hc; subst hc; simp [szC]
    · split at hc
      · rcases List.mem_cons.1 hc with rfl | hc
        · simp [szC]
        · obtain ⟨r, -, hc⟩ := List.mem_flatMap.1 hc
          have := recCl_sz r c hc
          cases c <;> simpa [szC] using this
      · split at hc
        · simp at hc; subst hc; simp [szC]
        · split at hc
          · simp at hc; subst hc; simp [szC]
          · split at hc
            · simp at hc; subst hc; simp [szC]
            · split at hc
              · simp at hc; subst hc; simp [szC]
              · simp at hc
theorem ansCl_sz (x : Ans) : ∀ c ∈ ansCl x, szC c := by
  intro c hc
  unfold ansCl at hc
  rcases List.mem_cons.1 hc with rfl | hc
  · simp [szC]
  · split at hc
    · unfold ansTail at hc
      split at hc
      · simp at hc; subst hc; simp [szC]
      · split at hc
        · rcases List.mem_cons.1 hc with rfl | hc
          · simp [szC]
          · obtain ⟨r, -, hc⟩ := List.mem_flatMap.1 hc
            have := plCl_sz r c hc
            cases c <;> simpa [szC] using this
        · split at hc
          · rcases List.mem_cons.1 hc with rfl | hc
            · simp [szC]
            · split at hc
              · simp at hc; subst hc; simp [szC]
              · simp at hc
          · split at hc
            · simp at hc; subst hc; simp [szC]
            · split at hc
              · rcases List.mem_cons.1 hc with rfl | hc
                · simp [szC]
                · obtain ⟨r, -, hc⟩ := List.mem_flatMap.1 hc
                  have := tpCl_sz r c hc
                  cases c <;> simpa [szC] using this
              · simp at hc
    · simp at hc
/-! ### where the program's writer finds nothing wrong -/
theorem pStep_ok {s : WS} {c : Cl} (h : (pStep s c).2 = 0) : s.2 = 0 ∧ okC c := by
  cases c with
  | ns l =>
    obtain ⟨h1, h2, -⟩ := nums_ok (show (nums (cut s) l).2 = 0 from h)
    exact ⟨h1, h2⟩
  | tx t most =>
    rw [pStep_tx] at h
    by_cases e : most < t.length
    · rw [if_pos e] at h
      obtain ⟨h1, -, -⟩ := nums_ok h
      simp [cut] at h1
    · rw [if_neg e] at h
      obtain ⟨h1, -, -⟩ := nums_ok h
      exact ⟨h1, by show t.length ≤ most; omega⟩
theorem pRun_ok : ∀ {l : List Cl} {s : WS}, (pRun s l).2 = 0 → ∀ c ∈ l, okC c
  | [], s, h, c, hc => by simp at hc
  | c :: l, s, h, x, hx => by
    rw [pRun_cons] at h
    have h1 : ∀ {l : List Cl} {s : WS}, (pRun s l).2 = 0 → s.2 = 0 := by
      intro l
      induction l with
      | nil => intro s h; exact h
      | cons c l ih => intro s h; rw [pRun_cons] at h; exact (pStep_ok (ih h)).1
    rcases List.mem_cons.1 hx with rfl | hx
    · exact (pStep_ok (h1 h)).2
    · exact pRun_ok h x hx
theorem pF_zero {s : WS} (h : (pF s).2 = 0) : s.2 = 0 := by
  unfold pF at h
  split at h
  · rename_i e; exact absurd h e
  · rename_i e; simpa using e
theorem small_of {l : List Cl} (h : ∀ c ∈ l, okC c) (hs : ∀ c ∈ l, szC c) : ∀ c ∈ l, c.small := by
  intro c hc
  have h1 := h c hc
  have h2 := hs c hc
  cases c with
  | ns l => trivial
  | tx t m => simp only [okC] at h1; simp only [szC] at h2; simp only [Cl.small]; omega
theorem encP_ok {l : List Cl} (hs : ∀ c ∈ l, szC c) (h : (encP l).2 = 0) : encP l = encF l :=
  encF_p (small_of (pRun_ok (pF_zero h)) hs)
theorem askP_ok {x : Req} (h : (askP x).2 = 0) : askP x = askM x := by
  unfold askP at h ⊢
  unfold askM
  split
  · rfl
  · rename_i e
    rw [if_neg e] at h
    exact encP_ok (reqCl_sz x) h
theorem tellP_ok {x : Ans} (h : (tellP x).2 = 0) : tellP x = tellM x := by
  unfold tellP at h ⊢
  unfold tellM
  split
  · rfl
  · rename_i e
    rw [if_neg e] at h
    exact encP_ok (ansCl_sz x) h
theorem askP_small {x : Req} (h : ∀ c ∈ reqCl x, c.small) : askP x = askM x := by
  unfold askP askM
  split
  · rfl
  · exact encF_p h
theorem tellP_small {x : Ans} (h : ∀ c ∈ ansCl x, c.small) : tellP x = tellM x := by
  unfold tellP tellM
  split
  · rfl
  · exact encF_p h

/-! ### the calls -/
theorem wreq_any (w : World) (wb base : Nat) (s0 : Value) (b0 : WS) (h : MkAt wT As.errN w wb base s0 b0) (hbase : base ≤ w.heap.size) (hwb : base ≤ wb) (x : Req) (rv : Value) (hrec : RecsAt w rv x.recs) (hrb : x.recs ≠ [] → ∀ k ∈ rv.ownBlock, k < base) (htl : x.topic.length ≤ 9223372036854775807) (hk : 1 ≤ x.kind ∧ x.kind ≤ 7) (hl0 : b0.1.length ≤ 12000) :
    Calls Tryd.prog 47 #[.pointer (some ⟨wb, 0, none⟩), .agg (reqC x rv)] w fun e w' => e = .returned (.tuple #[]) ∧ ∃ sv', MkTo wT As.errN w w' wb base s0 sv' (pRun b0 (reqCl x)) := by
  obtain ⟨kind, corr, topic, part, offset, most, least, wait, time, parts, sure, compact, recs⟩ := x
  obtain ⟨a, c, rfl, -⟩ := hrec.form
  simp only at hk htl hrec hrb ⊢
  have : kind = 1 ∨ kind = 2 ∨ kind = 3 ∨ kind = 4 ∨ kind = 5 ∨ kind = 6 ∨ kind = 7 := by omega
  rcases this with rfl | rfl | rfl | rfl | rfl | rfl | rfl
  · exact wreq1_any w wb base s0 b0 h hbase hwb corr topic part offset most least wait time parts sure compact recs a c hrec hrb htl hl0
  · exact wreq2_any w wb base s0 b0 h hbase hwb corr topic part offset most least wait time parts sure compact recs a c hrec hrb htl hl0
  · exact wreq3_any w wb base s0 b0 h hbase hwb corr topic part offset most least wait time parts sure compact recs a c hrec hrb htl hl0
  · exact wreq4_any w wb base s0 b0 h hbase hwb corr topic part offset most least wait time parts sure compact recs a c hrec hrb htl hl0
  · exact wreq5_any w wb base s0 b0 h hbase hwb corr topic part offset most least wait time parts sure compact recs a c hrec hrb htl hl0
  · exact wreq6_any w wb base s0 b0 h hbase hwb corr topic part offset most least wait time parts sure compact recs a c hrec hrb htl hl0
  · exact wreq7_any w wb base s0 b0 h hbase hwb corr topic part offset most least wait time parts sure compact recs a c hrec hrb htl hl0
theorem wans_any (w : World) (wb base : Nat) (s0 : Value) (b0 : WS) (h : MkAt wT As.errN w wb base s0 b0) (hbase : base ≤ w.heap.size) (hwb : base ≤ wb) (x : Ans) (rv tv : Value) (hrec : RecsAt w rv x.recs) (htop : TopsAt w tv x.topics) (hrb : x.recs ≠ [] → ∀ k ∈ rv.ownBlock, k < base) (htb : x.topics ≠ [] → ∀ k ∈ tv.ownBlock, k < base) (hk : 1 ≤ x.kind ∧ x.kind ≤ 7) (hl0 : b0.1.length ≤ 12000) :
    Calls Tryd.prog 49 #[.pointer (some ⟨wb, 0, none⟩), .agg (ansC x rv tv)] w fun e w' => e = .returned (.tuple #[]) ∧ ∃ sv', MkTo wT As.errN w w' wb base s0 sv' (pRun b0 (ansCl x)) := by
  obtain ⟨kind, corr, err, offset, start, fin, found, recs, topics⟩ := x
  obtain ⟨a, c, rfl, -⟩ := hrec.form
  obtain ⟨ta, tc, rfl, -⟩ := htop.form
  simp only at hk hrec htop hrb htb ⊢
  by_cases he : err = 0
  · subst he
    have : kind = 1 ∨ kind = 2 ∨ kind = 3 ∨ kind = 4 ∨ kind = 5 ∨ kind = 6 ∨ kind = 7 := by omega
    rcases this with rfl | rfl | rfl | rfl | rfl | rfl | rfl
    · exact wans1_any w wb base s0 b0 h hbase hwb corr offset start fin found recs topics a ta c tc hrec htop hrb htb hl0
    · exact wans2_any w wb base s0 b0 h hbase hwb corr offset start fin found recs topics a ta c tc hrec htop hrb htb hl0
    · cases found
      · exact wans3f_any w wb base s0 b0 h hbase hwb corr offset start fin recs topics a ta c tc hrec htop hrb htb hl0
      · exact wans3t_any w wb base s0 b0 h hbase hwb corr offset start fin recs topics a ta c tc hrec htop hrb htb hl0
    · exact wans4_any w wb base s0 b0 h hbase hwb corr offset start fin found recs topics a ta c tc hrec htop hrb htb hl0
    · exact wans5_any w wb base s0 b0 h hbase hwb corr offset start fin found recs topics a ta c tc hrec htop hrb htb hl0
    · exact wans6_any w wb base s0 b0 h hbase hwb corr offset start fin found recs topics a ta c tc hrec htop hrb htb hl0
    · exact wans7_any w wb base s0 b0 h hbase hwb corr offset start fin found recs topics a ta c tc hrec htop hrb htb hl0
  · have e : ansCl ⟨kind, corr, err, offset, start, fin, found, recs, topics⟩ = [.ns [kind, corr, err]] := by simp [ansCl, he]
    rw [e]
    exact wansE_any w wb base s0 b0 h hbase hwb kind corr err offset start fin found recs topics a ta c tc hrec htop hrb htb he hl0
theorem isKind_any (w : World) (k : Int) : Calls Tryd.prog 45 #[.int .i64 k] w fun e w' => e = .returned (.bool (decide (1 ≤ k ∧ k ≤ 7))) ∧ w' = w := by
  by_cases h0 : 1 ≤ k
  · by_cases h1 : k ≤ 7
    · rw [show decide (1 ≤ k ∧ k ≤ 7) = true from by simpa using ⟨h0, h1⟩]
      go_enter Tryd.func45, Tryd.ntmps45
      go_wp2
      go_ret
      exact ⟨rfl, rfl⟩
    · rw [show decide (1 ≤ k ∧ k ≤ 7) = false from by simp; omega]
      go_enter Tryd.func45, Tryd.ntmps45
      go_wp2
      go_ret
      exact ⟨rfl, rfl⟩
  · rw [show decide (1 ≤ k ∧ k ≤ 7) = false from by simp; omega]
    go_enter Tryd.func45, Tryd.ntmps45
    go_wp2
    go_ret
    exact ⟨rfl, rfl⟩
theorem mk4 (w : World) : (Instr.makeSlice 49 (.int .i64 4) (.int .i64 4)).run Tryd.prog w = .ok (.slice (some ⟨w.heap.size, 0, none⟩) 4 4) (w.alloc (.cells #[.int .u8 0, .int .u8 0, .int .u8 0, .int .u8 0] 5)) := by kernel_rfl
theorem begin_any (w : World) : Calls Tryd.prog 46 #[] w fun e w' => ∃ wb sv, e = .returned (.pointer (some ⟨wb, 0, none⟩)) ∧ MkAt wT As.errN w' wb w.heap.size sv ([0, 0, 0, 0], 0) ∧ Turn [] w w' ∧ w.heap.size ≤ wb := by
  have hmk := mk4 w
  go_enter Tryd.func46, Tryd.ntmps46
  go_wp2
  go_ret
  refine ⟨w.heap.size + 1, .slice (some ⟨w.heap.size, 0, none⟩) 4 4, rfl, ⟨?_, ?_, ?_⟩, ((Turn.refl [] w).alloc _).alloc _, by omega⟩
  · have := heap_new (w.alloc (.cells #[.int .u8 0, .int .u8 0, .int .u8 0, .int .u8 0] 5)) (.cells #[.slice (some ⟨w.heap.size, 0, none⟩) 4 4, .nilIface] wT)
    rw [errN_zero]
    simpa using this
  · refine (new_row (w.alloc (.cells #[.int .u8 0, .int .u8 0, .int .u8 0, .int .u8 0] 5)) [0, 0, 0, 0] w.heap.size _ (heap_new w _) rfl w.heap.size (Nat.le_refl _) (by simp [maxLen])).kept ((Turn.refl [] _).alloc _) (by simp)
  · intro k hk
    simp [Value.ownBlock] at hk
    omega
end Go.Proofs.YtodadoaindfecaaDoor.Wi
