/- Requests and answers that came in (of a law's card), and how many letters they have. -/
import Derived.Test.YtodadoaindfecaaDoorWih
import Derived.Test.YtodadoaindfecaaDoorRows
namespace Go.Proofs.YtodadoaindfecaaDoor.Wi
open Go.RowKit Go.Maps
set_option maxRecDepth 100000
set_option linter.unusedSimpArgs false
set_option linter.unusedVariables false
variable {H : Type} {enc : TypeId × Value → H} {base : Nat} {spare : Nat → Bool} {held : Bool}

theorem bulk_part {d : DataW H} {l : List (DataW H)} (h : d ∈ l) : Rows.uptoBulk d ≤ Rows.uptoBulkAll l := by
  induction l with
  | nil => cases h
  | cons x r ih =>
    simp only [Rows.uptoBulkAll]
    cases List.mem_cons.1 h with
    | inl e => subst e; omega
    | inr e => have := ih e; omega
theorem bulk_one (d : DataW H) : 1 ≤ Rows.uptoBulk d := by
  cases d with
  | lit l => cases l <;> simp [Rows.uptoBulk]
  | nil => simp [Rows.uptoBulk]
  | ptr d => simp [Rows.uptoBulk]
  | slice elems spare => simp [Rows.uptoBulk]
  | agg parts => simp [Rows.uptoBulk]
  | iface t d => simp [Rows.uptoBulk]
  | map entries => simp [Rows.uptoBulk]
  | held h => simp [Rows.uptoBulk]
theorem bulk_length (l : List (DataW H)) : l.length ≤ Rows.uptoBulkAll l := by
  induction l with
  | nil => simp
  | cons x r ih => have := bulk_one x; simp only [Rows.uptoBulkAll, List.length_cons]; omega
theorem bulk_agg {d : DataW H} {l : List (DataW H)} (h : d ∈ l) : Rows.uptoBulk d ≤ Rows.uptoBulk (.agg l) := by
  have := bulk_part h
  simp only [Rows.uptoBulk]; omega
theorem bulk_str (s : List UInt8) : s.length ≤ Rows.uptoBulk (DataW.lit (H := H) (.string s)) := by
  simp [Rows.uptoBulk]
theorem bulk_elem {d : DataW H} {l r : List (DataW H)} (h : d ∈ l) : Rows.uptoBulk d ≤ Rows.uptoBulk (.slice l r) := by
  have := bulk_part h
  simp only [Rows.uptoBulk]; omega
theorem bulk_len (l r : List (DataW H)) : l.length ≤ Rows.uptoBulk (.slice l r) := by
  have := bulk_length l
  simp only [Rows.uptoBulk]; omega

/-- A record that came in, with the letters that it has. -/
theorem open_recD {w : World} {n : Nat} {cs : List Value} {x : DataW H × List MemPlace} (h : DataW.trod enc Tryd.prog w base spare held n 133 cs = some x) : ∃ r, cs = recC r ∧ RecOk r ∧ r.key.length ≤ Rows.uptoBulk x.1 ∧ r.value.length ≤ Rows.uptoBulk x.1 := by
  obtain ⟨xs, m, -, hx, hlen, hl, hf⟩ := DataW.trod_struct fields98 h
  rw [cells98] at hlen
  have hfs := fields98_at
  generalize (((Tryd.prog.underlying 133).bind fun d => match d with | .struct fs => some fs | _ => none).getD #[]) = fs at *
  have hxs : xs.length = 6 := by
    rw [hl]
    have := congrArg List.length hfs
    simpa using this
  obtain ⟨c0, c1, c2, c3, c4, c5, rfl⟩ := list6 hlen
  obtain ⟨y0, y1, y2, y3, y4, y5, rfl⟩ := list6 hxs
  have one : ∀ (i t o : Nat) (y : DataW H × List MemPlace), [(3, 0, 1), (3, 1, 1), (4, 2, 1), (9, 3, 1), (4, 4, 1), (9, 5, 1)][i]? = some (t, o, 1) → [y0, y1, y2, y3, y4, y5][i]? = some y →
      DataW.trod enc Tryd.prog w base spare held m t (([c0, c1, c2, c3, c4, c5].drop o).take 1) = some y := by
    intro i t o y hi hy
    obtain ⟨f, h1, h2, h3, h4⟩ := field_at hfs hi
    have := hf i f h1
    rw [h4, h2, h3, hy] at this
    exact this
  obtain ⟨n0, e0, -, w0⟩ := DataW.trod_int Tryd.underlying3 (one 0 _ _ y0 rfl rfl)
  obtain ⟨n1, e1, -, w1⟩ := DataW.trod_int Tryd.underlying3 (one 1 _ _ y1 rfl rfl)
  obtain ⟨b2, e2, -⟩ := DataW.trod_bool Tryd.underlying4 (one 2 _ _ y2 rfl rfl)
  obtain ⟨s3, e3, d3, w3⟩ := DataW.trod_string Tryd.underlying9 (one 3 _ _ y3 rfl rfl)
  obtain ⟨b4, e4, -⟩ := DataW.trod_bool Tryd.underlying4 (one 4 _ _ y4 rfl rfl)
  obtain ⟨s5, e5, d5, w5⟩ := DataW.trod_string Tryd.underlying9 (one 5 _ _ y5 rfl rfl)
  simp only [List.drop_succ_cons, List.drop_zero, List.take_succ_cons, List.take_zero, List.cons.injEq, and_true] at e0 e1 e2 e3 e4 e5
  subst e0; subst e1; subst e2; subst e3; subst e4; subst e5
  have hm : maxLen = 9223372036854775807 := by simp [maxLen]
  rw [hm] at w3 w5
  have hb3 : s3.data.toList.length ≤ Rows.uptoBulk x.1 := by
    rw [hx]
    refine Nat.le_trans (bulk_str (H := H) s3.data.toList) (bulk_agg ?_)
    simp [d3]
  have hb5 : s5.data.toList.length ≤ Rows.uptoBulk x.1 := by
    rw [hx]
    refine Nat.le_trans (bulk_str (H := H) s5.data.toList) (bulk_agg ?_)
    simp [d5]
  exact ⟨⟨n0, n1, b2, s3.data.toList, b4, s5.data.toList⟩, rfl, ⟨(wf_i64 w0).1, (wf_i64 w0).2, (wf_i64 w1).1, (wf_i64 w1).2, by simpa using w3, by simpa using w5⟩, hb3, hb5⟩
theorem open_recsD {w : World} {n : Nat} {v : Value} {x : DataW H × List MemPlace} (h : DataW.trod enc Tryd.prog w base spare held n 46 [v] = some x) : ∃ rs, RecsAt w v rs ∧ rs.length ≤ Rows.uptoBulk x.1 ∧ ∀ r ∈ rs, r.key.length ≤ Rows.uptoBulk x.1 ∧ r.value.length ≤ Rows.uptoBulk x.1 := by
  rcases Deep.open_slice Tryd.underlying46 h with ⟨hcs, -⟩ | ⟨a, len, cap, m, k, D, Pl, hcs, -, h1, h2, h3, hx, h4⟩
  · simp only [List.cons.injEq, and_true] at hcs
    subst hcs
    exact ⟨[], ⟨none, 0, rfl, Nat.le_refl _, Nat.zero_le _, fun _ => rfl, fun j hj => absurd hj (Nat.not_lt_zero _)⟩, Nat.zero_le _, by simp⟩
  · simp only [List.cons.injEq, and_true] at hcs
    subst hcs
    have hlm : len ≤ m := by rw [h3]; split <;> omega
    rw [cells98] at h4
    have hr : ∀ i, i < len → ∃ r, RecOk r ∧ (∀ j u, (recC r)[j]? = some u → w.cell? ((a.add (i * 6)).add j) = some u) ∧ r.key.length ≤ Rows.uptoBulk (D i) ∧ r.value.length ≤ Rows.uptoBulk (D i) := by
      intro i hi
      obtain ⟨cs', g1, g2⟩ := h4 i (by omega)
      obtain ⟨r, rfl, hok, b1, b2⟩ := open_recD g2
      obtain ⟨-, -, g3⟩ := World.cells?_some g1
      refine ⟨r, hok, fun j u hu => ?_, b1, b2⟩
      have hj : j < 6 := by have := (List.getElem?_eq_some_iff.1 hu).1; simpa [recC] using this
      rw [g3 j hj]; exact hu
    let rs : List Bt.Rec := (List.range len).attach.map fun i => (hr i.1 (List.mem_range.1 i.2)).choose
    have hl : rs.length = len := by simp [rs]
    have he : ∀ j (hj : j < rs.length), rs[j] = (hr j (by omega)).choose := fun j hj => by simp [rs]
    refine ⟨rs, ⟨some a, cap, by rw [hl], by rw [hl]; exact h1, h2, by simp, fun j hj => ?_⟩, ?_, fun r hrm => ?_⟩
    · have hj' : j < len := by omega
      rw [he j hj]
      exact ⟨(hr j hj').choose_spec.1, a, rfl, (hr j hj').choose_spec.2.1⟩
    · rw [hx, hl]
      have := bulk_len ((List.range len).map D) ((List.range (m - len)).map fun j => D (len + j))
      simpa using this
    · obtain ⟨j, hj, rfl⟩ := List.mem_iff_getElem.1 hrm
      have hj' : j < len := by omega
      have hs := (hr j hj').choose_spec.2.2
      rw [← he j hj] at hs
      have hd : Rows.uptoBulk (D j) ≤ Rows.uptoBulk x.1 := by
        rw [hx]
        exact bulk_elem (List.mem_map.2 ⟨j, List.mem_range.2 hj', rfl⟩)
      omega

theorem fieldsTp : Tryd.prog.underlying 102 = some (.struct (((Tryd.prog.underlying 102).bind fun d => match d with | .struct fs => some fs | _ => none).getD #[])) := by kernel_rfl
theorem fieldsTp_at : ((((Tryd.prog.underlying 102).bind fun d => match d with | .struct fs => some fs | _ => none).getD #[]).toList.map fun f => (f.type, f.offset, Tryd.prog.cellsOf f.type)) = [(9, 0, 1), (3, 1, 1), (4, 2, 1)] := by kernel_rfl
theorem cellsTp : Tryd.prog.cellsOf 102 = 3 := by kernel_rfl
theorem open_tpD {w : World} {n : Nat} {cs : List Value} {x : DataW H × List MemPlace} (h : DataW.trod enc Tryd.prog w base spare held n 102 cs = some x) : ∃ t, cs = tpC t ∧ TpOk t ∧ t.name.length ≤ Rows.uptoBulk x.1 := by
  obtain ⟨xs, m, -, hx, hlen, hl, hf⟩ := DataW.trod_struct fieldsTp h
  rw [cellsTp] at hlen
  have hfs := fieldsTp_at
  generalize (((Tryd.prog.underlying 102).bind fun d => match d with | .struct fs => some fs | _ => none).getD #[]) = fs at *
  have hxs : xs.length = 3 := by
    rw [hl]
    have := congrArg List.length hfs
    simpa using this
  obtain ⟨c0, c1, c2, rfl⟩ : ∃ c0 c1 c2, cs = [c0, c1, c2] := by
    match cs, hlen with
    | [c0, c1, c2], _ => exact ⟨c0, c1, c2, rfl⟩
  obtain ⟨y0, y1, y2, rfl⟩ : ∃ y0 y1 y2, xs = [y0, y1, y2] := by
    match xs, hxs with
    | [y0, y1, y2], _ => exact ⟨y0, y1, y2, rfl⟩
  have one : ∀ (i t o : Nat) (y : DataW H × List MemPlace), [(9, 0, 1), (3, 1, 1), (4, 2, 1)][i]? = some (t, o, 1) → [y0, y1, y2][i]? = some y →
      DataW.trod enc Tryd.prog w base spare held m t (([c0, c1, c2].drop o).take 1) = some y := by
    intro i t o y hi hy
    obtain ⟨f, h1, h2, h3, h4⟩ := field_at hfs hi
    have := hf i f h1
    rw [h4, h2, h3, hy] at this
    exact this
  obtain ⟨s0, e0, d0, w0⟩ := DataW.trod_string Tryd.underlying9 (one 0 _ _ y0 rfl rfl)
  obtain ⟨n1, e1, -, w1⟩ := DataW.trod_int Tryd.underlying3 (one 1 _ _ y1 rfl rfl)
  obtain ⟨b2, e2, -⟩ := DataW.trod_bool Tryd.underlying4 (one 2 _ _ y2 rfl rfl)
  simp only [List.drop_succ_cons, List.drop_zero, List.take_succ_cons, List.take_zero, List.cons.injEq, and_true] at e0 e1 e2
  subst e0; subst e1; subst e2
  have hm : maxLen = 9223372036854775807 := by simp [maxLen]
  rw [hm] at w0
  refine ⟨⟨s0.data.toList, n1, b2⟩, rfl, ⟨⟨(wf_i64 w1).1, (wf_i64 w1).2⟩, by simpa using w0⟩, ?_⟩
  rw [hx]
  refine Nat.le_trans (bulk_str (H := H) s0.data.toList) (bulk_agg ?_)
  simp [d0]
theorem open_topsD {w : World} {n : Nat} {v : Value} {x : DataW H × List MemPlace} (h : DataW.trod enc Tryd.prog w base spare held n 55 [v] = some x) : ∃ ts, TopsAt w v ts ∧ ts.length ≤ Rows.uptoBulk x.1 ∧ ∀ t ∈ ts, t.name.length ≤ Rows.uptoBulk x.1 := by
  rcases Deep.open_slice Tryd.underlying55 h with ⟨hcs, -⟩ | ⟨a, len, cap, m, k, D, Pl, hcs, -, h1, h2, h3, hx, h4⟩
  · simp only [List.cons.injEq, and_true] at hcs
    subst hcs
    exact ⟨[], ⟨none, 0, rfl, Nat.le_refl _, Nat.zero_le _, fun _ => rfl, fun j hj => absurd hj (Nat.not_lt_zero _)⟩, Nat.zero_le _, by simp⟩
  · simp only [List.cons.injEq, and_true] at hcs
    subst hcs
    have hlm : len ≤ m := by rw [h3]; split <;> omega
    rw [cellsTp] at h4
    have hr : ∀ i, i < len → ∃ t, TpOk t ∧ (∀ j u, (tpC t)[j]? = some u → w.cell? ((a.add (i * 3)).add j) = some u) ∧ t.name.length ≤ Rows.uptoBulk (D i) := by
      intro i hi
      obtain ⟨cs', g1, g2⟩ := h4 i (by omega)
      obtain ⟨r, rfl, hok, b1⟩ := open_tpD g2
      obtain ⟨-, -, g3⟩ := World.cells?_some g1
      refine ⟨r, hok, fun j u hu => ?_, b1⟩
      have hj : j < 3 := by have := (List.getElem?_eq_some_iff.1 hu).1; simpa [tpC] using this
      rw [g3 j hj]; exact hu
    let rs : List Tp := (List.range len).attach.map fun i => (hr i.1 (List.mem_range.1 i.2)).choose
    have hl : rs.length = len := by simp [rs]
    have he : ∀ j (hj : j < rs.length), rs[j] = (hr j (by omega)).choose := fun j hj => by simp [rs]
    refine ⟨rs, ⟨some a, cap, by rw [hl], by rw [hl]; exact h1, h2, by simp, fun j hj => ?_⟩, ?_, fun r hrm => ?_⟩
    · have hj' : j < len := by omega
      rw [he j hj]
      exact ⟨(hr j hj').choose_spec.1, a, rfl, (hr j hj').choose_spec.2.1⟩
    · rw [hx, hl]
      have := bulk_len ((List.range len).map D) ((List.range (m - len)).map fun j => D (len + j))
      simpa using this
    · obtain ⟨j, hj, rfl⟩ := List.mem_iff_getElem.1 hrm
      have hj' : j < len := by omega
      have hs := (hr j hj').choose_spec.2.2
      rw [← he j hj] at hs
      have hd : Rows.uptoBulk (D j) ≤ Rows.uptoBulk x.1 := by
        rw [hx]
        exact bulk_elem (List.mem_map.2 ⟨j, List.mem_range.2 hj', rfl⟩)
      omega

theorem fieldsRq : Tryd.prog.underlying 48 = some (.struct (((Tryd.prog.underlying 48).bind fun d => match d with | .struct fs => some fs | _ => none).getD #[])) := by kernel_rfl
theorem fieldsRq_at : ((((Tryd.prog.underlying 48).bind fun d => match d with | .struct fs => some fs | _ => none).getD #[]).toList.map fun f => (f.type, f.offset, Tryd.prog.cellsOf f.type)) = [(3, 0, 1), (3, 1, 1), (9, 2, 1), (3, 3, 1), (3, 4, 1), (3, 5, 1), (3, 6, 1), (3, 7, 1), (3, 8, 1), (3, 9, 1), (4, 10, 1), (4, 11, 1), (46, 12, 1)] := by kernel_rfl
theorem cellsRq : Tryd.prog.cellsOf 48 = 13 := by kernel_rfl
theorem partsRq : ∃ fs : Array Field, Tryd.prog.underlying 48 = some (.struct fs) ∧ (fs.toList.map fun f => (f.type, f.offset, Tryd.prog.cellsOf f.type)) = [(3, 0, 1), (3, 1, 1), (9, 2, 1), (3, 3, 1), (3, 4, 1), (3, 5, 1), (3, 6, 1), (3, 7, 1), (3, 8, 1), (3, 9, 1), (4, 10, 1), (4, 11, 1), (46, 12, 1)] := ⟨_, fieldsRq, fieldsRq_at⟩
/-- A request that came in. -/
theorem open_req {w : World} {r : Reach} {b0 : Nat} {v : Value} {d : DataW H} {ps : List MemPlace} (hv : Value.okWide Tryd.prog w r b0 48 v) (h : DataW.Trod enc Tryd.prog w base spare held 48 v d ps) :
    ∃ x rv, v = .agg (reqC x rv) ∧ RecsAt w rv x.recs ∧ ReqOk x ∧ x.topic.length ≤ Rows.uptoBulk d ∧ x.recs.length ≤ Rows.uptoBulk d ∧ ∀ r ∈ x.recs, r.key.length ≤ Rows.uptoBulk d ∧ r.value.length ≤ Rows.uptoBulk d := by
  obtain ⟨fs, hfd, hfs⟩ := partsRq
  obtain ⟨cs, hcs0, hsz⟩ := @WideShapes.okWide_struct Tryd.prog w r b0 48 v fs hfd hv
  subst hcs0
  obtain ⟨n, h⟩ := h
  obtain ⟨xs, m, -, hx, hlen, hl, hf⟩ := DataW.trod_struct hfd h
  rw [cellsRq] at hlen
  have hxs : xs.length = 13 := by
    rw [hl]
    have := congrArg List.length hfs
    simpa using this
  simp only [Value.cells] at hlen hf
  obtain ⟨c0, c1, c2, c3, c4, c5, c6, c7, c8, c9, c10, c11, c12, hcs⟩ : ∃ c0 c1 c2 c3 c4 c5 c6 c7 c8 c9 c10 c11 c12, cs.toList = [c0, c1, c2, c3, c4, c5, c6, c7, c8, c9, c10, c11, c12] := by
    match hc : cs.toList, hlen with
    | [c0, c1, c2, c3, c4, c5, c6, c7, c8, c9, c10, c11, c12], _ => exact ⟨c0, c1, c2, c3, c4, c5, c6, c7, c8, c9, c10, c11, c12, rfl⟩
  obtain ⟨y0, y1, y2, y3, y4, y5, y6, y7, y8, y9, y10, y11, y12, rfl⟩ : ∃ y0 y1 y2 y3 y4 y5 y6 y7 y8 y9 y10 y11 y12, xs = [y0, y1, y2, y3, y4, y5, y6, y7, y8, y9, y10, y11, y12] := by
    match xs, hxs with
    | [y0, y1, y2, y3, y4, y5, y6, y7, y8, y9, y10, y11, y12], _ => exact ⟨y0, y1, y2, y3, y4, y5, y6, y7, y8, y9, y10, y11, y12, rfl⟩
  rw [hcs] at hf
  have one : ∀ (i t o : Nat) (y : DataW H × List MemPlace), [(3, 0, 1), (3, 1, 1), (9, 2, 1), (3, 3, 1), (3, 4, 1), (3, 5, 1), (3, 6, 1), (3, 7, 1), (3, 8, 1), (3, 9, 1), (4, 10, 1), (4, 11, 1), (46, 12, 1)][i]? = some (t, o, 1) → [y0, y1, y2, y3, y4, y5, y6, y7, y8, y9, y10, y11, y12][i]? = some y →
      DataW.trod enc Tryd.prog w base spare held m t (([c0, c1, c2, c3, c4, c5, c6, c7, c8, c9, c10, c11, c12].drop o).take 1) = some y := by
    intro i t o y hi hy
    obtain ⟨f, h1, h2, h3, h4⟩ := field_at hfs hi
    have := hf i f h1
    rw [h4, h2, h3, hy] at this
    exact this
  obtain ⟨n0, e0, -, w0⟩ := DataW.trod_int Tryd.underlying3 (one 0 _ _ y0 rfl rfl)
  obtain ⟨n1, e1, -, w1⟩ := DataW.trod_int Tryd.underlying3 (one 1 _ _ y1 rfl rfl)
  obtain ⟨n2, e2, d2, w2⟩ := DataW.trod_string Tryd.underlying9 (one 2 _ _ y2 rfl rfl)
  obtain ⟨n3, e3, -, w3⟩ := DataW.trod_int Tryd.underlying3 (one 3 _ _ y3 rfl rfl)
  obtain ⟨n4, e4, -, w4⟩ := DataW.trod_int Tryd.underlying3 (one 4 _ _ y4 rfl rfl)
  obtain ⟨n5, e5, -, w5⟩ := DataW.trod_int Tryd.underlying3 (one 5 _ _ y5 rfl rfl)
  obtain ⟨n6, e6, -, w6⟩ := DataW.trod_int Tryd.underlying3 (one 6 _ _ y6 rfl rfl)
  obtain ⟨n7, e7, -, w7⟩ := DataW.trod_int Tryd.underlying3 (one 7 _ _ y7 rfl rfl)
  obtain ⟨n8, e8, -, w8⟩ := DataW.trod_int Tryd.underlying3 (one 8 _ _ y8 rfl rfl)
  obtain ⟨n9, e9, -, w9⟩ := DataW.trod_int Tryd.underlying3 (one 9 _ _ y9 rfl rfl)
  obtain ⟨n10, e10, -⟩ := DataW.trod_bool Tryd.underlying4 (one 10 _ _ y10 rfl rfl)
  obtain ⟨n11, e11, -⟩ := DataW.trod_bool Tryd.underlying4 (one 11 _ _ y11 rfl rfl)
  have h12 := one 12 _ _ y12 rfl rfl
  simp only [List.drop_succ_cons, List.drop_zero, List.take_succ_cons, List.take_zero, List.cons.injEq, and_true] at e0 e1 e2 e3 e4 e5 e6 e7 e8 e9 e10 e11 h12
  subst e0
  subst e1
  subst e2
  subst e3
  subst e4
  subst e5
  subst e6
  subst e7
  subst e8
  subst e9
  subst e10
  subst e11
  have hm : maxLen = 9223372036854775807 := by simp [maxLen]
  obtain ⟨l12, hl12, hn12, hb12⟩ := open_recsD h12
  have hd12 : Rows.uptoBulk y12.1 ≤ Rows.uptoBulk d := by
    have hx1 := congrArg Prod.fst hx
    simp only at hx1
    rw [hx1]
    exact bulk_agg (by simp)
  rw [hm] at w2
  have hd2 : n2.data.toList.length ≤ Rows.uptoBulk d := by
    have hx1 := congrArg Prod.fst hx
    simp only at hx1
    rw [hx1]
    refine Nat.le_trans (bulk_str (H := H) n2.data.toList) (bulk_agg ?_)
    simp [d2]
  refine ⟨⟨n0, n1, n2.data.toList, n3, n4, n5, n6, n7, n8, n9, n10, n11, l12⟩, c12, ?_, hl12, ⟨⟨(wf_i64 w0).1, (wf_i64 w0).2⟩, ⟨(wf_i64 w1).1, (wf_i64 w1).2⟩, ⟨(wf_i64 w3).1, (wf_i64 w3).2⟩, ⟨(wf_i64 w4).1, (wf_i64 w4).2⟩, ⟨(wf_i64 w5).1, (wf_i64 w5).2⟩, ⟨(wf_i64 w6).1, (wf_i64 w6).2⟩, ⟨(wf_i64 w7).1, (wf_i64 w7).2⟩, ⟨(wf_i64 w8).1, (wf_i64 w8).2⟩, ⟨(wf_i64 w9).1, (wf_i64 w9).2⟩, by simpa using w2⟩, hd2, Nat.le_trans hn12 hd12, fun r hr => ⟨Nat.le_trans (hb12 r hr).1 hd12, Nat.le_trans (hb12 r hr).2 hd12⟩⟩
  rw [show cs = cs.toList.toArray by simp, hcs]
  rfl

theorem fieldsAn : Tryd.prog.underlying 57 = some (.struct (((Tryd.prog.underlying 57).bind fun d => match d with | .struct fs => some fs | _ => none).getD #[])) := by kernel_rfl
theorem fieldsAn_at : ((((Tryd.prog.underlying 57).bind fun d => match d with | .struct fs => some fs | _ => none).getD #[]).toList.map fun f => (f.type, f.offset, Tryd.prog.cellsOf f.type)) = [(3, 0, 1), (3, 1, 1), (34, 2, 1), (3, 3, 1), (3, 4, 1), (3, 5, 1), (4, 6, 1), (46, 7, 1), (55, 8, 1)] := by kernel_rfl
theorem cellsAn : Tryd.prog.cellsOf 57 = 9 := by kernel_rfl
theorem partsAn : ∃ fs : Array Field, Tryd.prog.underlying 57 = some (.struct fs) ∧ (fs.toList.map fun f => (f.type, f.offset, Tryd.prog.cellsOf f.type)) = [(3, 0, 1), (3, 1, 1), (34, 2, 1), (3, 3, 1), (3, 4, 1), (3, 5, 1), (4, 6, 1), (46, 7, 1), (55, 8, 1)] := ⟨_, fieldsAn, fieldsAn_at⟩
/-- An answer that came in. -/
theorem open_ans {w : World} {r : Reach} {b0 : Nat} {v : Value} {d : DataW H} {ps : List MemPlace} (hv : Value.okWide Tryd.prog w r b0 57 v) (h : DataW.Trod enc Tryd.prog w base spare held 57 v d ps) :
    ∃ x rv tv, v = .agg (ansC x rv tv) ∧ RecsAt w rv x.recs ∧ TopsAt w tv x.topics ∧ AnsOk x ∧ x.recs.length ≤ Rows.uptoBulk d ∧ x.topics.length ≤ Rows.uptoBulk d ∧ (∀ r ∈ x.recs, r.key.length ≤ Rows.uptoBulk d ∧ r.value.length ≤ Rows.uptoBulk d) ∧ ∀ t ∈ x.topics, t.name.length ≤ Rows.uptoBulk d := by
  obtain ⟨fs, hfd, hfs⟩ := partsAn
  obtain ⟨cs, hcs0, hsz⟩ := @WideShapes.okWide_struct Tryd.prog w r b0 57 v fs hfd hv
  subst hcs0
  obtain ⟨n, h⟩ := h
  obtain ⟨xs, m, -, hx, hlen, hl, hf⟩ := DataW.trod_struct hfd h
  rw [cellsAn] at hlen
  have hxs : xs.length = 9 := by
    rw [hl]
    have := congrArg List.length hfs
    simpa using this
  simp only [Value.cells] at hlen hf
  obtain ⟨c0, c1, c2, c3, c4, c5, c6, c7, c8, hcs⟩ : ∃ c0 c1 c2 c3 c4 c5 c6 c7 c8, cs.toList = [c0, c1, c2, c3, c4, c5, c6, c7, c8] := by
    match hc : cs.toList, hlen with
    | [c0, c1, c2, c3, c4, c5, c6, c7, c8], _ => exact ⟨c0, c1, c2, c3, c4, c5, c6, c7, c8, rfl⟩
  obtain ⟨y0, y1, y2, y3, y4, y5, y6, y7, y8, rfl⟩ : ∃ y0 y1 y2 y3 y4 y5 y6 y7 y8, xs = [y0, y1, y2, y3, y4, y5, y6, y7, y8] := by
    match xs, hxs with
    | [y0, y1, y2, y3, y4, y5, y6, y7, y8], _ => exact ⟨y0, y1, y2, y3, y4, y5, y6, y7, y8, rfl⟩
  rw [hcs] at hf
  have one : ∀ (i t o : Nat) (y : DataW H × List MemPlace), [(3, 0, 1), (3, 1, 1), (34, 2, 1), (3, 3, 1), (3, 4, 1), (3, 5, 1), (4, 6, 1), (46, 7, 1), (55, 8, 1)][i]? = some (t, o, 1) → [y0, y1, y2, y3, y4, y5, y6, y7, y8][i]? = some y →
      DataW.trod enc Tryd.prog w base spare held m t (([c0, c1, c2, c3, c4, c5, c6, c7, c8].drop o).take 1) = some y := by
    intro i t o y hi hy
    obtain ⟨f, h1, h2, h3, h4⟩ := field_at hfs hi
    have := hf i f h1
    rw [h4, h2, h3, hy] at this
    exact this
  obtain ⟨n0, e0, -, w0⟩ := DataW.trod_int Tryd.underlying3 (one 0 _ _ y0 rfl rfl)
  obtain ⟨n1, e1, -, w1⟩ := DataW.trod_int Tryd.underlying3 (one 1 _ _ y1 rfl rfl)
  obtain ⟨n2, e2, -, w2⟩ := DataW.trod_int Tryd.underlying34 (one 2 _ _ y2 rfl rfl)
  obtain ⟨n3, e3, -, w3⟩ := DataW.trod_int Tryd.underlying3 (one 3 _ _ y3 rfl rfl)
  obtain ⟨n4, e4, -, w4⟩ := DataW.trod_int Tryd.underlying3 (one 4 _ _ y4 rfl rfl)
  obtain ⟨n5, e5, -, w5⟩ := DataW.trod_int Tryd.underlying3 (one 5 _ _ y5 rfl rfl)
  obtain ⟨n6, e6, -⟩ := DataW.trod_bool Tryd.underlying4 (one 6 _ _ y6 rfl rfl)
  have h7 := one 7 _ _ y7 rfl rfl
  have h8 := one 8 _ _ y8 rfl rfl
  simp only [List.drop_succ_cons, List.drop_zero, List.take_succ_cons, List.take_zero, List.cons.injEq, and_true] at e0 e1 e2 e3 e4 e5 e6 h7 h8
  subst e0
  subst e1
  subst e2
  subst e3
  subst e4
  subst e5
  subst e6
  have hm : maxLen = 9223372036854775807 := by simp [maxLen]
  obtain ⟨l7, hl7, hn7, hb7⟩ := open_recsD h7
  have hd7 : Rows.uptoBulk y7.1 ≤ Rows.uptoBulk d := by
    have hx1 := congrArg Prod.fst hx
    simp only at hx1
    rw [hx1]
    exact bulk_agg (by simp)
  obtain ⟨l8, hl8, hn8, hb8⟩ := open_topsD h8
  have hd8 : Rows.uptoBulk y8.1 ≤ Rows.uptoBulk d := by
    have hx1 := congrArg Prod.fst hx
    simp only at hx1
    rw [hx1]
    exact bulk_agg (by simp)
  refine ⟨⟨n0, n1, n2, n3, n4, n5, n6, l7, l8⟩, c7, c8, ?_, hl7, hl8, ⟨⟨(wf_i64 w0).1, (wf_i64 w0).2⟩, ⟨(wf_i64 w1).1, (wf_i64 w1).2⟩, ⟨(wf_i64 w2).1, (wf_i64 w2).2⟩, ⟨(wf_i64 w3).1, (wf_i64 w3).2⟩, ⟨(wf_i64 w4).1, (wf_i64 w4).2⟩, ⟨(wf_i64 w5).1, (wf_i64 w5).2⟩⟩, Nat.le_trans hn7 hd7, Nat.le_trans hn8 hd8, fun r hr => ⟨Nat.le_trans (hb7 r hr).1 hd7, Nat.le_trans (hb7 r hr).2 hd7⟩, fun t ht => Nat.le_trans (hb8 t ht) hd8⟩
  rw [show cs = cs.toList.toArray by simp, hcs]
  rfl
end Go.Proofs.YtodadoaindfecaaDoor.Wi
