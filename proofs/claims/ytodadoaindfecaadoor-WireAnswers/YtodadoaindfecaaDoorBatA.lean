/- Batches and records in memory: rows of records; how such an argument is opened; how a record is loaded. -/
import Derived.Test.YtodadoaindfecaaDoorSl
import Derived.Test.YtodadoaindfecaaDoorBat
import Derived.ProofKit
import Derived.Deep.Slices
import Derived.DataReads
namespace Go.Proofs.YtodadoaindfecaaDoor
open Go.RowKit Go.Maps
set_option linter.unusedSimpArgs false
set_option linter.unusedVariables false
set_option maxRecDepth 100000

/-- A text's value. -/
def strV (s : List UInt8) : Value := .string ⟨s.toArray⟩
/-- A record's cells. -/
def recC (r : Bt.Rec) : List Value := [.int .i64 r.off, .int .i64 r.time, .bool r.keyed, strV r.key, .bool r.gone, strV r.value]
abbrev recV (r : Bt.Rec) : Value := .agg #[.int .i64 r.off, .int .i64 r.time, .bool r.keyed, strV r.key, .bool r.gone, strV r.value]
structure RecOk (r : Bt.Rec) : Prop where
  off1 : -9223372036854775808 ≤ r.off
  off2 : r.off ≤ 9223372036854775807
  time1 : -9223372036854775808 ≤ r.time
  time2 : r.time ≤ 9223372036854775807
  key : r.key.length ≤ 9223372036854775807
  value : r.value.length ≤ 9223372036854775807
/-- A slice of records. -/
def RecsAt (w : World) (v : Value) (rs : List Bt.Rec) : Prop :=
  ∃ a c, v = .slice a rs.length c ∧ rs.length ≤ c ∧ c ≤ maxLen ∧ (a = none → c = 0) ∧ (∀ j (h : j < rs.length), RecOk rs[j] ∧ ∃ p, a = some p ∧ ∀ i u, (recC rs[j])[i]? = some u → w.cell? ((p.add (j * 6)).add i) = some u)
theorem RecsAt.kept {w w' : World} {v : Value} {rs : List Bt.Rec} {S : List Nat} (h : RecsAt w v rs) (ht : Turn S w w') (hn : ∀ k ∈ v.ownBlock, k < w.heap.size → k ∉ S) : RecsAt w' v rs := by
  obtain ⟨a, c, rfl, h1, h2, h3, h4⟩ := h
  refine ⟨a, c, rfl, h1, h2, h3, fun j hj => ?_⟩
  obtain ⟨h5, p, rfl, hc⟩ := h4 j hj
  refine ⟨h5, p, rfl, fun i u hu => ?_⟩
  have hlt := World.block_lt_of_cell? w _ (hc i u hu)
  rw [World.cell?_of_block (w := w) (ht.block _ hlt (by rw [add_block, add_block] at hlt ⊢; exact hn _ (by simp [Value.ownBlock]) hlt)), hc i u hu]
theorem RecsAt.kept' {w w' : World} {v : Value} {rs : List Bt.Rec} {S : List Nat} (h : RecsAt w v rs) (ht : Turn S w w') (hn : rs ≠ [] → ∀ k ∈ v.ownBlock, k ∉ S) : RecsAt w' v rs := by
  by_cases h0 : rs = []
  · subst h0
    obtain ⟨a, c, e, h1, h2, h3, h4⟩ := h
    exact ⟨a, c, e, h1, h2, h3, fun j hj => absurd hj (Nat.not_lt_zero _)⟩
  · exact h.kept ht (fun k hk _ => hn h0 k hk)
theorem RecsAt.lt {w : World} {v : Value} {rs : List Bt.Rec} (h : RecsAt w v rs) (h0 : rs ≠ []) : ∀ k ∈ v.ownBlock, k < w.heap.size := by
  obtain ⟨a, c, rfl, h1, h2, h3, h4⟩ := h
  have hl : 0 < rs.length := List.length_pos_iff.2 h0
  obtain ⟨-, p, rfl, hc⟩ := h4 0 hl
  intro k hk
  simp [Value.ownBlock] at hk
  subst hk
  have := World.block_lt_of_cell? w _ (hc 0 _ rfl)
  rwa [add_block, add_block] at this
theorem RecsAt.still {w w' : World} {v : Value} {rs : List Bt.Rec} (h : RecsAt w v rs) (ht : Turn [] w w') : RecsAt w' v rs := h.kept ht (by simp)
theorem RecsAt.form {w : World} {v : Value} {rs : List Bt.Rec} (h : RecsAt w v rs) : ∃ a c, v = .slice a rs.length c ∧ rs.length ≤ c ∧ c ≤ maxLen ∧ (a = none → c = 0) ∧ ∀ j (hj : j < rs.length), ∃ p, a = some p := by
  obtain ⟨a, c, rfl, h1, h2, h3, h4⟩ := h
  exact ⟨a, c, rfl, h1, h2, h3, fun j hj => ⟨_, (h4 j hj).2.choose_spec.1⟩⟩
theorem RecsAt.ok {w : World} {v : Value} {rs : List Bt.Rec} (h : RecsAt w v rs) {j : Nat} (hj : j < rs.length) : RecOk rs[j] := by
  obtain ⟨a, c, rfl, h1, h2, h3, h4⟩ := h
  exact (h4 j hj).1

theorem size98 (w : World) : (sizeOf 133).run Tryd.prog w = .ok 6 w := by kernel_rfl
theorem agg98 (w : World) : (isAgg 133).run Tryd.prog w = .ok true w := by kernel_rfl
theorem load_rec {w : World} {a : Addr} {r : Bt.Rec} (h : ∀ i u, (recC r)[i]? = some u → w.cell? (a.add i) = some u) : (loadVar 133 a).run Tryd.prog w = .ok (recV r) w := by
  have c0 := h 0 _ rfl
  have c1 := h 1 _ rfl
  have c2 := h 2 _ rfl
  have c3 := h 3 _ rfl
  have c4 := h 4 _ rfl
  have c5 := h 5 _ rfl
  simp [loadVar, agg98, size98, Result.andThen, loadCells, loadCellsFrom, c0, c1, c2, c3, c4, c5]
theorem RecsAt.load {w : World} {p : Addr} {c : Nat} {rs : List Bt.Rec} (h : RecsAt w (.slice (some p) rs.length c) rs) {j : Nat} (hj : j < rs.length) : (loadVar 133 (p.add (j * 6))).run Tryd.prog w = .ok (recV rs[j]) w := by
  obtain ⟨a, c', e, h1, h2, h3, h4⟩ := h
  simp only [Value.slice.injEq] at e
  obtain ⟨rfl, -, rfl⟩ := e
  obtain ⟨-, q, hq, hc⟩ := h4 j hj
  cases hq
  exact load_rec hc

theorem RecsAt.six {w : World} {p : Addr} {c : Nat} {rs : List Bt.Rec} (h : RecsAt w (.slice (some p) rs.length c) rs) {j : Nat} (hj : j < rs.length) :
    w.cell? (p.add (j * 6)) = some (.int .i64 rs[j].off) ∧ w.cell? ⟨(p.add (j * 6)).block, (p.add (j * 6)).off + 1, none⟩ = some (.int .i64 rs[j].time) ∧ w.cell? ⟨(p.add (j * 6)).block, (p.add (j * 6)).off + 2, none⟩ = some (.bool rs[j].keyed) ∧
    w.cell? ⟨(p.add (j * 6)).block, (p.add (j * 6)).off + 3, none⟩ = some (.string ⟨rs[j].key.toArray⟩) ∧ w.cell? ⟨(p.add (j * 6)).block, (p.add (j * 6)).off + 4, none⟩ = some (.bool rs[j].gone) ∧ w.cell? ⟨(p.add (j * 6)).block, (p.add (j * 6)).off + 5, none⟩ = some (.string ⟨rs[j].value.toArray⟩) := by
  obtain ⟨a, c', e, h1, h2, h3, h4⟩ := h
  simp only [Value.slice.injEq] at e
  obtain ⟨rfl, -, rfl⟩ := e
  obtain ⟨-, q, hq, hc⟩ := h4 j hj
  cases hq
  refine ⟨?_, hc 1 _ rfl, hc 2 _ rfl, hc 3 _ rfl, hc 4 _ rfl, hc 5 _ rfl⟩
  have := hc 0 _ rfl
  rwa [add_zero] at this

/-- A batch's value. -/
def BatAt (w : World) (v : Value) (x : Bt.Bat) : Prop :=
  ∃ sv, v = .agg #[.int .i64 x.base, .int .i64 x.fin, sv] ∧ RecsAt w sv x.recs ∧ -9223372036854775808 ≤ x.base ∧ x.base ≤ 9223372036854775807 ∧ -9223372036854775808 ≤ x.fin ∧ x.fin ≤ 9223372036854775807

/-! ### how such an argument is opened -/
theorem wf_i64 {n : Int} (h : (Lit.int .i64 n).wf = true) : -9223372036854775808 ≤ n ∧ n ≤ 9223372036854775807 := by
  simp only [Lit.wf, IntKind.min, IntKind.max, IntKind.signed, IntKind.bits, Bool.and_eq_true, decide_eq_true_eq] at h
  have h1 := h.1
  have h2 := h.2
  simp at h1 h2
  exact ⟨h1, by omega⟩
theorem fields98 : Tryd.prog.underlying 133 = some (.struct (((Tryd.prog.underlying 133).bind fun d => match d with | .struct fs => some fs | _ => none).getD #[])) := by kernel_rfl
theorem fields98_at : ((((Tryd.prog.underlying 133).bind fun d => match d with | .struct fs => some fs | _ => none).getD #[]).toList.map fun f => (f.type, f.offset, Tryd.prog.cellsOf f.type)) = [(3, 0, 1), (3, 1, 1), (4, 2, 1), (9, 3, 1), (4, 4, 1), (9, 5, 1)] := by kernel_rfl
theorem cells98 : Tryd.prog.cellsOf 133 = 6 := by kernel_rfl
variable {H : Type} {enc : TypeId × Value → H} {base : Nat} {spare : Nat → Bool} {held : Bool}
theorem field_at {fs : Array Field} {l : List (Nat × Nat × Nat)} (h : (fs.toList.map fun f => (f.type, f.offset, Tryd.prog.cellsOf f.type)) = l) {i t o k : Nat} (hi : l[i]? = some (t, o, k)) : ∃ f : Field, fs[i]? = some f ∧ f.type = t ∧ f.offset = o ∧ Tryd.prog.cellsOf f.type = k := by
  rw [← h, List.getElem?_map] at hi
  cases hf : fs.toList[i]? with
  | none => rw [hf] at hi; cases hi
  | some f =>
    rw [hf] at hi
    simp only [Option.map_some, Option.some.injEq, Prod.mk.injEq] at hi
    exact ⟨f, by simpa using hf, hi.1, hi.2.1, hi.2.2⟩
theorem list6 {α : Type} {cs : List α} (h : cs.length = 6) : ∃ c0 c1 c2 c3 c4 c5, cs = [c0, c1, c2, c3, c4, c5] := by
  match cs, h with
  | [c0, c1, c2, c3, c4, c5], _ => exact ⟨c0, c1, c2, c3, c4, c5, rfl⟩
theorem open_rec {w : World} {n : Nat} {cs : List Value} {x : DataW H × List MemPlace} (h : DataW.trod enc Tryd.prog w base spare held n 133 cs = some x) : ∃ r, cs = recC r ∧ RecOk r := by
  obtain ⟨xs, m, -, -, hlen, hl, hf⟩ := DataW.trod_struct fields98 h
  rw [cells98] at hlen
  have hfs := fields98_at
  generalize (((Tryd.prog.underlying 133).bind fun d => match d with | .struct fs => some fs | _ => none).getD #[]) = fs at *
  have hxs : xs.length = 6 := by
    rw [hl]
    have := congrArg List.length hfs
    simpa using this
  obtain ⟨c0, c1, c2, c3, c4, c5, rfl⟩ := list6 hlen
  obtain ⟨y0, y1, y2, y3, y4, y5, rfl⟩ := list6 hxs
  have one : ∀ (i t o : Nat) (y : DataW H × List MemPlace), [(3, 0, 1), (3, 1, 1), (4, 2, 1), (9, 3, 1), (4, 4, 1), (9, 5, 1)][i]? = some (t, o, 1) → [y0, y1, y2, y3, y4, y5][i]? = some y →
      DataW.trod enc Tryd.prog w base spare held m t (([c0, c1, c2, c3, c4, c5].drop o).take 1) = some y := by
    intro i t o y hi hy
    obtain ⟨f, h1, h2, h3, h4⟩ := field_at hfs hi
    have := hf i f h1
    rw [h4, h2, h3, hy] at this
    exact this
  obtain ⟨n0, e0, -, w0⟩ := DataW.trod_int Tryd.underlying3 (one 0 _ _ y0 rfl rfl)
  obtain ⟨n1, e1, -, w1⟩ := DataW.trod_int Tryd.underlying3 (one 1 _ _ y1 rfl rfl)
  obtain ⟨b2, e2, -⟩ := DataW.trod_bool Tryd.underlying4 (one 2 _ _ y2 rfl rfl)
  obtain ⟨s3, e3, -, w3⟩ := DataW.trod_string Tryd.underlying9 (one 3 _ _ y3 rfl rfl)
  obtain ⟨b4, e4, -⟩ := DataW.trod_bool Tryd.underlying4 (one 4 _ _ y4 rfl rfl)
  obtain ⟨s5, e5, -, w5⟩ := DataW.trod_string Tryd.underlying9 (one 5 _ _ y5 rfl rfl)
  simp only [List.drop_succ_cons, List.drop_zero, List.take_succ_cons, List.take_zero, List.cons.injEq, and_true] at e0 e1 e2 e3 e4 e5
  subst e0; subst e1; subst e2; subst e3; subst e4; subst e5
  have hm : maxLen = 9223372036854775807 := by simp [maxLen]
  rw [hm] at w3 w5
  refine ⟨⟨n0, n1, b2, s3.data.toList, b4, s5.data.toList⟩, rfl, (wf_i64 w0).1, (wf_i64 w0).2, (wf_i64 w1).1, (wf_i64 w1).2, by simpa using w3, by simpa using w5⟩
/-- A slice of records that came in. -/
theorem open_recs {w : World} {n : Nat} {v : Value} {x : DataW H × List MemPlace} (h : DataW.trod enc Tryd.prog w base spare held n 46 [v] = some x) : ∃ rs, RecsAt w v rs := by
  rcases Deep.open_slice Tryd.underlying46 h with ⟨hcs, -⟩ | ⟨a, len, cap, m, k, D, Pl, hcs, -, h1, h2, h3, -, h4⟩
  · simp only [List.cons.injEq, and_true] at hcs
    subst hcs
    exact ⟨[], none, 0, rfl, Nat.le_refl _, Nat.zero_le _, fun _ => rfl, fun j hj => absurd hj (Nat.not_lt_zero _)⟩
  · simp only [List.cons.injEq, and_true] at hcs
    subst hcs
    have hlm : len ≤ m := by rw [h3]; split <;> omega
    rw [cells98] at h4
    have hr : ∀ i, i < len → ∃ r, RecOk r ∧ ∀ j u, (recC r)[j]? = some u → w.cell? ((a.add (i * 6)).add j) = some u := by
      intro i hi
      obtain ⟨cs', g1, g2⟩ := h4 i (by omega)
      obtain ⟨r, rfl, hok⟩ := open_rec g2
      obtain ⟨-, -, g3⟩ := World.cells?_some g1
      refine ⟨r, hok, fun j u hu => ?_⟩
      have hj : j < 6 := by have := (List.getElem?_eq_some_iff.1 hu).1; simpa [recC] using this
      rw [g3 j hj]; exact hu
    let rs : List Bt.Rec := (List.range len).attach.map fun i => (hr i.1 (List.mem_range.1 i.2)).choose
    have hl : rs.length = len := by simp [rs]
    refine ⟨rs, some a, cap, by rw [hl], by rw [hl]; exact h1, h2, by simp, fun j hj => ?_⟩
    have hj' : j < len := by omega
    have e : rs[j] = (hr j hj').choose := by simp [rs]
    rw [e]
    exact ⟨(hr j hj').choose_spec.1, a, rfl, (hr j hj').choose_spec.2⟩

end Go.Proofs.YtodadoaindfecaaDoor
