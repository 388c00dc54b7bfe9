/- What is done with a wheel, as it came in; the law's own rows of timers. -/
import Derived.Test.YtcficgpknokpbaaDoorWhr
import Derived.Test.YtcficgpknokpbaaDoorRow3
import Derived.Test.YtcficgpknokpbaaDoorWhn
import Derived.ProofKit
import Derived.Deep.Slices
import Derived.DataReads
namespace Go.Proofs.YtcficgpknokpbaaDoor.Wh
open Go.RowKit Go.Maps Go.Shelf
set_option maxRecDepth 100000
set_option linter.unusedSimpArgs false
set_option linter.unusedVariables false

structure TnV where
  what : Int
  a : Int
  id : Int
def tnC (x : TnV) : List Value := [.int .i64 x.what, .int .i64 x.a, .int .i64 x.id]
structure TnOk (x : TnV) : Prop where
  what1 : -9223372036854775808 ≤ x.what
  what2 : x.what ≤ 9223372036854775807
  a1 : -9223372036854775808 ≤ x.a
  a2 : x.a ≤ 9223372036854775807
  id1 : -9223372036854775808 ≤ x.id
  id2 : x.id ≤ 9223372036854775807
/-- A slice of such. -/
def TnsAt (w : World) (v : Value) (ds : List TnV) : Prop :=
  ∃ a c, v = .slice a ds.length c ∧ ds.length ≤ c ∧ c ≤ maxLen ∧ (∀ j (h : j < ds.length), TnOk ds[j] ∧ ∃ p, a = some p ∧ ∀ i u, (tnC ds[j])[i]? = some u → w.cell? ((p.add (j * 3)).add i) = some u)
theorem TnsAt.kept {w w' : World} {v : Value} {ds : List TnV} {S : List Nat} (h : TnsAt w v ds) (ht : Turn S w w') (hS : ∀ q ∈ S, w.heap.size ≤ q) : TnsAt w' v ds := by
  obtain ⟨a, c, rfl, h1, h2, h4⟩ := h
  refine ⟨a, c, rfl, h1, h2, fun j hj => ?_⟩
  obtain ⟨h5, p, rfl, hc⟩ := h4 j hj
  refine ⟨h5, p, rfl, fun i u hu => ?_⟩
  have hlt := World.block_lt_of_cell? w _ (hc i u hu)
  rw [World.cell?_of_block (w := w) (ht.block _ hlt (fun hm => by have := hS _ hm; omega)), hc i u hu]
theorem addr_off (g o j : Nat) : (⟨g, o, none⟩ : Addr).add j = ⟨g, o + j, none⟩ := by
  unfold Addr.add
  split
  · simp_all
  · rfl
theorem addr_zero (a : Addr) : a.add 0 = a := by unfold Addr.add; rw [if_pos rfl]
theorem TnsAt.three {w : World} {a : Option Addr} {l c : Nat} {ds : List TnV} (h : TnsAt w (.slice a l c) ds) {j : Nat} (hj : j < ds.length) :
    ∃ p, a = some p ∧ TnOk ds[j] ∧ w.cell? (p.add (j * 3)) = some (.int .i64 ds[j].what) ∧ w.cell? ⟨(p.add (j * 3)).block, (p.add (j * 3)).off + 1, none⟩ = some (.int .i64 ds[j].a) ∧ w.cell? ⟨(p.add (j * 3)).block, (p.add (j * 3)).off + 2, none⟩ = some (.int .i64 ds[j].id) := by
  obtain ⟨a', c', e, h1, h2, h4⟩ := h
  simp only [Value.slice.injEq] at e
  obtain ⟨rfl, rfl, rfl⟩ := e
  obtain ⟨h5, p, rfl, hc⟩ := h4 j hj
  refine ⟨p, rfl, h5, ?_, hc 1 _ rfl, hc 2 _ rfl⟩
  have := hc 0 _ rfl
  rwa [addr_zero] at this

theorem fieldsTn : Tryd.prog.underlying 31 = some (.struct (((Tryd.prog.underlying 31).bind fun d => match d with | .struct fs => some fs | _ => none).getD #[])) := by kernel_rfl
theorem fieldsTn_at : ((((Tryd.prog.underlying 31).bind fun d => match d with | .struct fs => some fs | _ => none).getD #[]).toList.map fun f => (f.type, f.offset, Tryd.prog.cellsOf f.type)) = [(3, 0, 1), (3, 1, 1), (3, 2, 1)] := by kernel_rfl
theorem cellsTn : Tryd.prog.cellsOf 31 = 3 := by kernel_rfl
variable {H : Type} {enc : TypeId × Value → H} {base : Nat} {spare : Nat → Bool} {held : Bool}
theorem fld_at {fs : Array Field} {l : List (Nat × Nat × Nat)} (h : (fs.toList.map fun f => (f.type, f.offset, Tryd.prog.cellsOf f.type)) = l) {i t o k : Nat} (hi : l[i]? = some (t, o, k)) : ∃ f : Field, fs[i]? = some f ∧ f.type = t ∧ f.offset = o ∧ Tryd.prog.cellsOf f.type = k := by
  rw [← h, List.getElem?_map] at hi
  cases hf : fs.toList[i]? with
  | none => rw [hf] at hi; cases hi
  | some f =>
    rw [hf] at hi
    simp only [Option.map_some, Option.some.injEq, Prod.mk.injEq] at hi
    exact ⟨f, by simpa using hf, hi.1, hi.2.1, hi.2.2⟩
theorem list3 {α : Type} {cs : List α} (h : cs.length = 3) : ∃ c0 c1 c2, cs = [c0, c1, c2] := by
  match cs, h with
  | [c0, c1, c2], _ => exact ⟨c0, c1, c2, rfl⟩
theorem open_tn {w : World} {n : Nat} {cs : List Value} {x : DataW H × List MemPlace} (h : DataW.trod enc Tryd.prog w base spare held n 31 cs = some x) : ∃ r, cs = tnC r ∧ TnOk r := by
  obtain ⟨xs, m, -, -, hlen, hl, hf⟩ := DataW.trod_struct fieldsTn h
  rw [cellsTn] at hlen
  have hfs := fieldsTn_at
  generalize (((Tryd.prog.underlying 31).bind fun d => match d with | .struct fs => some fs | _ => none).getD #[]) = fs at *
  have hxs : xs.length = 3 := by
    rw [hl]
    have := congrArg List.length hfs
    simpa using this
  obtain ⟨c0, c1, c2, rfl⟩ := list3 hlen
  obtain ⟨y0, y1, y2, rfl⟩ := list3 hxs
  have one : ∀ (i t o : Nat) (y : DataW H × List MemPlace), [(3, 0, 1), (3, 1, 1), (3, 2, 1)][i]? = some (t, o, 1) → [y0, y1, y2][i]? = some y →
      DataW.trod enc Tryd.prog w base spare held m t (([c0, c1, c2].drop o).take 1) = some y := by
    intro i t o y hi hy
    obtain ⟨f, h1, h2, h3, h4⟩ := fld_at hfs hi
    have := hf i f h1
    rw [h4, h2, h3, hy] at this
    exact this
  obtain ⟨n0, e0, -, w0⟩ := DataW.trod_int Tryd.underlying3 (one 0 _ _ y0 rfl rfl)
  obtain ⟨n1, e1, -, w1⟩ := DataW.trod_int Tryd.underlying3 (one 1 _ _ y1 rfl rfl)
  obtain ⟨n2, e2, -, w2⟩ := DataW.trod_int Tryd.underlying3 (one 2 _ _ y2 rfl rfl)
  simp only [List.drop_succ_cons, List.drop_zero, List.take_succ_cons, List.take_zero, List.cons.injEq, and_true] at e0 e1 e2
  subst e0; subst e1; subst e2
  exact ⟨⟨n0, n1, n2⟩, rfl, ⟨(wf_bounds w0).1, (wf_bounds w0).2, (wf_bounds w1).1, (wf_bounds w1).2, (wf_bounds w2).1, (wf_bounds w2).2⟩⟩
theorem open_tns {w : World} {r : Reach} {b0 : Nat} {v : Value} {d : DataW H} {ps : List MemPlace} (hv : Value.okWide Tryd.prog w r b0 22 v) (h : DataW.Trod enc Tryd.prog w base spare held 22 v d ps) : ∃ ds, TnsAt w v ds := by
  obtain ⟨a', len', cap', rfl⟩ := WideShapes.okWide_slice Tryd.underlying22 hv
  obtain ⟨n, h⟩ := h
  simp only [Value.cells] at h
  rcases Deep.open_slice Tryd.underlying22 h with ⟨hcs, -⟩ | ⟨a, len, cap, m, k, D, Pl, hcs, -, h1, h2, h3, -, h4⟩
  · simp only [List.cons.injEq, and_true] at hcs
    rw [hcs]
    exact ⟨[], none, 0, rfl, Nat.le_refl _, Nat.zero_le _, fun j hj => absurd hj (Nat.not_lt_zero _)⟩
  · simp only [List.cons.injEq, and_true] at hcs
    rw [hcs]
    have hlm : len ≤ m := by rw [h3]; split <;> omega
    rw [cellsTn] at h4
    have hr : ∀ i, i < len → ∃ r, TnOk r ∧ ∀ j u, (tnC r)[j]? = some u → w.cell? ((a.add (i * 3)).add j) = some u := by
      intro i hi
      obtain ⟨cs', g1, g2⟩ := h4 i (by omega)
      obtain ⟨r, rfl, hok⟩ := open_tn g2
      obtain ⟨-, -, g3⟩ := World.cells?_some g1
      refine ⟨r, hok, fun j u hu => ?_⟩
      have hj : j < 3 := by have := (List.getElem?_eq_some_iff.1 hu).1; simpa [tnC] using this
      rw [g3 j hj]; exact hu
    let rs : List TnV := (List.range len).attach.map fun i => (hr i.1 (List.mem_range.1 i.2)).choose
    have hl : rs.length = len := by simp [rs]
    refine ⟨rs, some a, cap, by rw [hl], by rw [hl]; exact h1, h2, fun j hj => ?_⟩
    have hj' : j < len := by omega
    have e : rs[j] = (hr j hj').choose := by simp [rs]
    rw [e]
    have hsp := (hr j hj').choose_spec
    exact ⟨hsp.1, a, rfl, hsp.2⟩

/-! ### the law's own rows -/
abbrev LR (w : World) (base : Nat) (v : Value) (l : List Tm) : Prop := GRow 33 2 tmC w base v l
theorem infoL : (Tryd.prog.info? 33).map (fun i => (i.zero.map (fun z => z.cells.size), i.size, i.bytes)) = some (some 2, 2, 16) := by kernel_rfl
theorem infoL_parts : ∃ i z, Tryd.prog.info? 33 = some i ∧ i.zero = some z ∧ z.cells.size = 2 ∧ i.size = 2 ∧ i.bytes ≤ 1000 := by
  have h := infoL
  cases hi : Tryd.prog.info? 33 with
  | none => rw [hi] at h; cases h
  | some i =>
    rw [hi] at h
    simp only [Option.map_some, Option.some.injEq, Prod.mk.injEq] at h
    obtain ⟨h1, h2, h3⟩ := h
    cases hz : i.zero with
    | none => rw [hz] at h1; cases h1
    | some z =>
      rw [hz] at h1
      simp only [Option.map_some, Option.some.injEq] at h1
      exact ⟨i, z, rfl, hz, h1, h2, by omega⟩
theorem app_l (w : World) (base : Nat) (v : Value) (xs : List Tm) (x : Tm) (k : Nat) (hrow : LR w base v xs) (hk : w.heap[k]? = some (.cells (tmC x).toArray 33 (0, 0))) (hlen : xs.length ≤ 1000000) (hbase : base ≤ w.heap.size) :
    ∃ v' w', (Builtin.append_ #[29, 29] 29 #[v, .slice (some ⟨k, 0, none⟩) 1 1]).run Tryd.prog w = .ok v' w' ∧ LR w' base v' (xs ++ [x]) ∧ Turn v.ownBlock.toList w w' ∧ (∀ j ∈ v'.ownBlock, j ∈ v.ownBlock ∨ w.heap.size ≤ j) := by
  obtain ⟨i, z, hi, hz, hzs, hs, hb⟩ := infoL_parts
  exact run_append_g (P := Tryd.prog) 29 29 Tryd.underlying29 i z hi hz hzs hs hb tmC_len (by intro x u hu; simp [tmC] at hu; rcases hu with rfl | rfl <;> rfl) w base v xs x k hrow hk hlen hbase
theorem app_ls (w : World) (base : Nat) (v sx : Value) (xs ys : List Tm) (hrow : LR w base v xs) (hx : GSrc tmC w sx ys) (hlen : xs.length + ys.length ≤ 1000000) (hbase : base ≤ w.heap.size) :
    ∃ v' w', (Builtin.append_ #[29, 29] 29 #[v, sx]).run Tryd.prog w = .ok v' w' ∧ LR w' base v' (xs ++ ys) ∧ Turn v.ownBlock.toList w w' ∧ (∀ j ∈ v'.ownBlock, j ∈ v.ownBlock ∨ w.heap.size ≤ j) := by
  obtain ⟨i, z, hi, hz, hzs, hs, hb⟩ := infoL_parts
  exact run_append_gs (P := Tryd.prog) 29 29 Tryd.underlying29 i z hi hz hzs hs hb tmC_len (by intro x u hu; simp [tmC] at hu; rcases hu with rfl | rfl <;> rfl) w base v sx xs ys hrow hx hlen hbase
/-- A part of a row, as what is appended. -/
theorem LR.part {w : World} {base g n c : Nat} {l : List Tm} (h : LR w base (.slice (some ⟨g, 0, none⟩) n c) l) {i m : Nat} (him : i + m ≤ l.length) (c' : Nat) : GSrc tmC w (.slice (some ⟨g, i * 2, none⟩) m c') ((l.drop i).take m) := by
  have hl : ((l.drop i).take m).length = m := by rw [List.length_take, List.length_drop]; omega
  refine .inr ⟨⟨g, i * 2, none⟩, c', by rw [hl], fun j u hu => ?_⟩
  have hj : j < m * 2 := by
    have := (List.getElem?_eq_some_iff.1 hu).1
    rwa [gflat_len tmC_len, hl] at this
  obtain ⟨g', cap, e, hk, -⟩ := h.at tmC_len (j := i + j / 2) (by omega)
  simp only [Value.slice.injEq, Option.some.injEq, Addr.mk.injEq, and_true] at e
  obtain ⟨rfl, -, -⟩ := e
  have h1 := gflat_at tmC_len ((l.drop i).take m) (j / 2) (j % 2) (by omega) (by omega)
  rw [show j / 2 * 2 + j % 2 = j by omega, hu, List.getElem_take, List.getElem_drop] at h1
  have h2 := hk (j % 2) (by omega)
  rw [addr_off]
  have e1 : i * 2 + j = (i + j / 2) * 2 + j % 2 := by omega
  rw [e1, h2, ← h1]
end Go.Proofs.YtcficgpknokpbaaDoor.Wh
