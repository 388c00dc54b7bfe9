/- A list of what is done with a disk that came in (of a law). -/
import Derived.Test.YtlcgcckllecjpaaDoorOpA
namespace Go.Proofs.YtlcgcckllecjpaaDoor
open Go.RowKit Go.Maps
set_option maxRecDepth 100000
set_option linter.unusedSimpArgs false
set_option linter.unusedVariables false

structure DoV where
  what : Int
  name : List UInt8
  to : List UInt8
  bytes : List UInt8
  a : Option Addr
  c : Nat
  n : Int
  m : Int
def DoV.sl (x : DoV) : Value := .slice x.a x.bytes.length x.c
def doC (x : DoV) : List Value := [.int .i64 x.what, .string ⟨x.name.toArray⟩, .string ⟨x.to.toArray⟩, x.sl, .int .i64 x.n, .int .i64 x.m]
structure DoOk (x : DoV) : Prop where
  what1 : -9223372036854775808 ≤ x.what
  what2 : x.what ≤ 9223372036854775807
  name : x.name.length ≤ 9223372036854775807
  to : x.to.length ≤ 9223372036854775807
  n1 : -9223372036854775808 ≤ x.n
  n2 : x.n ≤ 9223372036854775807
  m1 : -9223372036854775808 ≤ x.m
  m2 : x.m ≤ 9223372036854775807
/-- A slice of such. -/
def DosAt (w : World) (v : Value) (ds : List DoV) : Prop :=
  ∃ a c, v = .slice a ds.length c ∧ ds.length ≤ c ∧ c ≤ maxLen ∧ (∀ j (h : j < ds.length), DoOk ds[j] ∧ BytesAt w ds[j].sl ds[j].bytes ∧ ∃ p, a = some p ∧ ∀ i u, (doC ds[j])[i]? = some u → w.cell? ((p.add (j * 6)).add i) = some u)
theorem DosAt.still {w w' : World} {v : Value} {ds : List DoV} (h : DosAt w v ds) (ht : Turn [] w w') : DosAt w' v ds := by
  obtain ⟨a, c, rfl, h1, h2, h4⟩ := h
  refine ⟨a, c, rfl, h1, h2, fun j hj => ?_⟩
  obtain ⟨h5, hb, p, rfl, hc⟩ := h4 j hj
  refine ⟨h5, hb.still ht, p, rfl, fun i u hu => ?_⟩
  have hlt := World.block_lt_of_cell? w _ (hc i u hu)
  rw [World.cell?_of_block (w := w) (ht.block _ hlt (by simp)), hc i u hu]
theorem DosAt.six {w : World} {a : Option Addr} {l c : Nat} {ds : List DoV} (h : DosAt w (.slice a l c) ds) {j : Nat} (hj : j < ds.length) :
    ∃ p, a = some p ∧ DoOk ds[j] ∧ BytesAt w ds[j].sl ds[j].bytes ∧ w.cell? (p.add (j * 6)) = some (.int .i64 ds[j].what) ∧ w.cell? ⟨(p.add (j * 6)).block, (p.add (j * 6)).off + 1, none⟩ = some (.string ⟨ds[j].name.toArray⟩) ∧ w.cell? ⟨(p.add (j * 6)).block, (p.add (j * 6)).off + 2, none⟩ = some (.string ⟨ds[j].to.toArray⟩) ∧
    w.cell? ⟨(p.add (j * 6)).block, (p.add (j * 6)).off + 3, none⟩ = some (.slice ds[j].a ds[j].bytes.length ds[j].c) ∧ w.cell? ⟨(p.add (j * 6)).block, (p.add (j * 6)).off + 4, none⟩ = some (.int .i64 ds[j].n) ∧ w.cell? ⟨(p.add (j * 6)).block, (p.add (j * 6)).off + 5, none⟩ = some (.int .i64 ds[j].m) := by
  obtain ⟨a', c', e, h1, h2, h4⟩ := h
  simp only [Value.slice.injEq] at e
  obtain ⟨rfl, rfl, rfl⟩ := e
  obtain ⟨h5, hb, p, rfl, hc⟩ := h4 j hj
  refine ⟨p, rfl, h5, hb, ?_, hc 1 _ rfl, hc 2 _ rfl, hc 3 _ rfl, hc 4 _ rfl, hc 5 _ rfl⟩
  have := hc 0 _ rfl
  rwa [add_zero] at this

theorem fieldsDo : Tryd.prog.underlying 37 = some (.struct (((Tryd.prog.underlying 37).bind fun d => match d with | .struct fs => some fs | _ => none).getD #[])) := by kernel_rfl
theorem fieldsDo_at : ((((Tryd.prog.underlying 37).bind fun d => match d with | .struct fs => some fs | _ => none).getD #[]).toList.map fun f => (f.type, f.offset, Tryd.prog.cellsOf f.type)) = [(3, 0, 1), (9, 1, 1), (9, 2, 1), (35, 3, 1), (3, 4, 1), (3, 5, 1)] := by kernel_rfl
theorem cellsDo : Tryd.prog.cellsOf 37 = 6 := by kernel_rfl
variable {H : Type} {enc : TypeId × Value → H} {base : Nat} {spare : Nat → Bool} {held : Bool}
theorem cellsU8 : Tryd.prog.cellsOf 5 = 1 := by kernel_rfl
theorem open_bytesC {w : World} {n : Nat} {v : Value} {x : DataW H × List MemPlace} (h : DataW.trod enc Tryd.prog w base spare held n 35 [v] = some x) : ∃ bs, BytesAt w v bs := by
  rcases Deep.open_slice Tryd.underlying35 h with ⟨hcs, -⟩ | ⟨a, len, cap, m, k, D, Pl, hcs, -, h1, h2, h3, -, h4⟩
  · simp only [List.cons.injEq, and_true] at hcs
    rw [hcs]
    exact ⟨[], none, 0, rfl, Nat.le_refl _, Nat.zero_le _, fun _ => rfl, fun j hj => absurd hj (Nat.not_lt_zero _)⟩
  · simp only [List.cons.injEq, and_true] at hcs
    rw [hcs]
    have hlm : len ≤ m := by rw [h3]; split <;> omega
    rw [cellsU8] at h4
    have hr : ∀ i, i < len → ∃ x : UInt8, w.cell? (a.add i) = some (encB x) := by
      intro i hi
      obtain ⟨cs', g1, g2⟩ := h4 i (by omega)
      obtain ⟨z, rfl, -, hw⟩ := DataW.trod_int Tryd.underlying5 g2
      obtain ⟨-, -, g3⟩ := World.cells?_some g1
      have := g3 0 (by omega)
      simp only [Lit.wf, IntKind.min, IntKind.max, IntKind.signed, IntKind.bits, Bool.and_eq_true, decide_eq_true_eq] at hw
      have w1 := hw.1
      have w2 := hw.2
      simp at w1 w2
      refine ⟨UInt8.ofNat z.toNat, ?_⟩
      rw [add_add, Nat.mul_one, Nat.add_zero] at this
      rw [this]
      simp [encB]
      omega
    let bs : List UInt8 := (List.range len).attach.map fun i => (hr i.1 (List.mem_range.1 i.2)).choose
    have hl : bs.length = len := by simp [bs]
    refine ⟨bs, some a, cap, by rw [hl], by rw [hl]; exact h1, h2, by simp, fun j hj => ?_⟩
    have hj' : j < len := by omega
    have e : bs[j] = (hr j hj').choose := by simp [bs]
    rw [e]
    exact ⟨a, rfl, (hr j hj').choose_spec⟩
theorem open_do {w : World} {n : Nat} {cs : List Value} {x : DataW H × List MemPlace} (h : DataW.trod enc Tryd.prog w base spare held n 37 cs = some x) : ∃ r, cs = doC r ∧ DoOk r ∧ BytesAt w r.sl r.bytes := by
  obtain ⟨xs, m, -, -, hlen, hl, hf⟩ := DataW.trod_struct fieldsDo h
  rw [cellsDo] at hlen
  have hfs := fieldsDo_at
  generalize (((Tryd.prog.underlying 37).bind fun d => match d with | .struct fs => some fs | _ => none).getD #[]) = fs at *
  have hxs : xs.length = 6 := by
    rw [hl]
    have := congrArg List.length hfs
    simpa using this
  obtain ⟨c0, c1, c2, c3, c4, c5, rfl⟩ := list6 hlen
  obtain ⟨y0, y1, y2, y3, y4, y5, rfl⟩ := list6 hxs
  have one : ∀ (i t o : Nat) (y : DataW H × List MemPlace), [(3, 0, 1), (9, 1, 1), (9, 2, 1), (35, 3, 1), (3, 4, 1), (3, 5, 1)][i]? = some (t, o, 1) → [y0, y1, y2, y3, y4, y5][i]? = some y →
      DataW.trod enc Tryd.prog w base spare held m t (([c0, c1, c2, c3, c4, c5].drop o).take 1) = some y := by
    intro i t o y hi hy
    obtain ⟨f, h1, h2, h3, h4⟩ := field_at hfs hi
    have := hf i f h1
    rw [h4, h2, h3, hy] at this
    exact this
  obtain ⟨n0, e0, -, w0⟩ := DataW.trod_int Tryd.underlying3 (one 0 _ _ y0 rfl rfl)
  obtain ⟨s1, e1, -, w1⟩ := DataW.trod_string Tryd.underlying9 (one 1 _ _ y1 rfl rfl)
  obtain ⟨s2, e2, -, w2⟩ := DataW.trod_string Tryd.underlying9 (one 2 _ _ y2 rfl rfl)
  obtain ⟨bs, hbs⟩ := open_bytesC (one 3 _ _ y3 rfl rfl)
  obtain ⟨n4, e4, -, w4⟩ := DataW.trod_int Tryd.underlying3 (one 4 _ _ y4 rfl rfl)
  obtain ⟨n5, e5, -, w5⟩ := DataW.trod_int Tryd.underlying3 (one 5 _ _ y5 rfl rfl)
  obtain ⟨ba, bc, hb3, -, -, -⟩ := hbs.form
  simp only [List.drop_succ_cons, List.drop_zero, List.take_succ_cons, List.take_zero, List.cons.injEq, and_true] at e0 e1 e2 e4 e5
  subst e0; subst e1; subst e2; subst e4; subst e5; subst hb3
  have hm : maxLen = 9223372036854775807 := by simp [maxLen]
  rw [hm] at w1 w2
  exact ⟨⟨n0, s1.data.toList, s2.data.toList, bs, ba, bc, n4, n5⟩, rfl, ⟨(wf_i64 w0).1, (wf_i64 w0).2, by simpa using w1, by simpa using w2, (wf_i64 w4).1, (wf_i64 w4).2, (wf_i64 w5).1, (wf_i64 w5).2⟩, hbs⟩
theorem open_dos {w : World} {r : Reach} {b0 : Nat} {v : Value} {d : DataW H} {ps : List MemPlace} (hv : Value.okWide Tryd.prog w r b0 22 v) (h : DataW.Trod enc Tryd.prog w base spare held 22 v d ps) : ∃ ds, DosAt w v ds := by
  obtain ⟨a', len', cap', rfl⟩ := WideShapes.okWide_slice Tryd.underlying22 hv
  obtain ⟨n, h⟩ := h
  simp only [Value.cells] at h
  rcases Deep.open_slice Tryd.underlying22 h with ⟨hcs, -⟩ | ⟨a, len, cap, m, k, D, Pl, hcs, -, h1, h2, h3, -, h4⟩
  · simp only [List.cons.injEq, and_true] at hcs
    rw [hcs]
    exact ⟨[], none, 0, rfl, Nat.le_refl _, Nat.zero_le _, fun j hj => absurd hj (Nat.not_lt_zero _)⟩
  · simp only [List.cons.injEq, and_true] at hcs
    rw [hcs]
    have hlm : len ≤ m := by rw [h3]; split <;> omega
    rw [cellsDo] at h4
    have hr : ∀ i, i < len → ∃ r, DoOk r ∧ BytesAt w r.sl r.bytes ∧ ∀ j u, (doC r)[j]? = some u → w.cell? ((a.add (i * 6)).add j) = some u := by
      intro i hi
      obtain ⟨cs', g1, g2⟩ := h4 i (by omega)
      obtain ⟨r, rfl, hok, hb⟩ := open_do g2
      obtain ⟨-, -, g3⟩ := World.cells?_some g1
      refine ⟨r, hok, hb, fun j u hu => ?_⟩
      have hj : j < 6 := by have := (List.getElem?_eq_some_iff.1 hu).1; simpa [doC] using this
      rw [g3 j hj]; exact hu
    let rs : List DoV := (List.range len).attach.map fun i => (hr i.1 (List.mem_range.1 i.2)).choose
    have hl : rs.length = len := by simp [rs]
    refine ⟨rs, some a, cap, by rw [hl], by rw [hl]; exact h1, h2, fun j hj => ?_⟩
    have hj' : j < len := by omega
    have e : rs[j] = (hr j hj').choose := by simp [rs]
    rw [e]
    have hsp := (hr j hj').choose_spec
    exact ⟨hsp.1, hsp.2.1, a, rfl, hsp.2.2⟩
end Go.Proofs.YtlcgcckllecjpaaDoor
