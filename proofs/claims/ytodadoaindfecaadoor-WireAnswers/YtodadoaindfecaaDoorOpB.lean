/- A row of bytes that came in (of a law's card). -/
import Derived.Test.YtodadoaindfecaaDoorSame
namespace Go.Proofs.YtodadoaindfecaaDoor
open Go.RowKit Go.Maps
set_option maxRecDepth 100000
set_option linter.unusedSimpArgs false
set_option linter.unusedVariables false

theorem cells5 : Tryd.prog.cellsOf 5 = 1 := by kernel_rfl
variable {H : Type} {enc : TypeId × Value → H} {base : Nat} {spare : Nat → Bool} {held : Bool}
theorem open_bytes {w : World} {r : Reach} {b0 : Nat} {v : Value} {d : DataW H} {ps : List MemPlace} (hv : Value.okWide Tryd.prog w r b0 49 v) (h : DataW.Trod enc Tryd.prog w base spare held 49 v d ps) : ∃ bs, BytesAt w v bs := by
  obtain ⟨a', len', cap', rfl⟩ := WideShapes.okWide_slice Tryd.underlying49 hv
  obtain ⟨n, h⟩ := h
  simp only [Value.cells] at h
  rcases Deep.open_slice Tryd.underlying49 h with ⟨hcs, -⟩ | ⟨a, len, cap, m, k, D, Pl, hcs, -, h1, h2, h3, -, h4⟩
  · simp only [List.cons.injEq, and_true] at hcs
    rw [hcs]
    exact ⟨[], none, 0, rfl, Nat.le_refl _, Nat.zero_le _, fun _ => rfl, fun j hj => absurd hj (Nat.not_lt_zero _)⟩
  · simp only [List.cons.injEq, and_true] at hcs
    rw [hcs]
    have hlm : len ≤ m := by rw [h3]; split <;> omega
    rw [cells5] at h4
    have hr : ∀ i, i < len → ∃ x : UInt8, w.cell? (a.add i) = some (encB x) := by
      intro i hi
      obtain ⟨cs', g1, g2⟩ := h4 i (by omega)
      obtain ⟨z, rfl, -, hw⟩ := DataW.trod_int Tryd.underlying5 g2
      obtain ⟨-, -, g3⟩ := World.cells?_some g1
      have := g3 0 (by omega)
      simp only [Lit.wf, IntKind.min, IntKind.max, IntKind.signed, IntKind.bits, Bool.and_eq_true, decide_eq_true_eq] at hw
      have w1 := hw.1
      have w2 := hw.2
      simp at w1 w2
      refine ⟨UInt8.ofNat z.toNat, ?_⟩
      rw [add_add, Nat.mul_one, Nat.add_zero] at this
      rw [this]
      simp [encB]
      omega
    let bs : List UInt8 := (List.range len).attach.map fun i => (hr i.1 (List.mem_range.1 i.2)).choose
    have hl : bs.length = len := by simp [bs]
    refine ⟨bs, some a, cap, by rw [hl], by rw [hl]; exact h1, h2, by simp, fun j hj => ?_⟩
    have hj' : j < len := by omega
    have e : bs[j] = (hr j hj').choose := by simp [bs]
    rw [e]
    exact ⟨a, rfl, (hr j hj').choose_spec⟩
end Go.Proofs.YtodadoaindfecaaDoor
