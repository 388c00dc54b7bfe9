/- record.four: the number at the beginning of bytes. -/
import Derived.Test.YtodadoaindfecaaDoorRdC
namespace Go.Proofs.YtodadoaindfecaaDoor
open Go.RowKit Go.Maps
set_option maxRecDepth 100000
set_option linter.unusedSimpArgs false
set_option linter.unusedVariables false

theorem or_add (a b k : Nat) (hb : b < 2 ^ k) (ha : a % 2 ^ k = 0) (h : a + b < 9223372036854775808) : bits .or .i64 (a : Int) (b : Int) = ((a + b : Nat) : Int) := by
  have hj : a ||| b = a + b := nat_join k a b ha hb
  rw [i64_or_nat _ _ (by omega) (by omega) (by rw [hj]; exact h), hj]
/-- The first four bytes. -/
theorem BytesAt.four {w : World} {v : Value} {bs : List UInt8} (h : BytesAt w v bs) (h4 : 4 ≤ bs.length) : ∃ p c, v = .slice (some p) bs.length c ∧ bs.length ≤ c ∧ c ≤ maxLen ∧
    w.cell? p = some (.int .u8 (bs.getD 0 0).toNat) ∧ w.cell? ⟨p.block, p.off + 1, none⟩ = some (.int .u8 (bs.getD 1 0).toNat) ∧ w.cell? ⟨p.block, p.off + 2, none⟩ = some (.int .u8 (bs.getD 2 0).toNat) ∧ w.cell? ⟨p.block, p.off + 3, none⟩ = some (.int .u8 (bs.getD 3 0).toNat) := by
  obtain ⟨a, c, rfl, h1, h2, -, hc⟩ := h
  obtain ⟨p, rfl, g0⟩ := hc 0 (by omega)
  refine ⟨p, c, rfl, h1, h2, ?_, ?_, ?_, ?_⟩
  · rw [add_zero] at g0; simpa [encB, List.getD, show 0 < bs.length by omega] using g0
  · obtain ⟨q, hq, g⟩ := hc 1 (by omega); cases hq
    rw [show (⟨p.block, p.off + 1, none⟩ : Addr) = p.add 1 from rfl, g]; simp [encB, List.getD, show 1 < bs.length by omega]
  · obtain ⟨q, hq, g⟩ := hc 2 (by omega); cases hq
    rw [show (⟨p.block, p.off + 2, none⟩ : Addr) = p.add 2 from rfl, g]; simp [encB, List.getD, show 2 < bs.length by omega]
  · obtain ⟨q, hq, g⟩ := hc 3 (by omega); cases hq
    rw [show (⟨p.block, p.off + 3, none⟩ : Addr) = p.add 3 from rfl, g]; simp [encB, List.getD, show 3 < bs.length by omega]

end Go.Proofs.YtodadoaindfecaaDoor
