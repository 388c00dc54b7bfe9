/- record's reader: batch, carried out. -/
import Derived.Test.YtodadoaindfecaaDoorRdB
namespace Go.Proofs.YtodadoaindfecaaDoor
open Go.RowKit Go.Maps
set_option maxRecDepth 100000
set_option linter.unusedSimpArgs false
set_option linter.unusedVariables false

theorem rec1_len (base : Int) (l : List UInt8) : (Bt.rec1 base l).2.length ≤ l.length ∧ (l ≠ [] → (Bt.rec1 base l).2.length < l.length) := by
  have a0 := num_len l
  have a1 := num_len (Bt.num l).2
  have a2 := num_len (Bt.num (Bt.num l).2).2
  have a3 := text_len (Bt.num (Bt.num (Bt.num l).2).2).2
  have a4 := text_len (Bt.text (Bt.num (Bt.num (Bt.num l).2).2).2).2
  have hlt : l ≠ [] → (Bt.num l).2.length < l.length := by
    intro h
    have hp := List.length_pos_iff.2 h
    unfold Bt.num
    have := Nu.get_size (b := l)
    split
    · simpa using hp
    · simp; omega
  have hm : (Bt.rec1 base l).2.length ≤ (Bt.num (Bt.num (Bt.num l).2).2).2.length := by
    unfold Bt.rec1
    simp only
    split <;> split <;> (try dsimp only) <;> omega
  exact ⟨by omega, fun h => by have := hlt h; omega⟩
theorem rec1_ok (base : Int) (l : List UInt8) (h0 : 0 ≤ base) (h1 : base ≤ 1099511627776) (hl : l.length ≤ 1000000) : RecOk (Bt.rec1 base l).1 := by
  have a0 := num_len l
  have a1 := num_len (Bt.num l).2
  have a2 := num_len (Bt.num (Bt.num l).2).2
  have a3 := text_len (Bt.num (Bt.num (Bt.num l).2).2).2
  have a4 := text_len (Bt.text (Bt.num (Bt.num (Bt.num l).2).2).2).2
  unfold Bt.rec1
  simp only
  refine ⟨by simp only; omega, by simp only; omega, by simp only; omega, by simp only; omega, ?_, ?_⟩
  · simp only
    split
    · omega
    · simp
  · simp only
    split
    · simp
    · split <;> (try dsimp only) <;> omega
theorem recs1_ok (base : Int) (h0 : 0 ≤ base) (h1 : base ≤ 1099511627776) : ∀ (n : Nat) (l : List UInt8), l.length ≤ 1000000 → ∀ r ∈ Bt.recs1 base n l, RecOk r
  | 0, _, _, r, hr => by simp [Bt.recs1] at hr
  | n + 1, l, hl, r, hr => by
    unfold Bt.recs1 at hr
    split at hr
    · simp at hr
    · rcases List.mem_cons.1 hr with rfl | hr
      · exact rec1_ok base l h0 h1 hl
      · exact recs1_ok base h0 h1 n _ (by have := rec1_len base l; omega) r hr

end Go.Proofs.YtodadoaindfecaaDoor
