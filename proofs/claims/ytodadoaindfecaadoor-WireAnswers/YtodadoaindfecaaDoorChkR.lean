/- The document's Check. -/
import Derived.Test.YtodadoaindfecaaDoorChkP
import Derived.Test.YtodadoaindfecaaDoorLoose
namespace Go.Proofs.YtodadoaindfecaaDoor
open Go.RowKit Go.Maps
set_option maxRecDepth 100000
set_option linter.unusedSimpArgs false
set_option linter.unusedVariables false

/-- What the document's first test of a record answers. -/
def badB (r : Bt.Rec) (base fin lo : Int) (k : Nat) : Bool :=
  ((((decide (r.off < base) || decide (fin ≤ r.off)) || (decide (0 < k) && decide (r.off ≤ lo - 1))) || ((!r.keyed) && (!r.key.isEmpty))) || (r.gone && (!r.value.isEmpty)))
theorem badB_iff (r : Bt.Rec) (base fin lo : Int) (k : Nat) (h : (k = 0 ∧ lo = base) ∨ (0 < k ∧ base ≤ lo)) : badB r base fin lo k = true ↔ (r.off < lo ∨ fin ≤ r.off ∨ (r.keyed = false ∧ r.key ≠ []) ∨ (r.gone = true ∧ r.value ≠ [])) := by
  unfold badB
  simp only [Bool.or_eq_true, Bool.and_eq_true, decide_eq_true_eq, Bool.not_eq_true', List.isEmpty_eq_false_iff]
  constructor
  · rintro ((((h1 | h1) | ⟨h1, h2⟩) | h1) | h1)
    · exact .inl (by omega)
    · exact .inr (.inl h1)
    · exact .inl (by omega)
    · exact .inr (.inr (.inl h1))
    · exact .inr (.inr (.inr h1))
  · rintro (h1 | h1 | h1 | h1)
    · rcases h with ⟨h2, h3⟩ | ⟨h2, h3⟩
      · exact .inl (.inl (.inl (.inl (by omega))))
      · exact .inl (.inl (.inr ⟨by omega, by omega⟩))
    · exact .inl (.inl (.inl (.inr h1)))
    · exact .inl (.inr h1)
    · exact .inr h1
theorem recErr_bad {r : Bt.Rec} {base fin lo : Int} {k : Nat} (h : (k = 0 ∧ lo = base) ∨ (0 < k ∧ base ≤ lo)) (hb : badB r base fin lo k = true) : Bt.recErr r lo fin = 1 := by
  unfold Bt.recErr
  rw [if_pos ((badB_iff r base fin lo k h).1 hb)]
theorem recErr_good {r : Bt.Rec} {base fin lo : Int} {k : Nat} (h : (k = 0 ∧ lo = base) ∨ (0 < k ∧ base ≤ lo)) (hb : badB r base fin lo k = false) : Bt.recErr r lo fin = if 60 < r.key.length ∨ 500 < r.value.length then 4 else if r.time < 0 ∨ 1099511627776 < r.time then 2 else 0 := by
  unfold Bt.recErr
  rw [if_neg (fun h2 => by rw [(badB_iff r base fin lo k h).2 h2] at hb; cases hb)]
theorem good_lo {r : Bt.Rec} {base fin lo : Int} {k : Nat} (h : (k = 0 ∧ lo = base) ∨ (0 < k ∧ base ≤ lo)) (hb : badB r base fin lo k = false) : lo ≤ r.off ∧ r.off < fin := by
  have : ¬ (r.off < lo ∨ fin ≤ r.off ∨ (r.keyed = false ∧ r.key ≠ []) ∨ (r.gone = true ∧ r.value ≠ [])) := fun h2 => by rw [(badB_iff r base fin lo k h).2 h2] at hb; cases hb
  constructor <;> omega

end Go.Proofs.YtodadoaindfecaaDoor
