/- The document's reading: sizes; that it finds what record.Decode finds. -/
import Derived.Test.YtjjfjbclmdnodaaDoorDst
import Derived.Test.YtjjfjbclmdnodaaDoorDecP
namespace Go.Proofs.YtjjfjbclmdnodaaDoor
open Go.RowKit Go.Maps
set_option maxRecDepth 100000
set_option linter.unusedSimpArgs false
set_option linter.unusedVariables false

def Shr (t t' : List UInt8 × Bool) : Prop := t'.1.length ≤ t.1.length ∧ (t.2 = true → t'.2 = true)
theorem Shr.trans {a b c : List UInt8 × Bool} (h : Shr a b) (k : Shr b c) : Shr a c := ⟨Nat.le_trans k.1 h.1, fun e => k.2 (h.2 e)⟩
theorem Shr.refl (a : List UInt8 × Bool) : Shr a a := ⟨Nat.le_refl _, id⟩
theorem numR_shr (t : List UInt8 × Bool) : Shr t (Bt.numR t).2 ∧ ((Bt.numR t).2.2 = true ∨ (Bt.numR t).2.1.length < t.1.length) := by
  have := Nu.get_size (b := t.1)
  unfold Bt.numR Shr
  simp only
  refine ⟨⟨by simp, fun e => by simp [e]⟩, ?_⟩
  by_cases h : (Nu.get t.1).2 = 0
  · left; simp [h]
  · right; simp; omega
theorem textR_shr (m : Nat) (t : List UInt8 × Bool) : Shr t (Bt.textR m t).2 := by
  have h := (numR_shr t).1
  unfold Bt.textR
  simp only
  split
  · exact ⟨h.1, fun _ => rfl⟩
  · rename_i hn
    refine ⟨by have := h.1; simp; omega, fun e => absurd (.inl (h.2 e)) hn⟩
theorem rec2_shr (base : Int) (t : List UInt8 × Bool) : Shr (Bt.numR t).2 (Bt.rec2 base t).2 := by
  refine (numR_shr _).1.trans ((numR_shr _).1.trans ?_)
  unfold Bt.rec2
  simp only
  generalize Bt.numR (Bt.numR (Bt.numR t).2).2 = c
  have h3 : Shr c.2 (c.2.1, c.2.2 || decide (3 < c.1)) := ⟨Nat.le_refl _, fun e => by simp [e]⟩
  refine h3.trans ?_
  generalize (c.2.1, c.2.2 || decide (3 < c.1)) = t3
  split <;> split <;> first | exact Shr.refl _ | exact textR_shr _ _ | exact (textR_shr _ _).trans (textR_shr _ _)
theorem rec2_len (base : Int) (t : List UInt8 × Bool) : (Bt.rec2 base t).2.1.length ≤ t.1.length ∧ ((Bt.rec2 base t).2.2 = true ∨ (Bt.rec2 base t).2.1.length < t.1.length) := by
  obtain ⟨h1, h2⟩ := numR_shr t
  have h3 := rec2_shr base t
  refine ⟨(h1.trans h3).1, ?_⟩
  rcases h2 with h2 | h2
  · exact .inl (h3.2 h2)
  · exact .inr (Nat.lt_of_le_of_lt h3.1 h2)
theorem rec2_ok (base : Int) (t : List UInt8 × Bool) (h0 : 0 ≤ base) (h1 : base ≤ 1099511627776) (hl : t.1.length ≤ 1000000) : RecOk (Bt.rec2 base t).1 := by
  have a0 := numR_len t
  have a1 := numR_len (Bt.numR t).2
  have a2 := numR_len (Bt.numR (Bt.numR t).2).2
  unfold Bt.rec2
  simp only
  generalize Bt.numR (Bt.numR (Bt.numR t).2).2 = c at *
  have hc : (c.2.1, c.2.2 || decide (3 < c.1)).1.length ≤ 1000000 := by simp only; omega
  generalize (c.2.1, c.2.2 || decide (3 < c.1)) = t3 at *
  have b0 := textR_len 10000 t3
  have b1 := textR_len 10000 (Bt.textR 10000 t3).2
  refine ⟨by simp only; omega, by simp only; omega, by simp only; omega, by simp only; omega, ?_, ?_⟩
  · simp only
    split
    · omega
    · simp
  · simp only
    split
    · simp
    · split <;> (try dsimp only) <;> omega
theorem recs2_ok (base : Int) (h0 : 0 ≤ base) (h1 : base ≤ 1099511627776) : ∀ (n : Nat) (t : List UInt8 × Bool), t.1.length ≤ 1000000 → ∀ r ∈ (Bt.recs2 base n t).1, RecOk r
  | 0, _, _, r, hr => by simp [Bt.recs2] at hr
  | n + 1, t, hl, r, hr => by
    unfold Bt.recs2 at hr
    split at hr
    · simp at hr
    · rcases List.mem_cons.1 hr with rfl | hr
      · exact rec2_ok base t h0 h1 hl
      · exact recs2_ok base h0 h1 n _ (by have := rec2_len base t; omega) r hr
theorem isB_okAt {b : List UInt8} {x : Bt.Bat} (hg : Bt.fourV b ≤ 6000) (hsh : Bt.fourV b ≤ b.length) : isB b x ↔ Bt.okAt b x := by
  unfold isB Bt.okAt Bt.encErr
  constructor
  · rintro ⟨h1, h2⟩
    split at h1
    · exact ⟨by assumption, h2⟩
    · exact absurd h1 (by assumption)
  · rintro ⟨h1, h2⟩
    have := congrArg List.length h2
    rw [Bt.encB_len, List.length_take] at this
    rw [if_pos h1, if_neg (by omega)]
    exact ⟨rfl, h2⟩
/-- What is answered, told by the document's reading. -/
theorem dec_two {b : List UInt8} (h8 : ¬ b.length < 8) (hs : ¬ Bt.fourV b < 11) (hg : ¬ 6000 < Bt.fourV b) (hsh : ¬ b.length < Bt.fourV b) :
    dec b = if (Bt.bat2 (midB b)).2 = false ∧ isB b (Bt.bat2 (midB b)).1 then ((Bt.bat2 (midB b)).1, Bt.fourV b, 0) else (noBat, 0, 3) := by
  unfold dec
  rw [if_neg h8, if_neg (by omega), if_neg hsh]
  have hb := Bt.both b
  have he := @Bt.both_eq b
  have i1 := @isB_okAt b (Bt.bat1 ((b.take (Bt.fourV b)).drop 8)) (by omega) (by omega)
  have i2 := @isB_okAt b (Bt.bat2 ((b.take (Bt.fourV b)).drop 8)).1 (by omega) (by omega)
  unfold midB
  by_cases h : Bt.okAt b (Bt.bat1 ((b.take (Bt.fourV b)).drop 8))
  · rw [if_pos (i1.2 h), if_pos ⟨(hb.1 h).1, i2.2 (hb.1 h).2⟩, he h]
  · rw [if_neg (fun k => h (i1.1 k)), if_neg (fun k => h (hb.2 ⟨k.1, i2.1 k.2⟩))]
end Go.Proofs.YtjjfjbclmdnodaaDoor
