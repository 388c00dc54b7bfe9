/- Answers, read; what Asked and Told tell. No program. -/
import Derived.Test.YtodadoaindfecaaDoorWic
namespace Go.Proofs.YtodadoaindfecaaDoor.Wi
open Go.Proofs.YtodadoaindfecaaDoor
set_option linter.unusedSimpArgs false
set_option linter.unusedVariables false

theorem atail_B {x : Ans} (h : ∀ c ∈ ansTail x, okC c) (z : Ans) (hz : z.kind = x.kind) :
    atailP z ((ansTail x).flatMap clB) = (if x.kind = 1 then { z with offset := x.offset }
      else if x.kind = 2 then { z with start := x.start, fin := x.fin, recs := x.recs.map canP }
      else if x.kind = 3 then (if x.found then { z with found := true, offset := x.offset } else z)
      else if x.kind = 4 then { z with start := x.start }
      else if x.kind = 7 then { z with topics := x.topics } else z) ∧
    atailR z ((ansTail x).flatMap clB, false) = (atailP z ((ansTail x).flatMap clB), false) := by
  unfold ansTail at h ⊢
  unfold atailP atailR
  rw [hz]
  by_cases e1 : x.kind = 1
  · simp only [if_pos e1] at h ⊢
    have k := h (.ns [x.offset]) (by simp)
    have k1 : okN x.offset := k _ (by simp)
    rw [List.flatMap_cons, ns_B]
    simp only [List.flatMap_cons, List.flatMap_nil, List.append_assoc]
    simp only [num_ok k1, numR_ok k1, toNat_ok k1]
    exact ⟨trivial, trivial⟩
  · by_cases e2 : x.kind = 2
    · simp only [if_neg e1, if_pos e2] at h ⊢
      have k := h (.ns [x.start, x.fin, x.recs.length]) (by simp)
      have k1 : okN x.start := k _ (by simp)
      have k2 : okN x.fin := k _ (by simp)
      have kl : okN (x.recs.length : Int) := k _ (by simp)
      have kr := fits_pls h (rs := x.recs) (fun c hc => List.mem_cons_of_mem _ hc)
      rw [List.flatMap_cons, ns_B, flat2 plCl (fun r => Nu.put r.off.toNat ++ recW r) plCl_B]
      simp only [List.flatMap_cons, List.flatMap_nil, List.append_nil, List.append_assoc]
      have hp := listP_B (one := plP) (W := fun r => Nu.put r.off.toNat ++ recW r) (c := canP) (ok := fun r => RecFits r ∧ okN r.off) (fun x h l => plP_B h.1 h.2 l) (fun r e => put_ne _ (List.append_eq_nil_iff.1 e).1) x.recs kr []
      have hr := listR_B (one := recR true) (W := fun r => Nu.put r.off.toNat ++ recW r) (c := canP) (ok := fun r => RecFits r ∧ okN r.off) (fun x h l => plR_B h.1 h.2 l) x.recs kr []
      rw [List.append_nil] at hp hr
      simp only [num_ok k1, num_ok k2, Int.toNat_natCast, Bt.num_put (show x.recs.length ≤ 1099511627776 by have := kl.2; omega), numR_ok k1, numR_ok k2, Bt.numR_put (show x.recs.length ≤ 1099511627776 by have := kl.2; omega), toNat_ok k1, toNat_ok k2, hp, hr]
      exact ⟨trivial, trivial⟩
    · by_cases e3 : x.kind = 3
      · simp only [if_neg e1, if_neg e2, if_pos e3] at h ⊢
        cases hf : x.found
        · rw [hf] at h
          simp only [Bool.false_eq_true, if_false]
          rw [List.flatMap_cons, ns_B]
          simp only [List.flatMap_cons, List.flatMap_nil, List.append_nil]
          have a1 := num_ok (okN_tr false) []
          have a2 := truR_ok false []
          rw [List.append_nil] at a1 a2
          simp only [a1, a2, Bool.false_eq_true, if_false, show ¬ ((tr false).toNat = 1) by decide]
          exact ⟨trivial, trivial⟩
        · rw [hf] at h
          have k1 : okN x.offset := h (.ns [x.offset]) (by simp) _ (by simp)
          simp only [if_true]
          rw [List.flatMap_cons, ns_B]
          simp only [List.flatMap_cons, List.flatMap_nil, List.append_nil, ns_B]
          have a3 := num_ok k1 []
          have a4 := numR_ok k1 []
          rw [List.append_nil] at a3 a4
          simp only [num_ok (okN_tr true), truR_ok, a3, a4, toNat_ok k1]
          rw [if_pos (show (tr true).toNat = 1 by decide)]
          exact ⟨rfl, rfl⟩
      · by_cases e4 : x.kind = 4
        · simp only [if_neg e1, if_neg e2, if_neg e3, if_pos e4] at h ⊢
          have k1 : okN x.start := h (.ns [x.start]) (by simp) _ (by simp)
          rw [List.flatMap_cons, ns_B]
          simp only [List.flatMap_cons, List.flatMap_nil, List.append_assoc]
          simp only [num_ok k1, numR_ok k1, toNat_ok k1]
          exact ⟨trivial, trivial⟩
        · by_cases e7 : x.kind = 7
          · simp only [if_neg e1, if_neg e2, if_neg e3, if_neg e4, if_pos e7] at h ⊢
            have kl : okN (x.topics.length : Int) := h (.ns [x.topics.length]) (by simp) _ (by simp)
            have kr := fits_tps h (ts := x.topics) (fun c hc => List.mem_cons_of_mem _ hc)
            rw [List.flatMap_cons, ns_B, flat2 tpCl (fun t => Bt.textB t.name ++ (Nu.put t.parts.toNat ++ Nu.put (tr t.compact).toNat)) tpCl_B]
            simp only [List.flatMap_cons, List.flatMap_nil, List.append_nil]
            have hp := listP_B (one := tpP) (W := fun t => Bt.textB t.name ++ (Nu.put t.parts.toNat ++ Nu.put (tr t.compact).toNat)) (c := id) (ok := fun t => t.name.length ≤ 40 ∧ okN t.parts) (fun x h l => tpP_B h.1 h.2 l) (fun t e => put_ne t.name.length (List.append_eq_nil_iff.1 (List.append_eq_nil_iff.1 e).1).1) x.topics kr []
            have hr := listR_B (one := tpR) (W := fun t => Bt.textB t.name ++ (Nu.put t.parts.toNat ++ Nu.put (tr t.compact).toNat)) (c := id) (ok := fun t => t.name.length ≤ 40 ∧ okN t.parts) (fun x h l => tpR_B h.1 h.2 l) x.topics kr []
            rw [List.append_nil, List.map_id] at hp hr
            simp only [Int.toNat_natCast, Bt.num_put (show x.topics.length ≤ 1099511627776 by have := kl.2; omega), Bt.numR_put (show x.topics.length ≤ 1099511627776 by have := kl.2; omega), hp, hr]
            exact ⟨trivial, trivial⟩
          · simp only [if_neg e1, if_neg e2, if_neg e3, if_neg e4, if_neg e7]
            exact ⟨trivial, trivial⟩
theorem ansP_B {x : Ans} (h : ∀ c ∈ ansCl x, okC c) : ansP ((ansCl x).flatMap clB) = canA x ∧ ansR ((ansCl x).flatMap clB) = (canA x, false) := by
  have k := h (.ns [x.kind, x.corr, x.err]) (by simp [ansCl])
  have k1 : okN x.kind := k _ (by simp)
  have k2 : okN x.corr := k _ (by simp)
  have k3 : okN x.err := k _ (by simp)
  unfold ansCl ansP ansR canA
  rw [List.flatMap_cons, ns_B]
  simp only [List.flatMap_cons, List.flatMap_nil, List.append_nil, List.append_assoc]
  simp only [num_ok k1, num_ok k2, num_ok k3, numR_ok k1, numR_ok k2, numR_ok k3, toNat_ok k1, toNat_ok k2, toNat_ok k3]
  by_cases e : x.err = 0
  · have kt : ∀ c ∈ ansTail x, okC c := fun c hc => h c (by simp [ansCl, e, hc])
    simp only [if_pos e]
    obtain ⟨h1, h2⟩ := atail_B kt (mkA x.kind x.corr x.err) rfl
    rw [h2, h1]
    exact ⟨rfl, rfl⟩
  · simp only [if_neg e]
    exact ⟨trivial, trivial⟩
theorem canA_kind (x : Ans) : (canA x).kind = x.kind ∧ (canA x).err = x.err ∧ (canA x).corr = x.corr := by
  unfold canA mkA
  simp only
  split <;> (try split) <;> (try split) <;> (try split) <;> (try split) <;> (try split) <;> (try split) <;> exact ⟨rfl, rfl, rfl⟩
theorem ansCl_can (x : Ans) : ansCl (canA x) = ansCl x := by
  obtain ⟨h1, h2, h3⟩ := canA_kind x
  unfold ansCl ansTail
  rw [h1, h2, h3]
  by_cases e : x.err = 0
  · simp only [if_pos e]
    unfold canA mkA
    simp only [if_pos e]
    by_cases e1 : x.kind = 1
    · simp only [if_pos e1]
    · by_cases e2 : x.kind = 2
      · simp only [if_neg e1, if_pos e2, List.length_map, flat_can plCl_can]
      · by_cases e3 : x.kind = 3
        · simp only [if_neg e1, if_neg e2, if_pos e3]
          cases hf : x.found <;> simp
        · by_cases e4 : x.kind = 4
          · simp only [if_neg e1, if_neg e2, if_neg e3, if_pos e4]
          · by_cases e7 : x.kind = 7
            · simp only [if_neg e1, if_neg e2, if_neg e3, if_neg e4, if_pos e7]
            · simp only [if_neg e1, if_neg e2, if_neg e3, if_neg e4, if_neg e7]
  · simp only [if_neg e]

/-! ### Ask, Tell, Asked, Told -/
def askM (x : Req) : List UInt8 × Int := if x.kind < 1 ∨ 7 < x.kind then ([], 1) else encF (reqCl x)
def tellM (x : Ans) : List UInt8 × Int := if x.kind < 1 ∨ 7 < x.kind ∨ x.err < 0 ∨ 15 < x.err then ([], 1) else encF (ansCl x)
def whole (b : List UInt8) : Nat × Int := if b.length < 4 then (0, 12) else if Bt.fourV b < 1 ∨ 10000 < Bt.fourV b then (0, 4) else if b.length < Bt.fourV b + 4 then (0, 12) else (Bt.fourV b + 4, 0)
def bodyOf (b : List UInt8) : List UInt8 := (b.take (whole b).1).drop 4
def okQ (b : List UInt8) (x : Req) : Prop := askM x = (b.take (whole b).1, 0)
def okA (b : List UInt8) (x : Ans) : Prop := tellM x = (b.take (whole b).1, 0)
instance (b : List UInt8) (x : Req) : Decidable (okQ b x) := inferInstanceAs (Decidable (_ = _))
instance (b : List UInt8) (x : Ans) : Decidable (okA b x) := inferInstanceAs (Decidable (_ = _))
def askedM (b : List UInt8) : Req × Nat × Int := if (whole b).2 ≠ 0 then (zQ, 0, (whole b).2) else if okQ b (reqP (bodyOf b)) then (reqP (bodyOf b), (whole b).1, 0) else (zQ, 0, 3)
def toldM (b : List UInt8) : Ans × Nat × Int := if (whole b).2 ≠ 0 then (zA, 0, (whole b).2) else if okA b (ansP (bodyOf b)) then (ansP (bodyOf b), (whole b).1, 0) else (zA, 0, 3)
theorem okQ_cl {b : List UInt8} {x : Req} (h : okQ b x) : (∀ c ∈ reqCl x, okC c) ∧ (reqCl x).flatMap clB = bodyOf b ∧ 1 ≤ x.kind ∧ x.kind ≤ 7 := by
  unfold okQ askM at h
  split at h
  · simp at h
  · rename_i hk
    have h2 : (encF (reqCl x)).2 = 0 := by rw [h]
    obtain ⟨k1, k2, k3⟩ := encF_ok h2
    refine ⟨k1, ?_, by omega, by omega⟩
    have h1 : (encF (reqCl x)).1 = b.take (whole b).1 := by rw [h]
    unfold bodyOf
    rw [← h1, k3]
    rfl
theorem okA_cl {b : List UInt8} {x : Ans} (h : okA b x) : (∀ c ∈ ansCl x, okC c) ∧ (ansCl x).flatMap clB = bodyOf b ∧ 1 ≤ x.kind ∧ x.kind ≤ 7 ∧ 0 ≤ x.err ∧ x.err ≤ 15 := by
  unfold okA tellM at h
  split at h
  · simp at h
  · rename_i hk
    have h2 : (encF (ansCl x)).2 = 0 := by rw [h]
    obtain ⟨k1, k2, k3⟩ := encF_ok h2
    refine ⟨k1, ?_, by omega, by omega, by omega, by omega⟩
    have h1 : (encF (ansCl x)).1 = b.take (whole b).1 := by rw [h]
    unfold bodyOf
    rw [← h1, k3]
    rfl
theorem askM_can (x : Req) : askM (canQ x) = askM x := by unfold askM; rw [canQ_kind, reqCl_can]
theorem tellM_can (x : Ans) : tellM (canA x) = tellM x := by
  obtain ⟨h1, h2, -⟩ := canA_kind x
  unfold tellM
  rw [h1, h2, ansCl_can]
/-- What the document's reading finds the program's finds, and the other way round. -/
theorem bothQ (b : List UInt8) : okQ b (reqP (bodyOf b)) ↔ ((reqR (bodyOf b)).2 = false ∧ okQ b (reqR (bodyOf b)).1) := by
  constructor
  · intro h
    obtain ⟨h1, h2, -⟩ := okQ_cl h
    have := reqP_B h1
    rw [h2] at this
    rw [this.2]
    refine ⟨rfl, ?_⟩
    unfold okQ at h ⊢
    rw [askM_can]
    exact h
  · rintro ⟨-, h⟩
    obtain ⟨h1, h2, -⟩ := okQ_cl h
    have := reqP_B h1
    rw [h2] at this
    rw [this.1]
    unfold okQ at h ⊢
    rw [askM_can]
    exact h
theorem bothQ_eq {b : List UInt8} (h : okQ b (reqP (bodyOf b))) : reqR (bodyOf b) = (reqP (bodyOf b), false) := by
  obtain ⟨h1, h2, -⟩ := okQ_cl h
  have := reqP_B h1
  rw [h2] at this
  rw [this.2, this.1.symm]
theorem bothA (b : List UInt8) : okA b (ansP (bodyOf b)) ↔ ((ansR (bodyOf b)).2 = false ∧ okA b (ansR (bodyOf b)).1) := by
  constructor
  · intro h
    obtain ⟨h1, h2, -⟩ := okA_cl h
    have := ansP_B h1
    rw [h2] at this
    rw [this.2]
    refine ⟨rfl, ?_⟩
    unfold okA at h ⊢
    rw [tellM_can]
    exact h
  · rintro ⟨-, h⟩
    obtain ⟨h1, h2, -⟩ := okA_cl h
    have := ansP_B h1
    rw [h2] at this
    rw [this.1]
    unfold okA at h ⊢
    rw [tellM_can]
    exact h
theorem bothA_eq {b : List UInt8} (h : okA b (ansP (bodyOf b))) : ansR (bodyOf b) = (ansP (bodyOf b), false) := by
  obtain ⟨h1, h2, -⟩ := okA_cl h
  have := ansP_B h1
  rw [h2] at this
  rw [this.2, this.1.symm]
/-! ### there and back -/
theorem whole_enc {l : List Cl} (h : (encF l).2 = 0) (h0 : l.flatMap clB ≠ []) (more : List UInt8) : whole ((encF l).1 ++ more) = ((encF l).1.length, 0) ∧ ((encF l).1 ++ more).take (encF l).1.length = (encF l).1 := by
  obtain ⟨h1, h2, h3⟩ := encF_ok h
  have hp := List.length_pos_iff.2 h0
  have hv : Bt.fourV ((encF l).1 ++ more) = (l.flatMap clB).length := by
    rw [h3, List.append_assoc]
    exact Bt.fourV_four (by omega) _
  have hl : (encF l).1.length = (l.flatMap clB).length + 4 := by rw [h3, List.length_append, Bt.four_len]; omega
  refine ⟨?_, by simp⟩
  unfold whole
  rw [hv, if_neg (by rw [List.length_append]; omega), if_neg (by omega), if_neg (by rw [List.length_append]; omega), hl]
theorem whole_short {l : List Cl} (h : (encF l).2 = 0) (h0 : l.flatMap clB ≠ []) {k : Nat} (hk : k < (encF l).1.length) : whole ((encF l).1.take k) = (0, 12) := by
  obtain ⟨h1, h2, h3⟩ := encF_ok h
  have hp := List.length_pos_iff.2 h0
  have hl : (encF l).1.length = (l.flatMap clB).length + 4 := by rw [h3, List.length_append, Bt.four_len]; omega
  have hkl : ((encF l).1.take k).length = k := by rw [List.length_take]; omega
  unfold whole
  by_cases h4 : k < 4
  · rw [if_pos (by omega)]
  · have hv : Bt.fourV ((encF l).1.take k) = (l.flatMap clB).length := by
      have e : (encF l).1.take k = Bt.four (l.flatMap clB).length ++ (l.flatMap clB).take (k - 4) := by
        rw [h3, List.take_append, Bt.four_len, List.take_of_length_le (by rw [Bt.four_len]; omega)]
      rw [e]
      exact Bt.fourV_four (by omega) _
    rw [hv, if_neg (by omega), if_neg (by omega), if_pos (by omega)]
theorem reqCl_ne {x : Req} (h : ∀ c ∈ reqCl x, okC c) : (reqCl x).flatMap clB ≠ [] := fun e => by
  unfold reqCl at e
  rw [List.flatMap_cons, ns_B] at e
  have := (List.append_eq_nil_iff.1 e).1
  simp at this
  exact put_ne _ this.1
theorem ansCl_ne {x : Ans} (h : ∀ c ∈ ansCl x, okC c) : (ansCl x).flatMap clB ≠ [] := fun e => by
  unfold ansCl at e
  rw [List.flatMap_cons, ns_B] at e
  have := (List.append_eq_nil_iff.1 e).1
  simp at this
  exact put_ne _ this.1
theorem asked_ask {x : Req} (h : (askM x).2 = 0) (more : List UInt8) : askedM ((askM x).1 ++ more) = (canQ x, (askM x).1.length, 0) := by
  have hk : ¬ (x.kind < 1 ∨ 7 < x.kind) := fun hk => by unfold askM at h; rw [if_pos hk] at h; simp at h
  have he : askM x = encF (reqCl x) := by unfold askM; rw [if_neg hk]
  rw [he] at h ⊢
  obtain ⟨h1, h2, h3⟩ := encF_ok h
  obtain ⟨w1, w2⟩ := whole_enc h (reqCl_ne h1) more
  have hb : bodyOf ((encF (reqCl x)).1 ++ more) = (reqCl x).flatMap clB := by
    unfold bodyOf
    rw [w1, w2, h3]
    rfl
  have hr := (reqP_B h1).1
  unfold askedM
  rw [w1, hb, hr]
  rw [if_neg (by simp), if_pos]
  unfold okQ
  rw [askM_can, he, w1, w2]
  exact Prod.ext rfl h
theorem told_tell {x : Ans} (h : (tellM x).2 = 0) (more : List UInt8) : toldM ((tellM x).1 ++ more) = (canA x, (tellM x).1.length, 0) := by
  have hk : ¬ (x.kind < 1 ∨ 7 < x.kind ∨ x.err < 0 ∨ 15 < x.err) := fun hk => by unfold tellM at h; rw [if_pos hk] at h; simp at h
  have he : tellM x = encF (ansCl x) := by unfold tellM; rw [if_neg hk]
  rw [he] at h ⊢
  obtain ⟨h1, h2, h3⟩ := encF_ok h
  obtain ⟨w1, w2⟩ := whole_enc h (ansCl_ne h1) more
  have hb : bodyOf ((encF (ansCl x)).1 ++ more) = (ansCl x).flatMap clB := by
    unfold bodyOf
    rw [w1, w2, h3]
    rfl
  have hr := (ansP_B h1).1
  unfold toldM
  rw [w1, hb, hr]
  rw [if_neg (by simp), if_pos]
  unfold okA
  rw [tellM_can, he, w1, w2]
  exact Prod.ext rfl h
theorem asked_short {x : Req} (h : (askM x).2 = 0) {k : Nat} (hk : k < (askM x).1.length) : (askedM ((askM x).1.take k)) = (zQ, 0, 12) := by
  have hkk : ¬ (x.kind < 1 ∨ 7 < x.kind) := fun hk => by unfold askM at h; rw [if_pos hk] at h; simp at h
  have he : askM x = encF (reqCl x) := by unfold askM; rw [if_neg hkk]
  rw [he] at h hk ⊢
  obtain ⟨h1, h2, h3⟩ := encF_ok h
  unfold askedM
  rw [whole_short h (reqCl_ne h1) hk, if_pos (by simp)]
theorem told_short {x : Ans} (h : (tellM x).2 = 0) {k : Nat} (hk : k < (tellM x).1.length) : (toldM ((tellM x).1.take k)) = (zA, 0, 12) := by
  have hkk : ¬ (x.kind < 1 ∨ 7 < x.kind ∨ x.err < 0 ∨ 15 < x.err) := fun hk => by unfold tellM at h; rw [if_pos hk] at h; simp at h
  have he : tellM x = encF (ansCl x) := by unfold tellM; rw [if_neg hkk]
  rw [he] at h hk ⊢
  obtain ⟨h1, h2, h3⟩ := encF_ok h
  unfold toldM
  rw [whole_short h (ansCl_ne h1) hk, if_pos (by simp)]
end Go.Proofs.YtodadoaindfecaaDoor.Wi
