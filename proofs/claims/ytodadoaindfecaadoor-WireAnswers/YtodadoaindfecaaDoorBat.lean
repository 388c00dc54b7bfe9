/- Batches as bytes: what may be, what is written, and that it is read again. No program. -/
import Derived.Test.YtodadoaindfecaaDoorNum
import Derived.Test.YtodadoaindfecaaDoorCrc
namespace Go.Proofs.YtodadoaindfecaaDoor.Bt
open Go.Proofs.YtodadoaindfecaaDoor
set_option linter.unusedSimpArgs false
set_option linter.unusedVariables false

structure Rec where
  off : Int
  time : Int
  keyed : Bool
  key : List UInt8
  gone : Bool
  value : List UInt8
structure Bat where
  base : Int
  fin : Int
  recs : List Rec

/-- What is wrong with a record that may be from an offset on, below another. -/
def recErr (r : Rec) (lo hi : Int) : Int :=
  if r.off < lo ∨ hi ≤ r.off ∨ (r.keyed = false ∧ r.key ≠ []) ∨ (r.gone = true ∧ r.value ≠ []) then 1
  else if 60 < r.key.length ∨ 500 < r.value.length then 4
  else if r.time < 0 ∨ 1099511627776 < r.time then 2 else 0
def recsErr : List Rec → Int → Int → Int
  | [], _, _ => 0
  | r :: rs, lo, hi => if recErr r lo hi = 0 then recsErr rs (r.off + 1) hi else recErr r lo hi
/-- What is wrong with a batch. -/
def chk (x : Bat) : Int :=
  if x.base < 0 ∨ 1099511627776 < x.fin then 2 else if x.fin ≤ x.base then 1 else if 50 < x.recs.length ∨ 50 < x.fin - x.base then 4 else recsErr x.recs x.base x.fin

def mark (r : Rec) : Nat := (if r.keyed then 1 else 0) + (if r.gone then 2 else 0)
def textB (s : List UInt8) : List UInt8 := Nu.put s.length ++ s
def recB (base : Int) (r : Rec) : List UInt8 :=
  Nu.put (r.off - base).toNat ++ Nu.put r.time.toNat ++ Nu.put (mark r) ++ (if r.keyed then textB r.key else []) ++ (if r.gone then [] else textB r.value)
def recsB (base : Int) (rs : List Rec) : List UInt8 := rs.flatMap (recB base)
def body (x : Bat) : List UInt8 :=
  Nu.put x.base.toNat ++ Nu.put (x.fin - x.base).toNat ++ Nu.put x.recs.length ++ recsB x.base x.recs
def four (n : Nat) : List UInt8 := [UInt8.ofNat (n / 16777216 % 256), UInt8.ofNat (n / 65536 % 256), UInt8.ofNat (n / 256 % 256), UInt8.ofNat (n % 256)]
def encB (x : Bat) : List UInt8 := four ((body x).length + 8) ++ four (Cr.sum (body x)) ++ body x
/-- Encode's error. -/
def encErr (x : Bat) : Int := if chk x = 0 then (if 6000 < (body x).length + 8 then 4 else 0) else chk x

/-! ### what a valid batch is like -/
theorem recErr_ok {r : Rec} {lo hi : Int} (h : recErr r lo hi = 0) : lo ≤ r.off ∧ r.off < hi ∧ (r.keyed = false → r.key = []) ∧ (r.gone = true → r.value = []) ∧ r.key.length ≤ 60 ∧ r.value.length ≤ 500 ∧ 0 ≤ r.time ∧ r.time ≤ 1099511627776 := by
  unfold recErr at h
  split at h
  · omega
  · rename_i h1
    split at h
    · omega
    · split at h
      · omega
      · rename_i h2 h3
        refine ⟨by omega, by omega, fun e => ?_, fun e => ?_, by omega, by omega, by omega, by omega⟩
        · refine Classical.byContradiction fun hn => h1 (.inr (.inr (.inl ⟨e, hn⟩)))
        · refine Classical.byContradiction fun hn => h1 (.inr (.inr (.inr ⟨e, hn⟩)))

/-! ### reading -/
def num (l : List UInt8) : Nat × List UInt8 := if (Nu.get l).2 = 0 then (0, []) else ((Nu.get l).1, l.drop (Nu.get l).2)
def text (l : List UInt8) : List UInt8 × List UInt8 := if (num l).2.length < (num l).1 then ([], []) else ((num l).2.take (num l).1, (num l).2.drop (num l).1)
theorem num_put {n : Nat} (h : n ≤ 1099511627776) (r : List UInt8) : num (Nu.put n ++ r) = (n, r) := by
  unfold num
  rw [Nu.get_put h]
  have := Nu.put_pos n
  rw [if_neg (show ¬ (Nu.put n).length = 0 by omega)]
  simp
theorem text_put {s : List UInt8} (h : s.length ≤ 1099511627776) (r : List UInt8) : text (textB s ++ r) = (s, r) := by
  unfold text textB
  rw [List.append_assoc, num_put h]
  simp; omega
/-- The record that is read, and what is left. -/
def rec1 (base : Int) (l : List UInt8) : Rec × List UInt8 :=
  let a := num l
  let b := num a.2
  let c := num b.2
  let keyed := c.1 % 2 = 1
  let gone := c.1 / 2 % 2 = 1
  let k := if keyed then text c.2 else ([], c.2)
  let v := if gone then ([], k.2) else text k.2
  ({ off := base + a.1, time := b.1, keyed := keyed, key := k.1, gone := gone, value := v.1 }, v.2)
def recs1 (base : Int) : Nat → List UInt8 → List Rec
  | 0, _ => []
  | n + 1, l => if l = [] then [] else (rec1 base l).1 :: recs1 base n (rec1 base l).2
def bat1 (l : List UInt8) : Bat :=
  let a := num l
  let b := num a.2
  let c := num b.2
  { base := a.1, fin := (a.1 : Int) + b.1, recs := recs1 a.1 c.1 c.2 }
theorem recB_pos (base : Int) (r : Rec) : 0 < (recB base r).length := by
  unfold recB
  have := Nu.put_pos (r.off - base).toNat
  simp; omega
theorem rec1_B {base : Int} {r : Rec} {lo hi : Int} (h : recErr r lo hi = 0) (hb : base ≤ lo) (hB : 0 ≤ base) (hT : hi ≤ (1099511627776 : Int)) (l : List UInt8) : rec1 base (recB base r ++ l) = (r, l) := by
  obtain ⟨h1, h2, h3, h4, h5, h6, h7, h8⟩ := recErr_ok h
  obtain ⟨off, time, keyed, key, gone, value⟩ := r
  simp only at h1 h2 h3 h4 h5 h6 h7 h8
  have e1 : (off - base).toNat ≤ 1099511627776 := by omega
  have e2 : time.toNat ≤ 1099511627776 := by omega
  have e3 : base + ((off - base).toNat : Int) = off := by omega
  have e4 : (time.toNat : Int) = time := by omega
  unfold rec1 recB
  simp only [List.append_assoc, num_put e1, num_put e2]
  cases keyed <;> cases gone
  · simp only [mark, num_put (show 0 + 0 ≤ 1099511627776 by omega), Bool.false_eq_true, if_false, List.nil_append]
    have := h3 rfl
    subst this
    simp [text_put (show value.length ≤ 1099511627776 by omega), e3, e4, -Int.ofNat_toNat]
  · have := h3 rfl
    have h' := h4 rfl
    subst this; subst h'
    simp only [mark, num_put (show 0 + 2 ≤ 1099511627776 by omega), Bool.false_eq_true, if_false, if_true, List.nil_append]
    simp [e3, e4, -Int.ofNat_toNat]
  · simp only [mark, num_put (show 1 + 0 ≤ 1099511627776 by omega), Bool.false_eq_true, if_false, if_true, List.append_assoc]
    simp [text_put (show value.length ≤ 1099511627776 by omega), text_put (show key.length ≤ 1099511627776 by omega), e3, e4, -Int.ofNat_toNat]
  · have h' := h4 rfl
    subst h'
    simp only [mark, num_put (show 1 + 2 ≤ 1099511627776 by omega), Bool.false_eq_true, if_false, if_true, List.append_assoc, List.nil_append]
    simp [text_put (show key.length ≤ 1099511627776 by omega), e3, e4, -Int.ofNat_toNat]
theorem recs1_B {base : Int} (hB : 0 ≤ base) {hi : Int} (hT : hi ≤ 1099511627776) : ∀ (rs : List Rec) (lo : Int), base ≤ lo → recsErr rs lo hi = 0 → recs1 base rs.length (recsB base rs) = rs
  | [], _, _, _ => rfl
  | r :: rs, lo, hb, h => by
    have h1 : recErr r lo hi = 0 := by
      unfold recsErr at h
      split at h
      · assumption
      · exact h
    have h2 : recsErr rs (r.off + 1) hi = 0 := by
      unfold recsErr at h
      rwa [if_pos h1] at h
    have hk := recErr_ok h1
    have e : recsB base (r :: rs) = recB base r ++ recsB base rs := by simp [recsB]
    have hne : recsB base (r :: rs) ≠ [] := by
      rw [e]
      intro h
      have := recB_pos base r
      have h' := congrArg List.length h
      simp at h'; simp [h'.1] at this
    rw [List.length_cons, recs1, if_neg hne, e, rec1_B h1 hb hB hT, recs1_B hB hT rs (r.off + 1) (by omega) h2]
theorem chk_ok {x : Bat} (h : chk x = 0) : 0 ≤ x.base ∧ x.fin ≤ 1099511627776 ∧ x.base < x.fin ∧ x.recs.length ≤ 50 ∧ x.fin - x.base ≤ 50 ∧ recsErr x.recs x.base x.fin = 0 := by
  unfold chk at h
  split at h
  · omega
  · split at h
    · omega
    · split at h
      · omega
      · exact ⟨by omega, by omega, by omega, by omega, by omega, h⟩
/-- What a valid batch's bytes tell is that batch. -/
theorem bat1_body {x : Bat} (h : chk x = 0) : bat1 (body x) = x := by
  obtain ⟨h1, h2, h3, h4, h5, h6⟩ := chk_ok h
  obtain ⟨base, fin, recs⟩ := x
  simp only at h1 h2 h3 h4 h5 h6
  unfold bat1 body
  simp only [List.append_assoc, num_put (show base.toNat ≤ 1099511627776 by omega), num_put (show (fin - base).toNat ≤ 1099511627776 by omega), num_put (show recs.length ≤ 1099511627776 by omega)]
  have e1 : (base.toNat : Int) = base := by omega
  have e2 : base + ((fin - base).toNat : Int) = fin := by omega
  rw [e1, e2, recs1_B h1 h2 recs base (Int.le_refl _) h6]

/-! ### the document's reading: whether it is bad is told beside -/
def numR (t : List UInt8 × Bool) : Nat × (List UInt8 × Bool) := ((Nu.get t.1).1, (t.1.drop (Nu.get t.1).2, t.2 || (Nu.get t.1).2 == 0))
def textR (most : Nat) (t : List UInt8 × Bool) : List UInt8 × (List UInt8 × Bool) :=
  let a := numR t
  if a.2.2 = true ∨ most < a.1 ∨ a.2.1.length < a.1 then ([], (a.2.1, true)) else (a.2.1.take a.1, (a.2.1.drop a.1, a.2.2))
theorem numR_put {n : Nat} (h : n ≤ 1099511627776) (r : List UInt8) (b : Bool) : numR (Nu.put n ++ r, b) = (n, (r, b)) := by
  unfold numR
  simp only [Nu.get_put h]
  have := Nu.put_pos n
  have h0 : ((Nu.put n).length == 0) = false := by simp; intro h'; rw [h'] at this; simp at this
  rw [h0]; simp
theorem textR_put {most : Nat} {s : List UInt8} (h : s.length ≤ 1099511627776) (hm : s.length ≤ most) (r : List UInt8) : textR most (textB s ++ r, false) = (s, (r, false)) := by
  unfold textR textB
  simp only [List.append_assoc, numR_put h]
  rw [if_neg (by simp; omega)]
  simp
def rec2 (base : Int) (t : List UInt8 × Bool) : Rec × (List UInt8 × Bool) :=
  let a := numR t
  let b := numR a.2
  let c := numR b.2
  let keyed := c.1 % 2 = 1
  let gone := c.1 / 2 = 1
  let t3 := (c.2.1, c.2.2 || decide (3 < c.1))
  let k := if keyed then textR 10000 t3 else ([], t3)
  let v := if gone then ([], k.2) else textR 10000 k.2
  ({ off := base + a.1, time := b.1, keyed := keyed, key := k.1, gone := gone, value := v.1 }, v.2)
def recs2 (base : Int) : Nat → List UInt8 × Bool → List Rec × Bool
  | 0, t => ([], t.2)
  | n + 1, t => if t.2 then ([], true) else ((rec2 base t).1 :: (recs2 base n (rec2 base t).2).1, (recs2 base n (rec2 base t).2).2)
def bat2 (l : List UInt8) : Bat × Bool :=
  let a := numR (l, false)
  let b := numR a.2
  let c := numR b.2
  ({ base := a.1, fin := (a.1 : Int) + b.1, recs := (recs2 a.1 c.1 c.2).1 }, (recs2 a.1 c.1 c.2).2)
theorem rec2_B {base : Int} {r : Rec} {lo hi : Int} (h : recErr r lo hi = 0) (hb : base ≤ lo) (hB : 0 ≤ base) (hT : hi ≤ (1099511627776 : Int)) (l : List UInt8) : rec2 base (recB base r ++ l, false) = (r, (l, false)) := by
  obtain ⟨h1, h2, h3, h4, h5, h6, h7, h8⟩ := recErr_ok h
  obtain ⟨off, time, keyed, key, gone, value⟩ := r
  simp only at h1 h2 h3 h4 h5 h6 h7 h8
  have e1 : (off - base).toNat ≤ 1099511627776 := by omega
  have e2 : time.toNat ≤ 1099511627776 := by omega
  have e3 : base + ((off - base).toNat : Int) = off := by omega
  have e4 : (time.toNat : Int) = time := by omega
  unfold rec2 recB
  simp only [List.append_assoc, numR_put e1, numR_put e2]
  cases keyed <;> cases gone
  · simp only [mark, numR_put (show 0 + 0 ≤ 1099511627776 by omega), Bool.false_eq_true, if_false, List.nil_append]
    have := h3 rfl
    subst this
    simp [textR_put (show value.length ≤ 1099511627776 by omega) (show value.length ≤ 10000 by omega), e3, e4, -Int.ofNat_toNat]
  · have := h3 rfl
    have h' := h4 rfl
    subst this; subst h'
    simp only [mark, numR_put (show 0 + 2 ≤ 1099511627776 by omega), Bool.false_eq_true, if_false, if_true, List.nil_append]
    simp [e3, e4, -Int.ofNat_toNat]
  · simp only [mark, numR_put (show 1 + 0 ≤ 1099511627776 by omega), Bool.false_eq_true, if_false, if_true, List.append_assoc]
    simp [textR_put (show value.length ≤ 1099511627776 by omega) (show value.length ≤ 10000 by omega), textR_put (show key.length ≤ 1099511627776 by omega) (show key.length ≤ 10000 by omega), e3, e4, -Int.ofNat_toNat]
  · have h' := h4 rfl
    subst h'
    simp only [mark, numR_put (show 1 + 2 ≤ 1099511627776 by omega), Bool.false_eq_true, if_false, if_true, List.append_assoc, List.nil_append]
    simp [textR_put (show key.length ≤ 1099511627776 by omega) (show key.length ≤ 10000 by omega), e3, e4, -Int.ofNat_toNat]
theorem recs2_B {base : Int} (hB : 0 ≤ base) {hi : Int} (hT : hi ≤ 1099511627776) : ∀ (rs : List Rec) (lo : Int), base ≤ lo → recsErr rs lo hi = 0 → recs2 base rs.length (recsB base rs, false) = (rs, false)
  | [], _, _, _ => rfl
  | r :: rs, lo, hb, h => by
    have h1 : recErr r lo hi = 0 := by
      unfold recsErr at h
      split at h
      · assumption
      · exact h
    have h2 : recsErr rs (r.off + 1) hi = 0 := by
      unfold recsErr at h
      rwa [if_pos h1] at h
    have hk := recErr_ok h1
    have e : recsB base (r :: rs) = recB base r ++ recsB base rs := by simp [recsB]
    rw [List.length_cons, recs2, if_neg (by simp), e, rec2_B h1 hb hB hT, recs2_B hB hT rs (r.off + 1) (by omega) h2]
theorem bat2_body {x : Bat} (h : chk x = 0) : bat2 (body x) = (x, false) := by
  obtain ⟨h1, h2, h3, h4, h5, h6⟩ := chk_ok h
  obtain ⟨base, fin, recs⟩ := x
  simp only at h1 h2 h3 h4 h5 h6
  unfold bat2 body
  simp only [List.append_assoc, numR_put (show base.toNat ≤ 1099511627776 by omega), numR_put (show (fin - base).toNat ≤ 1099511627776 by omega), numR_put (show recs.length ≤ 1099511627776 by omega)]
  have e1 : (base.toNat : Int) = base := by omega
  have e2 : base + ((fin - base).toNat : Int) = fin := by omega
  rw [e1, e2, recs2_B h1 h2 recs base (Int.le_refl _) h6]

/-! ### whole -/
def fourV (b : List UInt8) : Nat := (b.getD 0 0).toNat * 16777216 + (b.getD 1 0).toNat * 65536 + (b.getD 2 0).toNat * 256 + (b.getD 3 0).toNat
theorem four_len (n : Nat) : (four n).length = 4 := rfl
theorem fourV_four {n : Nat} (h : n < 4294967296) (r : List UInt8) : fourV (four n ++ r) = n := by
  simp [fourV, four]; omega
theorem encB_len (x : Bat) : (encB x).length = (body x).length + 8 := by simp [encB, four_len]; omega
theorem encB_drop (x : Bat) : (encB x).drop 8 = body x := by
  unfold encB
  rw [List.drop_append_of_le_length (by simp [four_len])]
  simp [four_len, four]
/-- The batch at the beginning of bytes. -/
def okAt (b : List UInt8) (x : Bat) : Prop := chk x = 0 ∧ encB x = b.take (fourV b)
theorem okAt_body {b : List UInt8} {x : Bat} (h : okAt b x) : body x = (b.take (fourV b)).drop 8 := by rw [← h.2, encB_drop]
/-- Both readings find the same batch, or none. -/
theorem both (b : List UInt8) : okAt b (bat1 ((b.take (fourV b)).drop 8)) ↔ ((bat2 ((b.take (fourV b)).drop 8)).2 = false ∧ okAt b (bat2 ((b.take (fourV b)).drop 8)).1) := by
  constructor
  · intro h
    have h1 := okAt_body h
    have h2 := bat2_body h.1
    rw [h1] at h2
    rw [h2]
    exact ⟨rfl, h⟩
  · rintro ⟨h0, h⟩
    have h1 := okAt_body h
    have h2 := bat1_body h.1
    rw [h1] at h2
    rw [h2]
    exact h
theorem both_eq {b : List UInt8} (h : okAt b (bat1 ((b.take (fourV b)).drop 8))) : bat2 ((b.take (fourV b)).drop 8) = (bat1 ((b.take (fourV b)).drop 8), false) := by
  have h1 := okAt_body h
  have h2 := bat2_body h.1
  rw [h1] at h2
  exact h2
end Go.Proofs.YtodadoaindfecaaDoor.Bt
