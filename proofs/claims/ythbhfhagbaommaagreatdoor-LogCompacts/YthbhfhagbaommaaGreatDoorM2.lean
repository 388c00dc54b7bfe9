/- Bat, BatA, GetP, Cover, Loose, Rd, PutP, PutN, RdB: texts merged. -/
import Derived.Test.YthbhfhagbaommaaGreatDoorM1
import Derived.ProofKit
import Derived.Deep.Slices
import Derived.DataReads
import Derived.Laws.BitsAllLaws
import Derived.WalkKit
import Derived.Orders
/- Batches as bytes: what may be, what is written, and that it is read again. No program. -/
namespace Go.Proofs.YthbhfhagbaommaaGreatDoor.Bt
open Go.Proofs.YthbhfhagbaommaaGreatDoor
set_option linter.unusedSimpArgs false
set_option linter.unusedVariables false

structure Rec where
  off : Int
  time : Int
  keyed : Bool
  key : List UInt8
  gone : Bool
  value : List UInt8
structure Bat where
  base : Int
  fin : Int
  recs : List Rec

/-- What is wrong with a record that may be from an offset on, below another. -/
def recErr (r : Rec) (lo hi : Int) : Int :=
  if r.off < lo ∨ hi ≤ r.off ∨ (r.keyed = false ∧ r.key ≠ []) ∨ (r.gone = true ∧ r.value ≠ []) then 1
  else if 60 < r.key.length ∨ 500 < r.value.length then 4
  else if r.time < 0 ∨ 1099511627776 < r.time then 2 else 0
def recsErr : List Rec → Int → Int → Int
  | [], _, _ => 0
  | r :: rs, lo, hi => if recErr r lo hi = 0 then recsErr rs (r.off + 1) hi else recErr r lo hi
/-- What is wrong with a batch. -/
def chk (x : Bat) : Int :=
  if x.base < 0 ∨ 1099511627776 < x.fin then 2 else if x.fin ≤ x.base then 1 else if 50 < x.recs.length ∨ 50 < x.fin - x.base then 4 else recsErr x.recs x.base x.fin

def mark (r : Rec) : Nat := (if r.keyed then 1 else 0) + (if r.gone then 2 else 0)
def textB (s : List UInt8) : List UInt8 := Nu.put s.length ++ s
def recB (base : Int) (r : Rec) : List UInt8 :=
  Nu.put (r.off - base).toNat ++ Nu.put r.time.toNat ++ Nu.put (mark r) ++ (if r.keyed then textB r.key else []) ++ (if r.gone then [] else textB r.value)
def recsB (base : Int) (rs : List Rec) : List UInt8 := rs.flatMap (recB base)
def body (x : Bat) : List UInt8 :=
  Nu.put x.base.toNat ++ Nu.put (x.fin - x.base).toNat ++ Nu.put x.recs.length ++ recsB x.base x.recs
def four (n : Nat) : List UInt8 := [UInt8.ofNat (n / 16777216 % 256), UInt8.ofNat (n / 65536 % 256), UInt8.ofNat (n / 256 % 256), UInt8.ofNat (n % 256)]
def encB (x : Bat) : List UInt8 := four ((body x).length + 8) ++ four (Cr.sum (body x)) ++ body x
/-- Encode's error. -/
def encErr (x : Bat) : Int := if chk x = 0 then (if 6000 < (body x).length + 8 then 4 else 0) else chk x

/-! ### what a valid batch is like -/
theorem recErr_ok {r : Rec} {lo hi : Int} (h : recErr r lo hi = 0) : lo ≤ r.off ∧ r.off < hi ∧ (r.keyed = false → r.key = []) ∧ (r.gone = true → r.value = []) ∧ r.key.length ≤ 60 ∧ r.value.length ≤ 500 ∧ 0 ≤ r.time ∧ r.time ≤ 1099511627776 := by
  unfold recErr at h
  split at h
  · omega
  · rename_i h1
    split at h
    · omega
    · split at h
      · omega
      · rename_i h2 h3
        refine ⟨by omega, by omega, fun e => ?_, fun e => ?_, by omega, by omega, by omega, by omega⟩
        · refine Classical.byContradiction fun hn => h1 (.inr (.inr (.inl ⟨e, hn⟩)))
        · refine Classical.byContradiction fun hn => h1 (.inr (.inr (.inr ⟨e, hn⟩)))

/-! ### reading -/
def num (l : List UInt8) : Nat × List UInt8 := if (Nu.get l).2 = 0 then (0, []) else ((Nu.get l).1, l.drop (Nu.get l).2)
def text (l : List UInt8) : List UInt8 × List UInt8 := if (num l).2.length < (num l).1 then ([], []) else ((num l).2.take (num l).1, (num l).2.drop (num l).1)
theorem num_put {n : Nat} (h : n ≤ 1099511627776) (r : List UInt8) : num (Nu.put n ++ r) = (n, r) := by
  unfold num
  rw [Nu.get_put h]
  have := Nu.put_pos n
  rw [if_neg (show ¬ (Nu.put n).length = 0 by omega)]
  simp
theorem text_put {s : List UInt8} (h : s.length ≤ 1099511627776) (r : List UInt8) : text (textB s ++ r) = (s, r) := by
  unfold text textB
  rw [List.append_assoc, num_put h]
  simp; omega
/-- The record that is read, and what is left. -/
def rec1 (base : Int) (l : List UInt8) : Rec × List UInt8 :=
  let a := num l
  let b := num a.2
  let c := num b.2
  let keyed := c.1 % 2 = 1
  let gone := c.1 / 2 % 2 = 1
  let k := if keyed then text c.2 else ([], c.2)
  let v := if gone then ([], k.2) else text k.2
  ({ off := base + a.1, time := b.1, keyed := keyed, key := k.1, gone := gone, value := v.1 }, v.2)
def recs1 (base : Int) : Nat → List UInt8 → List Rec
  | 0, _ => []
  | n + 1, l => if l = [] then [] else (rec1 base l).1 :: recs1 base n (rec1 base l).2
def bat1 (l : List UInt8) : Bat :=
  let a := num l
  let b := num a.2
  let c := num b.2
  { base := a.1, fin := (a.1 : Int) + b.1, recs := recs1 a.1 c.1 c.2 }
theorem recB_pos (base : Int) (r : Rec) : 0 < (recB base r).length := by
  unfold recB
  have := Nu.put_pos (r.off - base).toNat
  simp; omega
theorem rec1_B {base : Int} {r : Rec} {lo hi : Int} (h : recErr r lo hi = 0) (hb : base ≤ lo) (hB : 0 ≤ base) (hT : hi ≤ (1099511627776 : Int)) (l : List UInt8) : rec1 base (recB base r ++ l) = (r, l) := by
  obtain ⟨h1, h2, h3, h4, h5, h6, h7, h8⟩ := recErr_ok h
  obtain ⟨off, time, keyed, key, gone, value⟩ := r
  simp only at h1 h2 h3 h4 h5 h6 h7 h8
  have e1 : (off - base).toNat ≤ 1099511627776 := by omega
  have e2 : time.toNat ≤ 1099511627776 := by omega
  have e3 : base + ((off - base).toNat : Int) = off := by omega
  have e4 : (time.toNat : Int) = time := by omega
  unfold rec1 recB
  simp only [List.append_assoc, num_put e1, num_put e2]
  cases keyed <;> cases gone
  · simp only [mark, num_put (show 0 + 0 ≤ 1099511627776 by omega), Bool.false_eq_true, if_false, List.nil_append]
    have := h3 rfl
    subst this
    simp [text_put (show value.length ≤ 1099511627776 by omega), e3, e4, -Int.ofNat_toNat]
  · have := h3 rfl
    have h' := h4 rfl
    subst this; subst h'
    simp only [mark, num_put (show 0 + 2 ≤ 1099511627776 by omega), Bool.false_eq_true, if_false, if_true, List.nil_append]
    simp [e3, e4, -Int.ofNat_toNat]
  · simp only [mark, num_put (show 1 + 0 ≤ 1099511627776 by omega), Bool.false_eq_true, if_false, if_true, List.append_assoc]
    simp [text_put (show value.length ≤ 1099511627776 by omega), text_put (show key.length ≤ 1099511627776 by omega), e3, e4, -Int.ofNat_toNat]
  · have h' := h4 rfl
    subst h'
    simp only [mark, num_put (show 1 + 2 ≤ 1099511627776 by omega), Bool.false_eq_true, if_false, if_true, List.append_assoc, List.nil_append]
    simp [text_put (show key.length ≤ 1099511627776 by omega), e3, e4, -Int.ofNat_toNat]
theorem recs1_B {base : Int} (hB : 0 ≤ base) {hi : Int} (hT : hi ≤ 1099511627776) : ∀ (rs : List Rec) (lo : Int), base ≤ lo → recsErr rs lo hi = 0 → recs1 base rs.length (recsB base rs) = rs
  | [], _, _, _ => rfl
  | r :: rs, lo, hb, h => by
    have h1 : recErr r lo hi = 0 := by
      unfold recsErr at h
      split at h
      · assumption
      · exact h
    have h2 : recsErr rs (r.off + 1) hi = 0 := by
      unfold recsErr at h
      rwa [if_pos h1] at h
    have hk := recErr_ok h1
    have e : recsB base (r :: rs) = recB base r ++ recsB base rs := by simp [recsB]
    have hne : recsB base (r :: rs) ≠ [] := by
      rw [e]
      intro h
      have := recB_pos base r
      have h' := congrArg List.length h
      simp at h'; simp [h'.1] at this
    rw [List.length_cons, recs1, if_neg hne, e, rec1_B h1 hb hB hT, recs1_B hB hT rs (r.off + 1) (by omega) h2]
theorem chk_ok {x : Bat} (h : chk x = 0) : 0 ≤ x.base ∧ x.fin ≤ 1099511627776 ∧ x.base < x.fin ∧ x.recs.length ≤ 50 ∧ x.fin - x.base ≤ 50 ∧ recsErr x.recs x.base x.fin = 0 := by
  unfold chk at h
  split at h
  · omega
  · split at h
    · omega
    · split at h
      · omega
      · exact ⟨by omega, by omega, by omega, by omega, by omega, h⟩
/-- What a valid batch's bytes tell is that batch. -/
theorem bat1_body {x : Bat} (h : chk x = 0) : bat1 (body x) = x := by
  obtain ⟨h1, h2, h3, h4, h5, h6⟩ := chk_ok h
  obtain ⟨base, fin, recs⟩ := x
  simp only at h1 h2 h3 h4 h5 h6
  unfold bat1 body
  simp only [List.append_assoc, num_put (show base.toNat ≤ 1099511627776 by omega), num_put (show (fin - base).toNat ≤ 1099511627776 by omega), num_put (show recs.length ≤ 1099511627776 by omega)]
  have e1 : (base.toNat : Int) = base := by omega
  have e2 : base + ((fin - base).toNat : Int) = fin := by omega
  rw [e1, e2, recs1_B h1 h2 recs base (Int.le_refl _) h6]

/-! ### the document's reading: whether it is bad is told beside -/
def numR (t : List UInt8 × Bool) : Nat × (List UInt8 × Bool) := ((Nu.get t.1).1, (t.1.drop (Nu.get t.1).2, t.2 || (Nu.get t.1).2 == 0))
def textR (most : Nat) (t : List UInt8 × Bool) : List UInt8 × (List UInt8 × Bool) :=
  let a := numR t
  if a.2.2 = true ∨ most < a.1 ∨ a.2.1.length < a.1 then ([], (a.2.1, true)) else (a.2.1.take a.1, (a.2.1.drop a.1, a.2.2))
theorem numR_put {n : Nat} (h : n ≤ 1099511627776) (r : List UInt8) (b : Bool) : numR (Nu.put n ++ r, b) = (n, (r, b)) := by
  unfold numR
  simp only [Nu.get_put h]
  have := Nu.put_pos n
  have h0 : ((Nu.put n).length == 0) = false := by simp; intro h'; rw [h'] at this; simp at this
  rw [h0]; simp
theorem textR_put {most : Nat} {s : List UInt8} (h : s.length ≤ 1099511627776) (hm : s.length ≤ most) (r : List UInt8) : textR most (textB s ++ r, false) = (s, (r, false)) := by
  unfold textR textB
  simp only [List.append_assoc, numR_put h]
  rw [if_neg (by simp; omega)]
  simp
def rec2 (base : Int) (t : List UInt8 × Bool) : Rec × (List UInt8 × Bool) :=
  let a := numR t
  let b := numR a.2
  let c := numR b.2
  let keyed := c.1 % 2 = 1
  let gone := c.1 / 2 = 1
  let t3 := (c.2.1, c.2.2 || decide (3 < c.1))
  let k := if keyed then textR 10000 t3 else ([], t3)
  let v := if gone then ([], k.2) else textR 10000 k.2
  ({ off := base + a.1, time := b.1, keyed := keyed, key := k.1, gone := gone, value := v.1 }, v.2)
def recs2 (base : Int) : Nat → List UInt8 × Bool → List Rec × Bool
  | 0, t => ([], t.2)
  | n + 1, t => if t.2 then ([], true) else ((rec2 base t).1 :: (recs2 base n (rec2 base t).2).1, (recs2 base n (rec2 base t).2).2)
def bat2 (l : List UInt8) : Bat × Bool :=
  let a := numR (l, false)
  let b := numR a.2
  let c := numR b.2
  ({ base := a.1, fin := (a.1 : Int) + b.1, recs := (recs2 a.1 c.1 c.2).1 }, (recs2 a.1 c.1 c.2).2)
theorem rec2_B {base : Int} {r : Rec} {lo hi : Int} (h : recErr r lo hi = 0) (hb : base ≤ lo) (hB : 0 ≤ base) (hT : hi ≤ (1099511627776 : Int)) (l : List UInt8) : rec2 base (recB base r ++ l, false) = (r, (l, false)) := by
  obtain ⟨h1, h2, h3, h4, h5, h6, h7, h8⟩ := recErr_ok h
  obtain ⟨off, time, keyed, key, gone, value⟩ := r
  simp only at h1 h2 h3 h4 h5 h6 h7 h8
  have e1 : (off - base).toNat ≤ 1099511627776 := by omega
  have e2 : time.toNat ≤ 1099511627776 := by omega
  have e3 : base + ((off - base).toNat : Int) = off := by omega
  have e4 : (time.toNat : Int) = time := by omega
  unfold rec2 recB
  simp only [List.append_assoc, numR_put e1, numR_put e2]
  cases keyed <;> cases gone
  · simp only [mark, numR_put (show 0 + 0 ≤ 1099511627776 by omega), Bool.false_eq_true, if_false, List.nil_append]
    have := h3 rfl
    subst this
    simp [textR_put (show value.length ≤ 1099511627776 by omega) (show value.length ≤ 10000 by omega), e3, e4, -Int.ofNat_toNat]
  · have := h3 rfl
    have h' := h4 rfl
    subst this; subst h'
    simp only [mark, numR_put (show 0 + 2 ≤ 1099511627776 by omega), Bool.false_eq_true, if_false, if_true, List.nil_append]
    simp [e3, e4, -Int.ofNat_toNat]
  · simp only [mark, numR_put (show 1 + 0 ≤ 1099511627776 by omega), Bool.false_eq_true, if_false, if_true, List.append_assoc]
    simp [textR_put (show value.length ≤ 1099511627776 by omega) (show value.length ≤ 10000 by omega), textR_put (show key.length ≤ 1099511627776 by omega) (show key.length ≤ 10000 by omega), e3, e4, -Int.ofNat_toNat]
  · have h' := h4 rfl
    subst h'
    simp only [mark, numR_put (show 1 + 2 ≤ 1099511627776 by omega), Bool.false_eq_true, if_false, if_true, List.append_assoc, List.nil_append]
    simp [textR_put (show key.length ≤ 1099511627776 by omega) (show key.length ≤ 10000 by omega), e3, e4, -Int.ofNat_toNat]
theorem recs2_B {base : Int} (hB : 0 ≤ base) {hi : Int} (hT : hi ≤ 1099511627776) : ∀ (rs : List Rec) (lo : Int), base ≤ lo → recsErr rs lo hi = 0 → recs2 base rs.length (recsB base rs, false) = (rs, false)
  | [], _, _, _ => rfl
  | r :: rs, lo, hb, h => by
    have h1 : recErr r lo hi = 0 := by
      unfold recsErr at h
      split at h
      · assumption
      · exact h
    have h2 : recsErr rs (r.off + 1) hi = 0 := by
      unfold recsErr at h
      rwa [if_pos h1] at h
    have hk := recErr_ok h1
    have e : recsB base (r :: rs) = recB base r ++ recsB base rs := by simp [recsB]
    rw [List.length_cons, recs2, if_neg (by simp), e, rec2_B h1 hb hB hT, recs2_B hB hT rs (r.off + 1) (by omega) h2]
theorem bat2_body {x : Bat} (h : chk x = 0) : bat2 (body x) = (x, false) := by
  obtain ⟨h1, h2, h3, h4, h5, h6⟩ := chk_ok h
  obtain ⟨base, fin, recs⟩ := x
  simp only at h1 h2 h3 h4 h5 h6
  unfold bat2 body
  simp only [List.append_assoc, numR_put (show base.toNat ≤ 1099511627776 by omega), numR_put (show (fin - base).toNat ≤ 1099511627776 by omega), numR_put (show recs.length ≤ 1099511627776 by omega)]
  have e1 : (base.toNat : Int) = base := by omega
  have e2 : base + ((fin - base).toNat : Int) = fin := by omega
  rw [e1, e2, recs2_B h1 h2 recs base (Int.le_refl _) h6]

/-! ### whole -/
def fourV (b : List UInt8) : Nat := (b.getD 0 0).toNat * 16777216 + (b.getD 1 0).toNat * 65536 + (b.getD 2 0).toNat * 256 + (b.getD 3 0).toNat
theorem four_len (n : Nat) : (four n).length = 4 := rfl
theorem fourV_four {n : Nat} (h : n < 4294967296) (r : List UInt8) : fourV (four n ++ r) = n := by
  simp [fourV, four]; omega
theorem encB_len (x : Bat) : (encB x).length = (body x).length + 8 := by simp [encB, four_len]; omega
theorem encB_drop (x : Bat) : (encB x).drop 8 = body x := by
  unfold encB
  rw [List.drop_append_of_le_length (by simp [four_len])]
  simp [four_len, four]
/-- The batch at the beginning of bytes. -/
def okAt (b : List UInt8) (x : Bat) : Prop := chk x = 0 ∧ encB x = b.take (fourV b)
theorem okAt_body {b : List UInt8} {x : Bat} (h : okAt b x) : body x = (b.take (fourV b)).drop 8 := by rw [← h.2, encB_drop]
/-- Both readings find the same batch, or none. -/
theorem both (b : List UInt8) : okAt b (bat1 ((b.take (fourV b)).drop 8)) ↔ ((bat2 ((b.take (fourV b)).drop 8)).2 = false ∧ okAt b (bat2 ((b.take (fourV b)).drop 8)).1) := by
  constructor
  · intro h
    have h1 := okAt_body h
    have h2 := bat2_body h.1
    rw [h1] at h2
    rw [h2]
    exact ⟨rfl, h⟩
  · rintro ⟨h0, h⟩
    have h1 := okAt_body h
    have h2 := bat1_body h.1
    rw [h1] at h2
    rw [h2]
    exact h
theorem both_eq {b : List UInt8} (h : okAt b (bat1 ((b.take (fourV b)).drop 8))) : bat2 ((b.take (fourV b)).drop 8) = (bat1 ((b.take (fourV b)).drop 8), false) := by
  have h1 := okAt_body h
  have h2 := bat2_body h.1
  rw [h1] at h2
  exact h2
end Go.Proofs.YthbhfhagbaommaaGreatDoor.Bt

/- Batches and records in memory: rows of records; how such an argument is opened; how a record is loaded. -/
namespace Go.Proofs.YthbhfhagbaommaaGreatDoor
open Go.RowKit Go.Maps
set_option linter.unusedSimpArgs false
set_option linter.unusedVariables false
set_option maxRecDepth 100000

/-- A text's value. -/
def strV (s : List UInt8) : Value := .string ⟨s.toArray⟩
/-- A record's cells. -/
def recC (r : Bt.Rec) : List Value := [.int .i64 r.off, .int .i64 r.time, .bool r.keyed, strV r.key, .bool r.gone, strV r.value]
abbrev recV (r : Bt.Rec) : Value := .agg #[.int .i64 r.off, .int .i64 r.time, .bool r.keyed, strV r.key, .bool r.gone, strV r.value]
structure RecOk (r : Bt.Rec) : Prop where
  off1 : -9223372036854775808 ≤ r.off
  off2 : r.off ≤ 9223372036854775807
  time1 : -9223372036854775808 ≤ r.time
  time2 : r.time ≤ 9223372036854775807
  key : r.key.length ≤ 9223372036854775807
  value : r.value.length ≤ 9223372036854775807
/-- A slice of records. -/
def RecsAt (w : World) (v : Value) (rs : List Bt.Rec) : Prop :=
  ∃ a c, v = .slice a rs.length c ∧ rs.length ≤ c ∧ c ≤ maxLen ∧ (a = none → c = 0) ∧ (∀ j (h : j < rs.length), RecOk rs[j] ∧ ∃ p, a = some p ∧ ∀ i u, (recC rs[j])[i]? = some u → w.cell? ((p.add (j * 6)).add i) = some u)
theorem RecsAt.kept {w w' : World} {v : Value} {rs : List Bt.Rec} {S : List Nat} (h : RecsAt w v rs) (ht : Turn S w w') (hn : ∀ k ∈ v.ownBlock, k < w.heap.size → k ∉ S) : RecsAt w' v rs := by
  obtain ⟨a, c, rfl, h1, h2, h3, h4⟩ := h
  refine ⟨a, c, rfl, h1, h2, h3, fun j hj => ?_⟩
  obtain ⟨h5, p, rfl, hc⟩ := h4 j hj
  refine ⟨h5, p, rfl, fun i u hu => ?_⟩
  have hlt := World.block_lt_of_cell? w _ (hc i u hu)
  rw [World.cell?_of_block (w := w) (ht.block _ hlt (by rw [add_block, add_block] at hlt ⊢; exact hn _ (by simp [Value.ownBlock]) hlt)), hc i u hu]
theorem RecsAt.kept' {w w' : World} {v : Value} {rs : List Bt.Rec} {S : List Nat} (h : RecsAt w v rs) (ht : Turn S w w') (hn : rs ≠ [] → ∀ k ∈ v.ownBlock, k ∉ S) : RecsAt w' v rs := by
  by_cases h0 : rs = []
  · subst h0
    obtain ⟨a, c, e, h1, h2, h3, h4⟩ := h
    exact ⟨a, c, e, h1, h2, h3, fun j hj => absurd hj (Nat.not_lt_zero _)⟩
  · exact h.kept ht (fun k hk _ => hn h0 k hk)
theorem RecsAt.lt {w : World} {v : Value} {rs : List Bt.Rec} (h : RecsAt w v rs) (h0 : rs ≠ []) : ∀ k ∈ v.ownBlock, k < w.heap.size := by
  obtain ⟨a, c, rfl, h1, h2, h3, h4⟩ := h
  have hl : 0 < rs.length := List.length_pos_iff.2 h0
  obtain ⟨-, p, rfl, hc⟩ := h4 0 hl
  intro k hk
  simp [Value.ownBlock] at hk
  subst hk
  have := World.block_lt_of_cell? w _ (hc 0 _ rfl)
  rwa [add_block, add_block] at this
theorem RecsAt.still {w w' : World} {v : Value} {rs : List Bt.Rec} (h : RecsAt w v rs) (ht : Turn [] w w') : RecsAt w' v rs := h.kept ht (by simp)
theorem RecsAt.form {w : World} {v : Value} {rs : List Bt.Rec} (h : RecsAt w v rs) : ∃ a c, v = .slice a rs.length c ∧ rs.length ≤ c ∧ c ≤ maxLen ∧ (a = none → c = 0) ∧ ∀ j (hj : j < rs.length), ∃ p, a = some p := by
  obtain ⟨a, c, rfl, h1, h2, h3, h4⟩ := h
  exact ⟨a, c, rfl, h1, h2, h3, fun j hj => ⟨_, (h4 j hj).2.choose_spec.1⟩⟩
theorem RecsAt.ok {w : World} {v : Value} {rs : List Bt.Rec} (h : RecsAt w v rs) {j : Nat} (hj : j < rs.length) : RecOk rs[j] := by
  obtain ⟨a, c, rfl, h1, h2, h3, h4⟩ := h
  exact (h4 j hj).1

theorem size98 (w : World) : (sizeOf 42).run Tryz.prog w = .ok 6 w := by kernel_rfl
theorem agg98 (w : World) : (isAgg 42).run Tryz.prog w = .ok true w := by kernel_rfl
theorem load_rec {w : World} {a : Addr} {r : Bt.Rec} (h : ∀ i u, (recC r)[i]? = some u → w.cell? (a.add i) = some u) : (loadVar 42 a).run Tryz.prog w = .ok (recV r) w := by
  have c0 := h 0 _ rfl
  have c1 := h 1 _ rfl
  have c2 := h 2 _ rfl
  have c3 := h 3 _ rfl
  have c4 := h 4 _ rfl
  have c5 := h 5 _ rfl
  simp [loadVar, agg98, size98, Result.andThen, loadCells, loadCellsFrom, c0, c1, c2, c3, c4, c5]
theorem RecsAt.load {w : World} {p : Addr} {c : Nat} {rs : List Bt.Rec} (h : RecsAt w (.slice (some p) rs.length c) rs) {j : Nat} (hj : j < rs.length) : (loadVar 42 (p.add (j * 6))).run Tryz.prog w = .ok (recV rs[j]) w := by
  obtain ⟨a, c', e, h1, h2, h3, h4⟩ := h
  simp only [Value.slice.injEq] at e
  obtain ⟨rfl, -, rfl⟩ := e
  obtain ⟨-, q, hq, hc⟩ := h4 j hj
  cases hq
  exact load_rec hc

theorem RecsAt.six {w : World} {p : Addr} {c : Nat} {rs : List Bt.Rec} (h : RecsAt w (.slice (some p) rs.length c) rs) {j : Nat} (hj : j < rs.length) :
    w.cell? (p.add (j * 6)) = some (.int .i64 rs[j].off) ∧ w.cell? ⟨(p.add (j * 6)).block, (p.add (j * 6)).off + 1, none⟩ = some (.int .i64 rs[j].time) ∧ w.cell? ⟨(p.add (j * 6)).block, (p.add (j * 6)).off + 2, none⟩ = some (.bool rs[j].keyed) ∧
    w.cell? ⟨(p.add (j * 6)).block, (p.add (j * 6)).off + 3, none⟩ = some (.string ⟨rs[j].key.toArray⟩) ∧ w.cell? ⟨(p.add (j * 6)).block, (p.add (j * 6)).off + 4, none⟩ = some (.bool rs[j].gone) ∧ w.cell? ⟨(p.add (j * 6)).block, (p.add (j * 6)).off + 5, none⟩ = some (.string ⟨rs[j].value.toArray⟩) := by
  obtain ⟨a, c', e, h1, h2, h3, h4⟩ := h
  simp only [Value.slice.injEq] at e
  obtain ⟨rfl, -, rfl⟩ := e
  obtain ⟨-, q, hq, hc⟩ := h4 j hj
  cases hq
  refine ⟨?_, hc 1 _ rfl, hc 2 _ rfl, hc 3 _ rfl, hc 4 _ rfl, hc 5 _ rfl⟩
  have := hc 0 _ rfl
  rwa [add_zero] at this

/-- A batch's value. -/
def BatAt (w : World) (v : Value) (x : Bt.Bat) : Prop :=
  ∃ sv, v = .agg #[.int .i64 x.base, .int .i64 x.fin, sv] ∧ RecsAt w sv x.recs ∧ -9223372036854775808 ≤ x.base ∧ x.base ≤ 9223372036854775807 ∧ -9223372036854775808 ≤ x.fin ∧ x.fin ≤ 9223372036854775807

/-! ### how such an argument is opened -/
theorem wf_i64 {n : Int} (h : (Lit.int .i64 n).wf = true) : -9223372036854775808 ≤ n ∧ n ≤ 9223372036854775807 := by
  simp only [Lit.wf, IntKind.min, IntKind.max, IntKind.signed, IntKind.bits, Bool.and_eq_true, decide_eq_true_eq] at h
  have h1 := h.1
  have h2 := h.2
  simp at h1 h2
  exact ⟨h1, by omega⟩
theorem fields98 : Tryz.prog.underlying 42 = some (.struct (((Tryz.prog.underlying 42).bind fun d => match d with | .struct fs => some fs | _ => none).getD #[])) := by kernel_rfl
theorem fields98_at : ((((Tryz.prog.underlying 42).bind fun d => match d with | .struct fs => some fs | _ => none).getD #[]).toList.map fun f => (f.type, f.offset, Tryz.prog.cellsOf f.type)) = [(3, 0, 1), (3, 1, 1), (4, 2, 1), (9, 3, 1), (4, 4, 1), (9, 5, 1)] := by kernel_rfl
theorem cells98 : Tryz.prog.cellsOf 42 = 6 := by kernel_rfl
variable {H : Type} {enc : TypeId × Value → H} {base : Nat} {spare : Nat → Bool} {held : Bool}
theorem field_at {fs : Array Field} {l : List (Nat × Nat × Nat)} (h : (fs.toList.map fun f => (f.type, f.offset, Tryz.prog.cellsOf f.type)) = l) {i t o k : Nat} (hi : l[i]? = some (t, o, k)) : ∃ f : Field, fs[i]? = some f ∧ f.type = t ∧ f.offset = o ∧ Tryz.prog.cellsOf f.type = k := by
  rw [← h, List.getElem?_map] at hi
  cases hf : fs.toList[i]? with
  | none => rw [hf] at hi; cases hi
  | some f =>
    rw [hf] at hi
    simp only [Option.map_some, Option.some.injEq, Prod.mk.injEq] at hi
    exact ⟨f, by simpa using hf, hi.1, hi.2.1, hi.2.2⟩
theorem list6 {α : Type} {cs : List α} (h : cs.length = 6) : ∃ c0 c1 c2 c3 c4 c5, cs = [c0, c1, c2, c3, c4, c5] := by
  match cs, h with
  | [c0, c1, c2, c3, c4, c5], _ => exact ⟨c0, c1, c2, c3, c4, c5, rfl⟩
theorem open_rec {w : World} {n : Nat} {cs : List Value} {x : DataW H × List MemPlace} (h : DataW.trod enc Tryz.prog w base spare held n 42 cs = some x) : ∃ r, cs = recC r ∧ RecOk r := by
  obtain ⟨xs, m, -, -, hlen, hl, hf⟩ := DataW.trod_struct fields98 h
  rw [cells98] at hlen
  have hfs := fields98_at
  generalize (((Tryz.prog.underlying 42).bind fun d => match d with | .struct fs => some fs | _ => none).getD #[]) = fs at *
  have hxs : xs.length = 6 := by
    rw [hl]
    have := congrArg List.length hfs
    simpa using this
  obtain ⟨c0, c1, c2, c3, c4, c5, rfl⟩ := list6 hlen
  obtain ⟨y0, y1, y2, y3, y4, y5, rfl⟩ := list6 hxs
  have one : ∀ (i t o : Nat) (y : DataW H × List MemPlace), [(3, 0, 1), (3, 1, 1), (4, 2, 1), (9, 3, 1), (4, 4, 1), (9, 5, 1)][i]? = some (t, o, 1) → [y0, y1, y2, y3, y4, y5][i]? = some y →
      DataW.trod enc Tryz.prog w base spare held m t (([c0, c1, c2, c3, c4, c5].drop o).take 1) = some y := by
    intro i t o y hi hy
    obtain ⟨f, h1, h2, h3, h4⟩ := field_at hfs hi
    have := hf i f h1
    rw [h4, h2, h3, hy] at this
    exact this
  obtain ⟨n0, e0, -, w0⟩ := DataW.trod_int Tryz.underlying3 (one 0 _ _ y0 rfl rfl)
  obtain ⟨n1, e1, -, w1⟩ := DataW.trod_int Tryz.underlying3 (one 1 _ _ y1 rfl rfl)
  obtain ⟨b2, e2, -⟩ := DataW.trod_bool Tryz.underlying4 (one 2 _ _ y2 rfl rfl)
  obtain ⟨s3, e3, -, w3⟩ := DataW.trod_string Tryz.underlying9 (one 3 _ _ y3 rfl rfl)
  obtain ⟨b4, e4, -⟩ := DataW.trod_bool Tryz.underlying4 (one 4 _ _ y4 rfl rfl)
  obtain ⟨s5, e5, -, w5⟩ := DataW.trod_string Tryz.underlying9 (one 5 _ _ y5 rfl rfl)
  simp only [List.drop_succ_cons, List.drop_zero, List.take_succ_cons, List.take_zero, List.cons.injEq, and_true] at e0 e1 e2 e3 e4 e5
  subst e0; subst e1; subst e2; subst e3; subst e4; subst e5
  have hm : maxLen = 9223372036854775807 := by simp [maxLen]
  rw [hm] at w3 w5
  refine ⟨⟨n0, n1, b2, s3.data.toList, b4, s5.data.toList⟩, rfl, (wf_i64 w0).1, (wf_i64 w0).2, (wf_i64 w1).1, (wf_i64 w1).2, by simpa using w3, by simpa using w5⟩
/-- A slice of records that came in. -/
theorem open_recs {w : World} {n : Nat} {v : Value} {x : DataW H × List MemPlace} (h : DataW.trod enc Tryz.prog w base spare held n 33 [v] = some x) : ∃ rs, RecsAt w v rs := by
  rcases Deep.open_slice Tryz.underlying33 h with ⟨hcs, -⟩ | ⟨a, len, cap, m, k, D, Pl, hcs, -, h1, h2, h3, -, h4⟩
  · simp only [List.cons.injEq, and_true] at hcs
    subst hcs
    exact ⟨[], none, 0, rfl, Nat.le_refl _, Nat.zero_le _, fun _ => rfl, fun j hj => absurd hj (Nat.not_lt_zero _)⟩
  · simp only [List.cons.injEq, and_true] at hcs
    subst hcs
    have hlm : len ≤ m := by rw [h3]; split <;> omega
    rw [cells98] at h4
    have hr : ∀ i, i < len → ∃ r, RecOk r ∧ ∀ j u, (recC r)[j]? = some u → w.cell? ((a.add (i * 6)).add j) = some u := by
      intro i hi
      obtain ⟨cs', g1, g2⟩ := h4 i (by omega)
      obtain ⟨r, rfl, hok⟩ := open_rec g2
      obtain ⟨-, -, g3⟩ := World.cells?_some g1
      refine ⟨r, hok, fun j u hu => ?_⟩
      have hj : j < 6 := by have := (List.getElem?_eq_some_iff.1 hu).1; simpa [recC] using this
      rw [g3 j hj]; exact hu
    let rs : List Bt.Rec := (List.range len).attach.map fun i => (hr i.1 (List.mem_range.1 i.2)).choose
    have hl : rs.length = len := by simp [rs]
    refine ⟨rs, some a, cap, by rw [hl], by rw [hl]; exact h1, h2, by simp, fun j hj => ?_⟩
    have hj' : j < len := by omega
    have e : rs[j] = (hr j hj').choose := by simp [rs]
    rw [e]
    exact ⟨(hr j hj').choose_spec.1, a, rfl, (hr j hj').choose_spec.2⟩

theorem fields53 : Tryz.prog.underlying 70 = some (.struct (((Tryz.prog.underlying 70).bind fun d => match d with | .struct fs => some fs | _ => none).getD #[])) := by kernel_rfl
theorem fields53_at : ((((Tryz.prog.underlying 70).bind fun d => match d with | .struct fs => some fs | _ => none).getD #[]).toList.map fun f => (f.type, f.offset, Tryz.prog.cellsOf f.type)) = [(3, 0, 1), (3, 1, 1), (33, 2, 1)] := by kernel_rfl
theorem cells53 : Tryz.prog.cellsOf 70 = 3 := by kernel_rfl
theorem parts53 : ∃ fs : Array Field, Tryz.prog.underlying 70 = some (.struct fs) ∧ (fs.toList.map fun f => (f.type, f.offset, Tryz.prog.cellsOf f.type)) = [(3, 0, 1), (3, 1, 1), (33, 2, 1)] := ⟨_, fields53, fields53_at⟩
/-- A batch that came in. -/
theorem open_bat {w : World} {r : Reach} {b0 : Nat} {v : Value} {d : DataW H} {ps : List MemPlace} (hv : Value.okWide Tryz.prog w r b0 70 v) (h : DataW.Trod enc Tryz.prog w base spare held 70 v d ps) : ∃ x, BatAt w v x := by
  obtain ⟨fs, hfd, hfs⟩ := parts53
  obtain ⟨cs, hcs0, hsz⟩ := @WideShapes.okWide_struct Tryz.prog w r b0 70 v fs hfd hv
  subst hcs0
  obtain ⟨n, h⟩ := h
  obtain ⟨xs, m, -, -, hlen, hl, hf⟩ := DataW.trod_struct hfd h
  rw [cells53] at hlen
  have hxs : xs.length = 3 := by
    rw [hl]
    have := congrArg List.length hfs
    simpa using this
  simp only [Value.cells] at hlen hf
  obtain ⟨c0, c1, c2, hcs⟩ : ∃ c0 c1 c2, cs.toList = [c0, c1, c2] := by
    match hc : cs.toList, hlen with
    | [c0, c1, c2], _ => exact ⟨c0, c1, c2, rfl⟩
  obtain ⟨y0, y1, y2, rfl⟩ : ∃ y0 y1 y2, xs = [y0, y1, y2] := by
    match xs, hxs with
    | [y0, y1, y2], _ => exact ⟨y0, y1, y2, rfl⟩
  rw [hcs] at hf
  have one : ∀ (i t o : Nat) (y : DataW H × List MemPlace), [(3, 0, 1), (3, 1, 1), (33, 2, 1)][i]? = some (t, o, 1) → [y0, y1, y2][i]? = some y →
      DataW.trod enc Tryz.prog w base spare held m t (([c0, c1, c2].drop o).take 1) = some y := by
    intro i t o y hi hy
    obtain ⟨f, h1, h2, h3, h4⟩ := field_at hfs hi
    have := hf i f h1
    rw [h4, h2, h3, hy] at this
    exact this
  obtain ⟨n0, e0, -, w0⟩ := DataW.trod_int Tryz.underlying3 (one 0 _ _ y0 rfl rfl)
  obtain ⟨n1, e1, -, w1⟩ := DataW.trod_int Tryz.underlying3 (one 1 _ _ y1 rfl rfl)
  have h2 := one 2 _ _ y2 rfl rfl
  simp only [List.drop_succ_cons, List.drop_zero, List.take_succ_cons, List.take_zero, List.cons.injEq, and_true] at e0 e1 h2
  subst e0; subst e1
  obtain ⟨rs, hrs⟩ := open_recs h2
  refine ⟨⟨n0, n1, rs⟩, c2, ?_, hrs, (wf_i64 w0).1, (wf_i64 w0).2, (wf_i64 w1).1, (wf_i64 w1).2⟩
  rw [← hcs]
end Go.Proofs.YthbhfhagbaommaaGreatDoor

/- record.Get: the number at the beginning of bytes. -/
namespace Go.Proofs.YthbhfhagbaommaaGreatDoor
open Go.RowKit Go.Maps
set_option maxRecDepth 100000
set_option linter.unusedSimpArgs false
set_option linter.unusedVariables false

theorem ret_two {a b c d : Int} (h : a = b) (k : c = d) : Ending.returned (.tuple #[.int .i64 a, .int .i64 c]) = .returned (.tuple #[.int .i64 b, .int .i64 d]) := by rw [h, k]

theorem i64_or_nat (a b : Nat) (ha : a < 9223372036854775808) (hb : b < 9223372036854775808) (hab : a ||| b < 9223372036854775808) : bits .or .i64 (a : Int) (b : Int) = ((a ||| b : Nat) : Int) := by
  show IntKind.i64.wrap ((BitVec.ofInt 64 (a : Int) ||| BitVec.ofInt 64 (b : Int)).toNat : Int) = _
  rw [BitVec.toNat_or, ofInt_u64 a (by omega), ofInt_u64 b (by omega), IntWalk.i64_left, IntWalk.wrap64_in _ (by omega)]
theorem pow_7 (k : Nat) : (2 : Nat) ^ (7 * k) = 128 ^ k := by rw [Nat.pow_mul]
theorem or_val (bs : List UInt8) (k : Nat) (hk : k < bs.length) (h6 : k < 6) :
    bits .or .i64 (Nu.val (bs.take k) : Int) (wrap64 (wrap64 (bits .and .u8 (bs[k].toNat : Int) 127) * 2 ^ (7 * k))) = ((Nu.val (bs.take (k + 1)) : Nat) : Int) := by
  have hb := bs[k].toNat_lt
  have h1 := u8_and_nat bs[k].toNat 127 (by omega) (by omega)
  rw [nat_mask7] at h1
  have h1' : bits .and .u8 (bs[k].toNat : Int) 127 = ((bs[k].toNat % 128 : Nat) : Int) := h1
  rw [h1', take_snoc bs k hk, Nu.val_snoc]
  have hl : (bs.take k).length = k := by simp; omega
  have hv := Nu.val_lt (bs.take k)
  rw [hl] at hv ⊢
  have hp : 128 ^ k ≤ 128 ^ 5 := Nat.pow_le_pow_right (by omega) (by omega)
  have hp' : 128 ^ k ≤ 34359738368 := hp
  generalize hq : bs[k].toNat % 128 = q at *
  have hq1 : q < 128 := by omega
  have hm : q * 128 ^ k ≤ 127 * 34359738368 := Nat.mul_le_mul (by omega) hp'
  rw [show ((2 : Int) ^ (7 * k)) = ((128 ^ k : Nat) : Int) by rw [← pow_7]; simp]
  generalize Nu.val (bs.take k) = x at *
  rw [IntWalk.wrap64_in (q : Int) (by omega), show ((q : Int) * ((128 ^ k : Nat) : Int)) = ((q * 128 ^ k : Nat) : Int) by simp]
  have hj : q * 128 ^ k ||| x = q * 128 ^ k + x := nat_join (7 * k) _ _ (by rw [pow_7]; exact Nat.mul_mod_left _ _) (by rw [pow_7]; exact hv)
  generalize 128 ^ k = r at *
  generalize q * r = y at *
  rw [IntWalk.wrap64_in _ (by omega), i64_or_nat _ _ (by omega) (by omega) (by rw [Nat.or_comm, hj]; omega), Nat.or_comm, hj]
  omega
theorem drop_cons (bs : List UInt8) (k : Nat) (h : k < bs.length) : bs.drop k = bs[k] :: bs.drop (k + 1) := List.drop_eq_getElem_cons h

set_option maxHeartbeats 1000000 in
theorem get_any (w : World) (v : Value) (bs : List UInt8) (hx : BytesAt w v bs) (hl : bs.length ≤ 9223372036854775807) :
    Calls Tryz.prog 205 #[v] w fun e w' => e = .returned (.tuple #[.int .i64 (Nu.get bs).1, .int .i64 (Nu.get bs).2]) ∧ w = w' := by
  obtain ⟨a, c, rfl, hlc, hcm, hc⟩ := hx.form
  clear hx
  obtain ⟨m, hm⟩ : ∃ m, m = min bs.length 6 := ⟨_, rfl⟩
  have hmin : ∀ ts t w, (Builtin.min_ ts t #[.int .i64 (bs.length : Int), .int .i64 6]).run Tryz.prog w = .ok (.int .i64 (m : Int)) w := by
    intro ts t w
    by_cases h6 : 6 < bs.length
    · have : (6 : Int) < (bs.length : Int) := by omega
      simp [Builtin.min_, Builtin.min2, this]; omega
    · have : ¬ (6 : Int) < (bs.length : Int) := by omega
      simp [Builtin.min_, Builtin.min2, this]; omega
  have hsl := fun w => @run_to a bs.length c m (by omega) w
  have hm6 : m ≤ 6 := by omega
  have hml : m ≤ bs.length := by omega
  have HM : Hid (m = 6 ∨ m = bs.length) := by show _ ∨ _; omega
  clear hm
  go_enter Tryz.func205, Tryz.ntmps205
  go_wp2
  go_loop [2, 12] (fun n i => ∃ k : Nat, k ≤ m ∧ i = .int .i64 k ∧ n = .int .i64 (Nu.val (bs.take k)) ∧ Nu.val (bs.take k) ≤ 1099511627776 ∧ Nu.get bs = Nu.getF (6 - k) (bs.take k) (bs.drop k)) (fun _ i => m - (intOf i).toNat)
  case atStart => exact ⟨0, Nat.zero_le _, rfl, rfl, by simp [Nu.val], rfl⟩
  case round =>
    obtain ⟨k, hk, rfl, rfl, hv, hg⟩ := hrel
    have HG : Hid (Nu.get bs = Nu.getF (6 - k) (bs.take k) (bs.drop k)) := hg
    clear hg
    by_cases hlt : k < m
    · obtain ⟨p, rfl, hcell⟩ := hc k (by omega)
      have hb8 := bs[k].toNat_lt
      clear hc
      have hor := or_val bs k (by omega) (by omega)
      have HS : Hid (Nu.get bs = Nu.getF (5 - k + 1) (bs.take k) (bs[k] :: bs.drop (k + 1))) := by
        show _ = _
        rw [HG.out, drop_cons bs k (by omega), show 6 - k = 5 - k + 1 by omega]
      have HT : Hid (bs.take k ++ [bs[k]] = bs.take (k + 1)) := (take_snoc bs k (by omega)).symm
      have HL : Hid ((bs.take k).length = k) := by show _ = _; simp; omega
      have HN : Hid (bs.take k ≠ [] ↔ 0 < k) := by
        show _ ↔ _
        have := HL.out
        rw [List.ne_nil_iff_length_pos, this]
      by_cases hc8 : 128 ≤ bs[k].toNat
      · have HM2 : Hid (Nu.get bs = Nu.getF (6 - (k + 1)) (bs.take (k + 1)) (bs.drop (k + 1))) := by
          show _ = _
          rw [HS.out, Nu.getF_more hc8, HT.out, show 5 - k = 6 - (k + 1) by omega]
        go_wp2
        · go_ret2
          rename_i hbig _
          have hz := Nu.getF_above (6 - (k + 1)) (bs.take (k + 1)) (bs.drop (k + 1)) (by omega)
          exact ⟨ret_two (by rw [HM2.out, hz]; rfl) (by rw [HM2.out, hz]; rfl), rfl⟩
        · refine ⟨⟨k + 1, by omega, by go_num, rfl, by omega, HM2.out⟩, ?_⟩
          simp only [intOf]; omega
      · have HM2 : Hid (Nu.get bs = if 1099511627776 < Nu.val (bs.take (k + 1)) ∨ (bs.take k ≠ [] ∧ bs[k].toNat = 0) then (0, 0) else (Nu.val (bs.take (k + 1)), k + 1)) := by
          show _ = _
          rw [HS.out, Nu.getF_last (by omega), HT.out, HL.out]
        go_wp2
        all_goals
          go_ret2
          first
            | (have hz : Nu.get bs = (0, 0) := by rw [HM2.out, if_pos (.inl (by omega))]
               exact ⟨ret_two (by rw [hz] <;> rfl) (by rw [hz] <;> rfl), rfl⟩)
            | (have hz : Nu.get bs = (0, 0) := by rw [HM2.out, if_pos (.inr ⟨HN.out.2 (by omega), by omega⟩)]
               exact ⟨ret_two (by rw [hz] <;> rfl) (by rw [hz] <;> rfl), rfl⟩)
            | (have hz : Nu.get bs = (Nu.val (bs.take (k + 1)), k + 1) := by
                 rw [HM2.out, if_neg]
                 rintro (h1 | ⟨h1, h2⟩)
                 · omega
                 · have := HN.out.1 h1; omega
               exact ⟨ret_two (by rw [hz] <;> rfl) (by rw [hz] <;> rfl), rfl⟩)
    · go_wp2
      go_ret2
      have hz : Nu.get bs = (0, 0) := by
        rw [HG.out]
        rcases HM.out with h | h
        · rw [show 6 - k = 0 by omega]; rfl
        · rw [List.drop_of_length_le (by omega)]; exact Nu.getF_none _ _
      exact ⟨ret_two (by rw [hz] <;> rfl) (by rw [hz] <;> rfl), rfl⟩
end Go.Proofs.YthbhfhagbaommaaGreatDoor

/- A region that draws its order: what has come up has all that it waits for. No program. -/
namespace Go.Proofs.YthbhfhagbaommaaGreatDoor
open Go.RowKit
set_option linter.unusedSimpArgs false
set_option linter.unusedVariables false

/-- Which operations stand ahead of the last one, by way of others. -/
def coverOf (ops : List Oper) : Nat → Nat → Nat
  | 0, S => S
  | i + 1, S => coverOf ops i (if S.testBit i then ((ops[i]?).map (fun o => o.after.toList)).getD [] |>.foldl (fun T e => if Region.binds .any e then T ||| 2 ^ e.on else T) S else S)
def coverB (ls : List Oper) (o : Oper) : Bool :=
  let S := coverOf (ls ++ [o]) ls.length (o.after.toList.foldl (fun T e => if Region.binds .any e then T ||| 2 ^ e.on else T) 0)
  (List.range ls.length).all fun i => S.testBit i
def plainB (l : List Oper) : Bool := l.all fun o => match o.op with | .defer _ => false | _ => true
def guardsB (l : List Oper) : Bool := l.all fun o => match o.guard with | some (j, _) => decide (j < l.length) | none => true

def Listed (listed : Array Bool) (i : Nat) : Prop := listed[i]? = some true
theorem getD_false (b : Array Bool) (i : Nat) : b.getD i false = true ↔ Listed b i := by
  unfold Listed
  rw [Array.getD_eq_getD_getElem?]
  cases b[i]? with
  | none => simp
  | some x => simp
theorem getD_true (b : Array Bool) (i : Nat) : b.getD i true = false ↔ b[i]? = some false := by
  rw [Array.getD_eq_getD_getElem?]
  cases b[i]? with
  | none => simp
  | some x => simp
theorem fold_bits {listed : Array Bool} : ∀ (es : List Edge) (T : Nat), (∀ j, T.testBit j = true → Listed listed j) → (∀ e ∈ es, Region.binds .any e = true → Listed listed e.on) →
    ∀ j, (es.foldl (fun T e => if Region.binds .any e then T ||| 2 ^ e.on else T) T).testBit j = true → Listed listed j
  | [], T, hT, _, j, hj => hT j hj
  | e :: es, T, hT, he, j, hj => by
    rw [List.foldl_cons] at hj
    refine fold_bits es _ ?_ (fun x hx => he x (by simp [hx])) j hj
    intro k hk
    split at hk
    · rename_i hb
      rw [Nat.testBit_or, Bool.or_eq_true] at hk
      rcases hk with hk | hk
      · exact hT k hk
      · rw [Nat.testBit_two_pow] at hk
        have : e.on = k := by simpa using hk
        rw [← this]; exact he e (by simp) hb
    · exact hT k hk
/-- What is listed has all that it waits for listed. -/
def Down (ops : List Oper) (listed : Array Bool) : Prop := ∀ (i : Nat) (o : Oper), ops[i]? = some o → Listed listed i → ∀ e ∈ o.after.toList, Region.binds .any e = true → Listed listed e.on
theorem cover_sound {ops : List Oper} {listed : Array Bool} (hd : Down ops listed) : ∀ (i S : Nat), (∀ j, S.testBit j = true → Listed listed j) → ∀ j, (coverOf ops i S).testBit j = true → Listed listed j
  | 0, S, hS, j, hj => hS j hj
  | i + 1, S, hS, j, hj => by
    rw [coverOf] at hj
    refine cover_sound hd i _ ?_ j hj
    split
    · rename_i hb
      cases ho : ops[i]? with
      | none => simpa using hS
      | some o => exact fold_bits _ S hS (fun e he hbe => hd i o ho (hS i hb) e (by simpa [ho] using he) hbe)
    · exact hS
theorem all_listed {ls : List Oper} {o : Oper} {listed : Array Bool} (hc : coverB ls o = true) (hd : Down (ls ++ [o]) listed) (ho : ∀ e ∈ o.after.toList, Region.binds .any e = true → Listed listed e.on) : ∀ i, i < ls.length → Listed listed i := by
  intro i hi
  simp only [coverB, List.all_eq_true, List.mem_range] at hc
  exact cover_sound hd _ _ (fun j hj => fold_bits _ 0 (by simp) ho j hj) i (hc i hi)

theorem mem_ready {md : Region.Mode} {ops : Array Oper} {listed : Array Bool} {i : Nat} : i ∈ Region.ready md ops listed ↔ i < ops.size ∧ listed[i]? = some false ∧ ∃ o, ops[i]? = some o ∧ ∀ e ∈ o.after.toList, Region.binds md e = true → Listed listed e.on := by
  unfold Region.ready
  simp only [List.mem_filter, List.mem_range, Bool.and_eq_true, Bool.not_eq_true', getD_true]
  constructor
  · rintro ⟨h1, h2, h3⟩
    refine ⟨h1, h2, ops[i], by simp [h1], fun e he hb => ?_⟩
    simp only [h1, getElem?_pos, Option.map_some, Option.getD_some] at h3
    rw [Array.all_eq_true_iff_forall_mem] at h3
    have := h3 e (by simpa using he)
    rw [hb] at this
    simp only [Bool.not_true, Bool.false_or] at this
    exact (getD_false _ _).1 this
  · rintro ⟨h1, h2, o, ho, h3⟩
    refine ⟨h1, h2, ?_⟩
    rw [ho, Option.map_some, Option.getD_some, Array.all_eq_true_iff_forall_mem]
    intro e he
    cases hb : Region.binds md e
    · rfl
    · rw [(getD_false _ _).2 (h3 e (by simpa using he) hb)]; rfl

theorem plain_of {ls : List Oper} (h : plainB ls = true) {i : Nat} {o : Oper} (ho : ls[i]? = some o) : ∀ c, o.op ≠ .defer c := by
  intro c e
  have := (List.all_eq_true.1 h) o (List.mem_of_getElem? ho)
  rw [e] at this; cases this
theorem yielded_pre {ls : List Oper} {o : Oper} {tmps : Array Value} {j : Nat} (hj : j < ls.length) : yielded (ls ++ [o]).toArray tmps j = yielded ls.toArray tmps j := by
  unfold yielded
  simp [List.getElem?_append_left hj]
theorem wanted_pre {ls : List Oper} {o x : Oper} {tmps : Array Value} (hg : guardsB ls = true) {i : Nat} (hx : ls[i]? = some x) : Region.wanted x (yielded (ls ++ [o]).toArray tmps) = Region.wanted x (yielded ls.toArray tmps) := by
  have := (List.all_eq_true.1 hg) x (List.mem_of_getElem? hx)
  unfold Region.wanted
  cases hgd : x.guard with
  | none => rfl
  | some g =>
    obtain ⟨j, want⟩ := g
    rw [hgd] at this
    simp only [decide_eq_true_eq] at this
    simp only [yielded_pre this]

theorem false_push {b : Array Bool} {i : Nat} (hi : i < b.size) : (b.push false)[i]? = some false ↔ b[i]? = some false := by
  rw [Array.getElem?_push_lt hi, Array.getElem?_eq_getElem hi]
theorem listed_push {b : Array Bool} {i : Nat} : Listed (b.push false) i ↔ Listed b i := by
  unfold Listed
  rw [Array.getElem?_push]
  split
  · rename_i h; subst h; simp
  · rfl
theorem listed_lt {b : Array Bool} {i : Nat} (h : Listed b i) : i < b.size := (Array.getElem?_eq_some_iff.1 h).1
theorem listed_set {b : Array Bool} {i j : Nat} : Listed (b.setIfInBounds i true) j ↔ (Listed b j ∨ (i = j ∧ j < b.size)) := by
  unfold Listed
  rw [Array.getElem?_setIfInBounds]
  by_cases h : i = j
  · subst h
    by_cases h2 : i < b.size
    · simp [h2]
    · simp [h2]
  · simp [h]
theorem down_set {ops : List Oper} {listed : Array Bool} {i : Nat} {o : Oper} (hd : Down ops listed) (ho : ops[i]? = some o) (hr : ∀ e ∈ o.after.toList, Region.binds .any e = true → Listed listed e.on) : Down ops (listed.setIfInBounds i true) := by
  intro j x hx hj e he hb
  by_cases hij : j = i
  · subst hij
    rw [ho] at hx; cases hx
    exact listed_set.2 (.inl (hr e he hb))
  · refine listed_set.2 (.inl (hd j x hx ?_ e he hb))
    rcases listed_set.1 hj with h1 | h1
    · exact h1
    · exact absurd h1.1.symm hij

theorem size_set (b : Array Bool) (i : Nat) : (b.setIfInBounds i true).size = b.size := by simp
theorem push_set {b : Array Bool} {i : Nat} (hi : i < b.size) : (b.push false).setIfInBounds i true = (b.setIfInBounds i true).push false := by
  apply Array.ext_getElem?
  intro k
  rw [Array.getElem?_setIfInBounds, Array.getElem?_push, Array.getElem?_push, Array.getElem?_setIfInBounds]
  by_cases h1 : i = k
  · subst h1
    simp [hi, show i < b.size + 1 by omega, show ¬ i = b.size by omega]
  · simp [h1]

def edgesB (ls : List Oper) : Bool := (List.range ls.length).all fun i => ((ls[i]?).map fun x => x.after.toList.all fun e => !Region.binds .any e || decide (e.on < i)).getD true

end Go.Proofs.YthbhfhagbaommaaGreatDoor

/- A region that draws its order, whose operations may make memory: each operation is asked once, in whatever order those stand that it doesn't wait for; what each leaves is told by a predicate that later worlds keep. No program. -/
namespace Go.Proofs.YthbhfhagbaommaaGreatDoor
open Go.RowKit
set_option linter.unusedSimpArgs false
set_option linter.unusedVariables false

/-- The frame behind operations whose slots hold these. -/
def putFrom : List Oper → Nat → (Nat → Value) → Act → Act
  | [], _, _, a => a
  | o :: os, i, u, a => putFrom os (i + 1) u (a.put o.dst (u i))
def upd (u : Nat → Value) (k : Nat) (x : Value) : Nat → Value := fun j => if j = k then x else u j
/-- No two operations have one slot. -/
def apartB : List Oper → Bool
  | [] => true
  | o :: os => (match o.dst with
    | some d => os.all fun p => p.dst != some d
    | none => true) && apartB os

theorem put_twice (a : Act) (d : Option Tmp) (x y : Value) : (a.put d x).put d y = a.put d y := by
  cases d <;> simp [Act.put]
theorem put_comm (a : Act) (d e : Option Tmp) (x y : Value) (h : d = none ∨ d ≠ e) : (a.put d x).put e y = (a.put e y).put d x := by
  cases d with
  | none => simp [Act.put]
  | some d =>
    cases e with
    | none => simp [Act.put]
    | some e =>
      have : d ≠ e := by
        rcases h with h | h
        · cases h
        · exact fun he => h (by rw [he])
      simp only [Act.put]
      rw [Array.setIfInBounds_comm _ _ this]
theorem putFrom_put : ∀ (os : List Oper) (i : Nat) (u : Nat → Value) (a : Act) (d : Option Tmp) (x : Value), (d = none ∨ ∀ p ∈ os, p.dst ≠ d) → (putFrom os i u a).put d x = putFrom os i u (a.put d x)
  | [], _, _, _, _, _, _ => rfl
  | o :: os, i, u, a, d, x, h => by
    unfold putFrom
    rw [putFrom_put os (i + 1) u _ d x (h.imp id fun h p hp => h p (by simp [hp])), put_comm]
    rcases h with h | h
    · by_cases e : o.dst = none
      · exact .inl e
      · exact .inr (by rw [h]; exact e)
    · exact .inr (h o (by simp))
theorem putFrom_upd : ∀ (os : List Oper) (i k : Nat) (u : Nat → Value) (a : Act) (x : Value), k < i → putFrom os i (upd u k x) a = putFrom os i u a
  | [], _, _, _, _, _, _ => rfl
  | o :: os, i, k, u, a, x, h => by
    unfold putFrom
    rw [putFrom_upd os (i + 1) k u _ x (by omega)]
    have : ¬ i = k := by omega
    simp only [upd, if_neg this]
theorem putFrom_set : ∀ (os : List Oper) (i k : Nat) (o : Oper) (u : Nat → Value) (a : Act) (x : Value), apartB os = true → os[k]? = some o → (putFrom os i u a).put o.dst x = putFrom os i (upd u (i + k) x) a
  | [], _, _, _, _, _, _, _, h => by simp at h
  | p :: os, i, 0, o, u, a, x, hd, h => by
    simp only [List.getElem?_cons_zero, Option.some.injEq] at h
    subst h
    simp only [apartB, Bool.and_eq_true] at hd
    unfold putFrom
    rw [putFrom_put, put_twice, Nat.add_zero, putFrom_upd _ _ _ _ _ _ (by omega)]
    · simp [upd]
    · cases hp : p.dst with
      | none => exact .inl rfl
      | some d =>
        rw [hp] at hd
        refine .inr fun q hq => ?_
        have := (List.all_eq_true.1 hd.1) q hq
        simpa using this
  | p :: os, i, k + 1, o, u, a, x, hd, h => by
    simp only [List.getElem?_cons_succ] at h
    simp only [apartB, Bool.and_eq_true] at hd
    unfold putFrom
    rw [putFrom_set os (i + 1) k o u _ x hd.2 h, show i + 1 + k = i + (k + 1) by omega]
    have : ¬ i = i + (k + 1) := by omega
    simp only [upd, if_neg this]
theorem put_self (a : Act) (d : Option Tmp) : a.put d (match d with | some d => a.tmps.getD d undef | none => undef) = a := by
  cases d with
  | none => rfl
  | some d =>
    simp only [Act.put]
    have : a.tmps.setIfInBounds d (a.tmps.getD d undef) = a.tmps := by
      apply Array.ext_getElem?
      intro i
      rw [Array.getElem?_setIfInBounds]
      split
      · rename_i h
        subst h
        split
        · rename_i h2; simp [Array.getD_eq_getD_getElem?, h2]
        · rename_i h2; simp at h2; simp [h2]
      · rfl
    rw [this]
theorem putFrom_self : ∀ (os : List Oper) (i : Nat) (a : Act), ∃ u, putFrom os i u a = a
  | [], _, a => ⟨fun _ => undef, rfl⟩
  | o :: os, i, a => by
    obtain ⟨u, hu⟩ := putFrom_self os (i + 1) a
    refine ⟨upd u i (match o.dst with | some d => a.tmps.getD d undef | none => undef), ?_⟩
    unfold putFrom
    rw [show upd u i (match o.dst with | some d => a.tmps.getD d undef | none => undef) i = (match o.dst with | some d => a.tmps.getD d undef | none => undef) by simp [upd], put_self, putFrom_upd _ _ _ _ _ _ (by omega), hu]

/-- What one operation is asked: it leaves a value that the predicate tells, and a world that is related. -/
def stepL (P : Program) (ops : Array Oper) (Q : Exit → Act → World → Prop) (R : World → World → Prop) (o : Oper) (V : Value → World → Prop) (a : Act) (w : World) : Prop :=
  if Region.wanted o (yielded ops a.tmps) then ∀ K : Act → World → Prop, (∀ x w', V x w' → R w w' → K (a.put o.dst x) w') → o.wp P a w K Q else V undef w ∧ R w w

/-- Which operations stand ahead of one, by way of others. -/
def selOf (l : List Oper) (o : Oper) : Nat := coverOf l l.length (o.after.toList.foldl (fun T e => if Region.binds .any e then T ||| 2 ^ e.on else T) 0)
theorem sel_sound {l : List Oper} {listed : Array Bool} (hd : Down l listed) {o : Oper} (ho : ∀ e ∈ o.after.toList, Region.binds .any e = true → Listed listed e.on) : ∀ j, (selOf l o).testBit j = true → Listed listed j :=
  cover_sound hd _ _ (fun j hj => fold_bits _ 0 (by simp) ho j hj)

theorem count_set {b : Array Bool} {i : Nat} (h : b[i]? = some false) : (b.setIfInBounds i true).toList.countP (! ·) + 1 = b.toList.countP (! ·) := by
  obtain ⟨hi, he⟩ := Array.getElem?_eq_some_iff.1 h
  have h1 : b.toList[i] = false := by simpa using he
  have hp : 0 < b.toList.countP (! ·) := by
    rw [List.countP_pos_iff]
    exact ⟨false, by rw [← h1]; exact List.getElem_mem _, rfl⟩
  have h2 := List.countP_set (p := (! ·)) (l := b.toList) (i := i) (a := true) (by simpa using hi)
  rw [h1] at h2
  rw [Array.toList_setIfInBounds, h2]
  simp only [Bool.not_true, Bool.not_false, if_true, Bool.false_eq_true, if_false, Nat.add_zero]
  omega

/-- A tail, each of whose operations waits for all that stand ahead. -/
def tailB (L : List Oper) (n : Nat) : Bool := (List.range L.length).all fun i => decide (i < n) || ((L[i]?).map fun o => (List.range i).all fun j => (selOf L o).testBit j).getD true
theorem tail_of {L : List Oper} {n i : Nat} {o : Oper} {listed : Array Bool} (h : tailB L n = true) (ho : L[i]? = some o) (hi : n ≤ i) (hd : Down L listed) (hr : ∀ e ∈ o.after.toList, Region.binds .any e = true → Listed listed e.on) : ∀ j, j < i → Listed listed j := by
  intro j hj
  have hl := (List.getElem?_eq_some_iff.1 ho).1
  have h1 := (List.all_eq_true.1 h) i (List.mem_range.2 hl)
  rw [Bool.or_eq_true] at h1
  rcases h1 with h1 | h1
  · simp at h1; omega
  · rw [ho, Option.map_some, Option.getD_some] at h1
    exact sel_sound hd hr j ((List.all_eq_true.1 h1) j (List.mem_range.2 hj))
theorem edge_of {L : List Oper} (hlex : edgesB L = true) {i : Nat} {o : Oper} (ho : L[i]? = some o) : ∀ e ∈ o.after.toList, Region.binds .any e = true → e.on < i := by
  intro e he hb
  have hi := (List.getElem?_eq_some_iff.1 ho).1
  have h6 := (List.all_eq_true.1 hlex) i (List.mem_range.2 hi)
  rw [ho, Option.map_some, Option.getD_some] at h6
  have h7 := (List.all_eq_true.1 h6) e he
  rw [hb] at h7
  simpa using h7
theorem any_seq {P : Program} {L : List Oper} {Q : Exit → Act → World → Prop} {n : Nat} (hlex : edgesB L = true) (ht : tailB L n = true) : ∀ (rest pre : List Oper) (fuel : Nat) (listed : Array Bool) (a : Act) (w : World), L = pre ++ rest → n ≤ pre.length → listed.size = L.length → Down L listed → (∀ j, Listed listed j ↔ j < pre.length) → rest.length ≤ fuel →
    wpList P L.toArray Q rest a w → wpAny P .any L.toArray Q fuel listed a w
  | [], pre, fuel, listed, a, w, hL, hn, hs, hd, hli, hf, h => by
    have hr : Region.ready .any L.toArray listed = [] := by
      rw [List.eq_nil_iff_forall_not_mem]
      intro i hi
      rw [mem_ready] at hi
      have h1 : i < pre.length := by have := hi.1; rw [hL] at this; simpa using this
      have h2 := (hli i).2 h1
      unfold Listed at h2
      rw [hi.2.1] at h2; cases h2
    cases fuel with
    | zero => exact ⟨hr, h⟩
    | succ f => exact ⟨fun _ => h, fun i hi => (by rw [hr] at hi; cases hi)⟩
  | o :: os, pre, 0, listed, a, w, hL, hn, hs, hd, hli, hf, h => by simp at hf
  | o :: os, pre, f + 1, listed, a, w, hL, hn, hs, hd, hli, hf, h => by
    have ho : L[pre.length]? = some o := by rw [hL]; simp
    have hlt : pre.length < L.length := (List.getElem?_eq_some_iff.1 ho).1
    have hnot : listed[pre.length]? = some false := by
      have h1 : ¬ Listed listed pre.length := fun h => by have := (hli _).1 h; omega
      unfold Listed at h1
      rw [Array.getElem?_eq_getElem (by omega)] at h1 ⊢
      simpa using h1
    have hrd : pre.length ∈ Region.ready .any L.toArray listed := by
      rw [mem_ready]
      exact ⟨by simpa using hlt, hnot, o, by simpa using ho, fun e he hb => (hli _).2 (edge_of hlex ho e he hb)⟩
    refine ⟨fun h0 => (by rw [h0] at hrd; cases hrd), fun i hi => ?_⟩
    rw [mem_ready] at hi
    obtain ⟨h1, h2, x, hx, h3⟩ := hi
    have hx' : L[i]? = some x := by simpa using hx
    have hge : pre.length ≤ i := by
      refine Nat.le_of_not_lt fun hlt => ?_
      have := (hli i).2 hlt
      unfold Listed at this
      rw [h2] at this; cases this
    have hall := tail_of ht hx' (by omega) hd h3
    have hii : i = pre.length := by
      refine Nat.le_antisymm (Nat.le_of_not_lt fun hlt => ?_) hge
      have := (hli _).1 (hall _ hlt)
      omega
    subst hii
    have hxo : x = o := by rw [ho] at hx'; exact (Option.some.inj hx').symm
    subst hxo
    have next : ∀ a w, wpList P L.toArray Q os a w → wpAny P .any L.toArray Q f (listed.setIfInBounds pre.length true) a w := fun a w hh =>
      any_seq hlex ht os (pre ++ [x]) f _ a w (by rw [hL]; simp) (by simp; omega) (by simpa using hs) (down_set hd ho h3) (fun j => by
        rw [listed_set, hli]
        simp only [List.length_append, List.length_cons, List.length_nil]
        constructor
        · rintro (h | ⟨h, _⟩) <;> omega
        · intro h
          by_cases hj : j < pre.length
          · exact .inl hj
          · exact .inr ⟨by omega, by omega⟩) (by simp at hf; omega) hh
    unfold wpOp
    rw [hx]
    simp only [wpList] at h ⊢
    split
    · rename_i hw
      rw [if_pos hw] at h
      exact h.imp (Oper.wp_mono next) id
    · rename_i hw
      rw [if_neg hw] at h
      exact next _ _ h

/-- The place of an operation among those that are loud. -/
def posOf : List Nat → Nat → Option Nat
  | [], _ => none
  | c :: cs, i => bif Nat.beq c i then some 0 else (posOf cs i).map (· + 1)
/-- Loud operations stand in one order: each waits for the one ahead. -/
def chainB (l : List Oper) : List Nat → Bool
  | [] => true
  | [c] => decide (c < l.length)
  | c :: d :: cs => decide (c < l.length) && ((l[d]?).map fun o => (selOf l o).testBit c).getD false && chainB l (d :: cs)
/-- Whether all other loud operations stand ahead of one. -/
def lastL (l : List Oper) (loud : List Nat) (i : Nat) (o : Oper) : Bool := let m := selOf l o; loud.all fun c => Nat.beq c i || m.testBit c
theorem beq_nat {a b : Nat} : Nat.beq a b = true ↔ a = b := ⟨Nat.eq_of_beq_eq_true, fun h => by subst h; simp⟩
theorem posOf_some : ∀ (cs : List Nat) (i p : Nat), posOf cs i = some p → cs[p]? = some i
  | [], _, _, h => by cases h
  | c :: cs, i, p, h => by
    unfold posOf at h
    cases hb : Nat.beq c i
    · rw [hb] at h
      simp only [cond_false, Option.map_eq_some_iff] at h
      obtain ⟨q, hq, rfl⟩ := h
      simpa using posOf_some cs i q hq
    · rw [hb] at h
      simp only [cond_true, Option.some.injEq] at h
      subst h
      simpa using beq_nat.1 hb
theorem posOf_mem : ∀ (cs : List Nat) (i : Nat), i ∈ cs → ∃ p, posOf cs i = some p
  | [], _, h => by cases h
  | c :: cs, i, h => by
    unfold posOf
    cases hb : Nat.beq c i
    · rcases List.mem_cons.1 h with e | h
      · exact absurd (beq_nat.2 e.symm) (by rw [hb]; simp)
      · obtain ⟨p, hp⟩ := posOf_mem cs i h
        exact ⟨p + 1, by simp [hp]⟩
    · exact ⟨0, rfl⟩
theorem chain_step {l : List Oper} : ∀ (cs : List Nat) (p c d : Nat) (o : Oper), chainB l cs = true → cs[p]? = some c → cs[p + 1]? = some d → l[d]? = some o → (selOf l o).testBit c = true
  | [], _, _, _, _, _, h, _, _ => by simp at h
  | [_], _, _, _, _, _, _, h, _ => by simp at h
  | c' :: d' :: cs, 0, c, d, o, hc, h1, h2, ho => by
    simp only [List.getElem?_cons_zero, Option.some.injEq] at h1
    simp only [List.getElem?_cons_succ, List.getElem?_cons_zero, Option.some.injEq] at h2
    subst h1; subst h2
    simp only [chainB, Bool.and_eq_true] at hc
    have := hc.1.2
    rw [ho] at this
    simpa using this
  | c' :: d' :: cs, p + 1, c, d, o, hc, h1, h2, ho => by
    simp only [chainB, Bool.and_eq_true] at hc
    exact chain_step (d' :: cs) p c d o hc.2 (by simpa using h1) (by simpa using h2) ho
theorem chain_lt {l : List Oper} : ∀ (cs : List Nat), chainB l cs = true → ∀ c ∈ cs, c < l.length
  | [], _, c, h => by cases h
  | [d], hc, c, h => by
    simp only [List.mem_singleton] at h
    subst h
    simpa [chainB] using hc
  | c' :: d' :: cs, hc, c, h => by
    simp only [chainB, Bool.and_eq_true] at hc
    rcases List.mem_cons.1 h with rfl | h
    · simpa using hc.1.1
    · exact chain_lt (d' :: cs) hc.2 c h

section
variable {P : Program} {l : List Oper} {Q : Exit → Act → World → Prop} {R R' : World → World → Prop} {S : Nat → World → Prop} {loud : List Nat} {V : Nat → Value → World → Prop} {a0 : Act} {w0 : World}
theorem yielded_app {ls tl : List Oper} {tmps : Array Value} {j : Nat} (hj : j < ls.length) : yielded (ls ++ tl).toArray tmps j = yielded ls.toArray tmps j := by
  unfold yielded
  simp [List.getElem?_append_left hj]
theorem wanted_app {ls tl : List Oper} {x : Oper} {tmps : Array Value} (hg : guardsB ls = true) {i : Nat} (hx : ls[i]? = some x) : Region.wanted x (yielded (ls ++ tl).toArray tmps) = Region.wanted x (yielded ls.toArray tmps) := by
  have := (List.all_eq_true.1 hg) x (List.mem_of_getElem? hx)
  unfold Region.wanted
  cases hgd : x.guard with
  | none => rfl
  | some g =>
    obtain ⟨j, want⟩ := g
    rw [hgd] at this
    simp only [decide_eq_true_eq] at this
    simp only [yielded_app this]
/-- What an operation may do with the world, and what it is told of it. -/
def relOf (R R' : World → World → Prop) (S : Nat → World → Prop) (loud : List Nat) (i : Nat) : World → World → Prop := match posOf loud i with
  | none => R'
  | some p => fun w w' => R w w' ∧ S (p + 1) w'
def preOf (S : Nat → World → Prop) (loud : List Nat) (i : Nat) : World → Prop := match posOf loud i with
  | none => fun _ => True
  | some p => S p
theorem any_loose {tl : List Oper} (hap : apartB l = true) (hg : guardsB l = true) (hlex : edgesB (l ++ tl) = true) (htl : tailB (l ++ tl) l.length = true) (hch : chainB l loud = true) (hnd : loud.Nodup)
    (rr : ∀ w, R' w w) (rt : ∀ a b c, R a b → R b c → R a c) (hRR : ∀ a b, R' a b → R a b) (hS : ∀ k a b, S k a → R' a b → S k b)
    (hV : ∀ i x w w', V i x w → R' w w' → V i x w') (hV2 : ∀ i o, l[i]? = some o → lastL l loud i o = false → ∀ x w w', V i x w → R w w' → V i x w')
    (hstep : ∀ i o, l[i]? = some o → ∀ u w, R w0 w → preOf S loud i w → (∀ j, (selOf l o).testBit j = true → V j (u j) w) → stepL P l.toArray Q (relOf R R' S loud i) o (V i) (putFrom l 0 u a0) w)
    (hend : ∀ u w, R w0 w → S loud.length w → (∀ j, j < l.length → V j (u j) w) → wpList P (l ++ tl).toArray Q tl (putFrom l 0 u a0) w) :
    ∀ (fuel : Nat) (listed : Array Bool) (u : Nat → Value) (w : World) (k : Nat), listed.size = (l ++ tl).length → Down (l ++ tl) listed → R w0 w → S k w → (∀ p c, loud[p]? = some c → (Listed listed c ↔ p < k)) → k ≤ loud.length → (∀ j, Listed listed j → j < l.length) → (∀ j, Listed listed j → V j (u j) w) → listed.toList.countP (! ·) ≤ fuel →
      wpAny P .any (l ++ tl).toArray Q fuel listed (putFrom l 0 u a0) w := by
  have dn : ∀ listed : Array Bool, Down (l ++ tl) listed → Down l listed := fun listed hd i x hx hi => hd i x (by rw [List.getElem?_append_left (List.getElem?_eq_some_iff.1 hx).1]; exact hx) hi
  have full : ∀ listed : Array Bool, listed.size = (l ++ tl).length → (∀ i, i < l.length → i ∉ Region.ready .any (l ++ tl).toArray listed) → ∀ i, i < l.length → Listed listed i := by
    intro listed hs hr i
    induction i using Nat.strongRecOn with
    | ind i ih =>
      intro hi
      refine Classical.byContradiction fun hn => hr i hi ?_
      have hli : (l ++ tl)[i]? = some l[i] := by rw [List.getElem?_append_left hi]; simp [hi]
      rw [mem_ready]
      refine ⟨by simp at hs ⊢; omega, ?_, l[i], by simpa using hli, fun e he hb => ih e.on (edge_of hlex hli e he hb) (by have := edge_of hlex hli e he hb; omega)⟩
      unfold Listed at hn
      rw [Array.getElem?_eq_getElem (by simp at hs; omega)] at hn ⊢
      simpa using hn
  have done : ∀ (fuel : Nat) (listed : Array Bool) (u : Nat → Value) (w : World) (k : Nat), listed.size = (l ++ tl).length → Down (l ++ tl) listed → R w0 w → S k w → (∀ p c, loud[p]? = some c → (Listed listed c ↔ p < k)) → k ≤ loud.length → (∀ j, Listed listed j → j < l.length) → (∀ j, Listed listed j → V j (u j) w) → (∀ j, j < l.length → Listed listed j) → listed.toList.countP (! ·) ≤ fuel → wpAny P .any (l ++ tl).toArray Q fuel listed (putFrom l 0 u a0) w := by
    intro fuel listed u w k hs hd hR hSk hk hkl hb hF hall hc
    have hkm : k = loud.length := by
      refine Nat.le_antisymm hkl (Nat.le_of_not_lt fun hlt => ?_)
      have h1 : loud[k]? = some loud[k] := by simp [hlt]
      have := (hk k _ h1).1 (hall _ (chain_lt loud hch _ (List.getElem_mem _)))
      omega
    subst hkm
    refine any_seq hlex htl tl l fuel listed _ w rfl (Nat.le_refl _) hs hd (fun j => ⟨hb j, hall j⟩) ?_ (hend u w hR hSk fun j hj => hF j (hall j hj))
    have h1 : listed.toList.countP (! ·) = tl.length := by
      have h2 : listed.toList = List.replicate l.length true ++ List.replicate tl.length false := by
        apply List.ext_getElem?
        intro i
        rw [List.getElem?_append]
        simp only [List.length_replicate, List.getElem?_replicate]
        by_cases h : i < l.length
        · have := hall i h
          unfold Listed at this
          rw [if_pos h, if_pos h]; simpa using this
        · rw [if_neg h]
          by_cases h3 : i - l.length < tl.length
          · rw [if_pos h3]
            have hlt : i < listed.size := by rw [hs]; simp; omega
            have : ¬ Listed listed i := fun hh => h (hb i hh)
            unfold Listed at this
            rw [Array.getElem?_eq_getElem hlt] at this
            simp only [Array.getElem?_toList, Array.getElem?_eq_getElem hlt]
            simpa using this
          · rw [if_neg h3]
            simp only [Array.getElem?_toList]
            rw [Array.getElem?_eq_none]
            rw [hs]; simp; omega
      rw [h2]
      simp [List.countP_append, List.countP_replicate]
    omega
  intro fuel
  induction fuel with
  | zero =>
    intro listed u w k hs hd hR hSk hk hkl hb hF hc
    refine done 0 listed u w k hs hd hR hSk hk hkl hb hF (full listed hs fun i hi hm => ?_) hc
    rw [mem_ready] at hm
    have := count_set hm.2.1
    omega
  | succ fuel ih =>
    intro listed u w k hs hd hR hSk hk hkl hb hF hc
    by_cases hall : ∀ j, j < l.length → Listed listed j
    · exact done _ listed u w k hs hd hR hSk hk hkl hb hF hall hc
    refine ⟨fun hr => absurd (full listed hs fun i hi hm => (by rw [hr] at hm; cases hm)) hall, fun i hi => ?_⟩
    rw [mem_ready] at hi
    obtain ⟨h1, h2, o, ho, h3⟩ := hi
    have hoL : (l ++ tl)[i]? = some o := by simpa using ho
    have hil : i < l.length := by
      refine Nat.lt_of_not_le fun hge => hall ?_
      intro j hj
      exact tail_of htl hoL hge hd h3 j (by omega)
    have ho' : l[i]? = some o := by rwa [List.getElem?_append_left hil] at hoL
    have hcs := count_set h2
    have hdn := down_set hd hoL h3
    have hun : ¬ Listed listed i := by unfold Listed; rw [h2]; simp
    have hsel := sel_sound (dn _ hd) h3
    -- which state it is, where this one is loud
    have hpos : ∀ p, posOf loud i = some p → k = p := by
      intro p hp
      have hc := posOf_some _ _ _ hp
      have h4 : ¬ p < k := fun h => hun ((hk p i hc).2 h)
      cases p with
      | zero => omega
      | succ q =>
        have hq : q < loud.length := by have := (List.getElem?_eq_some_iff.1 hc).1; omega
        have hcq : loud[q]? = some loud[q] := by simp [hq]
        have := (hk q _ hcq).1 (hsel _ (chain_step loud q _ i o hch hcq hc ho'))
        omega
    have hpre : preOf S loud i w := by
      unfold preOf
      cases hp : posOf loud i with
      | none => trivial
      | some p => have := hpos p hp; subst this; exact hSk
    have next : ∀ x w', V i x w' → relOf R R' S loud i w w' → wpAny P .any (l ++ tl).toArray Q fuel (listed.setIfInBounds i true) ((putFrom l 0 u a0).put o.dst x) w' := by
      intro x w' hx hw
      rw [putFrom_set l 0 i o u a0 x hap ho', Nat.zero_add]
      have hbs : ∀ j, Listed (listed.setIfInBounds i true) j → j < l.length := by
        intro j hj
        rcases listed_set.1 hj with h | h
        · exact hb j h
        · omega
      cases hp : posOf loud i with
      | none =>
        unfold relOf at hw
        rw [hp] at hw
        refine ih _ _ _ k (by simpa using hs) hdn (rt _ _ _ hR (hRR _ _ hw)) (hS _ _ _ hSk hw) (fun p c hc => ?_) hkl hbs (fun j hj => ?_) (by omega)
        · rw [listed_set, hk p c hc]
          constructor
          · rintro (h | ⟨h, _⟩)
            · exact h
            · subst h
              obtain ⟨q, hq⟩ := posOf_mem loud i (List.mem_of_getElem? hc)
              rw [hp] at hq; cases hq
          · exact .inl
        · by_cases hji : j = i
          · subst hji
            simpa [upd] using hx
          · rcases listed_set.1 hj with h | h
            · simpa [upd, hji] using hV _ _ _ _ (hF j h) hw
            · exact absurd h.1.symm hji
      | some p =>
        unfold relOf at hw
        rw [hp] at hw
        have hc := posOf_some _ _ _ hp
        have hkp := hpos p hp
        subst hkp
        have hlt := (List.getElem?_eq_some_iff.1 hc).1
        refine ih _ _ _ (k + 1) (by simpa using hs) hdn (rt _ _ _ hR hw.1) hw.2 (fun q c hq => ?_) hlt hbs (fun j hj => ?_) (by omega)
        · rw [listed_set, hk q c hq]
          constructor
          · rintro (h | ⟨h, _⟩)
            · omega
            · subst h
              have : q = k := by
                have h5 := (List.getElem?_eq_some_iff.1 hq).1
                exact (List.getElem?_inj h5 hnd).1 (hq.trans hc.symm)
              omega
          · intro h
            by_cases hqk : q < k
            · exact .inl hqk
            · have : q = k := by omega
              subst this
              rw [hc] at hq
              exact .inr ⟨Option.some.inj hq, by rw [← Option.some.inj hq]; exact (Array.getElem?_eq_some_iff.1 h2).1⟩
        · by_cases hji : j = i
          · subst hji
            simpa [upd] using hx
          · rcases listed_set.1 hj with h | h
            · have hjl := hb j h
              have hoj : l[j]? = some l[j] := by simp [hjl]
              have hlast : lastL l loud j l[j] = false := by
                cases hh : lastL l loud j l[j]
                · rfl
                · exfalso
                  have h6 := (List.all_eq_true.1 hh) i (List.mem_of_getElem? hc)
                  rw [Bool.or_eq_true] at h6
                  rcases h6 with h6 | h6
                  · exact hji (beq_nat.1 h6).symm
                  · exact hun (sel_sound (dn _ hd) ((dn _ hd) j _ hoj h) i h6)
              simpa [upd, hji] using hV2 j _ hoj hlast _ _ _ (hF j h) hw.1
            · exact absurd h.1.symm hji
    have rri : ∀ w', V i undef w' → True := fun _ _ => trivial
    have st := hstep i o ho' u w hR hpre (fun j hj => hF j (hsel j hj))
    unfold wpOp
    rw [ho]
    simp only
    unfold stepL at st
    rw [wanted_app hg ho']
    split
    · rename_i hw
      rw [if_pos hw] at st
      exact .inl (st _ (fun x w' hx hR' => next x w' hx hR'))
    · rename_i hw
      rw [if_neg hw] at st
      exact next undef w st.1 st.2

/-- What is told of those operations that stand ahead, the latest first. -/
def look : List (Nat × (Value → World → Prop)) → Nat → Value → World → Prop
  | [], _, _, _ => True
  | (k, V) :: r, j, x, w => bif Nat.beq k j then V x w else look r j x w
/-- What a slot holds behind operations. -/
def isDst : Option Nat → Nat → Bool
  | none, _ => false
  | some e, d => Nat.beq e d
def slotF : List Oper → Nat → (Nat → Value) → Array Value → Nat → Value
  | [], _, _, t, d => t.getD d undef
  | o :: os, i, u, t, d => bif isDst o.dst d then u i else slotF os (i + 1) u t d
theorem isDst_eq (o : Option Nat) (d : Nat) : isDst o d = (o == some d) := by
  cases o with
  | none => rfl
  | some e =>
    by_cases h : e = d
    · subst h; simp [isDst]
    · have : (some e == some d) = false := by simpa using h
      rw [this]
      show Nat.beq e d = false
      cases hb : Nat.beq e d
      · rfl
      · exact absurd (Nat.eq_of_beq_eq_true hb) h
def roomB (os : List Oper) (n : Nat) : Bool := os.all fun o => match o.dst with | some d => decide (d < n) | none => true
theorem putFrom_size : ∀ (os : List Oper) (i : Nat) (u : Nat → Value) (a : Act), (putFrom os i u a).tmps.size = a.tmps.size
  | [], _, _, _ => rfl
  | o :: os, i, u, a => by
    unfold putFrom
    rw [putFrom_size os]
    cases o.dst <;> simp [Act.put]
theorem putFrom_other : ∀ (os : List Oper) (i : Nat) (u : Nat → Value) (a : Act) (d : Nat), (os.all fun p => p.dst != some d) = true → (putFrom os i u a).tmps.getD d undef = a.tmps.getD d undef
  | [], _, _, _, _, _ => rfl
  | o :: os, i, u, a, d, h => by
    simp only [List.all_cons, Bool.and_eq_true] at h
    unfold putFrom
    rw [putFrom_other os _ _ _ d h.2]
    cases ho : o.dst with
    | none => rfl
    | some e =>
      have he : e ≠ d := by have := h.1; rw [ho] at this; simpa using this
      simp [Act.put, Array.getD_eq_getD_getElem?, Array.getElem?_setIfInBounds, he]
theorem putFrom_slot : ∀ (os : List Oper) (i : Nat) (u : Nat → Value) (a : Act) (d : Nat), apartB os = true → roomB os a.tmps.size = true → (putFrom os i u a).tmps.getD d undef = slotF os i u a.tmps d
  | [], _, _, _, _, _, _ => rfl
  | o :: os, i, u, a, d, hd, hr => by
    simp only [apartB, Bool.and_eq_true] at hd
    simp only [roomB, List.all_cons, Bool.and_eq_true] at hr
    have hr2 : roomB os (a.put o.dst (u i)).tmps.size = true := by
      have : (a.put o.dst (u i)).tmps.size = a.tmps.size := by cases o.dst <;> simp [Act.put]
      rw [this]; exact hr.2
    unfold putFrom slotF
    rw [isDst_eq]
    cases ho : o.dst with
    | none =>
      rw [ho] at hr2
      rw [putFrom_slot os (i + 1) u _ d hd.2 hr2]
      rfl
    | some e =>
      rw [ho] at hd hr hr2
      by_cases he : e = d
      · subst he
        rw [putFrom_other os _ _ _ e hd.1]
        have hlt : e < a.tmps.size := by simpa using hr.1
        simp [Act.put, Array.getD_eq_getD_getElem?, Array.getElem?_setIfInBounds, hlt]
      · rw [putFrom_slot os (i + 1) u _ d hd.2 hr2]
        have hb : (some e == some d) = false := by simpa using he
        rw [hb, cond_false]
        have aux : ∀ (os : List Oper) (i : Nat) (t s : Array Value), t.getD d undef = s.getD d undef → slotF os i u t d = slotF os i u s d := by
          intro os
          induction os with
          | nil => intro i t s h; exact h
          | cons o os ih => intro i t s h; unfold slotF; rw [ih _ _ _ h]
        refine aux _ _ _ _ ?_
        simp [Act.put, Array.getD_eq_getD_getElem?, Array.getElem?_setIfInBounds, he]

/-- Whether a guard lets an operation by, told by what its slot holds. -/
def guardIs (o : Oper) (f : Nat → Value) (ops : List Oper) (b : Bool) : Prop :=
  match o.guard with
  | none => b = true
  | some (j, want) => match (ops[j]?).bind (·.dst) with
    | some d => (∃ x, f d = .bool x ∧ b = (x == want)) ∨ (f d = undef ∧ b = false)
    | none => False
theorem wanted_of {o : Oper} {a : Act} {f : Nat → Value} {b : Bool} {ops : List Oper} (hf : ∀ d, a.tmps.getD d undef = f d) (h : guardIs o f ops b) : Region.wanted o (yielded ops.toArray a.tmps) = b := by
  unfold guardIs at h
  unfold Region.wanted
  cases hg : o.guard with
  | none => rw [hg] at h; simpa using h.symm
  | some g =>
    obtain ⟨j, want⟩ := g
    rw [hg] at h
    simp only at h ⊢
    cases hd : (ops[j]?).bind (·.dst) with
    | none => rw [hd] at h; exact h.elim
    | some d =>
      rw [hd] at h
      rcases h with ⟨x, hx, hb⟩ | ⟨hx, hb⟩
      rotate_left
      · have h2 := hf d
        rw [hx] at h2
        have hd' : (ops.toArray[j]?).bind (·.dst) = some d := by simpa using hd
        simp only [yielded, hd', Option.bind_some]
        rw [Array.getD_eq_getD_getElem?] at h2
        rw [hb]
        cases h4 : a.tmps[d]? with
        | none => rfl
        | some y =>
          rw [h4] at h2
          have : y = undef := by simpa using h2
          subst this
          rfl
      have h2 := hf d
      rw [hx] at h2
      have h3 : a.tmps[d]? = some (.bool x) := by
        rw [Array.getD_eq_getD_getElem?] at h2
        cases h4 : a.tmps[d]? with
        | none => rw [h4] at h2; simp [undef] at h2
        | some y => rw [h4] at h2; simpa using h2
      have hd' : (ops.toArray[j]?).bind (·.dst) = some d := by simpa using hd
      simp only [yielded, hd', Option.bind_some, h3]
      rw [hb]
      cases x <;> cases want <;> rfl

/-- What one operation is asked, its slots told. -/
def stepT (P : Program) (l : List Oper) (Q : Exit → Act → World → Prop) (R : World → World → Prop) (o : Oper) (V : Value → World → Prop) (f : Nat → Value) (w : World) : Prop :=
  (guardIs o f l true ∧ ∀ a : Act, (∀ d, a.tmps.getD d undef = f d) → ∀ K : Act → World → Prop, (∀ x w', V x w' → R w w' → K (a.put o.dst x) w') → o.wp P a w K Q) ∨ (guardIs o f l false ∧ V undef w ∧ R w w)
theorem stepL_of {f : Nat → Value} {o : Oper} {V : Value → World → Prop} {a : Act} {w : World} (ha : ∀ d, a.tmps.getD d undef = f d) (h : stepT P l Q R o V f w) : stepL P l.toArray Q R o V a w := by
  rcases h with ⟨hg, h⟩ | ⟨hg, h⟩
  · unfold stepL; rw [if_pos (wanted_of ha hg)]; exact h a ha
  · unfold stepL; rw [if_neg (by rw [wanted_of ha hg]; simp)]; exact h
/-- The region, one operation at a time, in the order of the text. -/
def Lo (P : Program) (l : List Oper) (Q : Exit → Act → World → Prop) (E : Act → World → Prop) (R R' : World → World → Prop) (S : Nat → World → Prop) (loud : List Nat) (w0 : World) (a0 : Act) : List Oper → Nat → List (Nat × (Value → World → Prop)) → Prop
  | [], _, Vs => ∀ u w, R w0 w → S loud.length w → (∀ j, look Vs j (u j) w) → E (putFrom l 0 u a0) w
  | o :: os, i, Vs => ∃ V : Value → World → Prop, (∀ x w w', V x w → R' w w' → V x w') ∧ (lastL l loud i o = false → ∀ x w w', V x w → R w w' → V x w') ∧ (∀ u w, R w0 w → preOf S loud i w → (∀ j, (selOf l o).testBit j = true → look Vs j (u j) w) → stepT P l Q (relOf R R' S loud i) o V (slotF l 0 u a0.tmps) w) ∧ Lo P l Q E R R' S loud w0 a0 os (i + 1) ((i, V) :: Vs)
theorem look_cons (k : Nat) (V : Value → World → Prop) (r : List (Nat × (Value → World → Prop))) (j : Nat) : look ((k, V) :: r) j = if k = j then V else look r j := by
  funext x w
  unfold look
  by_cases h : k = j
  · subst h; simp
  · have : Nat.beq k j = false := by
      cases hb : Nat.beq k j
      · rfl
      · exact absurd (Nat.eq_of_beq_eq_true hb) h
    rw [this, if_neg h]; rfl
theorem look_above : ∀ (Vs : List (Nat × (Value → World → Prop))) (n j : Nat), (∀ p ∈ Vs, p.1 < n) → n ≤ j → look Vs j = fun _ _ => True
  | [], _, _, _, _ => rfl
  | (k, V) :: r, n, j, h, hj => by
    have hk : k < n := h (k, V) (by simp)
    rw [look_cons, if_neg (by omega), look_above r n j (fun p hp => h p (by simp [hp])) hj]
variable {E : Act → World → Prop}
theorem lo_collect : ∀ (os : List Oper) (pre : List Oper) (Vs : List (Nat × (Value → World → Prop))), l = pre ++ os → (∀ p ∈ Vs, p.1 < pre.length) → Lo P l Q E R R' S loud w0 a0 os pre.length Vs →
    ∃ Ws : List (Nat × (Value → World → Prop)), (∀ j, j < pre.length → look Ws j = look Vs j) ∧ (∀ j, pre.length ≤ j → ∀ x w w', look Ws j x w → R' w w' → look Ws j x w') ∧ (∀ j o, pre.length ≤ j → l[j]? = some o → lastL l loud j o = false → ∀ x w w', look Ws j x w → R w w' → look Ws j x w') ∧
      (∀ (i : Nat) (o : Oper), pre.length ≤ i → l[i]? = some o → ∀ u w, R w0 w → preOf S loud i w → (∀ j, (selOf l o).testBit j = true → look Ws j (u j) w) → stepT P l Q (relOf R R' S loud i) o (look Ws i) (slotF l 0 u a0.tmps) w) ∧
      (∀ j, l.length ≤ j → look Ws j = fun _ _ => True) ∧ (∀ u w, R w0 w → S loud.length w → (∀ j, look Ws j (u j) w) → E (putFrom l 0 u a0) w)
  | [], pre, Vs, hl, hk, h => by
    refine ⟨Vs, fun _ _ => rfl, fun j hj x w w' hx _ => ?_, fun j o hj ho => ?_, fun i o hi ho => ?_, ?_, h⟩
    · rw [look_above Vs _ j hk hj]; trivial
    · rw [hl, List.append_nil] at ho
      have := (List.getElem?_eq_some_iff.1 ho).1
      omega
    · rw [hl, List.append_nil] at ho
      have := (List.getElem?_eq_some_iff.1 ho).1
      omega
    · rw [hl, List.append_nil]; exact fun j hj => look_above Vs _ j hk hj
  | o :: os, pre, Vs, hl, hk, h => by
    obtain ⟨V, h1, h1', h2, h3⟩ := h
    have hlen : (pre ++ [o]).length = pre.length + 1 := by simp
    obtain ⟨Ws, g1, g2, g2', g3, g5, g4⟩ := lo_collect os (pre ++ [o]) ((pre.length, V) :: Vs) (by rw [hl]; simp) (by
      intro p hp
      rw [hlen]
      rcases List.mem_cons.1 hp with rfl | hp
      · simp
      · have := hk p hp; omega) (by rw [hlen]; exact h3)
    rw [hlen] at g1 g2 g2' g3
    have e0 : look Ws pre.length = V := by rw [g1 _ (by omega), look_cons, if_pos rfl]
    have e1 : ∀ j, j < pre.length → look Ws j = look Vs j := fun j hj => by rw [g1 _ (by omega), look_cons, if_neg (by omega)]
    have eo : ∀ p, l[pre.length]? = some p → p = o := fun p hp => by rw [hl] at hp; simpa using hp.symm
    refine ⟨Ws, e1, fun j hj => ?_, fun j p hj hp => ?_, fun i p hi hp => ?_, g5, g4⟩
    · rcases Nat.eq_or_lt_of_le hj with h | h
      · subst h; rw [e0]; exact h1
      · exact g2 j (by omega)
    · rcases Nat.eq_or_lt_of_le hj with h | h
      · subst h; rw [e0, eo p hp]; exact h1'
      · exact g2' j p (by omega) hp
    · rcases Nat.eq_or_lt_of_le hi with h | h
      · subst h
        have := eo p hp
        subst this
        rw [e0]
        intro u w hR hP hF
        refine h2 u w hR hP fun j hj => ?_
        by_cases hjl : j < pre.length
        · rw [← e1 j hjl]; exact hF j hj
        · rw [look_above Vs _ j hk (by omega)]; trivial
      · exact g3 i p (by omega) hp
/-- THE LAW: each operation is asked once; loud ones, which stand in one order, hand a state on; a tail, each of whose operations waits for all ahead, is walked in its order. -/
theorem wp_region_loud {id : Nat} {L : List Oper} (n : Nat) (R R' : World → World → Prop) (S : Nat → World → Prop) (loud : List Nat) (hm : P.follows .mixedOrders = true) (hap : apartB (L.take n) = true) (hg : guardsB (L.take n) = true) (hlex : edgesB L = true) (htl : tailB L n = true) (hch : chainB (L.take n) loud = true) (hn : n ≤ L.length) (hnd : loud.Nodup) (hrm : roomB (L.take n) a0.tmps.size = true)
    (rr : ∀ w, R' w w) (rt : ∀ a b c, R a b → R b c → R a c) (hRR : ∀ a b, R' a b → R a b) (hS : ∀ k a b, S k a → R' a b → S k b) (hS0 : S 0 w0.drew)
    (h : Lo P (L.take n) Q (fun a w => wpList P L.toArray Q (L.drop n) a w) R R' S loud w0.drew a0 (L.take n) 0 []) : (Code.region id L.toArray true).wp P Q a0 w0 := by
  obtain ⟨l, hl⟩ : ∃ l, l = L.take n := ⟨_, rfl⟩
  obtain ⟨tl, htl'⟩ : ∃ tl, tl = L.drop n := ⟨_, rfl⟩
  have hL : L = l ++ tl := by rw [hl, htl', List.take_append_drop]
  have hln : l.length = n := by rw [hl]; simp; omega
  rw [← hl, ← htl'] at h
  rw [← hl] at hap hg hrm hch
  rw [← hln] at htl
  clear hl htl'
  subst hL
  obtain ⟨Ws, -, hs, hs', hst, hab, he⟩ := lo_collect (l := l) l [] [] (by simp) (by simp) h
  refine wp_region_any hm ?_
  obtain ⟨u, hu⟩ := putFrom_self l 0 a0
  have none_listed : ∀ i, ¬ Listed (Array.replicate (l ++ tl).length false) i := by
    intro i hi
    unfold Listed at hi
    rw [Array.getElem?_replicate] at hi
    split at hi <;> cases hi
  have hall := any_loose (P := P) (l := l) (tl := tl) (Q := Q) (R := R) (R' := R') (S := S) (loud := loud) (V := look Ws) (a0 := a0) (w0 := w0.drew) hap hg hlex htl hch hnd rr rt hRR hS
    (fun i x w w' hx hR => hs i (by simp) x w w' hx hR)
    (fun i o ho hl => hs' i o (by simp) ho hl)
    (fun i o ho u w hR hP hF => stepL_of (fun d => putFrom_slot l 0 u a0 d hap hrm) (hst i o (by simp) ho u w hR hP hF))
    (fun u w hR hSm hF => he u w hR hSm (fun j => by
      by_cases hj : j < l.length
      · exact hF j hj
      · rw [hab j (by omega)]; trivial))
    (l ++ tl).length (Array.replicate (l ++ tl).length false) u w0.drew 0 (by simp) (fun i x _ hi => absurd hi (none_listed i)) (hRR _ _ (rr _)) hS0 (fun p c _ => ⟨fun h => absurd h (none_listed c), fun h => absurd h (Nat.not_lt_zero _)⟩) (Nat.zero_le _) (fun j hj => absurd hj (none_listed j)) (fun j hj => absurd hj (none_listed j)) (by
      have := List.countP_le_length (p := fun b => !b) (l := (Array.replicate (l ++ tl).length false).toList)
      simpa using this)
  rw [hu] at hall
  simpa using hall
/-- Nothing loud. -/
theorem wp_region_tail {id : Nat} {L : List Oper} (n : Nat) (R : World → World → Prop) (hm : P.follows .mixedOrders = true) (hap : apartB (L.take n) = true) (hg : guardsB (L.take n) = true) (hlex : edgesB L = true) (htl : tailB L n = true) (hn : n ≤ L.length) (hrm : roomB (L.take n) a0.tmps.size = true) (rr : ∀ w, R w w) (rt : ∀ a b c, R a b → R b c → R a c)
    (h : Lo P (L.take n) Q (fun a w => wpList P L.toArray Q (L.drop n) a w) R R (fun _ _ => True) [] w0.drew a0 (L.take n) 0 []) : (Code.region id L.toArray true).wp P Q a0 w0 :=
  wp_region_loud n R R _ [] hm hap hg hlex htl rfl hn List.nodup_nil hrm rr rt (fun _ _ h => h) (fun _ _ _ _ _ => trivial) trivial h
/-- Without a tail. -/
theorem wp_region_loose {id : Nat} (R : World → World → Prop) (hm : P.follows .mixedOrders = true) (hap : apartB l = true) (hlex : edgesB l = true) (hg : guardsB l = true) (hrm : roomB l a0.tmps.size = true) (rr : ∀ w, R w w) (rt : ∀ a b c, R a b → R b c → R a c)
    (h : Lo P l Q (fun a w => Q .normal a w) R R (fun _ _ => True) [] w0.drew a0 l 0 []) : (Code.region id l.toArray true).wp P Q a0 w0 := by
  have e1 : l.take l.length = l := List.take_length
  have e2 : l.drop l.length = [] := List.drop_length
  refine wp_region_tail l.length R hm (by rw [e1]; exact hap) (by rw [e1]; exact hg) hlex ?_ (Nat.le_refl _) (by rw [e1]; exact hrm) rr rt ?_
  · unfold tailB
    rw [List.all_eq_true]
    intro i hi
    have := List.mem_range.1 hi
    simp [this]
  · rw [e1, e2]; exact h

/-- The facts of those operations that are named. -/
def factsAt (Vs : List (Nat × (Value → World → Prop))) (u : Nat → Value) (w : World) : List Nat → Prop
  | [] => True
  | j :: js => look Vs j (u j) w ∧ factsAt Vs u w js
def selB (l : List Oper) (o : Oper) (js : List Nat) : Bool := let m := selOf l o; js.all fun j => m.testBit j
theorem factsAt_of {p : Nat → Bool} {Vs : List (Nat × (Value → World → Prop))} {u : Nat → Value} {w : World} (hf : ∀ j, p j = true → look Vs j (u j) w) : ∀ js : List Nat, js.all p = true → factsAt Vs u w js
  | [], _ => trivial
  | j :: js, h => by
    simp only [List.all_cons, Bool.and_eq_true] at h
    exact ⟨hf j h.1, factsAt_of hf js h.2⟩

/-- An operation that is carried out, and leaves what a predicate tells; of those ahead, these facts are used. -/
theorem Lo.run {o : Oper} {os : List Oper} {Vs : List (Nat × (Value → World → Prop))} {i : Nat} (n : Nat) (hn : i + 1 = n) (hq : posOf loud i = none) (js : List Nat) (V : Value → World → Prop) (hj : selB l o js = true) (hV : ∀ x w w', V x w → R w w' → V x w') (hRR : ∀ a b, R' a b → R a b)
    (h1 : ∀ u w, R w0 w → factsAt Vs u w js → guardIs o (slotF l 0 u a0.tmps) l true ∧ ∀ a : Act, (∀ d, a.tmps.getD d undef = slotF l 0 u a0.tmps d) → ∀ K : Act → World → Prop, (∀ x w', V x w' → R' w w' → K (a.put o.dst x) w') → o.wp P a w K Q)
    (h2 : Lo P l Q E R R' S loud w0 a0 os n ((i, V) :: Vs)) : Lo P l Q E R R' S loud w0 a0 (o :: os) i Vs :=
  ⟨V, fun x w w' h k => hV x w w' h (hRR _ _ k), fun _ => hV, fun u w hR _ hF => .inl (by unfold relOf; rw [hq]; exact h1 u w hR (factsAt_of hF js hj)), by rw [hn]; exact h2⟩
/-- A loud one: it is told the state, and hands on the next. -/
theorem Lo.noisy {o : Oper} {os : List Oper} {Vs : List (Nat × (Value → World → Prop))} {i : Nat} (n : Nat) (hn : i + 1 = n) (p : Nat) (hq : posOf loud i = some p) (js : List Nat) (V : Value → World → Prop) (hj : selB l o js = true) (hV : ∀ x w w', V x w → R' w w' → V x w') (hV2 : lastL l loud i o = true ∨ ∀ x w w', V x w → R w w' → V x w')
    (h1 : ∀ u w, R w0 w → S p w → factsAt Vs u w js → guardIs o (slotF l 0 u a0.tmps) l true ∧ ∀ a : Act, (∀ d, a.tmps.getD d undef = slotF l 0 u a0.tmps d) → ∀ K : Act → World → Prop, (∀ x w', V x w' → R w w' → S (p + 1) w' → K (a.put o.dst x) w') → o.wp P a w K Q)
    (h2 : Lo P l Q E R R' S loud w0 a0 os n ((i, V) :: Vs)) : Lo P l Q E R R' S loud w0 a0 (o :: os) i Vs :=
  ⟨V, hV, fun hl => hV2.elim (fun h => by rw [h] at hl; cases hl) id, fun u w hR hP hF => .inl (by
    unfold preOf at hP
    rw [hq] at hP
    obtain ⟨g1, g2⟩ := h1 u w hR hP (factsAt_of hF js hj)
    unfold relOf
    rw [hq]
    exact ⟨g1, fun a ha K hK => g2 a ha K (fun x w' hx hR hS => hK x w' hx ⟨hR, hS⟩)⟩), by rw [hn]; exact h2⟩
theorem Lo.runv {o : Oper} {os : List Oper} {Vs : List (Nat × (Value → World → Prop))} {i : Nat} (n : Nat) (hn : i + 1 = n) (hq : posOf loud i = none) (js : List Nat) (v : Value) (hj : selB l o js = true)
    (h1 : ∀ u w, R w0 w → factsAt Vs u w js → guardIs o (slotF l 0 u a0.tmps) l true ∧ ∀ a : Act, (∀ d, a.tmps.getD d undef = slotF l 0 u a0.tmps d) → ∀ K : Act → World → Prop, (∀ x, x = v → K (a.put o.dst x) w) → o.wp P a w K Q)
    (rr : ∀ w, R' w w) (h2 : Lo P l Q E R R' S loud w0 a0 os n ((i, fun x _ => x = v) :: Vs)) : Lo P l Q E R R' S loud w0 a0 (o :: os) i Vs :=
  ⟨_, fun _ _ _ h _ => h, fun _ _ _ _ h _ => h, fun u w hR _ hF => .inl (by
    unfold relOf; rw [hq]
    obtain ⟨g1, g2⟩ := h1 u w hR (factsAt_of hF js hj)
    exact ⟨g1, fun a ha K hK => g2 a ha K (fun x hx => hK _ _ hx (rr _))⟩), by rw [hn]; exact h2⟩
/-- One that leaves a value outright, which the walk finds. -/
theorem Lo.runx {o : Oper} {os : List Oper} {Vs : List (Nat × (Value → World → Prop))} {i : Nat} (n : Nat) (hn : i + 1 = n) (hq : posOf loud i = none) (js : List Nat) (hj : selB l o js = true) (rr : ∀ w, R' w w)
    (h : ∃ v : Value, (∀ u w, R w0 w → factsAt Vs u w js → guardIs o (slotF l 0 u a0.tmps) l true ∧ ∀ a : Act, (∀ d, a.tmps.getD d undef = slotF l 0 u a0.tmps d) → ∀ K : Act → World → Prop, (∀ x, x = v → K (a.put o.dst x) w) → o.wp P a w K Q) ∧
      Lo P l Q E R R' S loud w0 a0 os n ((i, fun x _ => x = v) :: Vs)) : Lo P l Q E R R' S loud w0 a0 (o :: os) i Vs := by
  obtain ⟨v, h1, h2⟩ := h
  exact Lo.runv n hn hq js v hj h1 rr h2
/-- One that its guard passes over. -/
theorem Lo.pass {o : Oper} {os : List Oper} {Vs : List (Nat × (Value → World → Prop))} {i : Nat} (n : Nat) (hn : i + 1 = n) (hq : posOf loud i = none) (js : List Nat) (hj : selB l o js = true) (rr : ∀ w, R' w w)
    (h1 : ∀ u w, R w0 w → factsAt Vs u w js → guardIs o (slotF l 0 u a0.tmps) l false) (h2 : Lo P l Q E R R' S loud w0 a0 os n ((i, fun x _ => x = undef) :: Vs)) : Lo P l Q E R R' S loud w0 a0 (o :: os) i Vs :=
  ⟨_, fun _ _ _ h _ => h, fun _ _ _ _ h _ => h, fun u w hR _ hF => .inr ⟨h1 u w hR (factsAt_of hF js hj), rfl, by unfold relOf; rw [hq]; exact rr _⟩, by rw [hn]; exact h2⟩
/-- What a guard's slot holds, where it is carried out under a condition itself. -/
theorem guard_t {x : Value} {c t want : Bool} (h : x = bif c then .bool t else undef) (hc : (c && (t == want)) = true) : (∃ y, x = .bool y ∧ true = (y == want)) ∨ (x = undef ∧ true = false) := by
  cases c <;> simp at hc
  subst hc
  exact .inl ⟨t, h, by simp⟩
theorem guard_f {x : Value} {c t want : Bool} (h : x = bif c then .bool t else undef) (hc : (c && (t == want)) = false) : (∃ y, x = .bool y ∧ false = (y == want)) ∨ (x = undef ∧ false = false) := by
  cases c
  · exact .inr ⟨h, rfl⟩
  · exact .inl ⟨t, h, by simpa using hc.symm⟩
theorem guard_t0 {x : Value} {t want : Bool} (h : x = .bool t) (hc : (t == want) = true) : (∃ y, x = .bool y ∧ true = (y == want)) ∨ (x = undef ∧ true = false) := .inl ⟨t, h, hc.symm⟩
theorem guard_f0 {x : Value} {t want : Bool} (h : x = .bool t) (hc : (t == want) = false) : (∃ y, x = .bool y ∧ false = (y == want)) ∨ (x = undef ∧ false = false) := .inl ⟨t, h, hc.symm⟩
/-- One that is carried out under a condition that is not decided. -/
theorem Lo.cond {o : Oper} {os : List Oper} {Vs : List (Nat × (Value → World → Prop))} {i : Nat} (n : Nat) (hn : i + 1 = n) (hq : posOf loud i = none) (js : List Nat) (hj : selB l o js = true) (rr : ∀ w, R' w w) (c : Bool)
    (h : ∃ v : Value, (∀ u w, R w0 w → factsAt Vs u w js → c = false → guardIs o (slotF l 0 u a0.tmps) l false) ∧
      (∀ u w, R w0 w → factsAt Vs u w js → c = true → guardIs o (slotF l 0 u a0.tmps) l true ∧ ∀ a : Act, (∀ d, a.tmps.getD d undef = slotF l 0 u a0.tmps d) → ∀ K : Act → World → Prop, (∀ x, x = v → K (a.put o.dst x) w) → o.wp P a w K Q) ∧
      Lo P l Q E R R' S loud w0 a0 os n ((i, fun x _ => x = bif c then v else undef) :: Vs)) : Lo P l Q E R R' S loud w0 a0 (o :: os) i Vs := by
  obtain ⟨v, h1, h2, h3⟩ := h
  cases c with
  | false => exact Lo.pass n hn hq js hj rr (fun u w hR hF => h1 u w hR hF rfl) h3
  | true => exact Lo.runv n hn hq js v hj (fun u w hR hF => h2 u w hR hF rfl) rr h3
theorem Lo.done {Vs : List (Nat × (Value → World → Prop))} {i : Nat} (js : List Nat) (h : ∀ u w, R w0 w → S loud.length w → factsAt Vs u w js → E (putFrom l 0 u a0) w) : Lo P l Q E R R' S loud w0 a0 [] i Vs :=
  fun u w hR hSm hF => h u w hR hSm (factsAt_of (p := fun _ => true) (fun j _ => hF j) js (by simp))
end

end Go.Proofs.YthbhfhagbaommaaGreatDoor

/- record's reader: number, text, record, batch. -/
namespace Go.Proofs.YthbhfhagbaommaaGreatDoor
open Go.RowKit Go.Maps
set_option maxRecDepth 100000
set_option linter.unusedSimpArgs false
set_option linter.unusedVariables false

theorem BytesAt.kept' {w w' : World} {v : Value} {bs : List UInt8} {S : List Nat} (h : BytesAt w v bs) (ht : Turn S w w') (hn : bs ≠ [] → ∀ k ∈ v.ownBlock, k ∉ S) : BytesAt w' v bs := by
  by_cases h0 : bs = []
  · subst h0
    obtain ⟨a, c, e, h1, h2, h3, h4⟩ := h
    exact ⟨a, c, e, h1, h2, h3, fun j hj => absurd hj (Nat.not_lt_zero _)⟩
  · exact h.kept ht (fun k hk _ => hn h0 k hk)
theorem BytesAt.lt {w : World} {v : Value} {bs : List UInt8} (h : BytesAt w v bs) (h0 : bs ≠ []) : ∀ k ∈ v.ownBlock, k < w.heap.size := by
  obtain ⟨a, c, rfl, h1, h2, h3, h4⟩ := h
  obtain ⟨p, rfl, hc⟩ := h4 0 (List.length_pos_iff.2 h0)
  intro k hk
  simp [Value.ownBlock] at hk
  subst hk
  have := World.block_lt_of_cell? w _ hc
  rwa [add_block] at this
theorem bytes_nil (w : World) : BytesAt w (.slice none 0 0) [] := ⟨none, 0, rfl, Nat.le_refl _, Nat.zero_le _, fun _ => rfl, fun j hj => absurd hj (Nat.not_lt_zero _)⟩
theorem advA_own {a : Option Addr} {n c l l' c' : Nat} : ∀ k ∈ (Value.slice (advA a n c) l c').ownBlock, k ∈ (Value.slice a l' c).ownBlock := by
  intro k hk
  unfold advA at hk
  split at hk
  · cases a with
    | none => simp [Value.ownBlock] at hk
    | some p => simpa [Value.ownBlock] using hk
  · cases a with
    | none => simp [Value.ownBlock] at hk
    | some p => simp [Value.ownBlock, add_block] at hk ⊢; exact hk

/-- A reader in a box: what is left to read; the bytes lie below a bound. -/
def RdAt (w : World) (rb B : Nat) (l : List UInt8) : Prop :=
  ∃ sv, w.heap[rb]? = some (.cells #[sv] 220 (0, 0)) ∧ BytesAt w sv l ∧ (l ≠ [] → ∀ k ∈ sv.ownBlock, k < B)
theorem RdAt.kept {w w' : World} {rb B : Nat} {l : List UInt8} {S : List Nat} (h : RdAt w rb B l) (ht : Turn S w w') (hr : rb ∉ S) (hB : ∀ x ∈ S, B ≤ x) : RdAt w' rb B l := by
  obtain ⟨sv, h1, h2, h3⟩ := h
  exact ⟨sv, ht.heap h1 hr, h2.kept' ht (fun h0 k hk hm => by have := h3 h0 k hk; have := hB k hm; omega), h3⟩
theorem RdAt.still {w w' : World} {rb B : Nat} {l : List UInt8} (h : RdAt w rb B l) (ht : Turn [] w w') : RdAt w' rb B l := h.kept ht (by simp) (by simp)
theorem RdAt.set {w : World} {rb B : Nat} {l' : List UInt8} {sv sv' : Value} (h : w.heap[rb]? = some (.cells #[sv] 220 (0, 0))) (hB : B ≤ rb) (hb : BytesAt w sv' l') (hn : l' ≠ [] → ∀ k ∈ sv'.ownBlock, k < B) : RdAt (w.setCell ⟨rb, 0, none⟩ sv') rb B l' ∧ Turn [rb] w (w.setCell ⟨rb, 0, none⟩ sv') := by
  have ht : Turn [rb] w (w.setCell ⟨rb, 0, none⟩ sv') := (Turn.refl _ _).setCell (.inl (by simp)) _
  exact ⟨⟨sv', by simpa using heap_set h 0 sv', hb.kept' ht (fun h0 k hk => by have := hn h0 k hk; simp; omega), hn⟩, ht⟩

set_option maxHeartbeats 1000000 in
theorem number_any (w : World) (rb B : Nat) (l : List UInt8) (h : RdAt w rb B l) (hB : B ≤ rb) (hl : l.length ≤ 1000000) :
    Calls Tryz.prog 190 #[.pointer (some ⟨rb, 0, none⟩)] w fun e w' => e = .returned (.int .i64 (Bt.num l).1) ∧ RdAt w' rb B (Bt.num l).2 ∧ Turn [rb] w w' := by
  obtain ⟨sv, h1, h2, h3⟩ := h
  have H1 := hide h1
  have H2 := hide h2
  have H3 := hide h3
  obtain ⟨a, c, hsv, hlc, hcm, hc⟩ := h2.form
  subst hsv
  have c0 : w.cell? ⟨rb, 0, none⟩ = some (.slice a l.length c) := by simpa using cell_of h1 0
  have f0 : w.frozen? ⟨rb, 0, none⟩ = false := frozen_of h1 0
  have hgs := Nu.get_size (b := l)
  clear h1 h2 h3 hc
  by_cases h0 : (Nu.get l).2 = 0
  · have hn : Bt.num l = (0, []) := by unfold Bt.num; rw [if_pos h0]
    rw [hn]
    clear hn
    obtain ⟨n, s, hns⟩ : ∃ n s, Nu.get l = (n, s) := ⟨_, _, rfl⟩
    rw [hns] at h0 hgs
    simp only at h0 hgs
    subst h0
    have HNS := hide hns
    clear hns
    go_enter Tryz.func190, Tryz.ntmps190
    go_wp2_with fail
    refine (get_any _ _ l H2.out (by omega)).mono ?_
    rintro e w' ⟨rfl, rfl⟩
    rw [HNS.out]
    go_wp2
    go_ret
    exact ⟨rfl, RdAt.set H1.out hB (bytes_nil _) (by simp)⟩
  · have hn : Bt.num l = ((Nu.get l).1, l.drop (Nu.get l).2) := by unfold Bt.num; rw [if_neg h0]
    rw [hn]
    clear hn
    obtain ⟨n, s, hns⟩ : ∃ n s, Nu.get l = (n, s) := ⟨_, _, rfl⟩
    rw [hns] at h0 hgs ⊢
    simp only at h0 hgs ⊢
    have HNS := hide hns
    clear hns
    have hsl := fun w => @run_from a l.length c s (by omega) w
    go_enter Tryz.func190, Tryz.ntmps190
    go_wp2_with fail
    refine (get_any _ _ l H2.out (by omega)).mono ?_
    rintro e w' ⟨rfl, rfl⟩
    rw [HNS.out]
    go_wp2
    go_ret
    exact ⟨rfl, RdAt.set H1.out hB (by simpa using H2.out.drop (n := s) (by omega)) (fun h0 k hk => H3.out (fun e => h0 (by rw [e]; simp)) k (advA_own (l' := l.length) k hk))⟩

theorem num_len (l : List UInt8) : (Bt.num l).2.length ≤ l.length ∧ (Bt.num l).1 ≤ 1099511627776 := by
  unfold Bt.num
  have := Nu.get_size (b := l)
  split
  · simp
  · simp; omega
theorem text_len (l : List UInt8) : (Bt.text l).2.length ≤ l.length ∧ (Bt.text l).1.length ≤ l.length := by
  unfold Bt.text
  have := num_len l
  split
  · simp
  · simp; omega
set_option maxHeartbeats 1000000 in
theorem rtext_any (w : World) (rb B : Nat) (l : List UInt8) (h : RdAt w rb B l) (hB : B ≤ rb) (hl : l.length ≤ 1000000) :
    Calls Tryz.prog 206 #[.pointer (some ⟨rb, 0, none⟩)] w fun e w' => e = .returned (strV (Bt.text l).1) ∧ RdAt w' rb B (Bt.text l).2 ∧ Turn [rb] w w' := by
  have hnl := num_len l
  have HN := hide (number_any w rb B l h hB hl)
  have HT : Hid (Bt.text l = if (Bt.num l).2.length < (Bt.num l).1 then ([], []) else ((Bt.num l).2.take (Bt.num l).1, (Bt.num l).2.drop (Bt.num l).1)) := rfl
  clear h
  obtain ⟨n, r, hns⟩ : ∃ n r, Bt.num l = (n, r) := ⟨_, _, rfl⟩
  rw [hns] at HN HT hnl
  simp only at HN HT hnl
  clear hns
  by_cases hbig : r.length < n
  · have ht : Bt.text l = ([], []) := by rw [HT.out, if_pos hbig]
    rw [ht]
    clear ht
    go_enter Tryz.func206, Tryz.ntmps206
    go_wp2_with fail
    refine HN.out.mono ?_
    rintro e w1 ⟨rfl, ⟨sv, h1, h2, h3⟩, ht1⟩
    have H1 := hide h1
    have HT1 := hide ht1
    obtain ⟨a, c, hsv, hlc, hcm, hc⟩ := h2.form
    subst hsv
    have c0 : w1.cell? ⟨rb, 0, none⟩ = some (.slice a r.length c) := by simpa using cell_of h1 0
    have f0 : w1.frozen? ⟨rb, 0, none⟩ = false := frozen_of h1 0
    clear h1 h2 h3 ht1 hc
    go_wp2
    go_ret
    have hs := RdAt.set (l' := []) (sv' := .slice none 0 0) H1.out hB (bytes_nil _) (by simp)
    exact ⟨rfl, hs.1, HT1.out.same hs.2⟩
  · have ht : Bt.text l = (r.take n, r.drop n) := by rw [HT.out, if_neg hbig]
    rw [ht]
    clear ht
    go_enter Tryz.func206, Tryz.ntmps206
    go_wp2_with fail
    refine HN.out.mono ?_
    rintro e w1 ⟨rfl, ⟨sv, h1, h2, h3⟩, ht1⟩
    have H1 := hide h1
    have H2 := hide h2
    have H3 := hide h3
    have HT1 := hide ht1
    obtain ⟨a, c, hsv, hlc, hcm, hc⟩ := h2.form
    subst hsv
    have c0 : w1.cell? ⟨rb, 0, none⟩ = some (.slice a r.length c) := by simpa using cell_of h1 0
    have f0 : w1.frozen? ⟨rb, 0, none⟩ = false := frozen_of h1 0
    have hst := fun w => @run_to a r.length c n (by omega) w
    have hsf := fun w => @run_from a r.length c n (by omega) w
    have hcv := (H2.out.take (n := n) (by omega)).conv
    clear h1 h2 h3 ht1 hc
    go_wp2
    go_ret
    have hs := RdAt.set (l' := r.drop n) (sv' := .slice (advA a n c) (r.length - n) (c - n)) H1.out hB (H2.out.drop (n := n) (by omega)) (fun h0 k hk => H3.out (fun e => h0 (by rw [e]; simp)) k (advA_own (l' := r.length) k hk))
    exact ⟨rfl, hs.1, HT1.out.same hs.2⟩

/-! ### a record -/
def zeroRec : Array Value := #[.int .i64 0, .int .i64 0, .bool false, .string ⟨#[]⟩, .bool false, .string ⟨#[]⟩]
/-- Where the reading of a record stands: its own box, the box of what it answers, the reader. -/
structure St (w0 w : World) (rb B X Y : Nat) (cs : Array Value) (l : List UInt8) : Prop where
  x : w.heap[X]? = some (.cells cs 42 (0, 0))
  y : w.heap[Y]? = some (.cells zeroRec 42 (0, 0))
  rd : RdAt w rb B l
  turn : Turn [rb, X, Y] w0 w
theorem St.num {w0 w w' : World} {rb B X Y : Nat} {cs : Array Value} {l l' : List UInt8} (h : St w0 w rb B X Y cs l) (ht : Turn [rb] w w') (hrd : RdAt w' rb B l') (hx : X ≠ rb) (hy : Y ≠ rb) : St w0 w' rb B X Y cs l' :=
  ⟨ht.heap h.x (by simpa using hx), ht.heap h.y (by simpa using hy), hrd, h.turn.trans ht (fun k hk => .inl (by simp at hk ⊢; exact .inl hk))⟩
theorem St.set {w0 w : World} {rb B X Y : Nat} {cs : Array Value} {l : List UInt8} (h : St w0 w rb B X Y cs l) (i : Nat) (v : Value) (hx : X ≠ rb) (hxy : X ≠ Y) (hB : B ≤ X) : St w0 (w.setCell ⟨X, i, none⟩ v) rb B X Y (cs.setIfInBounds i v) l := by
  have ht : Turn [X] w (w.setCell ⟨X, i, none⟩ v) := (Turn.refl _ _).setCell (.inl (by simp)) _
  exact ⟨heap_set h.x i v, ht.heap h.y (by simpa using fun e => hxy e.symm), h.rd.kept ht (by simpa using fun e => hx e.symm) (by simpa using hB), h.turn.trans ht (fun k hk => .inl (by simp at hk ⊢; exact .inr (.inl hk)))⟩
theorem St.cells {w0 w : World} {rb B X Y : Nat} {c0 c1 c2 c3 c4 c5 : Value} {l : List UInt8} (h : St w0 w rb B X Y #[c0, c1, c2, c3, c4, c5] l) :
    (w.cell? ⟨X, 0, none⟩ = some c0 ∧ w.cell? ⟨X, 1, none⟩ = some c1 ∧ w.cell? ⟨X, 2, none⟩ = some c2 ∧ w.cell? ⟨X, 3, none⟩ = some c3 ∧ w.cell? ⟨X, 4, none⟩ = some c4 ∧ w.cell? ⟨X, 5, none⟩ = some c5) ∧
    (w.frozen? ⟨X, 0, none⟩ = false ∧ w.frozen? ⟨X, 1, none⟩ = false ∧ w.frozen? ⟨X, 2, none⟩ = false ∧ w.frozen? ⟨X, 3, none⟩ = false ∧ w.frozen? ⟨X, 4, none⟩ = false ∧ w.frozen? ⟨X, 5, none⟩ = false) :=
  ⟨⟨by simpa using cell_of h.x 0, by simpa using cell_of h.x 1, by simpa using cell_of h.x 2, by simpa using cell_of h.x 3, by simpa using cell_of h.x 4, by simpa using cell_of h.x 5⟩,
   frozen_of h.x 0, frozen_of h.x 1, frozen_of h.x 2, frozen_of h.x 3, frozen_of h.x 4, frozen_of h.x 5⟩
theorem St.ycells {w0 w : World} {rb B X Y : Nat} {cs : Array Value} {l : List UInt8} (h : St w0 w rb B X Y cs l) :
    (w.cell? ⟨Y, 0, none⟩ = some (.int .i64 0) ∧ w.cell? ⟨Y, 1, none⟩ = some (.int .i64 0) ∧ w.cell? ⟨Y, 2, none⟩ = some (.bool false) ∧ w.cell? ⟨Y, 3, none⟩ = some (.string ⟨#[]⟩) ∧ w.cell? ⟨Y, 4, none⟩ = some (.bool false) ∧ w.cell? ⟨Y, 5, none⟩ = some (.string ⟨#[]⟩)) ∧
    (w.frozen? ⟨Y, 0, none⟩ = false ∧ w.frozen? ⟨Y, 1, none⟩ = false ∧ w.frozen? ⟨Y, 2, none⟩ = false ∧ w.frozen? ⟨Y, 3, none⟩ = false ∧ w.frozen? ⟨Y, 4, none⟩ = false ∧ w.frozen? ⟨Y, 5, none⟩ = false) :=
  ⟨⟨by simpa [zeroRec] using cell_of h.y 0, by simpa [zeroRec] using cell_of h.y 1, by simpa [zeroRec] using cell_of h.y 2, by simpa [zeroRec] using cell_of h.y 3, by simpa [zeroRec] using cell_of h.y 4, by simpa [zeroRec] using cell_of h.y 5⟩,
   frozen_of h.y 0, frozen_of h.y 1, frozen_of h.y 2, frozen_of h.y 3, frozen_of h.y 4, frozen_of h.y 5⟩

theorem and_one_ne (n : Nat) (h : n ≤ 1099511627776) : (bits .and .i64 (n : Int) 1 != 0) = decide (n % 2 = 1) := by
  have e : bits .and .i64 (n : Int) 1 = ((n % 2 : Nat) : Int) := by
    show IntKind.i64.wrap ((BitVec.ofInt 64 (n : Int) &&& BitVec.ofInt 64 ((1 : Nat) : Int)).toNat : Int) = _
    rw [BitVec.toNat_and, ofInt_u64 n (by omega), ofInt_u64 1 (by omega), Nat.and_one_is_mod, IntWalk.i64_left, IntWalk.wrap64_in _ (by omega)]
  rw [e]
  by_cases q : n % 2 = 1
  · simp [q]
  · have : n % 2 = 0 := by omega
    simp [this]
theorem nat_and_two (n : Nat) : n &&& 2 = n / 2 % 2 * 2 := by
  apply Nat.eq_of_testBit_eq
  intro i
  rw [Nat.testBit_and, show (2 : Nat) = 2 ^ 1 from rfl, Nat.testBit_two_pow, Nat.testBit_mul_two_pow]
  by_cases h1 : i = 1
  · subst h1
    simp [Nat.testBit_eq_decide_div_mod_eq]
  · have : ¬ 1 = i := fun e => h1 e.symm
    simp only [this, decide_false, Bool.and_false]
    rcases Nat.eq_zero_or_pos i with rfl | hi
    · simp
    · have h2 : (n / 2 ^ 1 % 2 ^ 1).testBit (i - 1) = false := Nat.testBit_lt_two_pow (Nat.lt_of_lt_of_le (Nat.mod_lt _ (by omega)) (Nat.pow_le_pow_right (by omega) (by omega)))
      simp [h2]
theorem and_two_ne (n : Nat) (h : n ≤ 1099511627776) : (bits .and .i64 (n : Int) 2 != 0) = decide (n / 2 % 2 = 1) := by
  have e : bits .and .i64 (n : Int) 2 = ((n / 2 % 2 * 2 : Nat) : Int) := by
    show IntKind.i64.wrap ((BitVec.ofInt 64 (n : Int) &&& BitVec.ofInt 64 ((2 : Nat) : Int)).toNat : Int) = _
    rw [BitVec.toNat_and, ofInt_u64 n (by omega), ofInt_u64 2 (by omega), nat_and_two, IntWalk.i64_left, IntWalk.wrap64_in _ (by omega)]
  rw [e]
  by_cases q : n / 2 % 2 = 1
  · simp [q]
  · have : n / 2 % 2 = 0 := by omega
    simp [this]
theorem St.fin {w0 w : World} {rb B X Y : Nat} {cs : Array Value} {l : List UInt8} (h : St w0 w rb B X Y cs l) (hy : Y ≠ rb) (hB : B ≤ Y) (v0 v1 v2 v3 v4 v5 : Value) :
    RdAt ((((((w.setCell ⟨Y, 0, none⟩ v0).setCell ⟨Y, 1, none⟩ v1).setCell ⟨Y, 2, none⟩ v2).setCell ⟨Y, 3, none⟩ v3).setCell ⟨Y, 4, none⟩ v4).setCell ⟨Y, 5, none⟩ v5) rb B l ∧
    Turn [rb, X, Y] w0 ((((((w.setCell ⟨Y, 0, none⟩ v0).setCell ⟨Y, 1, none⟩ v1).setCell ⟨Y, 2, none⟩ v2).setCell ⟨Y, 3, none⟩ v3).setCell ⟨Y, 4, none⟩ v4).setCell ⟨Y, 5, none⟩ v5) := by
  have ht : Turn [Y] w ((((((w.setCell ⟨Y, 0, none⟩ v0).setCell ⟨Y, 1, none⟩ v1).setCell ⟨Y, 2, none⟩ v2).setCell ⟨Y, 3, none⟩ v3).setCell ⟨Y, 4, none⟩ v4).setCell ⟨Y, 5, none⟩ v5) :=
    ((((((Turn.refl _ _).setCell (.inl (by simp)) _).setCell (.inl (by simp)) _).setCell (.inl (by simp)) _).setCell (.inl (by simp)) _).setCell (.inl (by simp)) _).setCell (.inl (by simp)) _
  exact ⟨h.rd.kept ht (by simpa using fun e => hy e.symm) (by simpa using hB), h.turn.trans ht (fun k hk => .inl (by simp at hk ⊢; exact .inr (.inr hk)))⟩
theorem load_box {w : World} {Y : Nat} {r : Bt.Rec} (h : w.heap[Y]? = some (.cells (recC r).toArray 42 (0, 0))) : (loadVar 42 ⟨Y, 0, none⟩).run Tryz.prog w = .ok (recV r) w := by
  refine load_rec fun i u hu => ?_
  rw [addr_add, cell_of h]
  simpa using hu
theorem St.load {w0 w : World} {rb B X Y : Nat} {cs : Array Value} {l : List UInt8} (h : St w0 w rb B X Y cs l) (r : Bt.Rec) :
    (loadVar 42 ⟨Y, 0, none⟩).run Tryz.prog ((((((w.setCell ⟨Y, 0, none⟩ (.int .i64 r.off)).setCell ⟨Y, 1, none⟩ (.int .i64 r.time)).setCell ⟨Y, 2, none⟩ (.bool r.keyed)).setCell ⟨Y, 3, none⟩ (strV r.key)).setCell ⟨Y, 4, none⟩ (.bool r.gone)).setCell ⟨Y, 5, none⟩ (strV r.value))
      = .ok (recV r) ((((((w.setCell ⟨Y, 0, none⟩ (.int .i64 r.off)).setCell ⟨Y, 1, none⟩ (.int .i64 r.time)).setCell ⟨Y, 2, none⟩ (.bool r.keyed)).setCell ⟨Y, 3, none⟩ (strV r.key)).setCell ⟨Y, 4, none⟩ (.bool r.gone)).setCell ⟨Y, 5, none⟩ (strV r.value)) := by
  refine load_box ?_
  have := heap_set (heap_set (heap_set (heap_set (heap_set (heap_set h.y 0 (.int .i64 r.off)) 1 (.int .i64 r.time)) 2 (.bool r.keyed)) 3 (strV r.key)) 4 (.bool r.gone)) 5 (strV r.value)
  simpa [zeroRec, recC] using this
set_option maxHeartbeats 4000000 in
theorem record_any (w : World) (rb B : Nat) (l : List UInt8) (h : RdAt w rb B l) (hB : B ≤ rb) (hl : l.length ≤ 1000000) (base : Int) (hb0 : 0 ≤ base) (hb1 : base ≤ 1099511627776) :
    Calls Tryz.prog 191 #[.pointer (some ⟨rb, 0, none⟩), .int .i64 base] w fun e w' => e = .returned (recV (Bt.rec1 base l).1) ∧ RdAt w' rb B (Bt.rec1 base l).2 ∧ Turn [rb] w w' := by
  have hrb : rb < w.heap.size := by obtain ⟨sv, h1, -⟩ := h; exact lt_of_heap h1
  have h1 : St ((w.alloc (.cells zeroRec 42)).alloc (.cells zeroRec 42)) ((w.alloc (.cells zeroRec 42)).alloc (.cells zeroRec 42)) rb B (w.heap.size + 1) w.heap.size zeroRec l := by
    refine ⟨by simpa using heap_new (w.alloc (.cells zeroRec 42)) _, ?_, h.still (((Turn.refl [] w).alloc _).alloc _), Turn.refl _ _⟩
    exact ((Turn.refl [] (w.alloc (.cells zeroRec 42))).alloc _).heap (heap_new w _) (by simp)
  obtain ⟨n0, r0, e0⟩ : ∃ n r, Bt.num l = (n, r) := ⟨_, _, rfl⟩
  obtain ⟨n1, r1, e1⟩ : ∃ n r, Bt.num r0 = (n, r) := ⟨_, _, rfl⟩
  obtain ⟨n2, r2, e2⟩ : ∃ n r, Bt.num r1 = (n, r) := ⟨_, _, rfl⟩
  have g0 := num_len l
  have g1 := num_len r0
  have g2 := num_len r1
  rw [e0] at g0
  rw [e1] at g1
  rw [e2] at g2
  simp only at g0 g1 g2
  have E0 := hide e0
  have E1 := hide e1
  have E2 := hide e2
  obtain ⟨W0, hW0⟩ : ∃ W0, W0 = (w.alloc (.cells zeroRec 42)).alloc (.cells zeroRec 42) := ⟨_, rfl⟩
  rw [← hW0] at h1
  have htw : Turn [] w W0 := by rw [hW0]; exact ((Turn.refl [] w).alloc _).alloc _
  have HW0 := hide hW0
  have HTW := hide htw
  have H1 := hide h1
  have hx1 : w.heap.size + 1 ≠ rb := by omega
  have hy1 : w.heap.size ≠ rb := by omega
  have hxy : w.heap.size + 1 ≠ w.heap.size := by omega
  have hxB : B ≤ w.heap.size + 1 := by omega
  have hk1 : (bits .and .i64 (n2 : Int) 1 != 0) = decide (n2 % 2 = 1) := and_one_ne n2 g2.2
  have hk2 : (bits .and .i64 (n2 : Int) 2 != 0) = decide (n2 / 2 % 2 = 1) := and_two_ne n2 g2.2
  obtain ⟨kd, hkd⟩ : ∃ kd, decide (n2 % 2 = 1) = kd := ⟨_, rfl⟩
  obtain ⟨gd, hgd⟩ : ∃ gd, decide (n2 / 2 % 2 = 1) = gd := ⟨_, rfl⟩
  rw [hkd] at hk1
  rw [hgd] at hk2
  have HE : Hid (Bt.rec1 base l = (⟨base + n0, n1, kd, (if kd then (Bt.text r2).1 else []), gd, (if gd then [] else (Bt.text (if kd then (Bt.text r2).2 else r2)).1)⟩, if gd then (if kd then (Bt.text r2).2 else r2) else (Bt.text (if kd then (Bt.text r2).2 else r2)).2)) := by
    show _ = _
    unfold Bt.rec1
    simp only [e0, e1, e2, hkd, hgd]
    subst hkd; subst hgd
    by_cases q1 : n2 % 2 = 1 <;> by_cases q2 : n2 / 2 % 2 = 1 <;> simp [q1, q2]
  clear h h1 e0 e1 e2 hkd hgd hW0 htw
  go_enter Tryz.func191, Tryz.ntmps191
  go_wp2_with fail
  rw [show (w.alloc (.cells #[.int .i64 0, .int .i64 0, .bool false, .string ⟨#[]⟩, .bool false, .string ⟨#[]⟩] 42)).alloc (.cells #[.int .i64 0, .int .i64 0, .bool false, .string ⟨#[]⟩, .bool false, .string ⟨#[]⟩] 42) = W0 from HW0.out.symm]
  refine (number_any _ rb B l H1.out.rd hB hl).mono ?_
  rintro e w1 ⟨rfl, hr1, ht1⟩
  rw [E0.out] at hr1 ⊢
  have H2 := hide (H1.out.num ht1 hr1 hx1 hy1)
  clear hr1 ht1
  obtain ⟨⟨c0, c1, c2, c3, c4, c5⟩, ⟨f0, f1, f2, f3, f4, f5⟩⟩ := H2.out.cells
  go_wp2_with fail
  have H3 : Hid (St W0 (w1.setCell ⟨w.heap.size + 1, 0, none⟩ (.int .i64 (base + n0))) rb B (w.heap.size + 1) w.heap.size #[.int .i64 (base + n0), .int .i64 0, .bool false, .string ⟨#[]⟩, .bool false, .string ⟨#[]⟩] r0) := hide (by simpa [zeroRec] using H2.out.set 0 (.int .i64 (base + n0)) hx1 hxy hxB)
  refine (number_any _ rb B r0 H3.out.rd hB (by omega)).mono ?_
  rintro e w2 ⟨rfl, hr2, ht2⟩
  rw [E1.out] at hr2 ⊢
  have H4 := hide (H3.out.num ht2 hr2 hx1 hy1)
  clear hr2 ht2 c0 c1 c2 c3 c4 c5 f0 f1 f2 f3 f4 f5
  obtain ⟨⟨c0, c1, c2, c3, c4, c5⟩, ⟨f0, f1, f2, f3, f4, f5⟩⟩ := H4.out.cells
  go_wp2_with fail
  have H5 : Hid (St W0 (w2.setCell ⟨w.heap.size + 1, 1, none⟩ (.int .i64 n1)) rb B (w.heap.size + 1) w.heap.size #[.int .i64 (base + n0), .int .i64 n1, .bool false, .string ⟨#[]⟩, .bool false, .string ⟨#[]⟩] r1) := hide (by simpa [zeroRec] using H4.out.set 1 (.int .i64 n1) hx1 hxy hxB)
  refine (number_any _ rb B r1 H5.out.rd hB (by omega)).mono ?_
  rintro e w3 ⟨rfl, hr3, ht3⟩
  rw [E2.out] at hr3 ⊢
  have H6 := hide (H5.out.num ht3 hr3 hx1 hy1)
  clear hr3 ht3 c0 c1 c2 c3 c4 c5 f0 f1 f2 f3 f4 f5
  obtain ⟨⟨c0, c1, c2, c3, c4, c5⟩, ⟨f0, f1, f2, f3, f4, f5⟩⟩ := H6.out.cells
  have hcl := text_len r2
  cases kd <;> cases gd
  · have H7 : Hid (St W0 ((w3.setCell ⟨w.heap.size + 1, 2, none⟩ (.bool false)).setCell ⟨w.heap.size + 1, 4, none⟩ (.bool false)) rb B (w.heap.size + 1) w.heap.size #[.int .i64 (base + n0), .int .i64 n1, .bool false, .string ⟨#[]⟩, .bool false, .string ⟨#[]⟩] r2) := hide (by simpa [zeroRec] using (H6.out.set 2 (.bool false) hx1 hxy hxB).set 4 (.bool false) hx1 hxy hxB)
    go_wp2_with fail
    refine (rtext_any _ rb B (r2) H7.out.rd hB (by omega)).mono ?_
    rintro e w4 ⟨rfl, hr, ht⟩
    have H8 := hide (H7.out.num ht hr hx1 hy1)
    clear hr ht c0 c1 c2 c3 c4 c5 f0 f1 f2 f3 f4 f5
    obtain ⟨⟨c0, c1, c2, c3, c4, c5⟩, ⟨f0, f1, f2, f3, f4, f5⟩⟩ := H8.out.cells
    unfold strV
    have H9 : Hid (St W0 (w4.setCell ⟨w.heap.size + 1, 5, none⟩ (.string ⟨(Bt.text (r2)).1.toArray⟩)) rb B (w.heap.size + 1) w.heap.size #[.int .i64 (base + n0), .int .i64 n1, .bool false, .string ⟨#[]⟩, .bool false, .string ⟨(Bt.text (r2)).1.toArray⟩] (Bt.text (r2)).2) := hide (by simpa [zeroRec] using H8.out.set 5 (.string ⟨(Bt.text (r2)).1.toArray⟩) hx1 hxy hxB)
    obtain ⟨⟨d0, d1, d2, d3, d4, d5⟩, ⟨y0, y1, y2, y3, y4, y5⟩⟩ := H8.out.ycells
    go_wp2
    have hld := H9.out.load ⟨base + n0, n1, false, [], false, (Bt.text r2).1⟩
    simp only [strV] at hld
    refine bodyPost_ret (v := recV ⟨base + n0, n1, false, [], false, (Bt.text r2).1⟩) (by simp [results, Tryz.results191, asAddr, hld, Result.andThen, recV, strV]) rfl ?_
    have hf := H9.out.fin hy1 (by omega) (.int .i64 (base + n0)) (.int .i64 n1) (.bool false) (strV []) (.bool false) (strV (Bt.text r2).1)
    rw [HE.out]
    exact ⟨rfl, hf.1, (HTW.out.mono (by simp)).trans hf.2 (fun k hk => by simp at hk ⊢; omega)⟩
  · have H7 : Hid (St W0 ((w3.setCell ⟨w.heap.size + 1, 2, none⟩ (.bool false)).setCell ⟨w.heap.size + 1, 4, none⟩ (.bool true)) rb B (w.heap.size + 1) w.heap.size #[.int .i64 (base + n0), .int .i64 n1, .bool false, .string ⟨#[]⟩, .bool true, .string ⟨#[]⟩] r2) := hide (by simpa [zeroRec] using (H6.out.set 2 (.bool false) hx1 hxy hxB).set 4 (.bool true) hx1 hxy hxB)
    obtain ⟨⟨d0, d1, d2, d3, d4, d5⟩, ⟨y0, y1, y2, y3, y4, y5⟩⟩ := H6.out.ycells
    go_wp2
    have hld := H7.out.load ⟨base + n0, n1, false, [], true, []⟩
    simp only [strV] at hld
    refine bodyPost_ret (v := recV ⟨base + n0, n1, false, [], true, []⟩) (by simp [results, Tryz.results191, asAddr, hld, Result.andThen, recV, strV]) rfl ?_
    have hf := H7.out.fin hy1 (by omega) (.int .i64 (base + n0)) (.int .i64 n1) (.bool false) (strV []) (.bool true) (strV [])
    rw [HE.out]
    exact ⟨rfl, hf.1, (HTW.out.mono (by simp)).trans hf.2 (fun k hk => by simp at hk ⊢; omega)⟩
  · have H7 : Hid (St W0 ((w3.setCell ⟨w.heap.size + 1, 2, none⟩ (.bool true)).setCell ⟨w.heap.size + 1, 4, none⟩ (.bool false)) rb B (w.heap.size + 1) w.heap.size #[.int .i64 (base + n0), .int .i64 n1, .bool true, .string ⟨#[]⟩, .bool false, .string ⟨#[]⟩] r2) := hide (by simpa [zeroRec] using (H6.out.set 2 (.bool true) hx1 hxy hxB).set 4 (.bool false) hx1 hxy hxB)
    go_wp2_with fail
    refine (rtext_any _ rb B (r2) H7.out.rd hB (by omega)).mono ?_
    rintro e w4 ⟨rfl, hr, ht⟩
    have H8 := hide (H7.out.num ht hr hx1 hy1)
    clear hr ht c0 c1 c2 c3 c4 c5 f0 f1 f2 f3 f4 f5
    obtain ⟨⟨c0, c1, c2, c3, c4, c5⟩, ⟨f0, f1, f2, f3, f4, f5⟩⟩ := H8.out.cells
    unfold strV
    have H9 : Hid (St W0 (w4.setCell ⟨w.heap.size + 1, 3, none⟩ (.string ⟨(Bt.text (r2)).1.toArray⟩)) rb B (w.heap.size + 1) w.heap.size #[.int .i64 (base + n0), .int .i64 n1, .bool true, .string ⟨(Bt.text (r2)).1.toArray⟩, .bool false, .string ⟨#[]⟩] (Bt.text (r2)).2) := hide (by simpa [zeroRec] using H8.out.set 3 (.string ⟨(Bt.text (r2)).1.toArray⟩) hx1 hxy hxB)
    go_wp2_with fail
    refine (rtext_any _ rb B ((Bt.text (r2)).2) H9.out.rd hB (by omega)).mono ?_
    rintro e w5 ⟨rfl, hr, ht⟩
    have H10 := hide (H9.out.num ht hr hx1 hy1)
    clear hr ht c0 c1 c2 c3 c4 c5 f0 f1 f2 f3 f4 f5
    obtain ⟨⟨c0, c1, c2, c3, c4, c5⟩, ⟨f0, f1, f2, f3, f4, f5⟩⟩ := H10.out.cells
    unfold strV
    have H11 : Hid (St W0 (w5.setCell ⟨w.heap.size + 1, 5, none⟩ (.string ⟨(Bt.text ((Bt.text (r2)).2)).1.toArray⟩)) rb B (w.heap.size + 1) w.heap.size #[.int .i64 (base + n0), .int .i64 n1, .bool true, .string ⟨(Bt.text (r2)).1.toArray⟩, .bool false, .string ⟨(Bt.text ((Bt.text (r2)).2)).1.toArray⟩] (Bt.text ((Bt.text (r2)).2)).2) := hide (by simpa [zeroRec] using H10.out.set 5 (.string ⟨(Bt.text ((Bt.text (r2)).2)).1.toArray⟩) hx1 hxy hxB)
    obtain ⟨⟨d0, d1, d2, d3, d4, d5⟩, ⟨y0, y1, y2, y3, y4, y5⟩⟩ := H10.out.ycells
    go_wp2
    have hld := H11.out.load ⟨base + n0, n1, true, (Bt.text r2).1, false, (Bt.text (Bt.text r2).2).1⟩
    simp only [strV] at hld
    refine bodyPost_ret (v := recV ⟨base + n0, n1, true, (Bt.text r2).1, false, (Bt.text (Bt.text r2).2).1⟩) (by simp [results, Tryz.results191, asAddr, hld, Result.andThen, recV, strV]) rfl ?_
    have hf := H11.out.fin hy1 (by omega) (.int .i64 (base + n0)) (.int .i64 n1) (.bool true) (strV (Bt.text r2).1) (.bool false) (strV (Bt.text (Bt.text r2).2).1)
    rw [HE.out]
    exact ⟨rfl, hf.1, (HTW.out.mono (by simp)).trans hf.2 (fun k hk => by simp at hk ⊢; omega)⟩
  · have H7 : Hid (St W0 ((w3.setCell ⟨w.heap.size + 1, 2, none⟩ (.bool true)).setCell ⟨w.heap.size + 1, 4, none⟩ (.bool true)) rb B (w.heap.size + 1) w.heap.size #[.int .i64 (base + n0), .int .i64 n1, .bool true, .string ⟨#[]⟩, .bool true, .string ⟨#[]⟩] r2) := hide (by simpa [zeroRec] using (H6.out.set 2 (.bool true) hx1 hxy hxB).set 4 (.bool true) hx1 hxy hxB)
    go_wp2_with fail
    refine (rtext_any _ rb B (r2) H7.out.rd hB (by omega)).mono ?_
    rintro e w4 ⟨rfl, hr, ht⟩
    have H8 := hide (H7.out.num ht hr hx1 hy1)
    clear hr ht c0 c1 c2 c3 c4 c5 f0 f1 f2 f3 f4 f5
    obtain ⟨⟨c0, c1, c2, c3, c4, c5⟩, ⟨f0, f1, f2, f3, f4, f5⟩⟩ := H8.out.cells
    unfold strV
    have H9 : Hid (St W0 (w4.setCell ⟨w.heap.size + 1, 3, none⟩ (.string ⟨(Bt.text (r2)).1.toArray⟩)) rb B (w.heap.size + 1) w.heap.size #[.int .i64 (base + n0), .int .i64 n1, .bool true, .string ⟨(Bt.text (r2)).1.toArray⟩, .bool true, .string ⟨#[]⟩] (Bt.text (r2)).2) := hide (by simpa [zeroRec] using H8.out.set 3 (.string ⟨(Bt.text (r2)).1.toArray⟩) hx1 hxy hxB)
    obtain ⟨⟨d0, d1, d2, d3, d4, d5⟩, ⟨y0, y1, y2, y3, y4, y5⟩⟩ := H8.out.ycells
    go_wp2
    have hld := H9.out.load ⟨base + n0, n1, true, (Bt.text r2).1, true, []⟩
    simp only [strV] at hld
    refine bodyPost_ret (v := recV ⟨base + n0, n1, true, (Bt.text r2).1, true, []⟩) (by simp [results, Tryz.results191, asAddr, hld, Result.andThen, recV, strV]) rfl ?_
    have hf := H9.out.fin hy1 (by omega) (.int .i64 (base + n0)) (.int .i64 n1) (.bool true) (strV (Bt.text r2).1) (.bool true) (strV [])
    rw [HE.out]
    exact ⟨rfl, hf.1, (HTW.out.mono (by simp)).trans hf.2 (fun k hk => by simp at hk ⊢; omega)⟩
end Go.Proofs.YthbhfhagbaommaaGreatDoor

/- record.Put: a number's bytes behind a row. -/
namespace Go.Proofs.YthbhfhagbaommaaGreatDoor
open Go.RowKit Go.Maps
set_option maxRecDepth 100000
set_option linter.unusedSimpArgs false
set_option linter.unusedVariables false

theorem Tryz.infoB : (Tryz.prog.info? 5).map (fun i => (i.zero, i.size, i.bytes)) = some (some (.int .u8 0), 1, 1) := by kernel_rfl
theorem infoB_parts : ∃ i, Tryz.prog.info? 5 = some i ∧ i.zero = some (.int .u8 0) ∧ i.size = 1 ∧ i.bytes = 1 := by
  have h := Tryz.infoB
  cases hi : Tryz.prog.info? 5 with
  | none => rw [hi] at h; cases h
  | some i =>
    rw [hi] at h
    simp only [Option.map_some, Option.some.injEq, Prod.mk.injEq] at h
    exact ⟨i, rfl, h.1, h.2.1, h.2.2⟩
/-- A new row of bytes. -/
theorem fresh_row (w : World) (bs : List UInt8) (b : Nat) (cs : Array Value) (hb : w.heap[b]? = some (.cells cs 5 (0, 0))) (hc : cs = (bs.map encB).toArray) (c : Nat) : SliceAt w (.slice (some ⟨b, 0, none⟩) bs.length c) (bs.map encB) := by
  refine .inr ⟨⟨b, 0, none⟩, c, by simp, fun j u hu => ?_⟩
  rw [addr_add, cell_of hb, hc]
  simpa using hu

theorem put_byte (m : Nat) : bits .or .u8 ((m : Int) % 256) 128 = ((UInt8.ofNat (m % 128 + 128)).toNat : Int) := by
  have h := u8_or_nat (m % 256) 128 (by omega) (by omega)
  have e : ((m % 256 : Nat) : Int) = (m : Int) % 256 := by omega
  rw [e] at h
  have h' : bits .or .u8 ((m : Int) % 256) 128 = ((m % 256 ||| 128 : Nat) : Int) := h
  rw [h']
  have : ∀ i : Fin 256, i.val ||| 128 = i.val % 128 + 128 := by decide
  have := this ⟨m % 256, by omega⟩
  simp only at this
  rw [this]
  simp; omega

set_option maxHeartbeats 1000000 in
theorem put_any (w : World) (base : Nat) (v : Value) (bs : List UInt8) (hrow : RowAt w 5 base v bs) (hbase : base ≤ w.heap.size) (n : Nat) (hn : n ≤ 1099511627776) (hl : bs.length ≤ 549755813888) :
    Calls Tryz.prog 121 #[v, .int .i64 n] w fun e w' => ∃ v', e = .returned v' ∧ RowAt w' 5 base v' (bs ++ Nu.put n) ∧ Turn v.ownBlock.toList w w' ∧ (∀ k ∈ v'.ownBlock, k ∈ v.ownBlock ∨ w.heap.size ≤ k) := by
  obtain ⟨i0, hi, hz, hz1, hz2⟩ := infoB_parts
  have HR : Hid (RowAt w 5 base v bs) := hrow
  clear hrow
  go_enter Tryz.func121, Tryz.ntmps121
  go_wp2
  go_loopw [0, 5] (fun s u wr => ∃ (m : Nat) (pre : List UInt8), m ≤ n ∧ u = .int .u64 m ∧ pre ++ Nu.put m = Nu.put n ∧ RowAt wr 5 base s (bs ++ pre) ∧ Turn v.ownBlock.toList w wr ∧ (∀ k ∈ s.ownBlock, k ∈ v.ownBlock ∨ w.heap.size ≤ k)) (fun _ u _ => (intOf u).toNat)
  case atStart => exact ⟨n, [], Nat.le_refl _, rfl, rfl, by simpa using HR.out, Turn.refl _ _, fun k hk => .inl hk⟩
  case round =>
    obtain ⟨m, pre, hm, rfl, hpre, hrow, ht, hown⟩ := hrel
    have HP : Hid (pre ++ Nu.put m = Nu.put n) := hpre
    have HR2 : Hid (RowAt wr 5 base _ (bs ++ pre)) := hrow
    have HO : Hid (∀ k ∈ _, k ∈ v.ownBlock ∨ w.heap.size ≤ k) := hown
    clear hpre hrow hown
    have hpl : pre.length ≤ 6 := by
      have h1 := Nu.put_len6 hn
      rw [← HP.out] at h1
      simp at h1; omega
    have hlen : (bs ++ pre).length ≤ 1099511627775 := by simp; omega
    by_cases hbig : 128 ≤ m
    · have hbyte := put_byte m
      have HB : Hid (bits .or .u8 ((m : Int) % 256) 128 = ((UInt8.ofNat (m % 128 + 128)).toNat : Int)) := hbyte
      clear hbyte
      go_wp2_with (at_builtin; go_must (refine wpList_append_row _ rfl _ _ 50 rfl 5 base i0 Tryz.underlying50 hi hz hz1 hz2 _ (.slice (some ⟨wr.heap.size, 0, none⟩) 1 1) (bs ++ pre) [UInt8.ofNat (m % 128 + 128)] rfl rfl (HR2.out.kept ((Turn.refl [] wr).alloc _) (by simp)) (fresh_row _ [UInt8.ofNat (m % 128 + 128)] wr.heap.size _ (heap_new wr _) (by rw [HB.out]; rfl) 1) (by simp at hlen ⊢; omega) (by have := ht.size; simp; omega) ?_; intro v3 w3 hrow3 ht3 hown3; have HR3 : Hid (RowAt w3 5 base v3 (bs ++ pre ++ [UInt8.ofNat (m % 128 + 128)])) := hrow3; clear hrow3))
      refine ⟨⟨m / 128, pre ++ [UInt8.ofNat (m % 128 + 128)], by omega, by go_num, ?_, by have := HR3.out; rwa [List.append_assoc] at this, ?_, ?_⟩, ?_⟩
      · rw [← HP.out, Nu.put_big hbig]; simp
      · exact (ht.trans (T := []) ((Turn.refl [] _).alloc _) (by simp)).trans ht3 (fun k hk => by
          rcases HO.out k (by simp only [Option.mem_toList] at hk; exact hk) with h1 | h1
          · exact .inl (by simpa using h1)
          · exact .inr h1)
      · intro k hk
        rcases hown3 k hk with h1 | h1
        · exact HO.out k h1
        · have := ht.size; simp at h1; exact .inr (by omega)
      · simp only [intOf]; omega
    · have HB : Hid (((m : Nat) : Int) = ((UInt8.ofNat m).toNat : Int)) := by show _ = _; simp; omega
      go_wp2_with (at_builtin; go_must (refine wpList_append_row _ rfl _ _ 50 rfl 5 base i0 Tryz.underlying50 hi hz hz1 hz2 _ (.slice (some ⟨wr.heap.size, 0, none⟩) 1 1) (bs ++ pre) [UInt8.ofNat m] rfl rfl (HR2.out.kept ((Turn.refl [] wr).alloc _) (by simp)) (fresh_row _ [UInt8.ofNat m] wr.heap.size _ (heap_new wr _) (by rw [HB.out]; rfl) 1) (by simp at hlen ⊢; omega) (by have := ht.size; simp; omega) ?_; intro v3 w3 hrow3 ht3 hown3; have HR3 : Hid (RowAt w3 5 base v3 (bs ++ pre ++ [UInt8.ofNat m])) := hrow3; clear hrow3))
      go_ret
      refine ⟨v3, rfl, ?_, ?_, ?_⟩
      · have := HR3.out
        rw [← HP.out, Nu.put_small (by omega)]; rwa [List.append_assoc] at this
      · exact (ht.trans (T := []) ((Turn.refl [] _).alloc _) (by simp)).trans ht3 (fun k hk => by
          rcases HO.out k (by simp only [Option.mem_toList] at hk; exact hk) with h1 | h1
          · exact .inl (by simpa using h1)
          · exact .inr h1)
      · intro k hk
        rcases hown3 k hk with h1 | h1
        · exact HO.out k h1
        · have := ht.size; simp at h1; exact .inr (by omega)
end Go.Proofs.YthbhfhagbaommaaGreatDoor

/- record.Put behind a row that is full: nothing that was there turns. -/
namespace Go.Proofs.YthbhfhagbaommaaGreatDoor
open Go.RowKit Go.Maps
set_option maxRecDepth 100000
set_option linter.unusedSimpArgs false
set_option linter.unusedVariables false

/-- A row that is full, or one that has been made since. -/
def Fresh (w0 w : World) (v : Value) (bs : List UInt8) : Prop :=
  Turn [] w0 w ∧ ((∃ p, v = .slice (some p) bs.length bs.length ∧ SliceAt w v (bs.map encB)) ∨ RowAt w 5 w0.heap.size v bs)
theorem Fresh.bytes {w0 w : World} {v : Value} {bs : List UInt8} (h : Fresh w0 w v bs) : SliceAt w v (bs.map encB) := by
  rcases h.2 with ⟨p, _, h⟩ | h
  · exact h
  · exact h.cells
theorem run_append_fresh {P : Program} (t ty : Nat) (i : TypeInfo) (ht : P.underlying t = some (.slice 5)) (hi : P.info? 5 = some i) (hz : i.zero = some (.int .u8 0)) (hsize : i.size = 1) (hby : i.bytes = 1)
    (w0 w : World) (v x : Value) (bs cs : List UInt8) (hf : Fresh w0 w v bs) (hx : SliceAt w x (cs.map encB)) (h0 : cs ≠ []) (hlen : bs.length + cs.length ≤ 1099511627776) :
    ∃ v' w', (Builtin.append_ #[t, t] ty #[v, x]).run P w = .ok v' w' ∧ RowAt w' 5 w0.heap.size v' (bs ++ cs) ∧ Turn [] w0 w' := by
  obtain ⟨ht0, hr⟩ := hf
  have hs0 := ht0.size
  rcases hr with ⟨p, rfl, hsl⟩ | hr
  · have hp : 0 < cs.length := List.length_pos_iff.2 h0
    rcases hx with ⟨_, hcs⟩ | ⟨a, c, rfl, hnews⟩
    · simp at hcs; exact absurd hcs h0
    rcases hsl with ⟨h1, _⟩ | ⟨p', c', h1, hc⟩
    · cases h1
    simp only [Value.slice.injEq, Option.some.injEq] at h1
    obtain ⟨rfl, _, rfl⟩ := h1
    have hmax : maxLen = 9223372036854775807 := by simp [maxLen]
    have hl : (cs.map encB).length = cs.length * i.size := by simp [hsize]
    simp only [List.length_map] at hnews ⊢
    have hr := run_append_grow (P := P) w t ty 5 i _ ht hi hz p bs.length bs.length (bs.map encB) (by simp [hsize]) hc a cs.length c (cs.map encB) hl hnews (by omega) (by omega) (growslice_fits (by omega) (by rw [hby]; omega))
    have hge := grownCap_ge w (bs.length + cs.length) bs.length 5
    have hcm := grownCap_le_maxLen w (bs.length + cs.length) bs.length 5 (by rw [hmax]; omega)
    refine ⟨_, _, hr, .inr ⟨w.heap.size, _, _, by simp, by omega, heap_new w.drew _, by simpa using hge, ?_, hcm, ?_⟩, (ht0.drew).alloc _⟩
    · simp only [Array.size_append, List.size_toArray, List.length_map, size_zeroCells, Value.cells]
      simp; omega
    · simp only [Array.toList_append]
      rw [List.take_append_of_le_length (by simp)]
      rw [List.take_of_length_le (by simp)]
      simp
  · obtain ⟨v', w', h1, h2, h3, h4⟩ := run_append_row (P := P) w t ty 5 w0.heap.size i ht hi hz hsize hby v x bs cs hr hx hlen hs0
    refine ⟨v', w', h1, h2, ht0.trans h3 (fun k hk => .inr ?_)⟩
    exact (hr.lt k (by simpa using hk)).1
theorem wpList_append_fresh {P : Program} {ops : Array Oper} {rest : List Oper} {o : Oper} {a : Act} {Q : Exit → Act → World → Prop} {w : World} (hgd : o.guard = none) (s x : Operand) (t : TypeId)
    (ho : o.op = .call { callee := .builtin .append, args := #[s, x], argTypes := #[t, t] })
    (i : TypeInfo) (ht : P.underlying t = some (.slice 5)) (hi : P.info? 5 = some i) (hz : i.zero = some (.int .u8 0)) (hsize : i.size = 1) (hby : i.bytes = 1)
    (w0 : World) (v xv : Value) (bs cs : List UInt8) (hs : a.eval s = v) (hxe : a.eval x = xv) (hf : Fresh w0 w v bs) (hx : SliceAt w xv (cs.map encB)) (h0 : cs ≠ []) (hlen : bs.length + cs.length ≤ 1099511627776)
    (h : ∀ v' w', RowAt w' 5 w0.heap.size v' (bs ++ cs) → Turn [] w0 w' → wpList P ops Q rest (a.put o.dst v') w') : wpList P ops Q (o :: rest) a w := by
  refine wpList_plain hgd fun _ hK => ?_
  obtain ⟨v', w', hr, h2, h3⟩ := run_append_fresh (P := P) t o.type i ht hi hz hsize hby w0 w v xv bs cs hf hx h0 hlen
  unfold Oper.wp execOp
  simp only [ho, resolve, invoke, builtin, Sem.run_bind, Sem.run_pure, Result.andThen_ok, List.map_toArray, List.map_cons, List.map_nil, hs, hxe, hr]
  exact hK _ _ (h v' w' h2 h3)
/-- An append whose run is told. -/
theorem oper_append {P : Program} {o : Oper} {a : Act} {K : Act → World → Prop} {Q : Exit → Act → World → Prop} {w w' : World} {s x : Operand} {t tx : TypeId} {v xv v' : Value}
    (ho : o.op = .call { callee := .builtin .append, args := #[s, x], argTypes := #[t, tx] }) (hs : a.eval s = v) (hx : a.eval x = xv) (hr : (Builtin.append_ #[t, tx] o.type #[v, xv]).run P w = .ok v' w') (h : K (a.put o.dst v') w') : o.wp P a w K Q := by
  unfold Oper.wp execOp
  simp only [ho, resolve, invoke, builtin, Sem.run_bind, Sem.run_pure, Result.andThen_ok, List.map_toArray, List.map_cons, List.map_nil, hs, hx, hr]
  exact h
theorem wpList_append_told {P : Program} {ops : Array Oper} {rest : List Oper} {o : Oper} {a : Act} {Q : Exit → Act → World → Prop} {w w' : World} (hgd : o.guard = none) {s x : Operand} {t tx : TypeId} {v xv v' : Value}
    (ho : o.op = .call { callee := .builtin .append, args := #[s, x], argTypes := #[t, tx] }) (hs : a.eval s = v) (hx : a.eval x = xv) (hr : (Builtin.append_ #[t, tx] o.type #[v, xv]).run P w = .ok v' w') (h : wpList P ops Q rest (a.put o.dst v') w') : wpList P ops Q (o :: rest) a w :=
  wpList_plain hgd fun _ hK => oper_append ho hs hx hr (hK _ _ h)
theorem Fresh.alloc {w0 w : World} {v : Value} {bs : List UInt8} (h : Fresh w0 w v bs) (o : Obj) : Fresh w0 (w.alloc o) v bs := by
  have ht : Turn [] w (w.alloc o) := (Turn.refl _ _).alloc _
  refine ⟨h.1.same ht, ?_⟩
  rcases h.2 with ⟨p, e, h⟩ | h
  · exact .inl ⟨p, e, h.kept ht (by simp)⟩
  · exact .inr (h.kept ht (by simp))

set_option maxHeartbeats 1000000 in
theorem put_new (w : World) (p : Addr) (bs : List UInt8) (hv : SliceAt w (.slice (some p) bs.length bs.length) (bs.map encB)) (n : Nat) (hn : n ≤ 1099511627776) (hl : bs.length ≤ 549755813888) :
    Calls Tryz.prog 121 #[.slice (some p) bs.length bs.length, .int .i64 n] w fun e w' => ∃ v', e = .returned v' ∧ RowAt w' 5 w.heap.size v' (bs ++ Nu.put n) ∧ Turn [] w w' := by
  obtain ⟨i0, hi, hz, hz1, hz2⟩ := infoB_parts
  have HR : Hid (Fresh w w (.slice (some p) bs.length bs.length) bs) := ⟨Turn.refl _ _, .inl ⟨p, rfl, hv⟩⟩
  clear hv
  go_enter Tryz.func121, Tryz.ntmps121
  go_wp2
  go_loopw [0, 5] (fun s u wr => ∃ (m : Nat) (pre : List UInt8), m ≤ n ∧ u = .int .u64 m ∧ pre ++ Nu.put m = Nu.put n ∧ Fresh w wr s (bs ++ pre)) (fun _ u _ => (intOf u).toNat)
  case atStart => exact ⟨n, [], Nat.le_refl _, rfl, rfl, by simpa using HR.out⟩
  case round =>
    obtain ⟨m, pre, hm, rfl, hpre, hrow⟩ := hrel
    have HP : Hid (pre ++ Nu.put m = Nu.put n) := hpre
    have HR2 : Hid (Fresh w wr _ (bs ++ pre)) := hrow
    clear hpre hrow
    have hpl : pre.length ≤ 6 := by
      have h1 := Nu.put_len6 hn
      rw [← HP.out] at h1
      simp at h1; omega
    have hlen : (bs ++ pre).length ≤ 1099511627775 := by simp; omega
    by_cases hbig : 128 ≤ m
    · have hbyte := put_byte m
      have HB : Hid (bits .or .u8 ((m : Int) % 256) 128 = ((UInt8.ofNat (m % 128 + 128)).toNat : Int)) := hbyte
      clear hbyte
      go_wp2_with (at_builtin; go_must (refine wpList_append_fresh rfl _ _ 50 rfl i0 Tryz.underlying50 hi hz hz1 hz2 w _ (.slice (some ⟨wr.heap.size, 0, none⟩) 1 1) (bs ++ pre) [UInt8.ofNat (m % 128 + 128)] rfl rfl (HR2.out.alloc _) (fresh_row _ [UInt8.ofNat (m % 128 + 128)] wr.heap.size _ (heap_new wr _) (by rw [HB.out]; rfl) 1) (by simp) (by simp at hlen ⊢; omega) ?_; intro v3 w3 hrow3 ht3; have HR3 : Hid (Fresh w w3 v3 (bs ++ pre ++ [UInt8.ofNat (m % 128 + 128)])) := ⟨ht3, .inr hrow3⟩; clear hrow3 ht3))
      refine ⟨⟨m / 128, pre ++ [UInt8.ofNat (m % 128 + 128)], by omega, by go_num, ?_, by have := HR3.out; rwa [List.append_assoc] at this⟩, ?_⟩
      · rw [← HP.out, Nu.put_big hbig]; simp
      · simp only [intOf]; omega
    · have HB : Hid (((m : Nat) : Int) = ((UInt8.ofNat m).toNat : Int)) := by show _ = _; simp; omega
      go_wp2_with (at_builtin; go_must (refine wpList_append_fresh rfl _ _ 50 rfl i0 Tryz.underlying50 hi hz hz1 hz2 w _ (.slice (some ⟨wr.heap.size, 0, none⟩) 1 1) (bs ++ pre) [UInt8.ofNat m] rfl rfl (HR2.out.alloc _) (fresh_row _ [UInt8.ofNat m] wr.heap.size _ (heap_new wr _) (by rw [HB.out]; rfl) 1) (by simp) (by simp at hlen ⊢; omega) ?_; intro v3 w3 hrow3 ht3; have HR3 : Hid (RowAt w3 5 w.heap.size v3 (bs ++ pre ++ [UInt8.ofNat m])) := hrow3; have HT3 := hide ht3; clear hrow3 ht3))
      go_ret
      refine ⟨v3, rfl, ?_, HT3.out⟩
      have := HR3.out
      rw [← HP.out, Nu.put_small (by omega)]; rwa [List.append_assoc] at this
end Go.Proofs.YthbhfhagbaommaaGreatDoor

/- record's reader: a whole batch. -/
namespace Go.Proofs.YthbhfhagbaommaaGreatDoor
open Go.RowKit Go.Maps
set_option maxRecDepth 100000
set_option linter.unusedSimpArgs false
set_option linter.unusedVariables false

/-- A slice of records with a block of its own; behind its capacity the block may go on. -/
def RecRow (w : World) (base : Nat) (sv : Value) (rs : List Bt.Rec) : Prop :=
  (sv = .slice none 0 0 ∧ rs = []) ∨
  ∃ g cap cur, sv = .slice (some ⟨g, 0, none⟩) rs.length cap ∧ base ≤ g ∧ w.heap[g]? = some (.cells cur 42 (0, 0)) ∧ rs.length ≤ cap ∧ cap * 6 ≤ cur.size ∧ cap ≤ maxLen ∧ cur.toList.take (rs.length * 6) = rs.flatMap recC
theorem recC_len (r : Bt.Rec) : (recC r).length = 6 := rfl
theorem flat_len : ∀ (rs : List Bt.Rec), (rs.flatMap recC).length = rs.length * 6
  | [] => rfl
  | r :: rs => by rw [List.flatMap_cons, List.length_append, flat_len rs, recC_len, List.length_cons]; omega
theorem RecRow.kept {w w' : World} {base : Nat} {sv : Value} {rs : List Bt.Rec} {S : List Nat} (h : RecRow w base sv rs) (ht : Turn S w w') (hn : ∀ k ∈ sv.ownBlock, k ∉ S) : RecRow w' base sv rs := by
  rcases h with h | ⟨g, cap, cur, rfl, hb, hg, r⟩
  · exact .inl h
  · exact .inr ⟨g, cap, cur, rfl, hb, ht.heap hg (hn g (by simp [Value.ownBlock])), r⟩
theorem RecRow.lt {w : World} {base : Nat} {sv : Value} {rs : List Bt.Rec} (h : RecRow w base sv rs) : ∀ k ∈ sv.ownBlock, base ≤ k ∧ k < w.heap.size := by
  intro k hk
  rcases h with ⟨rfl, _⟩ | ⟨g, cap, cur, rfl, hb, hg, r⟩
  · simp [Value.ownBlock] at hk
  · simp [Value.ownBlock] at hk; subst hk; exact ⟨hb, lt_of_heap hg⟩
theorem RecRow.some_slice {w : World} {base : Nat} {sv : Value} {rs : List Bt.Rec} (h : RecRow w base sv rs) : ∃ a n c, sv = .slice a n c := by
  rcases h with ⟨rfl, _⟩ | ⟨g, cap, cur, rfl, r⟩
  · exact ⟨_, _, _, rfl⟩
  · exact ⟨_, _, _, rfl⟩
theorem flat_at : ∀ (rs : List Bt.Rec) (j i : Nat) (h : j < rs.length) (u : Value), (recC rs[j])[i]? = some u → (rs.flatMap recC)[j * 6 + i]? = some u
  | [], _, _, h, _, _ => by simp at h
  | r :: rs, 0, i, h, u, hu => by
    have hi : i < 6 := by have := (List.getElem?_eq_some_iff.1 hu).1; simpa [recC] using this
    rw [List.flatMap_cons, Nat.zero_mul, Nat.zero_add, List.getElem?_append_left (by rw [recC_len]; exact hi)]
    simpa using hu
  | r :: rs, j + 1, i, h, u, hu => by
    rw [List.flatMap_cons, List.getElem?_append_right (by rw [recC_len]; omega), recC_len, show (j + 1) * 6 + i - 6 = j * 6 + i by omega]
    exact flat_at rs j i (by simpa using h) u (by simpa using hu)
theorem RecRow.recs {w : World} {base : Nat} {sv : Value} {rs : List Bt.Rec} (h : RecRow w base sv rs) (ok : ∀ r ∈ rs, RecOk r) : RecsAt w sv rs := by
  rcases h with ⟨rfl, rfl⟩ | ⟨g, cap, cur, rfl, hb, hg, h1, h2, h3, h4⟩
  · exact ⟨none, 0, rfl, Nat.le_refl _, Nat.zero_le _, fun _ => rfl, fun j hj => absurd hj (Nat.not_lt_zero _)⟩
  · refine ⟨_, cap, rfl, h1, h3, by simp, fun j hj => ⟨ok _ (List.getElem_mem _), _, rfl, fun i u hu => ?_⟩⟩
    have hi : i < 6 := by have := (List.getElem?_eq_some_iff.1 hu).1; simpa [recC] using this
    rw [add_add, addr_add, cell_of hg]
    have h5 := flat_at rs j i hj u hu
    rw [← h4, List.getElem?_take_of_lt (by omega)] at h5
    simpa using h5

theorem Tryz.infoR : (Tryz.prog.info? 42).map (fun i => (i.zero.map (fun z => z.cells.size), i.size, i.bytes)) = some (some 6, 6, 64) := by kernel_rfl
theorem infoR_parts : ∃ i z, Tryz.prog.info? 42 = some i ∧ i.zero = some z ∧ z.cells.size = 6 ∧ i.size = 6 ∧ i.bytes = 64 := by
  have h := Tryz.infoR
  cases hi : Tryz.prog.info? 42 with
  | none => rw [hi] at h; cases h
  | some i =>
    rw [hi] at h
    simp only [Option.map_some, Option.some.injEq, Prod.mk.injEq, Option.map_eq_some_iff] at h
    obtain ⟨⟨z, hz, hz2⟩, h2, h3⟩ := h
    exact ⟨i, z, rfl, hz, hz2, h2, h3⟩
theorem run_append_rec (w : World) (base : Nat) (v : Value) (rs : List Bt.Rec) (r : Bt.Rec) (k : Nat) (hrow : RecRow w base v rs) (hk : w.heap[k]? = some (.cells (recC r).toArray 42 (0, 0))) (hlen : rs.length ≤ 1000000) (hbase : base ≤ w.heap.size) :
    ∃ v' w', (Builtin.append_ #[33, 33] 33 #[v, .slice (some ⟨k, 0, none⟩) 1 1]).run Tryz.prog w = .ok v' w' ∧ RecRow w' base v' (rs ++ [r]) ∧ Turn v.ownBlock.toList w w' ∧ (∀ j ∈ v'.ownBlock, j ∈ v.ownBlock ∨ w.heap.size ≤ j) := by
  obtain ⟨i, z, hi, hz, hzs, hsize, hby⟩ := infoR_parts
  have hmax : maxLen = 9223372036854775807 := by simp [maxLen]
  have hl : (recC r).length = 1 * i.size := by rw [hsize]; rfl
  have hnews : ∀ j u, (recC r)[j]? = some u → w.cell? ((⟨k, 0, none⟩ : Addr).add j) = some u := fun j u hu => by
    rw [addr_add, cell_of hk]; simpa using hu
  have hone : ∀ u ∈ recC r, u.oneCell' = true := by
    intro u hu
    simp only [recC, strV, List.mem_cons, List.not_mem_nil, or_false] at hu
    rcases hu with rfl | rfl | rfl | rfl | rfl | rfl <;> rfl
  rcases hrow with ⟨rfl, rfl⟩ | ⟨g, cap, cur, rfl, hb, hg, h1, h2, h3, h4⟩
  · have hr := run_append_nil (P := Tryz.prog) w 33 33 42 i z Tryz.underlying33 hi hz ⟨k, 0, none⟩ 1 1 (recC r) hl hnews (by omega) (by omega) (by rw [hby]; omega)
    have hge := grownCap_ge w 1 0 42
    have hcm := grownCap_le_maxLen w 1 0 42 (by rw [hmax]; omega)
    refine ⟨_, _, hr, .inr ⟨w.heap.size, _, _, by simp, hbase, heap_new w.drew _, by simpa using hge, ?_, hcm, ?_⟩, ((Turn.refl _ _).drew).alloc _, by simp [Value.ownBlock]⟩
    · simp only [Array.size_append, List.size_toArray, size_zeroCells, hzs, recC_len]
      omega
    · simp [recC]
  · have hfl : (rs.flatMap recC ++ recC r).length = (rs.length + 1) * 6 := by rw [List.length_append, flat_len, recC_len]; omega
    by_cases hroom : rs.length + 1 ≤ cap
    · have hr := run_append_room (P := Tryz.prog) w 33 33 42 i Tryz.underlying33 hi g rs.length cap cur hg ⟨k, 0, none⟩ 1 1 (recC r) hl hnews hone hroom (by rw [hsize, recC_len]; omega)
      rw [hsize] at hr
      refine ⟨_, _, hr, .inr ⟨g, cap, _, by simp, hb, setRow_heap w g cur _ 42 _ hg, by simpa using hroom, ?_, h3, ?_⟩, ⟨rfl, rfl, rfl, by simp, fun k _ hk => setRow_other w g k _ (fun e => hk (by simp [Value.ownBlock, e]))⟩, by simp [Value.ownBlock]⟩
      · simp [recC_len]; omega
      · simp only [h4, List.append_assoc]
        rw [← List.append_assoc, List.take_append_of_le_length (by rw [hfl]; simp), List.take_of_length_le (by rw [hfl]; simp)]
        simp
    · have holds : ∀ j u, (rs.flatMap recC)[j]? = some u → w.cell? ((⟨g, 0, none⟩ : Addr).add j) = some u := by
        intro j u hu
        rw [addr_add, cell_of hg]
        have hj : j < rs.length * 6 := by have := (List.getElem?_eq_some_iff.1 hu).1; rwa [flat_len] at this
        rw [← h4, List.getElem?_take_of_lt hj] at hu
        simpa using hu
      have hr := run_append_grow (P := Tryz.prog) w 33 33 42 i z Tryz.underlying33 hi hz ⟨g, 0, none⟩ rs.length cap (rs.flatMap recC) (by rw [flat_len, hsize]) holds ⟨k, 0, none⟩ 1 1 (recC r) hl hnews (by omega) (by omega) (growslice_fits (by omega) (by rw [hby]; omega))
      have hge := grownCap_ge w (rs.length + 1) cap 42
      have hcm := grownCap_le_maxLen w (rs.length + 1) cap 42 (by rw [hmax]; omega)
      refine ⟨_, _, hr, .inr ⟨w.heap.size, _, _, by simp, hbase, heap_new w.drew _, by simpa using hge, ?_, hcm, ?_⟩, ((Turn.refl _ _).drew).alloc _, by simp [Value.ownBlock]⟩
      · simp only [Array.size_append, List.size_toArray, size_zeroCells, hzs, recC_len, flat_len]
        omega
      · simp only [Array.toList_append]
        rw [List.take_append_of_le_length (by show (rs ++ [r]).length * 6 ≤ (rs.flatMap recC ++ recC r).length; rw [hfl]; simp), List.take_of_length_le (by show (rs.flatMap recC ++ recC r).length ≤ (rs ++ [r]).length * 6; rw [hfl]; simp)]
        simp
end Go.Proofs.YthbhfhagbaommaaGreatDoor
