/- Requests and answers: what is written of each, and that it is read again. No program. -/
import Derived.Test.YtodadoaindfecaaDoorWia
namespace Go.Proofs.YtodadoaindfecaaDoor.Wi
open Go.Proofs.YtodadoaindfecaaDoor
set_option linter.unusedSimpArgs false
set_option linter.unusedVariables false

structure Req where
  kind : Int
  corr : Int
  topic : List UInt8
  part : Int
  offset : Int
  most : Int
  least : Int
  wait : Int
  time : Int
  parts : Int
  sure : Bool
  compact : Bool
  recs : List Bt.Rec
structure Tp where
  name : List UInt8
  parts : Int
  compact : Bool
structure Ans where
  kind : Int
  corr : Int
  err : Int
  offset : Int
  start : Int
  fin : Int
  found : Bool
  recs : List Bt.Rec
  topics : List Tp

def recCl (r : Bt.Rec) : List Cl := .ns [r.time, tr r.keyed] :: ((if r.keyed then [.tx r.key 60] else []) ++ .ns [tr r.gone] :: (if r.gone then [] else [.tx r.value 500]))
def plCl (r : Bt.Rec) : List Cl := .ns [r.off] :: recCl r
def tpCl (t : Tp) : List Cl := [.tx t.name 40, .ns [t.parts, tr t.compact]]
def reqTail (x : Req) : List Cl :=
  if x.kind = 1 then .ns [x.part, tr x.sure, x.recs.length] :: x.recs.flatMap recCl
  else if x.kind = 2 then [.ns [x.part, x.offset, x.most, x.least, x.wait]]
  else if x.kind = 3 then [.ns [x.part, x.time]]
  else if x.kind = 4 then [.ns [x.part, x.offset]]
  else if x.kind = 5 then [.ns [x.parts, tr x.compact]] else []
def reqCl (x : Req) : List Cl := .ns [x.kind, x.corr] :: ((if x.kind = 7 then [] else [.tx x.topic 40]) ++ reqTail x)
def ansTail (x : Ans) : List Cl :=
  if x.kind = 1 then [.ns [x.offset]]
  else if x.kind = 2 then .ns [x.start, x.fin, x.recs.length] :: x.recs.flatMap plCl
  else if x.kind = 3 then .ns [tr x.found] :: (if x.found then [.ns [x.offset]] else [])
  else if x.kind = 4 then [.ns [x.start]]
  else if x.kind = 7 then .ns [x.topics.length] :: x.topics.flatMap tpCl else []
def ansCl (x : Ans) : List Cl := .ns [x.kind, x.corr, x.err] :: (if x.err = 0 then ansTail x else [])

/-! ### reading -/
abbrev TS := List UInt8 × Bool
def recP (l : List UInt8) : Bt.Rec × List UInt8 :=
  let a := Bt.num l
  let b := Bt.num a.2
  let k := if b.1 = 1 then Bt.text b.2 else ([], b.2)
  let g := Bt.num k.2
  let v := if g.1 = 1 then ([], g.2) else Bt.text g.2
  ({ off := 0, time := a.1, keyed := decide (b.1 = 1), key := k.1, gone := decide (g.1 = 1), value := v.1 }, v.2)
def plP (l : List UInt8) : Bt.Rec × List UInt8 :=
  let a := Bt.num l
  ({ (recP a.2).1 with off := a.1 }, (recP a.2).2)
def tpP (l : List UInt8) : Tp × List UInt8 :=
  let a := Bt.text l
  let b := Bt.num a.2
  let c := Bt.num b.2
  ({ name := a.1, parts := b.1, compact := decide (c.1 = 1) }, c.2)
def listP {α : Type} (one : List UInt8 → α × List UInt8) : Nat → List UInt8 → List α × List UInt8
  | 0, l => ([], l)
  | n + 1, l => if l = [] then ([], l) else ((one l).1 :: (listP one n (one l).2).1, (listP one n (one l).2).2)
def truR (t : TS) : Bool × TS := (decide ((Bt.numR t).1 = 1), ((Bt.numR t).2.1, (Bt.numR t).2.2 || decide (1 < (Bt.numR t).1)))
def recR (o : Bool) (t : TS) : Bt.Rec × TS :=
  let z := if o then Bt.numR t else (0, t)
  let a := Bt.numR z.2
  let b := truR a.2
  let k := if b.1 then Bt.textR 60 b.2 else ([], b.2)
  let g := truR k.2
  let v := if g.1 then ([], g.2) else Bt.textR 500 g.2
  ({ off := z.1, time := a.1, keyed := b.1, key := k.1, gone := g.1, value := v.1 }, v.2)
def tpR (t : TS) : Tp × TS :=
  let a := Bt.textR 40 t
  let b := Bt.numR a.2
  let c := truR b.2
  ({ name := a.1, parts := b.1, compact := c.1 }, c.2)
def listR {α : Type} (one : TS → α × TS) : Nat → TS → List α × TS
  | 0, t => ([], t)
  | n + 1, t => if t.2 then ([], t) else ((one t).1 :: (listR one n (one t).2).1, (listR one n (one t).2).2)

/-! ### what is told -/
def canR (r : Bt.Rec) : Bt.Rec := { off := 0, time := r.time, keyed := r.keyed, key := if r.keyed then r.key else [], gone := r.gone, value := if r.gone then [] else r.value }
def canP (r : Bt.Rec) : Bt.Rec := { off := r.off, time := r.time, keyed := r.keyed, key := if r.keyed then r.key else [], gone := r.gone, value := if r.gone then [] else r.value }

theorem num_ok {n : Int} (h : okN n) (l : List UInt8) : Bt.num (Nu.put n.toNat ++ l) = (n.toNat, l) := Bt.num_put (by have := h.2; omega) l
theorem numR_ok {n : Int} (h : okN n) (l : List UInt8) : Bt.numR (Nu.put n.toNat ++ l, false) = (n.toNat, (l, false)) := Bt.numR_put (by have := h.2; omega) l false
theorem toNat_ok {n : Int} (h : okN n) : ((n.toNat : Nat) : Int) = n := by have := h.1; omega
theorem okN_tr (b : Bool) : okN (tr b) := by cases b <;> decide
theorem tr_one (b : Bool) : decide ((tr b).toNat = 1) = b := by cases b <;> rfl
theorem tr_le (b : Bool) : decide (1 < (tr b).toNat) = false := by cases b <;> rfl
theorem truR_ok (b : Bool) (l : List UInt8) : truR (Nu.put (tr b).toNat ++ l, false) = (b, (l, false)) := by
  unfold truR
  rw [numR_ok (okN_tr b), tr_one, tr_le]
  rfl
def recW (r : Bt.Rec) : List UInt8 := Nu.put r.time.toNat ++ (Nu.put (tr r.keyed).toNat ++ ((if r.keyed then Bt.textB r.key else []) ++ (Nu.put (tr r.gone).toNat ++ (if r.gone then [] else Bt.textB r.value))))
theorem recCl_B (r : Bt.Rec) : (recCl r).flatMap clB = recW r := by
  obtain ⟨off, time, keyed, key, gone, value⟩ := r
  unfold recCl recW
  cases keyed <;> cases gone <;> simp [clB, List.append_assoc]
theorem plCl_B (r : Bt.Rec) : (plCl r).flatMap clB = Nu.put r.off.toNat ++ recW r := by
  unfold plCl
  rw [List.flatMap_cons, recCl_B]
  simp [clB]
theorem tpCl_B (t : Tp) : (tpCl t).flatMap clB = Bt.textB t.name ++ (Nu.put t.parts.toNat ++ Nu.put (tr t.compact).toNat) := by
  unfold tpCl
  simp [clB]
structure RecFits (r : Bt.Rec) : Prop where
  time : okN r.time
  key : r.keyed = true → r.key.length ≤ 60
  value : r.gone = false → r.value.length ≤ 500
theorem recFits_of {r : Bt.Rec} (h : ∀ c ∈ recCl r, okC c) : RecFits r := by
  refine ⟨?_, fun e => ?_, fun e => ?_⟩
  · have := h (.ns [r.time, tr r.keyed]) (by simp [recCl])
    exact this r.time (by simp)
  · exact h (.tx r.key 60) (by simp [recCl, e])
  · exact h (.tx r.value 500) (by simp [recCl, e])
theorem recP_B {r : Bt.Rec} (h : RecFits r) (l : List UInt8) : recP (recW r ++ l) = (canR r, l) := by
  obtain ⟨off, time, keyed, key, gone, value⟩ := r
  obtain ⟨h1, h2, h3⟩ := h
  simp only at h1 h2 h3
  unfold recP recW canR
  simp only [List.append_assoc]
  rw [num_ok h1, num_ok (okN_tr keyed)]
  simp only [tr_one, toNat_ok h1]
  cases keyed
  · simp only [tr, Bool.false_eq_true, if_false, List.nil_append, show ¬ ((0 : Int).toNat = 1) by decide]
    cases gone
    · rw [num_ok (show okN (if false = true then 1 else 0) by decide)]
      simp [Bt.text_put (show value.length ≤ 1099511627776 by have := h3 rfl; omega)]
    · rw [num_ok (show okN (if true = true then 1 else 0) by decide)]
      simp
  · simp only [tr, if_true, show ((1 : Int).toNat = 1) by decide]
    rw [Bt.text_put (show key.length ≤ 1099511627776 by have := h2 rfl; omega)]
    cases gone
    · simp only [Bool.false_eq_true, if_false]
      rw [num_ok (show okN 0 by decide)]
      simp [Bt.text_put (show value.length ≤ 1099511627776 by have := h3 rfl; omega)]
    · simp only [if_true]
      rw [num_ok (show okN 1 by decide)]
      simp
theorem recR_B {r : Bt.Rec} (h : RecFits r) (l : List UInt8) : recR false (recW r ++ l, false) = (canR r, (l, false)) := by
  obtain ⟨off, time, keyed, key, gone, value⟩ := r
  obtain ⟨h1, h2, h3⟩ := h
  simp only at h1 h2 h3
  unfold recR recW canR
  simp only [List.append_assoc, Bool.false_eq_true, if_false]
  rw [numR_ok h1]
  simp only
  rw [truR_ok keyed]
  simp only [toNat_ok h1]
  cases keyed
  · simp only [Bool.false_eq_true, if_false, List.nil_append]
    rw [truR_ok gone]
    cases gone
    · simp [Bt.textR_put (show value.length ≤ 1099511627776 by have := h3 rfl; omega) (h3 rfl)]
    · simp
  · simp only [if_true]
    rw [Bt.textR_put (show key.length ≤ 1099511627776 by have := h2 rfl; omega) (h2 rfl)]
    simp only
    rw [truR_ok gone]
    cases gone
    · simp [Bt.textR_put (show value.length ≤ 1099511627776 by have := h3 rfl; omega) (h3 rfl)]
    · simp
theorem plP_B {r : Bt.Rec} (h : RecFits r) (ho : okN r.off) (l : List UInt8) : plP (Nu.put r.off.toNat ++ recW r ++ l) = (canP r, l) := by
  unfold plP
  rw [List.append_assoc, num_ok ho]
  simp only
  rw [recP_B h, toNat_ok ho]
  rfl
theorem recR_off (t : TS) : recR true t = ({ (recR false (Bt.numR t).2).1 with off := (Bt.numR t).1 }, (recR false (Bt.numR t).2).2) := rfl
theorem plR_B {r : Bt.Rec} (h : RecFits r) (ho : okN r.off) (l : List UInt8) : recR true (Nu.put r.off.toNat ++ recW r ++ l, false) = (canP r, (l, false)) := by
  rw [recR_off, List.append_assoc, numR_ok ho]
  simp only
  rw [recR_B h, toNat_ok ho]
  rfl
theorem tpP_B {t : Tp} (hn : t.name.length ≤ 40) (hp : okN t.parts) (l : List UInt8) : tpP (Bt.textB t.name ++ (Nu.put t.parts.toNat ++ Nu.put (tr t.compact).toNat) ++ l) = (t, l) := by
  unfold tpP
  rw [List.append_assoc, Bt.text_put (by omega)]
  simp only [List.append_assoc]
  rw [num_ok hp]
  simp only
  rw [num_ok (okN_tr _)]
  simp only [tr_one, toNat_ok hp]
theorem tpR_B {t : Tp} (hn : t.name.length ≤ 40) (hp : okN t.parts) (l : List UInt8) : tpR (Bt.textB t.name ++ (Nu.put t.parts.toNat ++ Nu.put (tr t.compact).toNat) ++ l, false) = (t, (l, false)) := by
  unfold tpR
  rw [List.append_assoc, Bt.textR_put (by omega) hn]
  simp only [List.append_assoc]
  rw [numR_ok hp]
  simp only
  rw [truR_ok]
  simp only [toNat_ok hp]
theorem put_ne (n : Nat) : Nu.put n ≠ [] := fun h => by have := Nu.put_pos n; rw [h] at this; simp at this
theorem listP_B {α : Type} {one : List UInt8 → α × List UInt8} {W : α → List UInt8} {c : α → α} {ok : α → Prop} (h1 : ∀ x, ok x → ∀ l, one (W x ++ l) = (c x, l)) (h0 : ∀ x, W x ≠ []) : ∀ (xs : List α), (∀ x ∈ xs, ok x) → ∀ l, listP one xs.length (xs.flatMap W ++ l) = (xs.map c, l)
  | [], _, l => by simp [listP]
  | x :: xs, h, l => by
    have hne : (x :: xs).flatMap W ++ l ≠ [] := fun e => by
      have := congrArg List.length e
      have h2 := List.length_pos_iff.2 (h0 x)
      rw [List.flatMap_cons, List.append_assoc] at this
      simp at this
      exact h0 x this.1
    rw [List.length_cons, listP, if_neg hne, List.flatMap_cons, List.append_assoc, h1 x (h x (by simp))]
    simp only
    rw [listP_B h1 h0 xs (fun y hy => h y (by simp [hy]))]
    rfl
theorem listR_B {α : Type} {one : TS → α × TS} {W : α → List UInt8} {c : α → α} {ok : α → Prop} (h1 : ∀ x, ok x → ∀ l, one (W x ++ l, false) = (c x, (l, false))) : ∀ (xs : List α), (∀ x ∈ xs, ok x) → ∀ l, listR one xs.length (xs.flatMap W ++ l, false) = (xs.map c, (l, false))
  | [], _, l => by simp [listR]
  | x :: xs, h, l => by
    rw [List.length_cons, listR, if_neg (by simp), List.flatMap_cons, List.append_assoc, h1 x (h x (by simp))]
    simp only
    rw [listR_B h1 xs (fun y hy => h y (by simp [hy]))]
    rfl
theorem recW_ne (r : Bt.Rec) : recW r ≠ [] := fun h => by
  have := congrArg List.length h
  unfold recW at this
  simp at this
  exact put_ne _ this.1
end Go.Proofs.YtodadoaindfecaaDoor.Wi
