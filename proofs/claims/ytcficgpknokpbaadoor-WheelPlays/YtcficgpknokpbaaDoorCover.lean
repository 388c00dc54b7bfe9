/- A region that draws its order: what has come up has all that it waits for. No program. -/
import Derived.WalkKit
import Derived.Orders
namespace Go.Proofs.YtcficgpknokpbaaDoor
open Go.RowKit
set_option linter.unusedSimpArgs false
set_option linter.unusedVariables false

/-- Which operations stand ahead of the last one, by way of others. -/
def coverOf (ops : List Oper) : Nat → Nat → Nat
  | 0, S => S
  | i + 1, S => coverOf ops i (if S.testBit i then ((ops[i]?).map (fun o => o.after.toList)).getD [] |>.foldl (fun T e => if Region.binds .any e then T ||| 2 ^ e.on else T) S else S)
def coverB (ls : List Oper) (o : Oper) : Bool :=
  let S := coverOf (ls ++ [o]) ls.length (o.after.toList.foldl (fun T e => if Region.binds .any e then T ||| 2 ^ e.on else T) 0)
  (List.range ls.length).all fun i => S.testBit i
def plainB (l : List Oper) : Bool := l.all fun o => match o.op with | .defer _ => false | _ => true
def guardsB (l : List Oper) : Bool := l.all fun o => match o.guard with | some (j, _) => decide (j < l.length) | none => true

def Listed (listed : Array Bool) (i : Nat) : Prop := listed[i]? = some true
theorem getD_false (b : Array Bool) (i : Nat) : b.getD i false = true ↔ Listed b i := by
  unfold Listed
  rw [Array.getD_eq_getD_getElem?]
  cases b[i]? with
  | none => simp
  | some x => simp
theorem getD_true (b : Array Bool) (i : Nat) : b.getD i true = false ↔ b[i]? = some false := by
  rw [Array.getD_eq_getD_getElem?]
  cases b[i]? with
  | none => simp
  | some x => simp
theorem fold_bits {listed : Array Bool} : ∀ (es : List Edge) (T : Nat), (∀ j, T.testBit j = true → Listed listed j) → (∀ e ∈ es, Region.binds .any e = true → Listed listed e.on) →
    ∀ j, (es.foldl (fun T e => if Region.binds .any e then T ||| 2 ^ e.on else T) T).testBit j = true → Listed listed j
  | [], T, hT, _, j, hj => hT j hj
  | e :: es, T, hT, he, j, hj => by
    rw [List.foldl_cons] at hj
    refine fold_bits es _ ?_ (fun x hx => he x (by simp [hx])) j hj
    intro k hk
    split at hk
    · rename_i hb
      rw [Nat.testBit_or, Bool.or_eq_true] at hk
      rcases hk with hk | hk
      · exact hT k hk
      · rw [Nat.testBit_two_pow] at hk
        have : e.on = k := by simpa using hk
        rw [← this]; exact he e (by simp) hb
    · exact hT k hk
/-- What is listed has all that it waits for listed. -/
def Down (ops : List Oper) (listed : Array Bool) : Prop := ∀ (i : Nat) (o : Oper), ops[i]? = some o → Listed listed i → ∀ e ∈ o.after.toList, Region.binds .any e = true → Listed listed e.on
theorem cover_sound {ops : List Oper} {listed : Array Bool} (hd : Down ops listed) : ∀ (i S : Nat), (∀ j, S.testBit j = true → Listed listed j) → ∀ j, (coverOf ops i S).testBit j = true → Listed listed j
  | 0, S, hS, j, hj => hS j hj
  | i + 1, S, hS, j, hj => by
    rw [coverOf] at hj
    refine cover_sound hd i _ ?_ j hj
    split
    · rename_i hb
      cases ho : ops[i]? with
      | none => simpa using hS
      | some o => exact fold_bits _ S hS (fun e he hbe => hd i o ho (hS i hb) e (by simpa [ho] using he) hbe)
    · exact hS
theorem all_listed {ls : List Oper} {o : Oper} {listed : Array Bool} (hc : coverB ls o = true) (hd : Down (ls ++ [o]) listed) (ho : ∀ e ∈ o.after.toList, Region.binds .any e = true → Listed listed e.on) : ∀ i, i < ls.length → Listed listed i := by
  intro i hi
  simp only [coverB, List.all_eq_true, List.mem_range] at hc
  exact cover_sound hd _ _ (fun j hj => fold_bits _ 0 (by simp) ho j hj) i (hc i hi)

theorem mem_ready {md : Region.Mode} {ops : Array Oper} {listed : Array Bool} {i : Nat} : i ∈ Region.ready md ops listed ↔ i < ops.size ∧ listed[i]? = some false ∧ ∃ o, ops[i]? = some o ∧ ∀ e ∈ o.after.toList, Region.binds md e = true → Listed listed e.on := by
  unfold Region.ready
  simp only [List.mem_filter, List.mem_range, Bool.and_eq_true, Bool.not_eq_true', getD_true]
  constructor
  · rintro ⟨h1, h2, h3⟩
    refine ⟨h1, h2, ops[i], by simp [h1], fun e he hb => ?_⟩
    simp only [h1, getElem?_pos, Option.map_some, Option.getD_some] at h3
    rw [Array.all_eq_true_iff_forall_mem] at h3
    have := h3 e (by simpa using he)
    rw [hb] at this
    simp only [Bool.not_true, Bool.false_or] at this
    exact (getD_false _ _).1 this
  · rintro ⟨h1, h2, o, ho, h3⟩
    refine ⟨h1, h2, ?_⟩
    rw [ho, Option.map_some, Option.getD_some, Array.all_eq_true_iff_forall_mem]
    intro e he
    cases hb : Region.binds md e
    · rfl
    · rw [(getD_false _ _).2 (h3 e (by simpa using he) hb)]; rfl

theorem plain_of {ls : List Oper} (h : plainB ls = true) {i : Nat} {o : Oper} (ho : ls[i]? = some o) : ∀ c, o.op ≠ .defer c := by
  intro c e
  have := (List.all_eq_true.1 h) o (List.mem_of_getElem? ho)
  rw [e] at this; cases this
theorem yielded_pre {ls : List Oper} {o : Oper} {tmps : Array Value} {j : Nat} (hj : j < ls.length) : yielded (ls ++ [o]).toArray tmps j = yielded ls.toArray tmps j := by
  unfold yielded
  simp [List.getElem?_append_left hj]
theorem wanted_pre {ls : List Oper} {o x : Oper} {tmps : Array Value} (hg : guardsB ls = true) {i : Nat} (hx : ls[i]? = some x) : Region.wanted x (yielded (ls ++ [o]).toArray tmps) = Region.wanted x (yielded ls.toArray tmps) := by
  have := (List.all_eq_true.1 hg) x (List.mem_of_getElem? hx)
  unfold Region.wanted
  cases hgd : x.guard with
  | none => rfl
  | some g =>
    obtain ⟨j, want⟩ := g
    rw [hgd] at this
    simp only [decide_eq_true_eq] at this
    simp only [yielded_pre this]

theorem false_push {b : Array Bool} {i : Nat} (hi : i < b.size) : (b.push false)[i]? = some false ↔ b[i]? = some false := by
  rw [Array.getElem?_push_lt hi, Array.getElem?_eq_getElem hi]
theorem listed_push {b : Array Bool} {i : Nat} : Listed (b.push false) i ↔ Listed b i := by
  unfold Listed
  rw [Array.getElem?_push]
  split
  · rename_i h; subst h; simp
  · rfl
theorem listed_lt {b : Array Bool} {i : Nat} (h : Listed b i) : i < b.size := (Array.getElem?_eq_some_iff.1 h).1
theorem listed_set {b : Array Bool} {i j : Nat} : Listed (b.setIfInBounds i true) j ↔ (Listed b j ∨ (i = j ∧ j < b.size)) := by
  unfold Listed
  rw [Array.getElem?_setIfInBounds]
  by_cases h : i = j
  · subst h
    by_cases h2 : i < b.size
    · simp [h2]
    · simp [h2]
  · simp [h]
theorem down_set {ops : List Oper} {listed : Array Bool} {i : Nat} {o : Oper} (hd : Down ops listed) (ho : ops[i]? = some o) (hr : ∀ e ∈ o.after.toList, Region.binds .any e = true → Listed listed e.on) : Down ops (listed.setIfInBounds i true) := by
  intro j x hx hj e he hb
  by_cases hij : j = i
  · subst hij
    rw [ho] at hx; cases hx
    exact listed_set.2 (.inl (hr e he hb))
  · refine listed_set.2 (.inl (hd j x hx ?_ e he hb))
    rcases listed_set.1 hj with h1 | h1
    · exact h1
    · exact absurd h1.1.symm hij

theorem size_set (b : Array Bool) (i : Nat) : (b.setIfInBounds i true).size = b.size := by simp
theorem push_set {b : Array Bool} {i : Nat} (hi : i < b.size) : (b.push false).setIfInBounds i true = (b.setIfInBounds i true).push false := by
  apply Array.ext_getElem?
  intro k
  rw [Array.getElem?_setIfInBounds, Array.getElem?_push, Array.getElem?_push, Array.getElem?_setIfInBounds]
  by_cases h1 : i = k
  · subst h1
    simp [hi, show i < b.size + 1 by omega, show ¬ i = b.size by omega]
  · simp [h1]

def edgesB (ls : List Oper) : Bool := (List.range ls.length).all fun i => ((ls[i]?).map fun x => x.after.toList.all fun e => !Region.binds .any e || decide (e.on < i)).getD true

end Go.Proofs.YtcficgpknokpbaaDoor
