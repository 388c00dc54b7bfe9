/- conveyorlaw.WheelPlays: the place of a timer in the law's row. -/
import Derived.Test.YtcficgpknokpbaaDoorWhs
import Derived.Test.YtcficgpknokpbaaDoorBare
import Derived.Deep.CutBlock
import Derived.Deep.DeepCutAuto
namespace Go.Proofs.YtcficgpknokpbaaDoor.Wh
open Go.RowKit Go.Maps Go.Shelf
set_option maxRecDepth 100000
set_option linter.unusedSimpArgs false
set_option linter.unusedVariables false
attribute [local go_sem] Oper.semAt_some

/-- Where the law finds an id among the first j: -1 where it does not. -/
def lastK (l : List Tm) (id : Int) : Nat → Int
  | 0 => -1
  | j + 1 => if (l.getD j (0, 0)).2 = id then (j : Int) else lastK l id j
theorem lastK_spec (l : List Tm) (id : Int) : ∀ j, j ≤ l.length → (lastK l id j = -1 ∧ ∀ i, i < j → (l.getD i (0, 0)).2 ≠ id) ∨ ∃ k : Nat, lastK l id j = k ∧ k < j ∧ (l.getD k (0, 0)).2 = id
  | 0, _ => .inl ⟨rfl, by omega⟩
  | j + 1, h => by
    unfold lastK
    by_cases e : (l.getD j (0, 0)).2 = id
    · rw [if_pos e]
      exact .inr ⟨j, rfl, by omega, e⟩
    · rw [if_neg e]
      rcases lastK_spec l id j (by omega) with ⟨h1, h2⟩ | ⟨k, h1, h2, h3⟩
      · refine .inl ⟨h1, fun i hi => ?_⟩
        by_cases hij : i = j
        · subst hij; exact e
        · exact h2 i (by omega)
      · exact .inr ⟨k, h1, by omega, h3⟩
theorem lastK_none {l : List Tm} {id : Int} (h : ∀ i, i < l.length → (l.getD i (0, 0)).2 ≠ id) : findT l id = none := by
  unfold findT
  rw [List.find?_eq_none]
  intro x hx
  obtain ⟨i, hi, e⟩ := List.mem_iff_getElem.1 hx
  have := h i hi
  rw [List.getD_eq_getElem?_getD, List.getElem?_eq_getElem hi, Option.getD_some, e] at this
  simpa using this
theorem lastK_some {l : List Tm} {id : Int} (hn : (l.map (·.2)).Nodup) {k : Nat} (hk : k < l.length) (h : (l.getD k (0, 0)).2 = id) : findT l id = some l[k] ∧ dropT l id = l.take k ++ l.drop (k + 1) := by
  have e : (l[k]).2 = id := by rw [List.getD_eq_getElem?_getD, List.getElem?_eq_getElem hk, Option.getD_some] at h; exact h
  have hne : ∀ i (hi : i < l.length), i ≠ k → (l[i]).2 ≠ id := by
    intro i hi hik h2
    have hp := List.pairwise_iff_getElem.1 hn
    rcases Nat.lt_or_ge i k with h3 | h3
    · have := hp i k (by simpa using hi) (by simpa using hk) h3
      simp only [List.getElem_map] at this
      exact this (by rw [h2, e])
    · have := hp k i (by simpa using hk) (by simpa using hi) (by omega)
      simp only [List.getElem_map] at this
      exact this (by rw [h2, e])
  have hsplit : l = l.take k ++ l[k] :: l.drop (k + 1) := by
    rw [List.getElem_cons_drop hk, List.take_append_drop]
  have h1 : ∀ x ∈ l.take k, x.2 ≠ id := by
    intro x hx
    obtain ⟨i, hi, rfl⟩ := List.mem_iff_getElem.1 hx
    rw [List.length_take] at hi
    rw [List.getElem_take]
    exact hne i (by omega) (by omega)
  have h2 : ∀ x ∈ l.drop (k + 1), x.2 ≠ id := by
    intro x hx
    obtain ⟨i, hi, rfl⟩ := List.mem_iff_getElem.1 hx
    rw [List.length_drop] at hi
    rw [List.getElem_drop]
    exact hne _ (by omega) (by omega)
  constructor
  · unfold findT
    conv => lhs; rw [hsplit]
    rw [List.find?_append, List.find?_eq_none.2 (fun x hx => by simpa using h1 x hx), List.find?_cons_of_pos (by simpa using e)]
    rfl
  · unfold dropT
    conv => lhs; rw [hsplit]
    rw [List.filter_append, List.filter_cons_of_neg (by simpa using e), List.filter_eq_self.2 (fun x hx => by simpa using h1 x hx), List.filter_eq_self.2 (fun x hx => by simpa using h2 x hx)]
theorem WheelAt.nd {w : World} {base b now : Nat} {F : List Nat} {all : List Tm} (h : WheelAt w base b F now all) : (all.map (·.2)).Nodup := by
  obtain ⟨mref, sv, sl, -, h2, -⟩ := h
  exact h2.nd
/-- A row of another kind lies apart from a wheel. -/
theorem WheelAt.apartL {α : Type} {T : TypeId} {n : Nat} {enc : α → List Value} {w : World} {base b now base' : Nat} {F : List Nat} {all : List Tm} (h : WheelAt w base b F now all) {v : Value} {l : List α} (hr : GRow T n enc w base' v l) (h1 : T ≠ 28) (h2 : T ≠ 52) : ∀ q ∈ v.ownBlock, q ∉ F := by
  obtain ⟨mref, sv, sl, hW, hI, rfl⟩ := h
  intro q hq hm
  rcases hr with ⟨rfl, -⟩ | ⟨g, cap, cur, rfl, -, hg, -⟩
  · simp [Value.ownBlock] at hq
  · simp [Value.ownBlock] at hq
    subst hq
    rcases mem_wfoot.1 hm with rfl | hm | ⟨j, hj, hm⟩
    · obtain ⟨cur2, h3, -⟩ := hW.cells.cur
      rw [h3] at hg
      simp at hg
      exact h1 hg.2.symm
    · exact hW.map.ne hg hm
    · rcases hW.rows j hj with ⟨e, -⟩ | ⟨g', cap', cur', e, -, hg', -⟩
      · rw [e] at hm; simp [Value.ownBlock] at hm
      · rw [e] at hm
        simp [Value.ownBlock] at hm
        subst hm
        rw [hg] at hg'
        simp at hg'
        exact h2 hg'.2
end Go.Proofs.YtcficgpknokpbaaDoor.Wh
