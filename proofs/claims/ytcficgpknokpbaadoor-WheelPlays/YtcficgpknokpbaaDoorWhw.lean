/- The law's selection: one after another the first of the smallest. -/
import Derived.Test.YtcficgpknokpbaaDoorWht
namespace Go.Proofs.YtcficgpknokpbaaDoor.Wh
open Go.RowKit Go.Maps Go.Shelf
set_option maxRecDepth 100000
set_option linter.unusedSimpArgs false
set_option linter.unusedVariables false

def dueB (tt : Nat) (x : Tm) : Bool := decide (x.1 ≤ (tt : Int))
/-- Which one the law holds for the best among the first j. -/
def bestK (l : List Tm) (tt : Nat) : Nat → Int
  | 0 => -1
  | j + 1 => if (l.getD j (0, 0)).1 ≤ (tt : Int) ∧ (bestK l tt j < 0 ∨ (l.getD j (0, 0)).1 < (l.getD (bestK l tt j).toNat (0, 0)).1) then (j : Int) else bestK l tt j
theorem bestK_spec (l : List Tm) (tt : Nat) : ∀ j, (bestK l tt j = -1 ∧ ∀ i, i < j → ¬ (l.getD i (0, 0)).1 ≤ (tt : Int)) ∨
    ∃ k : Nat, bestK l tt j = k ∧ k < j ∧ (l.getD k (0, 0)).1 ≤ (tt : Int) ∧ (∀ i, i < j → (l.getD k (0, 0)).1 ≤ (l.getD i (0, 0)).1 ∨ ¬ (l.getD i (0, 0)).1 ≤ (tt : Int)) ∧ ∀ i, i < k → (l.getD k (0, 0)).1 < (l.getD i (0, 0)).1
  | 0 => .inl ⟨rfl, by omega⟩
  | j + 1 => by
    unfold bestK
    rcases bestK_spec l tt j with ⟨h1, h2⟩ | ⟨k, h1, h2, h3, h4, h5⟩
    · rw [h1]
      by_cases e : (l.getD j (0, 0)).1 ≤ (tt : Int)
      · rw [if_pos ⟨e, .inl (by omega)⟩]
        refine .inr ⟨j, rfl, by omega, e, fun i hi => ?_, fun i hi => ?_⟩
        · by_cases hij : i = j
          · subst hij; exact .inl (Int.le_refl _)
          · exact .inr (h2 i (by omega))
        · have := h2 i hi
          omega
      · rw [if_neg (fun h => e h.1)]
        refine .inl ⟨rfl, fun i hi => ?_⟩
        by_cases hij : i = j
        · subst hij; exact e
        · exact h2 i (by omega)
    · rw [h1, Int.toNat_natCast]
      by_cases e : (l.getD j (0, 0)).1 ≤ (tt : Int) ∧ (l.getD j (0, 0)).1 < (l.getD k (0, 0)).1
      · rw [if_pos ⟨e.1, .inr e.2⟩]
        refine .inr ⟨j, rfl, by omega, e.1, fun i hi => ?_, fun i hi => ?_⟩
        · by_cases hij : i = j
          · subst hij; exact .inl (Int.le_refl _)
          · rcases h4 i (by omega) with h | h
            · exact .inl (by omega)
            · exact .inr h
        · rcases h4 i hi with h | h
          · omega
          · omega
      · rw [if_neg (fun h => e ⟨h.1, h.2.resolve_left (by omega)⟩)]
        refine .inr ⟨k, rfl, by omega, h3, fun i hi => ?_, h5⟩
        by_cases hij : i = j
        · subst hij
          by_cases e1 : (l.getD i (0, 0)).1 ≤ (tt : Int)
          · exact .inl (by
              have := mt (fun h => e ⟨e1, h⟩) id
              omega)
          · exact .inr e1
        · exact h4 i (by omega)
/-- What the selection keeps: T is taken, l is left. -/
structure Sel (all : List Tm) (tt : Nat) (T l : List Tm) : Prop where
  srt : Srt T
  low : ∀ x ∈ T, ∀ y ∈ l, y.1 ≤ (tt : Int) → x.1 ≤ y.1
  sq : Sq (T ++ l.filter (dueB tt)) (all.filter (dueB tt))
  rest : l.filter (fun x => !dueB tt x) = all.filter (fun x => !dueB tt x)
theorem Sel.start (all : List Tm) (tt : Nat) : Sel all tt [] all := ⟨by simp [Srt], by simp, Sq.refl _, rfl⟩
theorem Sel.step {all : List Tm} {tt : Nat} {T l : List Tm} (h : Sel all tt T l) {k : Nat} (hk : k < l.length) (h3 : (l.getD k (0, 0)).1 ≤ (tt : Int)) (h4 : ∀ i, i < l.length → (l.getD k (0, 0)).1 ≤ (l.getD i (0, 0)).1 ∨ ¬ (l.getD i (0, 0)).1 ≤ (tt : Int)) (h5 : ∀ i, i < k → (l.getD k (0, 0)).1 < (l.getD i (0, 0)).1) : Sel all tt (T ++ [l[k]]) (l.take k ++ l.drop (k + 1)) := by
  have hg : ∀ i (hi : i < l.length), l.getD i (0, 0) = l[i] := fun i hi => by rw [List.getD_eq_getElem?_getD, List.getElem?_eq_getElem hi, Option.getD_some]
  rw [hg k hk] at h3 h4 h5
  have hsplit : l = l.take k ++ l[k] :: l.drop (k + 1) := by
    rw [List.getElem_cons_drop hk, List.take_append_drop]
  have hmem : ∀ y ∈ l.take k ++ l.drop (k + 1), y ∈ l := fun y hy => by
    rcases List.mem_append.1 hy with hy | hy
    · exact List.mem_of_mem_take hy
    · exact List.mem_of_mem_drop hy
  have hd : dueB tt l[k] = true := by unfold dueB; exact decide_eq_true h3
  have hA : ∀ y ∈ (l.take k).filter (dueB tt), l[k].1 ≠ y.1 := fun y hy => by
    obtain ⟨hy1, -⟩ := List.mem_filter.1 hy
    obtain ⟨i, hi, rfl⟩ := List.mem_iff_getElem.1 hy1
    rw [List.length_take] at hi
    rw [List.getElem_take]
    have := h5 i (by omega)
    rw [hg i (by omega)] at this
    omega
  refine ⟨srt_append.2 ⟨h.srt, by simp [Srt], fun x hx y hy => ?_⟩, fun x hx y hy hyd => ?_, ?_, ?_⟩
  · obtain rfl := List.mem_singleton.1 hy
    exact h.low x hx _ (List.getElem_mem _) h3
  · rcases List.mem_append.1 hx with hx | hx
    · exact h.low x hx y (hmem y hy) hyd
    · obtain rfl := List.mem_singleton.1 hx
      obtain ⟨i, hi, rfl⟩ := List.mem_iff_getElem.1 (hmem y hy)
      have := h4 i hi
      rw [hg i hi] at this
      exact this.resolve_right (fun h => h hyd)
  · have h6 := h.sq
    conv at h6 => lhs; rw [hsplit]
    rw [List.filter_append, List.filter_cons_of_pos hd] at h6
    rw [List.filter_append]
    refine Sq.trans ?_ h6
    have h7 : Sq ([l[k]] ++ (l.take k).filter (dueB tt)) ((l.take k).filter (dueB tt) ++ [l[k]]) := Sq.swap (fun x hx y hy => by
      obtain rfl := List.mem_singleton.1 hx
      exact hA y hy)
    have h8 := (Sq.refl T).app (h7.app (Sq.refl ((l.drop (k + 1)).filter (dueB tt))))
    simpa [List.append_assoc] using h8
  · rw [← h.rest]
    conv => rhs; rw [hsplit]
    rw [List.filter_append, List.filter_append, List.filter_cons_of_neg (by rw [hd]; simp)]
/-- Where none is due any more all is told, in order. -/
theorem Sel.done {all : List Tm} {tt : Nat} {T l : List Tm} (h : Sel all tt T l) (hn : ∀ i, i < l.length → ¬ (l.getD i (0, 0)).1 ≤ (tt : Int)) : Stb (all.filter (dueB tt)) T ∧ l = all.filter (fun x => !dueB tt x) := by
  have hno : ∀ x ∈ l, ¬ x.1 ≤ (tt : Int) := fun x hx => by
    obtain ⟨i, hi, rfl⟩ := List.mem_iff_getElem.1 hx
    have := hn i hi
    rwa [List.getD_eq_getElem?_getD, List.getElem?_eq_getElem hi, Option.getD_some] at this
  have h1 : l.filter (dueB tt) = [] := by
    rw [List.filter_eq_nil_iff]
    intro x hx
    unfold dueB
    simpa using hno x hx
  have h2 : l.filter (fun x => !dueB tt x) = l := by
    rw [List.filter_eq_self]
    intro x hx
    unfold dueB
    simpa using hno x hx
  have h3 := h.sq
  rw [h1, List.append_nil] at h3
  exact ⟨⟨h.srt, h3.symm⟩, by rw [← h.rest, h2]⟩
end Go.Proofs.YtcficgpknokpbaaDoor.Wh
