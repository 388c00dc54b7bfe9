/- The wheel: Add, Many; what Advance takes out. -/
import Derived.Test.YtcficgpknokpbaaDoorWhi
namespace Go.Proofs.YtcficgpknokpbaaDoor.Wh
open Go.RowKit Go.Maps
set_option maxRecDepth 100000
set_option linter.unusedSimpArgs false
set_option linter.unusedVariables false
attribute [local go_sem] Oper.semAt_some

/-- A wheel: F: all its blocks; all: its timers, as they were added. -/
def WheelAt (w : World) (base b : Nat) (F : List Nat) (now : Nat) (all : List Tm) : Prop := ∃ mref sv sl, WAt w base b now mref all sv sl ∧ WInv now all sl ∧ F = wfoot b mref sv
theorem WheelAt.kept {w w' : World} {base b now : Nat} {F S : List Nat} {all : List Tm} (h : WheelAt w base b F now all) (ht : Turn S w w') (hn : ∀ q ∈ F, q ∉ S) : WheelAt w' base b F now all := by
  obtain ⟨mref, sv, sl, h1, h2, rfl⟩ := h
  exact ⟨mref, sv, sl, h1.kept ht hn, h2, rfl⟩
theorem WheelAt.still {w w' : World} {base b now : Nat} {F : List Nat} {all : List Tm} (h : WheelAt w base b F now all) (ht : Turn [] w w') : WheelAt w' base b F now all := h.kept ht (by simp)
theorem WheelAt.lt {w : World} {base b now : Nat} {F : List Nat} {all : List Tm} (h : WheelAt w base b F now all) : ∀ q ∈ F, base ≤ q ∧ q < w.heap.size := by
  obtain ⟨mref, sv, sl, h1, h2, rfl⟩ := h
  exact h1.foot_lt

theorem dropAll_eq : ∀ (l all : List Tm), dropAll all l = all.filter (fun y => l.all (fun x => !(y.2 == x.2)))
  | [], all => by
    show all = _
    rw [List.filter_eq_self.2]
    simp
  | x :: l, all => by
    show dropAll (dropT all x.2) l = _
    rw [dropAll_eq l, dropT, List.filter_filter]
    apply List.filter_congr
    intro y hy
    simp [Bool.and_comm]
theorem nodup_id : ∀ {l : List Tm}, (l.map (·.2)).Nodup → ∀ x ∈ l, ∀ y ∈ l, x.2 = y.2 → x = y
  | [], _, x, hx, _, _, _ => by simp at hx
  | z :: l, hn, x, hx, y, hy, e => by
    rw [List.map_cons, List.nodup_cons] at hn
    obtain ⟨h1, h2⟩ := hn
    rcases List.mem_cons.1 hx with ex | hx'
    · rcases List.mem_cons.1 hy with ey | hy'
      · rw [ex, ey]
      · exfalso
        exact h1 (List.mem_map.2 ⟨y, hy', by rw [← ex, e]⟩)
    · rcases List.mem_cons.1 hy with ey | hy'
      · exfalso
        exact h1 (List.mem_map.2 ⟨x, hx', by rw [← ey, e]⟩)
      · exact nodup_id h2 x hx' y hy' e
/-- Those that are due taken out one by one: the others are left. -/
theorem dropAll_due {all gone : List Tm} {p : Tm → Bool} (hn : (all.map (·.2)).Nodup) (hg : gone.Perm (all.filter p)) : dropAll all gone = all.filter (fun y => !p y) := by
  rw [dropAll_eq]
  apply List.filter_congr
  intro y hy
  have hmem : ∀ x, x ∈ gone ↔ x ∈ all ∧ p x = true := fun x => by rw [hg.mem_iff, List.mem_filter]
  cases hp : p y
  · simp only [Bool.not_false, List.all_eq_true, Bool.not_eq_true']
    intro x hx
    rw [Bool.eq_false_iff]
    intro e
    have e' : y.2 = x.2 := by simpa using e
    have hxa := (hmem x).1 hx
    have : y = x := nodup_id hn y hy x hxa.1 e'
    rw [this, hxa.2] at hp
    cases hp
  · simp only [Bool.not_true]
    rw [Bool.eq_false_iff]
    intro e
    rw [List.all_eq_true] at e
    have := e y ((hmem y).2 ⟨hy, hp⟩)
    simp at this
theorem Sq.filter {l m : List Tm} (h : Sq l m) (p : Int → Bool) : Sq (l.filter (fun x => p x.1)) (m.filter (fun x => p x.1)) := fun t => by rw [atL_filter, atL_filter, h t]

/-- What is due by a time lies where the wheel stands. -/
theorem due_slot {to : Nat} {all : List Tm} {sl : Nat → List Tm} (h : WInv to all sl) : Sq (goneT (fun x => decide (x.1 ≤ (to : Int))) (sl (slotJ to to))) (all.filter (fun x => decide (x.1 ≤ (to : Int)))) := by
  intro t
  unfold goneT
  rw [atL_filter (fun y => decide (y ≤ (to : Int))), atL_filter (fun y => decide (y ≤ (to : Int))), h.slots _ (slotJ_lt h.le h.le) t, atL_filter (fun y => slotJ to y.toNat == slotJ to to)]
  by_cases e : t ≤ (to : Int)
  · have : slotJ to t.toNat = slotJ to to := slot_due (by omega)
    simp [this]
  · simp [e]
/-- The wheel behind an Advance. -/
theorem due_inv {to : Nat} {all : List Tm} {sl : Nat → List Tm} (h : WInv to all sl) : WInv to (all.filter (fun x => !decide (x.1 ≤ (to : Int)))) (setF sl (slotJ to to) (staysT (fun x => decide (x.1 ≤ (to : Int))) (sl (slotJ to to)))) := by
  refine ⟨h.le, fun j hj t => ?_, nodup_sub List.filter_sublist h.nd, Nat.le_trans (List.length_filter_le _ _) h.len, fun x hx => h.ok x (List.mem_filter.1 hx).1⟩
  rw [atL_filter (fun y => slotJ to y.toNat == j), atL_filter (fun y => !decide (y ≤ (to : Int)))]
  by_cases e : j = slotJ to to
  · subst e
    rw [setF_same]
    unfold staysT
    rw [atL_filter (fun y => !decide (y ≤ (to : Int))), h.slots _ hj t, atL_filter (fun y => slotJ to y.toNat == slotJ to to)]
    cases decide (t ≤ (to : Int)) <;> simp
  · rw [setF_other _ _ e, h.slots j hj t, atL_filter (fun y => slotJ to y.toNat == j)]
    by_cases e2 : t ≤ (to : Int)
    · have h1 : slotJ to t.toNat = slotJ to to := slot_due (by omega)
      have h2 : (slotJ to t.toNat == j) = false := by rw [h1]; simpa using fun e' => e e'.symm
      simp [h2]
    · simp [e2]
/-- The wheel behind an Add. -/
theorem add_inv {now : Nat} {all : List Tm} {sl : Nat → List Tm} (h : WInv now all sl) {t : Nat} (ht : t ≤ 1099511627776) {id : Int} (hw : (Lit.int .i64 id).wf = true) (hf : findT all id = none) (hl : all.length < 10000) : WInv now (all ++ [((t : Int), id)]) (setF sl (slotJ now t) (sl (slotJ now t) ++ [((t : Int), id)])) := by
  refine ⟨h.le, fun j hj u => ?_, ?_, by simp; omega, fun x hx => ?_⟩
  · rw [atL_filter (fun y => slotJ now y.toNat == j), atL_append]
    by_cases e : j = slotJ now t
    · subst e
      rw [setF_same, atL_append, h.slots _ hj u, atL_filter (fun y => slotJ now y.toNat == slotJ now t)]
      by_cases e2 : u = (t : Int)
      · subst e2; simp
      · have : atL u [((t : Int), id)] = [] := by
          unfold atL
          rw [List.filter_eq_nil_iff]
          intro x hx
          obtain rfl := List.mem_singleton.1 hx
          simpa using fun e' => e2 e'.symm
        rw [this, List.append_nil, List.append_nil]
    · rw [setF_other _ _ e, h.slots j hj u, atL_filter (fun y => slotJ now y.toNat == j)]
      by_cases e2 : u = (t : Int)
      · subst e2
        have : (slotJ now ((t : Int)).toNat == j) = false := by simpa using fun e' => e e'.symm
        simp only [this]
        simp
      · have : atL u [((t : Int), id)] = [] := by
          unfold atL
          rw [List.filter_eq_nil_iff]
          intro x hx
          obtain rfl := List.mem_singleton.1 hx
          simpa using fun e' => e2 e'.symm
        rw [this, List.append_nil]
  · rw [List.map_append, List.nodup_append]
    refine ⟨h.nd, by simp, fun a ha b hb => ?_⟩
    have hb' : b = id := by simpa using hb
    subst hb'
    rintro rfl
    obtain ⟨x, hx, e⟩ := List.mem_map.1 ha
    unfold findT at hf
    rw [List.find?_eq_none] at hf
    exact hf x hx (by simpa using e)
  · rcases List.mem_append.1 hx with hx | hx
    · exact h.ok x hx
    · obtain rfl := List.mem_singleton.1 hx
      exact ⟨by simp, by simp only; omega, hw⟩
theorem many_any (w : World) (base b now : Nat) (F : List Nat) (all : List Tm) (h : WheelAt w base b F now all) : Calls Tryd.prog 11 #[.pointer (some ⟨b, 0, none⟩)] w fun e w' => e = .returned (.int .i64 all.length) ∧ w' = w := by
  obtain ⟨mref, sv, sl, h1, h2, rfl⟩ := h
  obtain ⟨c0, c1, -, z0⟩ := h1.cells.head
  have hl := fun ty => h1.map.len ty
  clear h1 h2
  go_enter Tryd.func11, Tryd.ntmps11
  go_wp2
  go_ret
  exact ⟨rfl, rfl⟩
end Go.Proofs.YtcficgpknokpbaaDoor.Wh
