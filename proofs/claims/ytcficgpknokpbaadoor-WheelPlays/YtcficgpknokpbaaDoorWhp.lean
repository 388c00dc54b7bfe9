/- The wheel: Cancel; Now; what Add and Advance refuse. -/
import Derived.Test.YtcficgpknokpbaaDoorWhm
namespace Go.Proofs.YtcficgpknokpbaaDoor.Wh
open Go.RowKit Go.Maps Go.Shelf
set_option maxRecDepth 100000
set_option linter.unusedSimpArgs false
set_option linter.unusedVariables false
attribute [local go_sem] Oper.semAt_some

theorem now_any (w : World) (base b now : Nat) (F : List Nat) (all : List Tm) (h : WheelAt w base b F now all) : Calls Tryd.prog 10 #[.pointer (some ⟨b, 0, none⟩)] w fun e w' => e = .returned (.int .i64 now) ∧ w' = w := by
  obtain ⟨mref, sv, sl, h1, h2, rfl⟩ := h
  obtain ⟨c0, c1, -, z0⟩ := h1.cells.head
  clear h1 h2
  go_enter Tryd.func10, Tryd.ntmps10
  go_wp2
  go_ret
  exact ⟨rfl, rfl⟩
theorem add_range (w : World) (b : Nat) (t id : Int) (ht : t < 0 ∨ 1099511627776 < t) : Calls Tryd.prog 6 #[.pointer (some ⟨b, 0, none⟩), .int .i64 t, .int .i64 id] w fun e w' => e = .returned (.iface 34 (.int .i64 2)) ∧ w' = w := by
  by_cases h0 : t < 0
  · have hd : decide (t < 0) = true := by simpa using h0
    go_enter Tryd.func6, Tryd.ntmps6
    go_wp2
    go_ret
    exact ⟨rfl, rfl⟩
  · have hd : decide (t < 0) = false := by simpa using h0
    have h1 : t > 1099511627776 := by omega
    go_enter Tryd.func6, Tryd.ntmps6
    go_wp2
    go_ret
    exact ⟨rfl, rfl⟩
theorem add_twice (w : World) (base b now : Nat) (F : List Nat) (all : List Tm) (h : WheelAt w base b F now all) (t : Nat) (ht : t ≤ 1099511627776) (id : Int) (hw : (Lit.int .i64 id).wf = true) (x : Tm) (hf : findT all id = some x) : Calls Tryd.prog 6 #[.pointer (some ⟨b, 0, none⟩), .int .i64 t, .int .i64 id] w fun e w' => e = .returned (.iface 34 (.int .i64 9)) ∧ w' = w := by
  obtain ⟨mref, sv, sl, h1, h2, rfl⟩ := h
  obtain ⟨c0, c1, -, z0⟩ := h1.cells.head
  have hlook := h1.map.look hw
  rw [hf] at hlook
  simp only [Option.map_some, Option.getD_some, Option.isSome_some] at hlook
  have ht1 : ¬ (t : Int) > 1099511627776 := by omega
  clear h1 h2
  go_enter Tryd.func6, Tryd.ntmps6
  go_wp2
  go_ret
  exact ⟨rfl, rfl⟩
theorem eg_can : ∀ args w, (callFunc 15 args).run Tryd.prog w = .ok (.enter 15 args) w := enters_of Tryd.func15 (by kernel_rfl) rfl
theorem can_any (w : World) (B : Nat) (id : Int) (hB : w.cell? ⟨B, 0, none⟩ = some (.int .i64 id)) (x : Tm) : Calls Tryd.prog 15 #[tmV x, .pointer (some ⟨B, 0, none⟩)] w fun e w' => e = .returned (.bool (x.2 == id)) ∧ Turn [] w w' := by
  have zB := World.block_lt_of_cell? w _ hB
  simp only at zB
  unfold tmV
  go_enter Tryd.func15, Tryd.ntmps15
  go_wp2
  go_ret
  exact ⟨rfl, (Turn.refl _ _).alloc _⟩
theorem atL_comm (p : Tm → Bool) (l : List Tm) (t : Int) : atL t (l.filter p) = (atL t l).filter p := by
  unfold atL
  rw [List.filter_filter, List.filter_filter]
  apply List.filter_congr
  intro x _
  rw [Bool.and_comm]
theorem Sq.filterP {l m : List Tm} (h : Sq l m) (p : Tm → Bool) : Sq (l.filter p) (m.filter p) := fun t => by rw [atL_comm, atL_comm, h t]
/-- The wheel behind a Cancel. -/
theorem can_inv {now : Nat} {all : List Tm} {sl : Nat → List Tm} (h : WInv now all sl) {x : Tm} (hx : x ∈ all) {j : Nat} (hj : j = slotJ now x.1.toNat) : WInv now (dropT all x.2) (setF sl j (staysT (fun y => y.2 == x.2) (sl j))) := by
  refine ⟨h.le, fun i hi => ?_, nodup_sub (dropT_sub _ _) h.nd, Nat.le_trans (dropT_sub all x.2).length_le h.len, fun y hy => h.ok y ((dropT_sub all x.2).subset hy)⟩
  by_cases e : i = j
  · subst e
    rw [setF_same]
    have h1 := (h.slots i hi).filterP (fun y => !(y.2 == x.2))
    unfold staysT dropT
    rw [List.filter_filter] at h1 ⊢
    have e2 : (all.filter (fun y => (slotJ now y.1.toNat == i) && !(y.2 == x.2))) = all.filter (fun y => (!(y.2 == x.2)) && (slotJ now y.1.toNat == i)) := by
      apply List.filter_congr
      intro y _
      rw [Bool.and_comm]
    first
      | exact h1
      | (rw [e2]; exact h1)
      | (rw [← e2]; exact h1)
  · rw [setF_other _ _ e]
    have e2 : (dropT all x.2).filter (fun y => slotJ now y.1.toNat == i) = all.filter (fun y => slotJ now y.1.toNat == i) := by
      unfold dropT
      rw [List.filter_filter]
      apply List.filter_congr
      intro y hy
      by_cases e3 : y.2 = x.2
      · have : y = x := nodup_id h.nd y hy x hx e3
        subst this
        have : (slotJ now y.1.toNat == i) = false := by rw [← hj]; simpa using fun e' => e e'.symm
        simp [this]
      · have : (y.2 == x.2) = false := by simpa using e3
        simp [this]
    rw [e2]
    exact h.slots i hi
theorem findT_mem {all : List Tm} {id : Int} {x : Tm} (h : findT all id = some x) : x ∈ all ∧ x.2 = id := by
  unfold findT at h
  have h1 := List.mem_of_find?_eq_some h
  have h2 := List.find?_some h
  exact ⟨h1, by simpa using h2⟩
end Go.Proofs.YtcficgpknokpbaaDoor.Wh
