/- Timers in a row: loads, stores; the comparison of times. -/
import Derived.Test.YtcficgpknokpbaaDoorSta
import Derived.Test.YtcficgpknokpbaaDoorRow2
import Derived.Test.YtcficgpknokpbaaDoorArgs
import Derived.Test.YtcficgpknokpbaaDoorProg
import Derived.Test.YtcficgpknokpbaaDoorLoose
namespace Go.Proofs.YtcficgpknokpbaaDoor.Wh
open Go.RowKit Go.Maps
set_option maxRecDepth 100000
set_option linter.unusedSimpArgs false
set_option linter.unusedVariables false
attribute [local go_sem] Oper.semAt_some

def tmC (x : Tm) : List Value := [.int .i64 x.1, .int .i64 x.2]
def tmV (x : Tm) : Value := .agg #[.int .i64 x.1, .int .i64 x.2]
theorem tmC_len : ∀ x, (tmC x).length = 2 := fun _ => rfl
/-- A row of timers. -/
abbrev TR (w : World) (base : Nat) (v : Value) (l : List Tm) : Prop := GRow 52 2 tmC w base v l
theorem sizeT (w : World) : (sizeOf 52).run Tryd.prog w = .ok 2 w := by kernel_rfl
theorem aggT (w : World) : (isAgg 52).run Tryd.prog w = .ok true w := by kernel_rfl
theorem load_tm {w : World} {p : Addr} {x : Tm} (h0 : w.cell? (p.add 0) = some (.int .i64 x.1)) (h1 : w.cell? (p.add 1) = some (.int .i64 x.2)) : (loadVar 52 p).run Tryd.prog w = .ok (tmV x) w := by
  simp [loadVar, aggT, sizeT, Result.andThen, loadCells, loadCellsFrom, tmV]
  simp [h0, h1]
theorem TR.load {w : World} {base : Nat} {g c n : Nat} {l : List Tm} (h : TR w base (.slice (some ⟨g, 0, none⟩) n c) l) {j : Nat} (hj : j < l.length) : (loadVar 52 ⟨g, j * 2, none⟩).run Tryd.prog w = .ok (tmV l[j]) w := by
  obtain ⟨g', cap', e, hc, -⟩ := h.at tmC_len hj
  simp only [Value.slice.injEq, Option.some.injEq, Addr.mk.injEq, true_and] at e
  obtain ⟨⟨rfl, -⟩, rfl, rfl⟩ := e
  have h0 := hc 0 (by omega)
  have h1 := hc 1 (by omega)
  exact load_tm (by rw [Addr.add_lit]; simpa [tmC] using h0) (by rw [Addr.add_lit]; simpa [tmC] using h1)
theorem TR.put {w : World} {base g n c : Nat} {l : List Tm} (h : TR w base (.slice (some ⟨g, 0, none⟩) n c) l) {i : Nat} (hi : i < l.length) (x : Tm) : TR (w.setCells g (i * 2) (tmC x)) base (.slice (some ⟨g, 0, none⟩) n c) (l.set i x) := by
  have h0 := h.set tmC_len (j := i) (i := 0) hi (by omega) (u := .int .i64 x.1) (x' := (x.1, l[i].2)) rfl
  have h1 := h0.set tmC_len (j := i) (i := 1) (by simpa using hi) (by omega) (u := .int .i64 x.2) (x' := x) (by simp [tmC])
  simp only [List.set_set] at h1
  exact h1
theorem turn_setCells (g : Nat) : ∀ (vs : List Value) (o : Nat) (w : World), Turn [g] w (w.setCells g o vs)
  | [], _, w => Turn.refl _ w
  | v :: r, o, w => ((Turn.refl [g] w).setCell (p := ⟨g, o, none⟩) (.inl (by simp)) v).same (turn_setCells g r (o + 1) _)
/-- Two timers have changed places. -/
theorem swap_split (P M S : List Tm) (x y : Tm) : ((P ++ x :: (M ++ y :: S)).set P.length y).set (P.length + 1 + M.length) x = P ++ y :: (M ++ x :: S) := by
  rw [List.set_append_right _ _ (Nat.le_refl _), Nat.sub_self, List.set_cons_zero, List.set_append_right _ _ (by omega), show P.length + 1 + M.length - P.length = M.length + 1 by omega, List.set_cons_succ, List.set_append_right _ _ (Nat.le_refl _), Nat.sub_self, List.set_cons_zero]
theorem swap_split' (P M S : List Tm) (x y : Tm) : ((P ++ x :: (M ++ y :: S)).set (P.length + 1 + M.length) x).set P.length y = P ++ y :: (M ++ x :: S) := by
  rw [List.set_comm _ _ (by omega), swap_split]

theorem get_split {L P R : List Tm} {x : Tm} {j : Nat} (hL : L = P ++ x :: R) (hj : j = P.length) (h : j < L.length) : L[j] = x := by
  subst hL
  subst hj
  rw [List.getElem_append_right (Nat.le_refl _)]
  simp
theorem wr64 {x : Int} {p : Nat} (h : x = (p : Int)) (hp : p ≤ 100000000) : Value.int .i64 (IntKind.i64.wrap x) = .int .i64 (p : Int) := by
  rw [h, IntWalk.i64_in _ (by omega)]
def cmpI (x y : Int) : Int := if x < y then -1 else if y < x then 1 else 0
theorem cmpI_lt (x y : Int) : decide (cmpI x y < 0) = decide (x < y) := by
  unfold cmpI
  split
  · simp [*]
  · split
    · simp [*]
    · simp [*]
theorem isNaN_any (x : Int) (w : World) : Calls Tryd.prog 26 #[.int .i64 x] w fun e w' => e = .returned (.bool false) ∧ w' = w := by
  go_enter Tryd.func26, Tryd.ntmps26
  go_wp2
  go_ret
  exact ⟨rfl, rfl⟩
theorem compare_any (x y : Int) (w : World) : Calls Tryd.prog 20 #[.int .i64 x, .int .i64 y] w fun e w' => e = .returned (.int .i64 (cmpI x y)) ∧ w' = w := by
  unfold cmpI
  go_enter Tryd.func20, Tryd.ntmps20
  go_wp2_with fail
  refine (isNaN_any x _).mono ?_
  rintro e w1 ⟨rfl, rfl⟩
  go_wp2_with fail
  refine (isNaN_any y _).mono ?_
  rintro e w2 ⟨rfl, rfl⟩
  go_wp2
  all_goals go_ret
  all_goals simp_all
/-- The comparison as a value. -/
def fnT : Value := .func (.func 19) #[] #[]
theorem cmp_any (x y : Tm) (w : World) : Calls Tryd.prog 19 #[tmV x, tmV y] w fun e w' => e = .returned (.int .i64 (cmpI x.1 y.1)) ∧ Turn [] w w' := by
  unfold tmV
  go_enter Tryd.func19, Tryd.ntmps19
  go_wp2_with fail
  refine (compare_any x.1 y.1 _).mono ?_
  rintro e w1 ⟨rfl, rfl⟩
  go_wp2
  go_ret
  exact ⟨rfl, ((Turn.refl _ _).alloc _).alloc _⟩
end Go.Proofs.YtcficgpknokpbaaDoor.Wh
