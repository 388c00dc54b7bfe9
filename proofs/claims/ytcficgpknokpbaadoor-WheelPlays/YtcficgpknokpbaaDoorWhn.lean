/- Ints that came in; pick; rows of bools; the timers of WheelOnce. -/
import Derived.Test.YtcficgpknokpbaaDoorWhm
import Derived.ChangeSlices
import Derived.Laws.BitsAllLaws
namespace Go.Proofs.YtcficgpknokpbaaDoor.Wh
open Go.RowKit Go.Maps Go.Shelf
set_option maxRecDepth 100000
set_option linter.unusedSimpArgs false
set_option linter.unusedVariables false
attribute [local go_sem] Oper.semAt_some

theorem wf_bounds {n : Int} (h : (Lit.int .i64 n).wf = true) : -9223372036854775808 ≤ n ∧ n ≤ 9223372036854775807 := by
  simp only [Lit.wf, IntKind.min, IntKind.max, IntKind.signed, IntKind.bits, Bool.and_eq_true, decide_eq_true_eq] at h
  have h1 := h.1
  have h2 := h.2
  simp at h1 h2
  omega
/-- A row of ints that came in. -/
def IntsIn (w : World) (v : Value) (zs : List Int) : Prop :=
  ((v = .slice none 0 0 ∧ zs = []) ∨ ∃ a c, v = .slice (some a) zs.length c ∧ zs.length ≤ c ∧ c ≤ maxLen ∧ ∀ j (h : j < zs.length), w.cell? (a.add j) = some (.int .i64 zs[j])) ∧ ∀ z ∈ zs, -9223372036854775808 ≤ z ∧ z ≤ 9223372036854775807
theorem cellsI : Tryd.prog.cellsOf 3 = 1 := by kernel_rfl
section
variable {H : Type} {enc : TypeId × Value → H} {base : Nat} {spare : Nat → Bool} {held : Bool}
theorem open_zs {w : World} {r : Reach} {b0 : Nat} {v : Value} {d : DataW H} {ps : List MemPlace} (hv : Value.okWide Tryd.prog w r b0 40 v) (h : DataW.Trod enc Tryd.prog w base spare held 40 v d ps) : ∃ zs, IntsIn w v zs := by
  obtain ⟨a', len', cap', rfl⟩ := WideShapes.okWide_slice Tryd.underlying40 hv
  obtain ⟨n, h⟩ := h
  simp only [Value.cells] at h
  rcases ChangeShapes.open_ints Tryd.underlying40 Tryd.underlying3 cellsI h with ⟨hcs, -⟩ | ⟨a, len, cap, zs, hcs, -, h1, h2, h3, -, h4, h5⟩
  · simp only [List.cons.injEq, and_true] at hcs
    rw [hcs]
    exact ⟨[], .inl ⟨rfl, rfl⟩, by simp⟩
  · simp only [List.cons.injEq, and_true] at hcs
    rw [hcs]
    have hle : len ≤ zs.length := by rw [h3]; split <;> omega
    have hlen : (zs.take len).length = len := by rw [List.length_take]; omega
    refine ⟨zs.take len, .inr ⟨a, cap, by rw [hlen], by rw [hlen]; exact h1, h2, fun j hj => ?_⟩, fun z hz => ?_⟩
    · rw [hlen] at hj
      rw [h4 j (by omega), List.getElem_take]
      simp [List.getD, List.getElem?_eq_getElem (show j < zs.length by omega)]
    · exact wf_bounds (h5 z (List.mem_of_mem_take hz))
end
theorem IntsIn.kept {w w' : World} {v : Value} {zs : List Int} {S : List Nat} (h : IntsIn w v zs) (ht : Turn S w w') (hS : ∀ q ∈ S, w.heap.size ≤ q) : IntsIn w' v zs := by
  obtain ⟨h1, h2⟩ := h
  refine ⟨?_, h2⟩
  rcases h1 with h1 | ⟨a, c, e, hl, hm, hc⟩
  · exact .inl h1
  · refine .inr ⟨a, c, e, hl, hm, fun j hj => ?_⟩
    have hlt := World.block_lt_of_cell? w _ (hc j hj)
    rw [World.cell?_of_block (w := w) (ht.block _ hlt (fun hm => by have := hS _ hm; omega)), hc j hj]
theorem IntsIn.form {w : World} {v : Value} {zs : List Int} (h : IntsIn w v zs) : ∃ a c, v = .slice a zs.length c ∧ zs.length ≤ c ∧ c ≤ maxLen := by
  rcases h.1 with ⟨rfl, rfl⟩ | ⟨a, c, rfl, h1, h2, -⟩
  · exact ⟨none, 0, rfl, Nat.le_refl _, Nat.zero_le _⟩
  · exact ⟨some a, c, rfl, h1, h2⟩
theorem IntsIn.at {w : World} {a : Option Addr} {n c : Nat} {zs : List Int} (h : IntsIn w (.slice a n c) zs) {j : Nat} (hj : j < zs.length) : ∃ p, a = some p ∧ w.cell? (p.add j) = some (.int .i64 zs[j]) := by
  rcases h.1 with ⟨-, rfl⟩ | ⟨p, c', e, -, -, hc⟩
  · simp at hj
  · simp only [Value.slice.injEq] at e
    obtain ⟨rfl, -, -⟩ := e
    exact ⟨p, rfl, hc j hj⟩
theorem flat_inZ (zs : List Int) : zs.flatMap inZ = zs.map (Value.int .i64) := by
  induction zs with
  | nil => rfl
  | cons z zs ih => rw [List.flatMap_cons, ih]; rfl
theorem IntsIn.src {w : World} {v : Value} {zs : List Int} (h : IntsIn w v zs) : GSrc inZ w v zs := by
  rcases h.1 with h1 | ⟨a, c, e, -, -, hc⟩
  · exact .inl h1
  · refine .inr ⟨a, c, e, fun j u hu => ?_⟩
    rw [flat_inZ, List.getElem?_map] at hu
    have hj : j < zs.length := by
      rcases Nat.lt_or_ge j zs.length with h | h
      · exact h
      · rw [List.getElem?_eq_none h] at hu
        cases hu
    rw [List.getElem?_eq_getElem hj] at hu
    rw [hc j hj]
    exact hu
theorem app_zs (w : World) (base : Nat) (v sx : Value) (xs ys : List Int) (hrow : IR w base v xs) (hx : GSrc inZ w sx ys) (hlen : xs.length + ys.length ≤ 1000000) (hbase : base ≤ w.heap.size) :
    ∃ v' w', (Builtin.append_ #[40, 40] 40 #[v, sx]).run Tryd.prog w = .ok v' w' ∧ IR w' base v' (xs ++ ys) ∧ Turn v.ownBlock.toList w w' ∧ (∀ j ∈ v'.ownBlock, j ∈ v.ownBlock ∨ w.heap.size ≤ j) := by
  obtain ⟨i, z, hi, hz, hzs, hs, hb⟩ := infoZ_parts
  exact run_append_gs (P := Tryd.prog) 40 40 Tryd.underlying40 i z hi hz hzs hs hb inZ_len (by intro x u hu; simp [inZ] at hu; subst hu; rfl) w base v sx xs ys hrow hx hlen hbase

/-- What pick makes of a number: a time. -/
def pkN (z : Int) : Nat := (wrap64 ((IntKind.u64.wrap z).tmod 1099511627777)).toNat
theorem pk_in (z : Int) : 0 ≤ wrap64 ((IntKind.u64.wrap z).tmod 1099511627777) ∧ wrap64 ((IntKind.u64.wrap z).tmod 1099511627777) ≤ 1099511627776 := by
  have h0 : 0 ≤ IntKind.u64.wrap z := by
    simp only [IntKind.wrap, IntKind.bits, IntKind.signed]
    simp
    omega
  have h1 := Int.tmod_eq_emod_of_nonneg (b := 1099511627777) h0
  rw [h1, IntWalk.wrap64_in _ (by omega)]
  omega
theorem pkN_le (z : Int) : pkN z ≤ 1099511627776 := by
  have := pk_in z
  unfold pkN
  omega
theorem pkN_cast (z : Int) : ((pkN z : Nat) : Int) = wrap64 ((IntKind.u64.wrap z).tmod 1099511627777) := by
  have := pk_in z
  unfold pkN
  omega
/-- A row of bools. -/
def bC (b : Bool) : List Value := [.bool b]
theorem bC_len : ∀ b, (bC b).length = 1 := fun _ => rfl
abbrev BR (w : World) (base : Nat) (v : Value) (l : List Bool) : Prop := GRow 4 1 bC w base v l

/-- The timers that WheelOnce adds. -/
def addL (ts : List Int) (i : Nat) : List Tm := (List.range i).map (fun k => ((pkN (ts.getD k 0) : Int), (k : Int)))
theorem addL_succ (ts : List Int) (i : Nat) : addL ts (i + 1) = addL ts i ++ [((pkN (ts.getD i 0) : Int), (i : Int))] := by
  unfold addL
  rw [List.range_succ, List.map_append]
  rfl
theorem addL_len (ts : List Int) (i : Nat) : (addL ts i).length = i := by simp [addL]
theorem mem_addL {ts : List Int} {i : Nat} {x : Tm} : x ∈ addL ts i ↔ ∃ k, k < i ∧ x = ((pkN (ts.getD k 0) : Int), (k : Int)) := by
  unfold addL
  rw [List.mem_map]
  constructor
  · rintro ⟨k, hk, rfl⟩; exact ⟨k, List.mem_range.1 hk, rfl⟩
  · rintro ⟨k, hk, rfl⟩; exact ⟨k, List.mem_range.2 hk, rfl⟩
theorem addL_find (ts : List Int) (i : Nat) : findT (addL ts i) (i : Int) = none := by
  unfold findT
  rw [List.find?_eq_none]
  intro x hx
  obtain ⟨k, hk, rfl⟩ := mem_addL.1 hx
  simp
  omega
end Go.Proofs.YtcficgpknokpbaaDoor.Wh
