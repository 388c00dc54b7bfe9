/- The wheel: a new one; turned. -/
import Derived.Test.YtcficgpknokpbaaWhl
namespace Go.Proofs.Ytcficgpknokpbaa.Wh
open Go.RowKit Go.Maps Go.Shelf
set_option maxRecDepth 100000
set_option linter.unusedSimpArgs false
set_option linter.unusedVariables false
attribute [local go_sem] Oper.semAt_some

def zcs : Array Value := (.int .i64 0 :: .map none :: List.replicate 448 (.slice none 0 0)).toArray
theorem zeroW (w : World) : (zeroValue 28).run Try.prog w = .ok (.agg zcs) w := by kernel_rfl
theorem zcs_size : zcs.size = 450 := by unfold zcs; simp
/-- A new wheel. -/
theorem new_wheel (w : World) (base : Nat) (hb : base ≤ w.heap.size) : WheelAt (w.alloc (.cells zcs 28)) base w.heap.size [w.heap.size] 0 [] := by
  have hrows : rowsF (fun _ => nilS) = [] := by
    rw [List.eq_nil_iff_forall_not_mem]
    intro q hq
    obtain ⟨j, -, h⟩ := mem_rowsF.1 hq
    simp [nilS, Value.ownBlock] at h
  refine ⟨none, fun _ => nilS, fun _ => [], ⟨⟨zcs, heap_new w _, zcs_size, ?_, ?_, fun j hj => ?_⟩, hb, rfl, by simp, fun j hj => .inl ⟨rfl, rfl⟩, by simp [nilS, Value.ownBlock]⟩, ⟨by omega, fun j hj => Sq.refl _, by simp, by simp, by simp⟩, ?_⟩
  · unfold zcs; simp
  · unfold zcs; simp
  · unfold zcs
    rw [List.getElem?_toArray, show 2 + j = j + 1 + 1 by omega, List.getElem?_cons_succ, List.getElem?_cons_succ, List.getElem?_replicate, if_pos hj]
    rfl
  · unfold wfoot
    rw [hrows]
    rfl
theorem findT_nil (id : Int) : findT [] id = none := rfl
set_option maxHeartbeats 1000000 in
theorem sameInts_any (w : World) (b1 b2 : Nat) (a1 : Option Addr) (n1 c1 : Nat) (a2 : Option Addr) (n2 c2 : Nat) (xs : List Int) (h1 : IR w b1 (.slice a1 n1 c1) xs) (h2 : IR w b2 (.slice a2 n2 c2) xs) (hl : xs.length ≤ 1000000) : Calls Try.prog 16 #[.slice a1 n1 c1, .slice a2 n2 c2] w fun e w' => e = .returned (.bool true) ∧ Turn [] w w' := by
  have e1 : n1 = xs.length := by
    obtain ⟨a, c, e, -⟩ := h1.form
    simp only [Value.slice.injEq] at e
    exact e.2.1
  have e2 : n2 = xs.length := by
    obtain ⟨a, c, e, -⟩ := h2.form
    simp only [Value.slice.injEq] at e
    exact e.2.1
  subst e1
  subst e2
  have H1 := hide h1
  have H2 := hide h2
  clear h1 h2
  go_enter Try.func16, Try.ntmps16
  go_wp2
  go_loopw [5] (fun kv wr => ∃ k : Nat, k ≤ xs.length ∧ kv = .int .i64 k ∧ Turn [] w wr) (fun kv _ => xs.length - (intOf kv).toNat)
  case atStart => exact ⟨0, Nat.zero_le _, rfl, Turn.refl _ _⟩
  case round =>
    obtain ⟨k, hk, rfl, htw⟩ := hrel
    have HTW := hide htw
    clear htw
    by_cases hlt : k < xs.length
    · obtain ⟨g1, cap1, e1, k1, -⟩ := H1.out.at inZ_len hlt
      simp only [Value.slice.injEq, true_and] at e1
      obtain ⟨rfl, rfl⟩ := e1
      obtain ⟨g2, cap2, e2, k2, -⟩ := H2.out.at inZ_len hlt
      simp only [Value.slice.injEq, true_and] at e2
      obtain ⟨rfl, rfl⟩ := e2
      obtain ⟨X, hX⟩ : ∃ X : Int, X = xs[k] := ⟨_, rfl⟩
      have hc2 : ∀ Z, Turn [] w Z → Z.cell? ⟨g1, k, none⟩ = some (.int .i64 X) ∧ Z.cell? ⟨g2, k, none⟩ = some (.int .i64 X) := fun Z hZ => by
        obtain ⟨g, cap, e, q1, -⟩ := (H1.out.still hZ).at inZ_len hlt
        simp only [Value.slice.injEq, Option.some.injEq, Addr.mk.injEq, true_and] at e
        obtain ⟨⟨rfl, -⟩, -⟩ := e
        obtain ⟨g', cap', e', q2, -⟩ := (H2.out.still hZ).at inZ_len hlt
        simp only [Value.slice.injEq, Option.some.injEq, Addr.mk.injEq, true_and] at e'
        obtain ⟨⟨rfl, -⟩, -⟩ := e'
        have r1 := q1 0 (by omega)
        have r2 := q2 0 (by omega)
        rw [← hX] at r1 r2
        simp [inZ] at r1 r2
        exact ⟨r1, r2⟩
      have HC := hide hc2
      clear k1 k2 hX hc2
      have hki : (k : Int) < xs.length := by omega
      go_wp2
      refine wp_region_loose (Turn []) (by kernel_rfl) (by kernel_rfl) (by kernel_rfl) (by kernel_rfl) rfl (Turn.refl _) (fun _ _ _ h k => h.same k) ?_
      apply Lo.runx 1 rfl rfl [] (by kernel_rfl) (Turn.refl _)
      apply Exists.intro; apply And.intro
      · intro u w1 hR hF
        clear hF
        refine ⟨rfl, fun a ha K hK => ?_⟩
        have e0 := ha 0
        conv at e0 => rhs; whnf
        clear ha
        go_simp
        refine hK _ ?_; rfl
      apply Lo.runx 2 rfl rfl [] (by kernel_rfl) (Turn.refl _)
      apply Exists.intro; apply And.intro
      · intro u w1 hR hF
        clear hF
        refine ⟨rfl, fun a ha K hK => ?_⟩
        have e5 := ha 5
        conv at e5 => rhs; whnf
        clear ha
        go_simp
        refine hK _ ?_; rfl
      apply Lo.runx 3 rfl rfl [0, 1] (by kernel_rfl) (Turn.refl _)
      apply Exists.intro; apply And.intro
      · intro u w1 hR hF
        obtain ⟨h0, h1, -⟩ := hF
        refine ⟨rfl, fun a ha K hK => ?_⟩
        have e17 := (ha 17).trans h0
        have e18 := (ha 18).trans h1
        clear ha h0 h1
        go_simp
        refine hK _ ?_; rfl
      apply Lo.runx 4 rfl rfl [2] (by kernel_rfl) (Turn.refl _)
      apply Exists.intro; apply And.intro
      · intro u w1 hR hF
        obtain ⟨h2, -⟩ := hF
        refine ⟨rfl, fun a ha K hK => ?_⟩
        have e19 := (ha 19).trans h2
        clear ha h2
        obtain ⟨q1, q2⟩ := HC.out w1 (HTW.out.same (((Turn.refl [] _).drew).same hR))
        go_simp
        refine hK _ ?_; rfl
      apply Lo.runx 5 rfl rfl [] (by kernel_rfl) (Turn.refl _)
      apply Exists.intro; apply And.intro
      · intro u w1 hR hF
        clear hF
        refine ⟨rfl, fun a ha K hK => ?_⟩
        have e1 := ha 1
        conv at e1 => rhs; whnf
        clear ha
        go_simp
        refine hK _ ?_; rfl
      apply Lo.runx 6 rfl rfl [] (by kernel_rfl) (Turn.refl _)
      apply Exists.intro; apply And.intro
      · intro u w1 hR hF
        clear hF
        refine ⟨rfl, fun a ha K hK => ?_⟩
        have e5 := ha 5
        conv at e5 => rhs; whnf
        clear ha
        go_simp
        refine hK _ ?_; rfl
      apply Lo.runx 7 rfl rfl [4, 5] (by kernel_rfl) (Turn.refl _)
      apply Exists.intro; apply And.intro
      · intro u w1 hR hF
        obtain ⟨h4, h5, -⟩ := hF
        refine ⟨rfl, fun a ha K hK => ?_⟩
        have e21 := (ha 21).trans h4
        have e22 := (ha 22).trans h5
        clear ha h4 h5
        go_simp
        refine hK _ ?_; rfl
      apply Lo.runx 8 rfl rfl [6] (by kernel_rfl) (Turn.refl _)
      apply Exists.intro; apply And.intro
      · intro u w1 hR hF
        obtain ⟨h6, -⟩ := hF
        refine ⟨rfl, fun a ha K hK => ?_⟩
        have e23 := (ha 23).trans h6
        clear ha h6
        obtain ⟨q1, q2⟩ := HC.out w1 (HTW.out.same (((Turn.refl [] _).drew).same hR))
        go_simp
        refine hK _ ?_; rfl
      refine Lo.runv 9 rfl rfl [3, 7] (.bool (false)) (by kernel_rfl) (fun u w1 hR hF => ?_) (Turn.refl _) ?_
      · obtain ⟨h3, h7, -⟩ := hF
        refine ⟨rfl, fun a ha K hK => ?_⟩
        have e20 := (ha 20).trans h3
        have e24 := (ha 24).trans h7
        clear ha h3 h7
        go_simp
        refine hK _ ?_
        simp
      refine Lo.done [8] (fun u w1 hRd hSd hF => ?_)
      clear hSd
      obtain ⟨f8, -⟩ := hF
      have d8 : u 8 = _ := f8
      clear f8
      simp only [putFrom, Act.put, List.setIfInBounds_toArray, List.set_cons_succ, List.set_cons_zero, Nat.zero_add, Nat.reduceAdd, d8]
      have HT2 := hide (HTW.out.same (((Turn.refl [] _).drew).same hRd))
      clear d8 hRd
      go_wp2
      all_goals refine ⟨⟨k + 1, by omega, by go_num, HT2.out⟩, ?_⟩
      all_goals (simp only [intOf]; omega)
    · obtain rfl : k = xs.length := by omega
      go_wp2
      go_ret
      exact ⟨rfl, HTW.out⟩
set_option maxHeartbeats 1000000 in
theorem turned_any (w : World) : Calls Try.prog 7 #[] w fun e w' => e = .returned (.bool true) ∧ Turn [] w w' := by
  have hz := zeroW
  have hw0 := new_wheel w w.heap.size (Nat.le_refl _)
  have HW0 := hide hw0
  clear hw0
  go_enter Try.func7, Try.ntmps7
  go_wp2_with fail
  refine (add_any _ w.heap.size w.heap.size 0 _ _ HW0.out (by simp) 5 (by omega) 1 (by decide) rfl).mono ?_
  rintro e w1 ⟨rfl, F1, h1, ht1, hf1⟩
  have HW1 := hide h1
  have HT1 := hide ht1
  have HF1 := hide hf1
  clear h1 ht1 hf1
  go_wp2_with fail
  refine (add_any w1 w.heap.size w.heap.size 0 F1 _ HW1.out (by simp) 3 (by omega) 2 (by decide) rfl).mono ?_
  rintro e w2 ⟨rfl, F2, h2, ht2, hf2⟩
  have HW2 := hide h2
  have HT2 := hide ht2
  have HF2 := hide hf2
  clear h2 ht2 hf2
  go_wp2_with fail
  refine (adv_any w2 w.heap.size w.heap.size 0 F2 _ HW2.out 9 (by omega) (by omega)).mono ?_
  rintro e w3 ⟨ia, ic, D, F3, rfl, hst, hir, h3, ht3, hf3⟩
  have hD : D = [((3 : Int), 2), ((5 : Int), 1)] := by
    refine Stb.unique hst ⟨by simp [Srt], ?_⟩
    exact Sq.swap (a := [((5 : Int), (1 : Int))]) (b := [((3 : Int), (2 : Int))]) (fun x hx y hy => by
      obtain rfl := List.mem_singleton.1 hx
      obtain rfl := List.mem_singleton.1 hy
      decide)
  subst hD
  have HW3 := hide h3
  have HT3 := hide ht3
  have HF3 := hide hf3
  have HIR := hide hir
  clear h3 ht3 hf3 hst hir
  obtain ⟨wb, hwb⟩ : ∃ wb, wb = w3.alloc (.cells #[.int .i64 2, .int .i64 1] 3) := ⟨_, rfl⟩
  have hal : Turn [] w3 wb := by rw [hwb]; exact (Turn.refl [] w3).alloc _
  have hirb : IR wb 0 (.slice (some ⟨w3.heap.size, 0, none⟩) 2 2) [2, 1] := .inr ⟨w3.heap.size, 2, _, rfl, Nat.zero_le _, by rw [hwb]; exact heap_new w3 _, by simp, by simp, by simp [maxLen], rfl⟩
  have hsame := sameInts_any wb w2.heap.size 0 ia _ ic (some ⟨w3.heap.size, 0, none⟩) 2 2 [2, 1] (HIR.out.still hal) hirb (by simp)
  have HSM := hide hsame
  have HAL := hide hal
  have HWB := hide hwb
  clear hal hirb hsame hwb
  go_wp2_with fail
  rw [show w3.alloc (.cells #[.int .i64 2, .int .i64 1] 3) = wb from HWB.out.symm]
  refine HSM.out.mono ?_
  rintro e w4 ⟨rfl, ht4⟩
  have hmany := many_any w4 w.heap.size w.heap.size 9 F3 _ ((HW3.out.still HAL.out).still ht4)
  have HMA := hide hmany
  have hT : Turn [] w w4 := by
    have h0 : Turn [] w (w.alloc (.cells zcs 28)) := (Turn.refl [] w).alloc _
    have h1 : Turn [] w w1 := h0.trans HT1.out (fun q hq => .inr (by obtain rfl := List.mem_singleton.1 hq; exact Nat.le_refl _))
    have h2 : Turn [] w w2 := h1.trans HT2.out (fun q hq => .inr (HW1.out.lt q hq).1)
    have h3 : Turn [] w w3 := h2.trans HT3.out (fun q hq => .inr (HW2.out.lt q hq).1)
    exact (h3.same HAL.out).same ht4
  have HT := hide hT
  clear ht4 hmany hT HSM
  go_wp2_with fail
  refine HMA.out.mono ?_
  rintro e w5 ⟨rfl, rfl⟩
  go_wp2
  go_ret
  exact ⟨by simp, HT.out⟩
end Go.Proofs.Ytcficgpknokpbaa.Wh
