/- The wheel: what Advance refuses; the law's own small functions. -/
import Derived.Test.YtcficgpknokpbaaDoorWhq
namespace Go.Proofs.YtcficgpknokpbaaDoor.Wh
open Go.RowKit Go.Maps Go.Shelf
set_option maxRecDepth 100000
set_option linter.unusedSimpArgs false
set_option linter.unusedVariables false
attribute [local go_sem] Oper.semAt_some

theorem adv_range (w : World) (base b now : Nat) (F : List Nat) (all : List Tm) (h : WheelAt w base b F now all) (to : Int) (ht : to < now ∨ 1099511627776 < to) : Calls Tryd.prog 8 #[.pointer (some ⟨b, 0, none⟩), .int .i64 to] w fun e w' => e = .returned (.tuple #[.slice none 0 0, .iface 34 (.int .i64 2)]) ∧ Turn [] w w' := by
  obtain ⟨mref, sv, sl, h1, h2, rfl⟩ := h
  obtain ⟨w0, hw0⟩ : ∃ w0, w0 = w.alloc (.cells #[.int .i64 to] 3) := ⟨_, rfl⟩
  have hal : Turn [] w w0 := by rw [hw0]; exact (Turn.refl [] w).alloc _
  have hbox : w0.heap[w.heap.size]? = some (.cells #[.int .i64 to] 3 (0, 0)) := by rw [hw0]; exact heap_new w _
  have hce : ∀ Z, Turn [] w0 Z → (Z.cell? ⟨b, 0, none⟩ = some (.int .i64 now) ∧ b < Z.heap.size) ∧ (Z.cell? ⟨w.heap.size, 0, none⟩ = some (.int .i64 to) ∧ w.heap.size < Z.heap.size) := fun Z hZ => by
    have hWZ := (h1.still hal).still hZ
    have hb := hZ.heap hbox (by simp)
    obtain ⟨c0, c1, -, z0⟩ := hWZ.cells.head
    exact ⟨⟨c0, z0⟩, ⟨by rw [cell_of hb]; rfl, lt_of_heap hb⟩⟩
  have HC := hide hce
  have HAL := hide hal
  have HW0 := hide hw0
  clear hal hbox hce hw0 h1 h2
  by_cases h0 : to < now
  · have hd : decide (to < (now : Int)) = true := by simpa using h0
    go_enter Tryd.func8, Tryd.ntmps8
    go_wp2
    rw [show w.alloc (.cells #[.int .i64 to] 3) = w0 from HW0.out.symm]
    refine wp_region_loose (Turn []) (by kernel_rfl) (by kernel_rfl) (by kernel_rfl) (by kernel_rfl) rfl (Turn.refl _) (fun _ _ _ h k => h.same k) ?_
    apply Lo.runx 1 rfl rfl [] (by kernel_rfl) (Turn.refl _)
    apply Exists.intro; apply And.intro
    · intro u w1 hR hF
      clear hF
      refine ⟨rfl, fun a ha K hK => ?_⟩
      have e3 := ha 3
      conv at e3 => rhs; whnf
      clear ha
      obtain ⟨⟨c0, z0⟩, ⟨c1, z1⟩⟩ := HC.out w1 (((Turn.refl [] _).drew).same hR)
      go_simp
      refine hK _ ?_; rfl
    apply Lo.runx 2 rfl rfl [] (by kernel_rfl) (Turn.refl _)
    apply Exists.intro; apply And.intro
    · intro u w1 hR hF
      clear hF
      refine ⟨rfl, fun a ha K hK => ?_⟩
      have e0 := ha 0
      conv at e0 => rhs; whnf
      clear ha
      go_simp
      refine hK _ ?_; rfl
    apply Lo.runx 3 rfl rfl [1] (by kernel_rfl) (Turn.refl _)
    apply Exists.intro; apply And.intro
    · intro u w1 hR hF
      obtain ⟨h1, -⟩ := hF
      refine ⟨rfl, fun a ha K hK => ?_⟩
      have e11 := (ha 11).trans h1
      clear ha h1
      go_simp
      refine hK _ ?_; rfl
    apply Lo.runx 4 rfl rfl [2] (by kernel_rfl) (Turn.refl _)
    apply Exists.intro; apply And.intro
    · intro u w1 hR hF
      obtain ⟨h2, -⟩ := hF
      refine ⟨rfl, fun a ha K hK => ?_⟩
      have e12 := (ha 12).trans h2
      clear ha h2
      go_simp
      refine hK _ ?_; rfl
    apply Lo.runx 5 rfl rfl [3] (by kernel_rfl) (Turn.refl _)
    apply Exists.intro; apply And.intro
    · intro u w1 hR hF
      obtain ⟨h3, -⟩ := hF
      refine ⟨rfl, fun a ha K hK => ?_⟩
      have e13 := (ha 13).trans h3
      clear ha h3
      obtain ⟨⟨c0, z0⟩, ⟨c1, z1⟩⟩ := HC.out w1 (((Turn.refl [] _).drew).same hR)
      go_simp
      refine hK _ ?_; rfl
    apply Lo.runx 6 rfl rfl [0, 4] (by kernel_rfl) (Turn.refl _)
    apply Exists.intro; apply And.intro
    · intro u w1 hR hF
      obtain ⟨h0, h4, -⟩ := hF
      refine ⟨rfl, fun a ha K hK => ?_⟩
      have e10 := (ha 10).trans h0
      have e14 := (ha 14).trans h4
      clear ha h0 h4
      go_simp
      refine hK _ ?_; rfl
    apply Lo.runx 7 rfl rfl [5] (by kernel_rfl) (Turn.refl _)
    apply Exists.intro; apply And.intro
    · intro u w1 hR hF
      obtain ⟨h5, -⟩ := hF
      refine ⟨rfl, fun a ha K hK => ?_⟩
      have e15 := (ha 15).trans h5
      clear ha h5
      go_simp
      refine hK _ ?_; rfl
    refine Lo.pass 8 rfl rfl [6] (by kernel_rfl) (Turn.refl _) (fun u w1 hR hF => ?_) ?_
    · exact .inl ⟨true, hF.1, rfl⟩
    refine Lo.pass 9 rfl rfl [6] (by kernel_rfl) (Turn.refl _) (fun u w1 hR hF => ?_) ?_
    · exact .inl ⟨true, hF.1, rfl⟩
    refine Lo.runv 10 rfl rfl [6, 8] (.bool true) (by kernel_rfl) (fun u w1 hR hF => ?_) (Turn.refl _) ?_
    · obtain ⟨h6, h8, -⟩ := hF
      refine ⟨rfl, fun a ha K hK => ?_⟩
      have e16 := (ha 16).trans h6
      have e18 := (ha 18).trans h8
      clear ha h6 h8
      go_simp
      refine hK _ ?_
      rfl
    refine Lo.done [9] (fun u w1 hRd hSd hF => ?_)
    clear hSd
    obtain ⟨f9, -⟩ := hF
    have d9 : u 9 = _ := f9
    clear f9
    simp only [putFrom, Act.put, List.setIfInBounds_toArray, List.set_cons_succ, List.set_cons_zero, Nat.zero_add, Nat.reduceAdd, d9]
    have HT := hide (HAL.out.same (((Turn.refl [] w0).drew).same hRd))
    clear d9 hRd
    go_wp2
    go_ret2
    exact ⟨rfl, HT.out⟩
  · have hd : decide (to < (now : Int)) = false := by simpa using h0
    have h1 : to > 1099511627776 := by omega
    go_enter Tryd.func8, Tryd.ntmps8
    go_wp2
    rw [show w.alloc (.cells #[.int .i64 to] 3) = w0 from HW0.out.symm]
    refine wp_region_loose (Turn []) (by kernel_rfl) (by kernel_rfl) (by kernel_rfl) (by kernel_rfl) rfl (Turn.refl _) (fun _ _ _ h k => h.same k) ?_
    apply Lo.runx 1 rfl rfl [] (by kernel_rfl) (Turn.refl _)
    apply Exists.intro; apply And.intro
    · intro u w1 hR hF
      clear hF
      refine ⟨rfl, fun a ha K hK => ?_⟩
      have e3 := ha 3
      conv at e3 => rhs; whnf
      clear ha
      obtain ⟨⟨c0, z0⟩, ⟨c1, z1⟩⟩ := HC.out w1 (((Turn.refl [] _).drew).same hR)
      go_simp
      refine hK _ ?_; rfl
    apply Lo.runx 2 rfl rfl [] (by kernel_rfl) (Turn.refl _)
    apply Exists.intro; apply And.intro
    · intro u w1 hR hF
      clear hF
      refine ⟨rfl, fun a ha K hK => ?_⟩
      have e0 := ha 0
      conv at e0 => rhs; whnf
      clear ha
      go_simp
      refine hK _ ?_; rfl
    apply Lo.runx 3 rfl rfl [1] (by kernel_rfl) (Turn.refl _)
    apply Exists.intro; apply And.intro
    · intro u w1 hR hF
      obtain ⟨h1, -⟩ := hF
      refine ⟨rfl, fun a ha K hK => ?_⟩
      have e11 := (ha 11).trans h1
      clear ha h1
      go_simp
      refine hK _ ?_; rfl
    apply Lo.runx 4 rfl rfl [2] (by kernel_rfl) (Turn.refl _)
    apply Exists.intro; apply And.intro
    · intro u w1 hR hF
      obtain ⟨h2, -⟩ := hF
      refine ⟨rfl, fun a ha K hK => ?_⟩
      have e12 := (ha 12).trans h2
      clear ha h2
      go_simp
      refine hK _ ?_; rfl
    apply Lo.runx 5 rfl rfl [3] (by kernel_rfl) (Turn.refl _)
    apply Exists.intro; apply And.intro
    · intro u w1 hR hF
      obtain ⟨h3, -⟩ := hF
      refine ⟨rfl, fun a ha K hK => ?_⟩
      have e13 := (ha 13).trans h3
      clear ha h3
      obtain ⟨⟨c0, z0⟩, ⟨c1, z1⟩⟩ := HC.out w1 (((Turn.refl [] _).drew).same hR)
      go_simp
      refine hK _ ?_; rfl
    apply Lo.runx 6 rfl rfl [0, 4] (by kernel_rfl) (Turn.refl _)
    apply Exists.intro; apply And.intro
    · intro u w1 hR hF
      obtain ⟨h0, h4, -⟩ := hF
      refine ⟨rfl, fun a ha K hK => ?_⟩
      have e10 := (ha 10).trans h0
      have e14 := (ha 14).trans h4
      clear ha h0 h4
      go_simp
      refine hK _ ?_; rfl
    apply Lo.runx 7 rfl rfl [5] (by kernel_rfl) (Turn.refl _)
    apply Exists.intro; apply And.intro
    · intro u w1 hR hF
      obtain ⟨h5, -⟩ := hF
      refine ⟨rfl, fun a ha K hK => ?_⟩
      have e15 := (ha 15).trans h5
      clear ha h5
      go_simp
      refine hK _ ?_; rfl
    apply Lo.runx 8 rfl rfl [6] (by kernel_rfl) (Turn.refl _)
    apply Exists.intro; apply And.intro
    · intro u w1 hR hF
      obtain ⟨h6, -⟩ := hF
      refine ⟨.inl ⟨false, h6, rfl⟩, fun a ha K hK => ?_⟩
      have e3 := ha 3
      conv at e3 => rhs; whnf
      clear ha h6
      obtain ⟨⟨c0, z0⟩, ⟨c1, z1⟩⟩ := HC.out w1 (((Turn.refl [] _).drew).same hR)
      go_simp
      refine hK _ ?_; rfl
    apply Lo.runx 9 rfl rfl [6, 7] (by kernel_rfl) (Turn.refl _)
    apply Exists.intro; apply And.intro
    · intro u w1 hR hF
      obtain ⟨h6, h7, -⟩ := hF
      refine ⟨.inl ⟨false, h6, rfl⟩, fun a ha K hK => ?_⟩
      have e17 := (ha 17).trans h7
      clear ha h6 h7
      go_simp
      refine hK _ ?_; rfl
    refine Lo.runv 10 rfl rfl [6, 8] (.bool true) (by kernel_rfl) (fun u w1 hR hF => ?_) (Turn.refl _) ?_
    · obtain ⟨h6, h8, -⟩ := hF
      refine ⟨rfl, fun a ha K hK => ?_⟩
      have e16 := (ha 16).trans h6
      have e18 := (ha 18).trans h8
      clear ha h6 h8
      go_simp
      refine hK _ ?_
      rfl
    refine Lo.done [9] (fun u w1 hRd hSd hF => ?_)
    clear hSd
    obtain ⟨f9, -⟩ := hF
    have d9 : u 9 = _ := f9
    clear f9
    simp only [putFrom, Act.put, List.setIfInBounds_toArray, List.set_cons_succ, List.set_cons_zero, Nat.zero_add, Nat.reduceAdd, d9]
    have HT := hide (HAL.out.same (((Turn.refl [] w0).drew).same hRd))
    clear d9 hRd
    go_wp2
    go_ret2
    exact ⟨rfl, HT.out⟩
set_option maxHeartbeats 1000000 in
theorem sameIntsL_any (w : World) (b1 b2 : Nat) (a1 : Option Addr) (n1 c1 : Nat) (a2 : Option Addr) (n2 c2 : Nat) (xs : List Int) (h1 : IR w b1 (.slice a1 n1 c1) xs) (h2 : IR w b2 (.slice a2 n2 c2) xs) (hl : xs.length ≤ 1000000) : Calls Tryd.prog 9 #[.slice a1 n1 c1, .slice a2 n2 c2] w fun e w' => e = .returned (.bool true) ∧ Turn [] w w' := by
  have e1 : n1 = xs.length := by
    obtain ⟨a, c, e, -⟩ := h1.form
    simp only [Value.slice.injEq] at e
    exact e.2.1
  have e2 : n2 = xs.length := by
    obtain ⟨a, c, e, -⟩ := h2.form
    simp only [Value.slice.injEq] at e
    exact e.2.1
  subst e1
  subst e2
  have H1 := hide h1
  have H2 := hide h2
  clear h1 h2
  go_enter Tryd.func9, Tryd.ntmps9
  go_wp2
  go_loopw [5] (fun kv wr => ∃ k : Nat, k ≤ xs.length ∧ kv = .int .i64 k ∧ Turn [] w wr) (fun kv _ => xs.length - (intOf kv).toNat)
  case atStart => exact ⟨0, Nat.zero_le _, rfl, Turn.refl _ _⟩
  case round =>
    obtain ⟨k, hk, rfl, htw⟩ := hrel
    have HTW := hide htw
    clear htw
    by_cases hlt : k < xs.length
    · obtain ⟨g1, cap1, e1, k1, -⟩ := H1.out.at inZ_len hlt
      simp only [Value.slice.injEq, true_and] at e1
      obtain ⟨rfl, rfl⟩ := e1
      obtain ⟨g2, cap2, e2, k2, -⟩ := H2.out.at inZ_len hlt
      simp only [Value.slice.injEq, true_and] at e2
      obtain ⟨rfl, rfl⟩ := e2
      obtain ⟨X, hX⟩ : ∃ X : Int, X = xs[k] := ⟨_, rfl⟩
      have hc2 : ∀ Z, Turn [] w Z → Z.cell? ⟨g1, k, none⟩ = some (.int .i64 X) ∧ Z.cell? ⟨g2, k, none⟩ = some (.int .i64 X) := fun Z hZ => by
        obtain ⟨g, cap, e, q1, -⟩ := (H1.out.still hZ).at inZ_len hlt
        simp only [Value.slice.injEq, Option.some.injEq, Addr.mk.injEq, true_and] at e
        obtain ⟨⟨rfl, -⟩, -⟩ := e
        obtain ⟨g', cap', e', q2, -⟩ := (H2.out.still hZ).at inZ_len hlt
        simp only [Value.slice.injEq, Option.some.injEq, Addr.mk.injEq, true_and] at e'
        obtain ⟨⟨rfl, -⟩, -⟩ := e'
        have r1 := q1 0 (by omega)
        have r2 := q2 0 (by omega)
        rw [← hX] at r1 r2
        simp [inZ] at r1 r2
        exact ⟨r1, r2⟩
      have HC := hide hc2
      clear k1 k2 hX hc2
      have hki : (k : Int) < xs.length := by omega
      go_wp2
      refine wp_region_loose (Turn []) (by kernel_rfl) (by kernel_rfl) (by kernel_rfl) (by kernel_rfl) rfl (Turn.refl _) (fun _ _ _ h k => h.same k) ?_
      apply Lo.runx 1 rfl rfl [] (by kernel_rfl) (Turn.refl _)
      apply Exists.intro; apply And.intro
      · intro u w1 hR hF
        clear hF
        refine ⟨rfl, fun a ha K hK => ?_⟩
        have e0 := ha 0
        conv at e0 => rhs; whnf
        clear ha
        go_simp
        refine hK _ ?_; rfl
      apply Lo.runx 2 rfl rfl [] (by kernel_rfl) (Turn.refl _)
      apply Exists.intro; apply And.intro
      · intro u w1 hR hF
        clear hF
        refine ⟨rfl, fun a ha K hK => ?_⟩
        have e5 := ha 5
        conv at e5 => rhs; whnf
        clear ha
        go_simp
        refine hK _ ?_; rfl
      apply Lo.runx 3 rfl rfl [0, 1] (by kernel_rfl) (Turn.refl _)
      apply Exists.intro; apply And.intro
      · intro u w1 hR hF
        obtain ⟨h0, h1, -⟩ := hF
        refine ⟨rfl, fun a ha K hK => ?_⟩
        have e17 := (ha 17).trans h0
        have e18 := (ha 18).trans h1
        clear ha h0 h1
        go_simp
        refine hK _ ?_; rfl
      apply Lo.runx 4 rfl rfl [2] (by kernel_rfl) (Turn.refl _)
      apply Exists.intro; apply And.intro
      · intro u w1 hR hF
        obtain ⟨h2, -⟩ := hF
        refine ⟨rfl, fun a ha K hK => ?_⟩
        have e19 := (ha 19).trans h2
        clear ha h2
        obtain ⟨q1, q2⟩ := HC.out w1 (HTW.out.same (((Turn.refl [] _).drew).same hR))
        go_simp
        refine hK _ ?_; rfl
      apply Lo.runx 5 rfl rfl [] (by kernel_rfl) (Turn.refl _)
      apply Exists.intro; apply And.intro
      · intro u w1 hR hF
        clear hF
        refine ⟨rfl, fun a ha K hK => ?_⟩
        have e1 := ha 1
        conv at e1 => rhs; whnf
        clear ha
        go_simp
        refine hK _ ?_; rfl
      apply Lo.runx 6 rfl rfl [] (by kernel_rfl) (Turn.refl _)
      apply Exists.intro; apply And.intro
      · intro u w1 hR hF
        clear hF
        refine ⟨rfl, fun a ha K hK => ?_⟩
        have e5 := ha 5
        conv at e5 => rhs; whnf
        clear ha
        go_simp
        refine hK _ ?_; rfl
      apply Lo.runx 7 rfl rfl [4, 5] (by kernel_rfl) (Turn.refl _)
      apply Exists.intro; apply And.intro
      · intro u w1 hR hF
        obtain ⟨h4, h5, -⟩ := hF
        refine ⟨rfl, fun a ha K hK => ?_⟩
        have e21 := (ha 21).trans h4
        have e22 := (ha 22).trans h5
        clear ha h4 h5
        go_simp
        refine hK _ ?_; rfl
      apply Lo.runx 8 rfl rfl [6] (by kernel_rfl) (Turn.refl _)
      apply Exists.intro; apply And.intro
      · intro u w1 hR hF
        obtain ⟨h6, -⟩ := hF
        refine ⟨rfl, fun a ha K hK => ?_⟩
        have e23 := (ha 23).trans h6
        clear ha h6
        obtain ⟨q1, q2⟩ := HC.out w1 (HTW.out.same (((Turn.refl [] _).drew).same hR))
        go_simp
        refine hK _ ?_; rfl
      refine Lo.runv 9 rfl rfl [3, 7] (.bool (false)) (by kernel_rfl) (fun u w1 hR hF => ?_) (Turn.refl _) ?_
      · obtain ⟨h3, h7, -⟩ := hF
        refine ⟨rfl, fun a ha K hK => ?_⟩
        have e20 := (ha 20).trans h3
        have e24 := (ha 24).trans h7
        clear ha h3 h7
        go_simp
        refine hK _ ?_
        simp
      refine Lo.done [8] (fun u w1 hRd hSd hF => ?_)
      clear hSd
      obtain ⟨f8, -⟩ := hF
      have d8 : u 8 = _ := f8
      clear f8
      simp only [putFrom, Act.put, List.setIfInBounds_toArray, List.set_cons_succ, List.set_cons_zero, Nat.zero_add, Nat.reduceAdd, d8]
      have HT2 := hide (HTW.out.same (((Turn.refl [] _).drew).same hRd))
      clear d8 hRd
      go_wp2
      all_goals refine ⟨⟨k + 1, by omega, by go_num, HT2.out⟩, ?_⟩
      all_goals (simp only [intOf]; omega)
    · obtain rfl : k = xs.length := by omega
      go_wp2
      go_ret
      exact ⟨rfl, HTW.out⟩
theorem withinL_any (w : World) (n : Int) : Calls Tryd.prog 4 #[.int .i64 n] w fun e w' => e = .returned (.bool (decide (0 ≤ n ∧ n ≤ 1099511627776))) ∧ w' = w := by
  by_cases h0 : 0 ≤ n
  · by_cases h1 : n ≤ 1099511627776
    · rw [show decide (0 ≤ n ∧ n ≤ 1099511627776) = true from by simpa using ⟨h0, h1⟩]
      go_enter Tryd.func4, Tryd.ntmps4
      go_wp2
      go_ret
      exact ⟨rfl, rfl⟩
    · rw [show decide (0 ≤ n ∧ n ≤ 1099511627776) = false from by simp; omega]
      go_enter Tryd.func4, Tryd.ntmps4
      go_wp2
      go_ret
      exact ⟨rfl, rfl⟩
  · rw [show decide (0 ≤ n ∧ n ≤ 1099511627776) = false from by simp; omega]
    go_enter Tryd.func4, Tryd.ntmps4
    go_wp2
    go_ret
    exact ⟨rfl, rfl⟩
end Go.Proofs.YtcficgpknokpbaaDoor.Wh
