/- slices.SortStableFunc of timers: merging, where the second row is one timer. -/
import Derived.Test.YtcficgpknokpbaaDoorStf
namespace Go.Proofs.YtcficgpknokpbaaDoor.Wh
open Go.RowKit Go.Maps
set_option maxRecDepth 100000
set_option linter.unusedSimpArgs false
set_option linter.unusedVariables false
attribute [local go_sem] Oper.semAt_some

set_option maxHeartbeats 1000000 in
theorem merge_right (w : World) (base g n c : Nat) (X A Y : List Tm) (y : Tm) (h : TR w base (.slice (some ⟨g, 0, none⟩) n c) (X ++ A ++ y :: Y)) (hl : X.length + A.length + 1 + Y.length ≤ 1000000) (hA : Srt A) (hA2 : 2 ≤ A.length) :
    MergesC w base g n c X A [y] Y X.length ((X.length + A.length : Nat) : Int) ((X.length + A.length + 1 : Nat) : Int) := by
  unfold MergesC
  have H := hide h
  have HS := hide hA
  have hn : n = X.length + A.length + 1 + Y.length := by rw [h.len]; simp; omega
  obtain ⟨xl, hxl⟩ : ∃ xl, xl = X.length := ⟨_, rfl⟩
  obtain ⟨al, hal⟩ : ∃ al, al = A.length := ⟨_, rfl⟩
  rw [← hxl, ← hal] at hl hn ⊢
  rw [← hal] at hA2
  have HXL := hide hxl
  have HAL := hide hal
  have hmax : n ≤ 1000000 := by omega
  have hxn : xl + al + 1 ≤ n := by omega
  clear h hl hxl hal hn hA
  have s0 : IntKind.i64.wrap (((xl + al : Nat) : Int) - xl) = al := by rw [IntWalk.i64_in _ (by omega)]; omega
  have s1 : IntKind.i64.wrap (((xl + al + 1 : Nat) : Int) - (xl + al : Nat)) = 1 := by rw [IntWalk.i64_in _ (by omega)]; omega
  unfold fnT
  go_enter Tryd.func29, Tryd.ntmps29
  go_wp2
  go_loopw [14, 15] (fun iv jv wr => ∃ i j : Nat, i ≤ j ∧ j ≤ al ∧ iv = .int .i64 ((xl + i : Nat) : Int) ∧ jv = .int .i64 ((xl + j : Nat) : Int) ∧ (i = 0 ∨ ∃ h : i - 1 < A.length, (A[i - 1]).1 ≤ y.1) ∧ (j = A.length ∨ ∃ h : j < A.length, y.1 < (A[j]).1) ∧ Turn [] w wr) (fun iv jv _ => (intOf jv).toNat - (intOf iv).toNat)
  case atStart =>
    exact ⟨0, al, Nat.zero_le _, Nat.le_refl _, rfl, rfl, .inl rfl, .inl HAL.out, Turn.refl _ _⟩
  case round =>
    obtain ⟨i, j, hij, hjb, rfl, rfl, hi, hj, htw⟩ := hrel
    have HTW := hide htw
    have HI := hide hi
    have HJ := hide hj
    clear htw hi hj
    by_cases hlt : i < j
    · have hlt1 : (xl : Int) + i < xl + j := by omega
      obtain ⟨k, hk⟩ : ∃ k, k = (i + j) / 2 := ⟨_, rfl⟩
      obtain ⟨hh, hhe⟩ : ∃ hh, hh = xl + k := ⟨_, rfl⟩
      have e : ((xl : Int) + i + (xl + j)) / 2 = (hh : Int) := by omega
      have hkA : k < A.length := by rw [← HAL.out]; omega
      obtain ⟨x, hx⟩ : ∃ x, x = A[k] := ⟨_, rfl⟩
      have hcell : ∀ Z, Turn [] wr Z → (Z.cell? ⟨g, hh * 2, none⟩ = some (.int .i64 x.1) ∧ Z.cell? ⟨g, hh * 2 + 1, none⟩ = some (.int .i64 x.2)) ∧ Z.cell? ⟨g, (xl + al) * 2, none⟩ = some (.int .i64 y.1) ∧ Z.cell? ⟨g, (xl + al) * 2 + 1, none⟩ = some (.int .i64 y.2) := fun Z hZ => by
        have hrow := H.out.still (HTW.out.same hZ)
        have hlx : (X ++ A ++ y :: Y).length = X.length + A.length + 1 + Y.length := by simp; omega
        obtain ⟨c0, c1, -⟩ := TR.two hrow (i := hh) (x := x) (by rw [hlx, ← HXL.out, ← HAL.out]; omega) (by
          rw [List.getElem_append_left (by rw [List.length_append, ← HXL.out]; omega), List.getElem_append_right (by rw [← HXL.out]; omega)]
          simp only [show hh - X.length = k by rw [← HXL.out]; omega]
          exact hx.symm)
        obtain ⟨c2, c3, -⟩ := TR.two hrow (i := xl + al) (x := y) (by rw [hlx, ← HXL.out, ← HAL.out]; omega) (get_split rfl (by rw [List.length_append, ← HXL.out, ← HAL.out]) _)
        exact ⟨⟨c0, c1⟩, c2, c3⟩
      have HX := hide hx
      obtain ⟨mm, hmm⟩ : ∃ mm, mm = xl + al := ⟨_, rfl⟩
      rw [← hmm] at hcell ⊢
      have HC := hide hcell
      have hk1 : k ≤ (i + j) / 2 := by omega
      have hk2 : (i + j) / 2 ≤ k := by omega
      have hh1 : hh ≤ xl + k := by omega
      have hh2 : xl + k ≤ hh := by omega
      have hm1 : mm ≤ xl + al := by omega
      have hm2 : xl + al ≤ mm := by omega
      clear hcell hx hk hhe hmm
      have i1 : (hh : Int) < (n : Int) := by omega
      have i2 : (mm : Int) < (n : Int) := by omega
      go_wp2
      clear e
      refine wp_region_loose (Turn []) (by kernel_rfl) (by kernel_rfl) (by kernel_rfl) (by kernel_rfl) rfl (Turn.refl _) (fun _ _ _ h k => h.same k) ?_
      apply Lo.runx 1 rfl rfl [] (by kernel_rfl) (Turn.refl _)
      apply Exists.intro; apply And.intro
      · intro u w1 hR hF
        clear hF
        refine ⟨rfl, fun a ha K hK => ?_⟩
        have e4 := ha 4
        conv at e4 => rhs; whnf
        clear ha
        go_simp
        refine hK _ ?_; rfl
      apply Lo.runx 2 rfl rfl [] (by kernel_rfl) (Turn.refl _)
      apply Exists.intro; apply And.intro
      · intro u w1 hR hF
        clear hF
        refine ⟨rfl, fun a ha K hK => ?_⟩
        have e0 := ha 0
        conv at e0 => rhs; whnf
        clear ha
        go_simp
        refine hK _ ?_; rfl
      apply Lo.runx 3 rfl rfl [] (by kernel_rfl) (Turn.refl _)
      apply Exists.intro; apply And.intro
      · intro u w1 hR hF
        clear hF
        refine ⟨rfl, fun a ha K hK => ?_⟩
        have e2 := ha 2
        conv at e2 => rhs; whnf
        clear ha
        go_simp
        refine hK _ ?_; rfl
      apply Lo.runx 4 rfl rfl [1, 2] (by kernel_rfl) (Turn.refl _)
      apply Exists.intro; apply And.intro
      · intro u w1 hR hF
        obtain ⟨h1, h2, -⟩ := hF
        refine ⟨rfl, fun a ha K hK => ?_⟩
        have e93 := (ha 93).trans h1
        have e94 := (ha 94).trans h2
        clear ha h1 h2
        go_simp
        refine hK _ ?_; rfl
      refine Lo.runv 5 rfl rfl [3] (tmV y) (by kernel_rfl) (fun u w1 hR hF => ?_) (Turn.refl _) ?_
      · obtain ⟨h3, -⟩ := hF
        refine ⟨rfl, fun a ha K hK => ?_⟩
        have e95 := (ha 95).trans h3
        clear ha h3
        obtain ⟨⟨c0, c1⟩, c2, c3⟩ := HC.out w1 (((Turn.refl [] _).drew).same hR)
        go_simp
        refine hK _ ?_
        rfl
      apply Lo.runx 6 rfl rfl [] (by kernel_rfl) (Turn.refl _)
      apply Exists.intro; apply And.intro
      · intro u w1 hR hF
        clear hF
        refine ⟨rfl, fun a ha K hK => ?_⟩
        have e0 := ha 0
        conv at e0 => rhs; whnf
        clear ha
        go_simp
        refine hK _ ?_; rfl
      apply Lo.runx 7 rfl rfl [] (by kernel_rfl) (Turn.refl _)
      apply Exists.intro; apply And.intro
      · intro u w1 hR hF
        clear hF
        refine ⟨rfl, fun a ha K hK => ?_⟩
        have e16 := ha 16
        conv at e16 => rhs; whnf
        clear ha
        go_simp
        refine hK _ ?_; rfl
      apply Lo.runx 8 rfl rfl [5, 6] (by kernel_rfl) (Turn.refl _)
      apply Exists.intro; apply And.intro
      · intro u w1 hR hF
        obtain ⟨h5, h6, -⟩ := hF
        refine ⟨rfl, fun a ha K hK => ?_⟩
        have e97 := (ha 97).trans h5
        have e98 := (ha 98).trans h6
        clear ha h5 h6
        go_simp
        refine hK _ ?_; rfl
      refine Lo.runv 9 rfl rfl [7] (tmV x) (by kernel_rfl) (fun u w1 hR hF => ?_) (Turn.refl _) ?_
      · obtain ⟨h7, -⟩ := hF
        refine ⟨rfl, fun a ha K hK => ?_⟩
        have e99 := (ha 99).trans h7
        clear ha h7
        obtain ⟨⟨c0, c1⟩, c2, c3⟩ := HC.out w1 (((Turn.refl [] _).drew).same hR)
        go_simp
        refine hK _ ?_
        rfl
      refine Lo.run 10 rfl rfl [0, 4, 8] (fun v w' => v = .int .i64 (cmpI y.1 x.1)) (by kernel_rfl) (fun x w w' h hR => ?_) (fun _ _ h => h) (fun u w1 hR hF => ?_) ?_
      · exact h
      · obtain ⟨h0, h4, h8, -⟩ := hF
        refine ⟨rfl, fun a ha K hK => ?_⟩
        have e92 := (ha 92).trans h0
        have e96 := (ha 96).trans h4
        have e100 := (ha 100).trans h8
        clear ha h0 h4 h8
        go_simp
        refine (cmp_any y x w1).mono ?_
        rintro e w5 ⟨rfl, ht5⟩
        exact hK _ _ rfl ht5
      refine Lo.runv 11 rfl rfl [9] (.bool (decide (y.1 < x.1))) (by kernel_rfl) (fun u w1 hR hF => ?_) (Turn.refl _) ?_
      · obtain ⟨h9, -⟩ := hF
        refine ⟨rfl, fun a ha K hK => ?_⟩
        have e101 : a.tmps.getD 101 undef = u 9 := ha 101
        have h9 := (show (fun v w' => v = .int .i64 (cmpI y.1 x.1)) (u 9) w1 from h9)
        dsimp only at h9
        clear ha
        go_simp
        refine hK _ ?_
        rw [← cmpI_lt y.1 x.1]
      refine Lo.runv 12 rfl rfl [10] (.bool (!decide (y.1 < x.1))) (by kernel_rfl) (fun u w1 hR hF => ?_) (Turn.refl _) ?_
      · obtain ⟨h10, -⟩ := hF
        refine ⟨rfl, fun a ha K hK => ?_⟩
        have e102 := (ha 102).trans h10
        clear ha h10
        go_simp
        refine hK _ ?_
        rfl
      refine Lo.done [11] (fun u w1 hRd hSd hF => ?_)
      clear hSd
      obtain ⟨f11, -⟩ := hF
      have d11 : u 11 = _ := f11
      clear f11
      simp only [putFrom, Act.put, List.setIfInBounds_toArray, List.set_cons_succ, List.set_cons_zero, Nat.zero_add, Nat.reduceAdd, d11]
      have HT1 := hide (HTW.out.same (((Turn.refl [] wr).drew).same hRd))
      clear d11 hRd
      by_cases hyx : y.1 < x.1
      · have hd : decide (y.1 < x.1) = true := by simpa using hyx
        rw [hd]
        clear hd
        go_wp2
        refine ⟨⟨i, k, by omega, by omega, rfl, by simp only [Value.int.injEq, true_and]; omega, HI.out, .inr ⟨hkA, ?_⟩, HT1.out⟩, by simp only [intOf]; omega⟩
        rw [← HX.out]
        exact hyx
      · have hd : decide (y.1 < x.1) = false := by simpa using hyx
        rw [hd]
        clear hd
        have e2 : IntKind.i64.wrap ((hh : Int) + 1) = ((xl + (k + 1) : Nat) : Int) := by rw [IntWalk.i64_in _ (by omega)]; omega
        go_wp2
        refine ⟨⟨k + 1, j, by omega, hjb, by simp only [Value.int.injEq, true_and]; omega, rfl, .inr ⟨hkA, ?_⟩, HJ.out, HT1.out⟩, by simp only [intOf]; omega⟩
        show (A[k]).1 ≤ y.1
        rw [← HX.out]
        omega
    · obtain rfl : i = j := by omega
      have hst : Stb (A ++ [y]) (A.take i ++ y :: A.drop i) := by
        have h0 := stb_merge (A1 := A.take i) (A2 := A.drop i) (B1 := [y]) (B2 := []) (M1 := A.take i ++ [y]) (M2 := A.drop i) (by rw [List.take_append_drop]; exact HS.out) (by simp [Srt]) (by simp) (fun z hz x hx => by
            obtain rfl := List.mem_singleton.1 hz
            exact srt_drop HS.out (by rw [← HAL.out]; exact hjb) (p := fun v => z.1 < v) (fun _ _ h1 h2 => by omega) HJ.out x hx) (by
            refine Srt.stb (srt_append.2 ⟨srt_take' HS.out i, by simp [Srt], fun x hx z hz => ?_⟩)
            obtain rfl := List.mem_singleton.1 hz
            exact srt_take HS.out (by rw [← HAL.out]; exact hjb) (p := fun v => v ≤ z.1) (fun _ _ h1 h2 => by omega) HI.out x hx) (by rw [List.append_nil]; exact Srt.stb (srt_drop' HS.out i))
        rw [List.take_append_drop] at h0
        simpa using h0
      have HST := hide hst
      obtain ⟨wo, rfl⟩ : ∃ wo, wo = wr := ⟨_, rfl⟩
      clear HI HJ hst
      go_wp2
      go_loopw [17] (fun kv wr => ∃ k : Nat, i ≤ k ∧ k ≤ al ∧ kv = .int .i64 ((xl + k : Nat) : Int) ∧ TR wr base (.slice (some ⟨g, 0, none⟩) n c) (X ++ A.take k ++ y :: (A.drop k ++ Y)) ∧ Turn [g] w wr) (fun kv _ => (intOf kv).toNat - xl)
      case atStart =>
        refine ⟨al, hjb, Nat.le_refl _, rfl, ?_, HTW.out.mono (by simp)⟩
        have := H.out.still HTW.out
        rw [List.take_of_length_le (by rw [← HAL.out]; exact Nat.le_refl _), List.drop_eq_nil_of_le (by rw [← HAL.out]; exact Nat.le_refl _)]
        simpa using this
      case round =>
        obtain ⟨k, hk, hkl, rfl, hrow, htw⟩ := hrel
        have HTQ := hide htw
        have HRQ := hide hrow
        clear htw hrow
        by_cases hlt2 : i < k
        · obtain ⟨q, rfl⟩ : ∃ q, k = q + 1 := ⟨k - 1, by omega⟩
          have hkA : q < A.length := by rw [← HAL.out]; omega
          obtain ⟨x, hx⟩ : ∃ x, x = A[q] := ⟨_, rfl⟩
          have hrow := HRQ.out
          rw [List.take_succ_eq_append_getElem hkA, ← hx, show X ++ (A.take q ++ [x]) ++ y :: (A.drop (q + 1) ++ Y) = (X ++ A.take q) ++ x :: ([] ++ y :: (A.drop (q + 1) ++ Y)) by simp] at hrow
          have hp1 : (X ++ A.take q).length = xl + q := by rw [List.length_append, List.length_take, ← HXL.out]; omega
          have hlen := hrow.len
          have hg1 : ∀ h, ((X ++ A.take q) ++ x :: ([] ++ y :: (A.drop (q + 1) ++ Y)))[xl + q]'h = x := fun h => get_split rfl hp1.symm h
          have hg2 : ∀ h, ((X ++ A.take q) ++ x :: ([] ++ y :: (A.drop (q + 1) ++ Y)))[xl + q + 1]'h = y := fun h => get_split (P := X ++ A.take q ++ [x]) (R := A.drop (q + 1) ++ Y) (by simp) (by rw [List.length_append, hp1]; rfl) h
          have hlb : xl + q + 1 < ((X ++ A.take q) ++ x :: ([] ++ y :: (A.drop (q + 1) ++ Y))).length := by rw [List.length_append, hp1]; simp
          have hsw := hrow.swapped.2
          rw [hp1, show xl + q + 1 + ([] : List Tm).length = xl + q + 1 by simp] at hsw
          obtain ⟨c0, c1, f0, f1, z⟩ := TR.two hrow (i := xl + q) (by omega) (hg1 _)
          obtain ⟨c2, c3, f2, f3, -⟩ := TR.two hrow (i := xl + q + 1) hlb (hg2 _)
          have hjn : xl + q + 1 < n := by rw [hlen]; exact hlb
          obtain ⟨j, hj⟩ : ∃ j, j = xl + q := ⟨_, rfl⟩
          obtain ⟨j1, hj1⟩ : ∃ j1, j1 = j + 1 := ⟨_, rfl⟩
          rw [← hj] at hsw c0 c1 f0 f1 c2 c3 f2 f3 hjn
          rw [← hj1] at hsw c2 c3 f2 f3 hjn
          rw [show xl + (q + 1) = j1 by omega]
          have HX := hide hx
          have HSW := hide hsw
          have ja : j ≤ xl + q := by omega
          have jb : xl + q ≤ j := by omega
          have j1a : j1 ≤ j + 1 := by omega
          have j1b : j + 1 ≤ j1 := by omega
          clear hrow hp1 hlen hg1 hg2 hlb hsw hj hj1 hx
          have i1 : (j : Int) < (n : Int) := by omega
          have i2 : (j1 : Int) < (n : Int) := by omega
          have hlt3 : ((xl : Int) + i) < (j1 : Int) := by omega
          have e4 : IntKind.i64.wrap ((j1 : Int) - 1) = (j : Int) := by rw [IntWalk.i64_in _ (by omega)]; omega
          go_wp2
          go_region
          go_wp2
          refine ⟨⟨q, by omega, by omega, by simp only [Value.int.injEq, true_and]; omega, ?_, HTQ.out.same (turn_two wr g (j1 * 2) (j * 2) (tmC x) (tmC y)).drew⟩, by simp only [intOf]; omega⟩
          have := HSW.out.still ((Turn.refl [] _).drew)
          rw [List.drop_eq_getElem_cons hkA, ← HX.out]
          exact this
        · obtain rfl : k = i := by omega
          go_wp2
          refine bodyPost_ret (results_none rfl _ _ _) rfl ?_
          exact ⟨rfl, ⟨_, HST.out, by simpa using HRQ.out⟩, HTQ.out⟩
end Go.Proofs.YtcficgpknokpbaaDoor.Wh
