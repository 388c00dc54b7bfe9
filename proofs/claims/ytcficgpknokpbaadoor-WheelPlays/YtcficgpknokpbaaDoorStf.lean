/- slices.SortStableFunc of timers: merging, where the first row is one timer. -/
import Derived.Test.YtcficgpknokpbaaDoorSte
namespace Go.Proofs.YtcficgpknokpbaaDoor.Wh
open Go.RowKit Go.Maps
set_option maxRecDepth 100000
set_option linter.unusedSimpArgs false
set_option linter.unusedVariables false
attribute [local go_sem] Oper.semAt_some

/-- What a merge leaves. -/
def MergesC (w : World) (base g n c : Nat) (X A B Y : List Tm) (a m b : Int) : Prop := Calls Tryd.prog 29 #[.slice (some ⟨g, 0, none⟩) n c, .int .i64 a, .int .i64 m, .int .i64 b, fnT] w fun e w' => e = .returned (.tuple #[]) ∧ (∃ M, Stb (A ++ B) M ∧ TR w' base (.slice (some ⟨g, 0, none⟩) n c) (X ++ M ++ Y)) ∧ Turn [g] w w'

theorem half_wrap (x : Nat) (hx : x ≤ 100000000) : IntKind.i64.wrap (IntKind.u64.wrap (x : Int) / 2) = ((x / 2 : Nat) : Int) := by
  rw [IntWalk.u64_in _ (by omega), IntWalk.i64_in _ (by omega)]; omega
set_option maxHeartbeats 1000000 in
theorem merge_left (w : World) (base g n c : Nat) (X B Y : List Tm) (x : Tm) (h : TR w base (.slice (some ⟨g, 0, none⟩) n c) (X ++ x :: (B ++ Y))) (hl : X.length + 1 + B.length + Y.length ≤ 1000000) (hB : Srt B) :
    MergesC w base g n c X [x] B Y X.length ((X.length + 1 : Nat) : Int) ((X.length + 1 + B.length : Nat) : Int) := by
  unfold MergesC
  have H := hide h
  have HS := hide hB
  have hn : n = X.length + 1 + B.length + Y.length := by rw [h.len]; simp; omega
  obtain ⟨xl, hxl⟩ : ∃ xl, xl = X.length := ⟨_, rfl⟩
  obtain ⟨bl, hbl⟩ : ∃ bl, bl = B.length := ⟨_, rfl⟩
  rw [← hxl, ← hbl] at hl hn ⊢
  have HXL := hide hxl
  have HBL := hide hbl
  have hmax : n ≤ 1000000 := by omega
  have hxn : xl + 1 + bl ≤ n := by omega
  clear h hl hxl hbl hn hB
  have s0 : IntKind.i64.wrap (((xl + 1 : Nat) : Int) - xl) = 1 := by rw [IntWalk.i64_in _ (by omega)]; omega
  unfold fnT
  go_enter Tryd.func29, Tryd.ntmps29
  go_wp2
  go_loopw [10, 11] (fun iv jv wr => ∃ i j : Nat, i ≤ j ∧ j ≤ bl ∧ iv = .int .i64 ((xl + 1 + i : Nat) : Int) ∧ jv = .int .i64 ((xl + 1 + j : Nat) : Int) ∧ (i = 0 ∨ ∃ h : i - 1 < B.length, (B[i - 1]).1 < x.1) ∧ (j = B.length ∨ ∃ h : j < B.length, x.1 ≤ (B[j]).1) ∧ Turn [] w wr) (fun iv jv _ => (intOf jv).toNat - (intOf iv).toNat)
  case atStart =>
    exact ⟨0, bl, Nat.zero_le _, Nat.le_refl _, rfl, rfl, .inl rfl, .inl HBL.out, Turn.refl _ _⟩
  case round =>
    obtain ⟨i, j, hij, hjb, rfl, rfl, hi, hj, htw⟩ := hrel
    have HTW := hide htw
    have HI := hide hi
    have HJ := hide hj
    clear htw hi hj
    by_cases hlt : i < j
    · have hlt1 : (xl : Int) + 1 + i < xl + 1 + j := by omega
      obtain ⟨k, hk⟩ : ∃ k, k = (i + j) / 2 := ⟨_, rfl⟩
      obtain ⟨hh, hhe⟩ : ∃ hh, hh = xl + 1 + k := ⟨_, rfl⟩
      have e : ((xl : Int) + 1 + i + (xl + 1 + j)) / 2 = (hh : Int) := by omega
      have hkB : k < B.length := by rw [← HBL.out]; omega
      obtain ⟨y, hy⟩ : ∃ y, y = B[k] := ⟨_, rfl⟩
      have hcell : ∀ Z, Turn [] wr Z → (Z.cell? ⟨g, hh * 2, none⟩ = some (.int .i64 y.1) ∧ Z.cell? ⟨g, hh * 2 + 1, none⟩ = some (.int .i64 y.2)) ∧ Z.cell? ⟨g, xl * 2, none⟩ = some (.int .i64 x.1) ∧ Z.cell? ⟨g, xl * 2 + 1, none⟩ = some (.int .i64 x.2) := fun Z hZ => by
        have hrow := H.out.still (HTW.out.same hZ)
        have hlx : (X ++ x :: (B ++ Y)).length = X.length + 1 + B.length + Y.length := by simp; omega
        obtain ⟨c0, c1, -⟩ := TR.two hrow (i := hh) (x := y) (by rw [hlx, ← HXL.out, ← HBL.out]; omega) (by
          rw [List.getElem_append_right (by rw [← HXL.out]; omega)]
          simp only [show hh - X.length = k + 1 by rw [← HXL.out]; omega, List.getElem_cons_succ]
          rw [List.getElem_append_left hkB, hy])
        obtain ⟨c2, c3, -⟩ := TR.two hrow (i := xl) (x := x) (by rw [hlx, ← HXL.out, ← HBL.out]; omega) (get_split rfl HXL.out _)
        exact ⟨⟨c0, c1⟩, c2, c3⟩
      have HC := hide hcell
      have HY := hide hy
      have hk1 : k ≤ (i + j) / 2 := by omega
      have hk2 : (i + j) / 2 ≤ k := by omega
      have hh1 : hh ≤ xl + 1 + k := by omega
      have hh2 : xl + 1 + k ≤ hh := by omega
      clear hcell hy hk hhe
      have i1 : (hh : Int) < (n : Int) := by omega
      have i2 : (xl : Int) < (n : Int) := by omega
      go_wp2
      clear e
      refine wp_region_loose (Turn []) (by kernel_rfl) (by kernel_rfl) (by kernel_rfl) (by kernel_rfl) rfl (Turn.refl _) (fun _ _ _ h k => h.same k) ?_
      apply Lo.runx 1 rfl rfl [] (by kernel_rfl) (Turn.refl _)
      apply Exists.intro; apply And.intro
      · intro u w1 hR hF
        clear hF
        refine ⟨rfl, fun a ha K hK => ?_⟩
        have e4 := ha 4
        conv at e4 => rhs; whnf
        clear ha
        go_simp
        refine hK _ ?_; rfl
      apply Lo.runx 2 rfl rfl [] (by kernel_rfl) (Turn.refl _)
      apply Exists.intro; apply And.intro
      · intro u w1 hR hF
        clear hF
        refine ⟨rfl, fun a ha K hK => ?_⟩
        have e0 := ha 0
        conv at e0 => rhs; whnf
        clear ha
        go_simp
        refine hK _ ?_; rfl
      apply Lo.runx 3 rfl rfl [] (by kernel_rfl) (Turn.refl _)
      apply Exists.intro; apply And.intro
      · intro u w1 hR hF
        clear hF
        refine ⟨rfl, fun a ha K hK => ?_⟩
        have e12 := ha 12
        conv at e12 => rhs; whnf
        clear ha
        go_simp
        refine hK _ ?_; rfl
      apply Lo.runx 4 rfl rfl [1, 2] (by kernel_rfl) (Turn.refl _)
      apply Exists.intro; apply And.intro
      · intro u w1 hR hF
        obtain ⟨h1, h2, -⟩ := hF
        refine ⟨rfl, fun a ha K hK => ?_⟩
        have e41 := (ha 41).trans h1
        have e42 := (ha 42).trans h2
        clear ha h1 h2
        go_simp
        refine hK _ ?_; rfl
      refine Lo.runv 5 rfl rfl [3] (tmV y) (by kernel_rfl) (fun u w1 hR hF => ?_) (Turn.refl _) ?_
      · obtain ⟨h3, -⟩ := hF
        refine ⟨rfl, fun a ha K hK => ?_⟩
        have e43 := (ha 43).trans h3
        clear ha h3
        obtain ⟨⟨c0, c1⟩, c2, c3⟩ := HC.out w1 (((Turn.refl [] _).drew).same hR)
        go_simp
        refine hK _ ?_
        rfl
      apply Lo.runx 6 rfl rfl [] (by kernel_rfl) (Turn.refl _)
      apply Exists.intro; apply And.intro
      · intro u w1 hR hF
        clear hF
        refine ⟨rfl, fun a ha K hK => ?_⟩
        have e0 := ha 0
        conv at e0 => rhs; whnf
        clear ha
        go_simp
        refine hK _ ?_; rfl
      apply Lo.runx 7 rfl rfl [] (by kernel_rfl) (Turn.refl _)
      apply Exists.intro; apply And.intro
      · intro u w1 hR hF
        clear hF
        refine ⟨rfl, fun a ha K hK => ?_⟩
        have e1 := ha 1
        conv at e1 => rhs; whnf
        clear ha
        go_simp
        refine hK _ ?_; rfl
      apply Lo.runx 8 rfl rfl [5, 6] (by kernel_rfl) (Turn.refl _)
      apply Exists.intro; apply And.intro
      · intro u w1 hR hF
        obtain ⟨h5, h6, -⟩ := hF
        refine ⟨rfl, fun a ha K hK => ?_⟩
        have e45 := (ha 45).trans h5
        have e46 := (ha 46).trans h6
        clear ha h5 h6
        go_simp
        refine hK _ ?_; rfl
      refine Lo.runv 9 rfl rfl [7] (tmV x) (by kernel_rfl) (fun u w1 hR hF => ?_) (Turn.refl _) ?_
      · obtain ⟨h7, -⟩ := hF
        refine ⟨rfl, fun a ha K hK => ?_⟩
        have e47 := (ha 47).trans h7
        clear ha h7
        obtain ⟨⟨c0, c1⟩, c2, c3⟩ := HC.out w1 (((Turn.refl [] _).drew).same hR)
        go_simp
        refine hK _ ?_
        rfl
      refine Lo.run 10 rfl rfl [0, 4, 8] (fun v w' => v = .int .i64 (cmpI y.1 x.1)) (by kernel_rfl) (fun x w w' h hR => ?_) (fun _ _ h => h) (fun u w1 hR hF => ?_) ?_
      · exact h
      · obtain ⟨h0, h4, h8, -⟩ := hF
        refine ⟨rfl, fun a ha K hK => ?_⟩
        have e40 := (ha 40).trans h0
        have e44 := (ha 44).trans h4
        have e48 := (ha 48).trans h8
        clear ha h0 h4 h8
        go_simp
        refine (cmp_any y x w1).mono ?_
        rintro e w5 ⟨rfl, ht5⟩
        exact hK _ _ rfl ht5
      refine Lo.runv 11 rfl rfl [9] (.bool (decide (y.1 < x.1))) (by kernel_rfl) (fun u w1 hR hF => ?_) (Turn.refl _) ?_
      · obtain ⟨h9, -⟩ := hF
        refine ⟨rfl, fun a ha K hK => ?_⟩
        have e49 : a.tmps.getD 49 undef = u 9 := ha 49
        have h9 := (show (fun v w' => v = .int .i64 (cmpI y.1 x.1)) (u 9) w1 from h9)
        dsimp only at h9
        clear ha
        go_simp
        refine hK _ ?_
        rw [← cmpI_lt y.1 x.1]
      refine Lo.done [10] (fun u w1 hRd hSd hF => ?_)
      clear hSd
      obtain ⟨f10, -⟩ := hF
      have d10 : u 10 = _ := f10
      clear f10
      simp only [putFrom, Act.put, List.setIfInBounds_toArray, List.set_cons_succ, List.set_cons_zero, Nat.zero_add, Nat.reduceAdd, d10]
      have HT1 := hide (HTW.out.same (((Turn.refl [] wr).drew).same hRd))
      clear d10 hRd
      by_cases hyx : y.1 < x.1
      · have hd : decide (y.1 < x.1) = true := by simpa using hyx
        rw [hd]
        clear hd
        have e2 : IntKind.i64.wrap ((hh : Int) + 1) = ((xl + 1 + (k + 1) : Nat) : Int) := by rw [IntWalk.i64_in _ (by omega)]; omega
        go_wp2
        refine ⟨⟨k + 1, j, by omega, hjb, by simp only [Value.int.injEq, true_and]; omega, rfl, .inr ⟨hkB, ?_⟩, HJ.out, HT1.out⟩, by simp only [intOf]; omega⟩
        show (B[k]).1 < x.1
        rw [← HY.out]
        exact hyx
      · have hd : decide (y.1 < x.1) = false := by simpa using hyx
        rw [hd]
        clear hd
        go_wp2
        refine ⟨⟨i, k, by omega, by omega, rfl, by simp only [Value.int.injEq, true_and]; omega, HI.out, .inr ⟨hkB, ?_⟩, HT1.out⟩, by simp only [intOf]; omega⟩
        rw [← HY.out]
        omega
    · obtain rfl : i = j := by omega
      have hst : Stb ([x] ++ B) (B.take i ++ x :: B.drop i) := by
        have h0 := stb_merge (A1 := []) (A2 := [x]) (B1 := B.take i) (B2 := B.drop i) (M1 := B.take i) (M2 := x :: B.drop i) (by simp [Srt]) (by rw [List.take_append_drop]; exact HS.out) (by simp) (fun y hy z hz => by
            obtain rfl := List.mem_singleton.1 hz
            exact srt_take HS.out (by rw [← HBL.out]; exact hjb) (p := fun v => v < z.1) (fun _ _ h1 h2 => by omega) HI.out y hy) (Srt.stb (srt_take' HS.out i)) (by
            refine Srt.stb (List.pairwise_cons.2 ⟨fun y hy => ?_, srt_drop' HS.out i⟩)
            exact srt_drop HS.out (by rw [← HBL.out]; exact hjb) (p := fun v => x.1 ≤ v) (fun _ _ h1 h2 => by omega) HJ.out y hy)
        rw [List.take_append_drop] at h0
        exact h0
      have HST := hide hst
      obtain ⟨wo, rfl⟩ : ∃ wo, wo = wr := ⟨_, rfl⟩
      clear HI HJ hst
      have e3 : IntKind.i64.wrap (((xl + 1 + i : Nat) : Int) - 1) = ((xl + i : Nat) : Int) := by rw [IntWalk.i64_in _ (by omega)]; omega
      go_wp2
      go_loopw [13] (fun kv wr => ∃ k : Nat, k ≤ i ∧ kv = .int .i64 ((xl + k : Nat) : Int) ∧ TR wr base (.slice (some ⟨g, 0, none⟩) n c) (X ++ B.take k ++ x :: (B.drop k ++ Y)) ∧ Turn [g] w wr) (fun kv _ => xl + i - (intOf kv).toNat)
      case atStart =>
        refine ⟨0, Nat.zero_le _, rfl, ?_, HTW.out.mono (by simp)⟩
        have := H.out.still HTW.out
        simpa using this
      case round =>
        obtain ⟨k, hk, rfl, hrow, htw⟩ := hrel
        have HTQ := hide htw
        have HRQ := hide hrow
        clear htw hrow
        by_cases hlt2 : k < i
        · have hkB : k < B.length := by rw [← HBL.out]; omega
          obtain ⟨y, hy⟩ : ∃ y, y = B[k] := ⟨_, rfl⟩
          have hrow := HRQ.out
          rw [List.drop_eq_getElem_cons hkB, ← hy, show X ++ B.take k ++ x :: (y :: B.drop (k + 1) ++ Y) = (X ++ B.take k) ++ x :: ([] ++ y :: (B.drop (k + 1) ++ Y)) by simp] at hrow
          have hp1 : (X ++ B.take k).length = xl + k := by rw [List.length_append, List.length_take, ← HXL.out]; omega
          have hlen := hrow.len
          have hg1 : ∀ h, ((X ++ B.take k) ++ x :: ([] ++ y :: (B.drop (k + 1) ++ Y)))[xl + k]'h = x := fun h => get_split rfl hp1.symm h
          have hg2 : ∀ h, ((X ++ B.take k) ++ x :: ([] ++ y :: (B.drop (k + 1) ++ Y)))[xl + k + 1]'h = y := fun h => get_split (P := X ++ B.take k ++ [x]) (R := B.drop (k + 1) ++ Y) (by simp) (by rw [List.length_append, hp1]; rfl) h
          have hlb : xl + k + 1 < ((X ++ B.take k) ++ x :: ([] ++ y :: (B.drop (k + 1) ++ Y))).length := by rw [List.length_append, hp1]; simp
          have hsw := hrow.swapped.1
          rw [hp1, show xl + k + 1 + ([] : List Tm).length = xl + k + 1 by simp] at hsw
          obtain ⟨c0, c1, f0, f1, z⟩ := TR.two hrow (i := xl + k) (by omega) (hg1 _)
          obtain ⟨c2, c3, f2, f3, -⟩ := TR.two hrow (i := xl + k + 1) hlb (hg2 _)
          have hjn : xl + k + 1 < n := by rw [hlen]; exact hlb
          obtain ⟨j, hj⟩ : ∃ j, j = xl + k := ⟨_, rfl⟩
          obtain ⟨j1, hj1⟩ : ∃ j1, j1 = j + 1 := ⟨_, rfl⟩
          rw [← hj] at hsw c0 c1 f0 f1 c2 c3 f2 f3 hjn ⊢
          rw [← hj1] at hsw c2 c3 f2 f3 hjn
          have HY := hide hy
          have HSW := hide hsw
          have ja : j ≤ xl + k := by omega
          have jb : xl + k ≤ j := by omega
          have j1a : j1 ≤ j + 1 := by omega
          have j1b : j + 1 ≤ j1 := by omega
          clear hrow hp1 hlen hg1 hg2 hlb hsw hj hj1 hy
          have i1 : (j : Int) < (n : Int) := by omega
          have i2 : (j1 : Int) < (n : Int) := by omega
          have hlt3 : (j : Int) < (xl : Int) + i := by omega
          have e4 : IntKind.i64.wrap ((j : Int) + 1) = (j1 : Int) := by rw [IntWalk.i64_in _ (by omega)]; omega
          go_wp2
          go_region
          go_wp2
          refine ⟨⟨k + 1, by omega, by simp only [Value.int.injEq, true_and]; omega, ?_, HTQ.out.same (turn_two wr g (j * 2) (j1 * 2) (tmC y) (tmC x)).drew⟩, by simp only [intOf]; omega⟩
          have := HSW.out.still ((Turn.refl [] _).drew)
          rw [List.take_succ_eq_append_getElem hkB, ← HY.out]
          have e : X ++ (B.take k ++ [y]) ++ x :: (B.drop (k + 1) ++ Y) = X ++ B.take k ++ y :: ([] ++ x :: (B.drop (k + 1) ++ Y)) := by simp
          rw [e]
          exact this
        · obtain rfl : k = i := by omega
          go_wp2
          refine bodyPost_ret (results_none rfl _ _ _) rfl ?_
          exact ⟨rfl, ⟨_, HST.out, by simpa using HRQ.out⟩, HTQ.out⟩
end Go.Proofs.YtcficgpknokpbaaDoor.Wh
