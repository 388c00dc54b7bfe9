/- slices.SortStableFunc of timers: merging. -/
import Derived.Test.YtcficgpknokpbaaDoorStg
namespace Go.Proofs.YtcficgpknokpbaaDoor.Wh
open Go.RowKit Go.Maps
set_option maxRecDepth 100000
set_option linter.unusedSimpArgs false
set_option linter.unusedVariables false
attribute [local go_sem] Oper.semAt_some

theorem get_mid {L P A R : List Tm} {i k : Nat} (hL : L = P ++ A ++ R) (hk : k < A.length) (hi : i = P.length + k) (h : i < L.length) : L[i] = A[k] := by
  subst hL
  subst hi
  rw [List.getElem_append_left (by rw [List.length_append]; omega), List.getElem_append_right (by omega)]
  simp
/-- How two rows in order are parted: s of the first one, h - s of the second one stand ahead. -/
structure Part (A B : List Tm) (h s0 r0 s r : Nat) : Prop where
  lo : s0 ≤ s
  mid : s ≤ r
  hi : r ≤ r0
  left : s = s0 ∨ ∃ (h1 : s - 1 < A.length) (h2 : h - s < B.length), (A[s - 1]).1 ≤ (B[h - s]).1
  right : r = r0 ∨ ∃ (h1 : r < A.length) (h2 : h - 1 - r < B.length), (B[h - 1 - r]).1 < (A[r]).1

theorem Part.merged {A B M1 M2 : List Tm} {h s0 r0 s : Nat} (hp : Part A B h s0 r0 s s) (hA : Srt A) (hB : Srt B) (hs0 : s0 = 0 ∨ s0 + B.length = h) (hr0 : r0 = h ∨ r0 = A.length) (hsA : s ≤ A.length) (hsh : s ≤ h) (hhB : h - s ≤ B.length)
    (m1 : Stb (A.take s ++ B.take (h - s)) M1) (m2 : Stb (A.drop s ++ B.drop (h - s)) M2) : Stb (A ++ B) (M1 ++ M2) := by
  have h0 := stb_merge (A1 := A.take s) (A2 := A.drop s) (B1 := B.take (h - s)) (B2 := B.drop (h - s)) (by rw [List.take_append_drop]; exact hA) (by rw [List.take_append_drop]; exact hB) (fun x hx y hy => ?_) (fun y hy x hx => ?_) m1 m2
  · rw [List.take_append_drop, List.take_append_drop] at h0
    exact h0
  · rcases hp.left with e | ⟨h1, h2, hle⟩
    · rcases hs0 with e2 | e2
      · rw [e, e2] at hx
        simp at hx
      · rw [List.drop_eq_nil_of_le (by omega)] at hy
        simp at hy
    · have hx2 := srt_take hA hsA (p := fun v => v ≤ (A[s - 1]).1) (fun _ _ h1 h2 => by omega) (.inr ⟨h1, Int.le_refl _⟩) x hx
      have hy2 := srt_drop hB hhB (p := fun v => (B[h - s]).1 ≤ v) (fun _ _ h1 h2 => by omega) (.inr ⟨h2, Int.le_refl _⟩) y hy
      omega
  · rcases hp.right with e | ⟨h1, h2, hlt⟩
    · rcases hr0 with e2 | e2
      · rw [show h - s = 0 by omega] at hy
        simp at hy
      · rw [List.drop_eq_nil_of_le (by omega)] at hx
        simp at hx
    · have hy2 := srt_take hB hhB (p := fun v => v ≤ (B[h - 1 - s]).1) (fun _ _ h1 h2 => by omega) (by
        by_cases e : h - s = 0
        · exact .inl e
        · refine .inr ⟨by omega, ?_⟩
          have e2 : h - s - 1 = h - 1 - s := by omega
          simp only [e2]
          exact Int.le_refl _) y hy
      have hx2 := srt_drop hA hsA (p := fun v => (A[s]).1 ≤ v) (fun _ _ h1 h2 => by omega) (.inr ⟨h1, Int.le_refl _⟩) x hx
      omega
theorem split4 (X A B Y : List Tm) (s t : Nat) : X ++ A ++ B ++ Y = (X ++ A.take s) ++ A.drop s ++ B.take t ++ (B.drop t ++ Y) := by
  simp only [List.append_assoc]
  rw [← List.append_assoc (List.take s A), List.take_append_drop, ← List.append_assoc (List.take t B), List.take_append_drop]
/-- Merging, of so many timers at most. -/
def MergesN (N : Nat) : Prop := ∀ (w : World) (base g n c : Nat) (X A B Y : List Tm) (_ : TR w base (.slice (some ⟨g, 0, none⟩) n c) (X ++ A ++ B ++ Y)) (_ : X.length + A.length + B.length + Y.length ≤ 1000000) (_ : Srt A) (_ : Srt B) (_ : 0 < A.length) (_ : 0 < B.length) (_ : A.length + B.length ≤ N) (a m b : Int) (_ : a = X.length) (_ : m = ((X.length + A.length : Nat) : Int)) (_ : b = ((X.length + A.length + B.length : Nat) : Int)),
    MergesC w base g n c X A B Y a m b
set_option maxHeartbeats 2000000 in
theorem merge_step (N : Nat) (IH : MergesN N) : MergesN (N + 1) := by
    intro w base g n c X A B Y h hl hA hB hA0 hB0 hN a m b ha hm hb
    subst ha
    subst hm
    subst hb
    by_cases hA1 : A.length = 1
    · obtain ⟨x, rfl⟩ := List.length_eq_one_iff.1 hA1
      exact merge_left w base g n c X B Y x (by simpa using h) hl hB
    by_cases hB1 : B.length = 1
    · obtain ⟨y, rfl⟩ := List.length_eq_one_iff.1 hB1
      exact merge_right w base g n c X A Y y (by simpa using h) hl hA (by omega)
    unfold MergesC
    have HIH := hide IH
    have H := hide h
    have HSA := hide hA
    have HSB := hide hB
    have hn : n = X.length + A.length + B.length + Y.length := by rw [h.len]; simp; omega
    obtain ⟨xl, hxl⟩ : ∃ xl, xl = X.length := ⟨_, rfl⟩
    obtain ⟨al, hal⟩ : ∃ al, al = A.length := ⟨_, rfl⟩
    obtain ⟨bl, hbl⟩ : ∃ bl, bl = B.length := ⟨_, rfl⟩
    rw [← hxl, ← hal, ← hbl] at hl hn
    rw [← hal, ← hbl] at hN
    have ha2 : 2 ≤ al := by omega
    have hb2 : 2 ≤ bl := by omega
    rw [← hxl, ← hal, ← hbl]
    have HXL := hide hxl
    have HAL := hide hal
    have HBL := hide hbl
    have HYL := hide hl
    have hmax : n ≤ 1000000 := by omega
    have hxn : xl + al + bl ≤ n := by omega
    obtain ⟨hf, hhf⟩ : ∃ hf, hf = (al + bl) / 2 := ⟨_, rfl⟩
    obtain ⟨md, hmd⟩ : ∃ md, md = xl + hf := ⟨_, rfl⟩
    have emid : ((xl : Int) + (xl + al + bl)) / 2 = (md : Int) := by omega
    have hf1 : 2 * hf ≤ al + bl := by omega
    have hf2 : al + bl ≤ 2 * hf + 1 := by omega
    have md1 : md ≤ xl + hf := by omega
    have md2 : xl + hf ≤ md := by omega
    clear hhf hmd
    clear IH h hl hxl hal hbl hn hA hB hA0 hB0 hA1 hB1
    have n1 : ¬ (((xl + al : Nat) : Int) - xl) = 1 := by omega
    have n2 : ¬ (((xl + al + bl : Nat) : Int) - (xl + al : Nat)) = 1 := by omega
    unfold fnT
    have hcs : ∃ s0 r0 : Nat, (s0 = 0 ∨ s0 + bl = hf) ∧ (r0 = hf ∨ r0 = al) ∧ s0 ≤ r0 ∧ r0 ≤ hf ∧ r0 ≤ al ∧ hf ≤ s0 + bl ∧ (((md : Int) < xl + al ∧ s0 + bl = hf ∧ r0 = hf) ∨ (¬ (md : Int) < xl + al ∧ s0 = 0 ∧ r0 = al)) := by
      by_cases hgt : md < xl + al
      · exact ⟨hf - bl, hf, by omega, by omega, by omega, by omega, by omega, by omega, by omega⟩
      · exact ⟨0, al, by omega, by omega, by omega, by omega, by omega, by omega, by omega⟩
    obtain ⟨s0, r0, hs0, hr0, hsr, hrh, hra, hsb, hcs⟩ := hcs
    have HS0 := hide hs0
    have HR0 := hide hr0
    clear hs0 hr0
    rcases hcs with ⟨hgt1, es0, er0⟩ | ⟨hgt1, es0, er0⟩
    all_goals
      have HE1 := hide es0
      have HE2 := hide er0
      clear es0 er0
      go_enter Tryd.func29, Tryd.ntmps29
      go_wp2
      go_loopw [20, 21] (fun sv rv wr => ∃ s r : Nat, sv = .int .i64 ((xl + s : Nat) : Int) ∧ rv = .int .i64 ((xl + r : Nat) : Int) ∧ Part A B hf s0 r0 s r ∧ Turn [] w wr) (fun sv rv _ => (intOf rv).toNat - (intOf sv).toNat)
      case atStart => exact ⟨s0, r0, by have := HE1.out; simp only [Value.int.injEq, true_and]; omega, by have := HE2.out; simp only [Value.int.injEq, true_and]; omega, ⟨Nat.le_refl _, hsr, Nat.le_refl _, .inl rfl, .inl rfl⟩, Turn.refl _ _⟩
      case round =>
        obtain ⟨s, r, rfl, rfl, hpt, htw⟩ := hrel
        have HTW := hide htw
        have HPT := hide hpt
        have q1 := hpt.lo
        have q2 := hpt.mid
        have q3 := hpt.hi
        clear htw hpt
        by_cases hlt : s < r
        · have hlt1 : (xl : Int) + s < xl + r := by omega
          obtain ⟨k, hk⟩ : ∃ k, k = (s + r) / 2 := ⟨_, rfl⟩
          obtain ⟨cc, hcc⟩ : ∃ cc, cc = xl + k := ⟨_, rfl⟩
          have e : ((xl : Int) + s + (xl + r)) / 2 = (cc : Int) := by omega
          obtain ⟨kb, hkb⟩ : ∃ kb, kb = hf - 1 - k := ⟨_, rfl⟩
          obtain ⟨qq, hqq⟩ : ∃ qq, qq = xl + al + kb := ⟨_, rfl⟩
          have hkA : k < A.length := by rw [← HAL.out]; omega
          have hkB : kb < B.length := by rw [← HBL.out]; omega
          obtain ⟨x, hx⟩ : ∃ x, x = A[k] := ⟨_, rfl⟩
          obtain ⟨y, hy⟩ : ∃ y, y = B[kb] := ⟨_, rfl⟩
          have hcell : ∀ Z, Turn [] wr Z → (Z.cell? ⟨g, cc * 2, none⟩ = some (.int .i64 x.1) ∧ Z.cell? ⟨g, cc * 2 + 1, none⟩ = some (.int .i64 x.2)) ∧ Z.cell? ⟨g, qq * 2, none⟩ = some (.int .i64 y.1) ∧ Z.cell? ⟨g, qq * 2 + 1, none⟩ = some (.int .i64 y.2) := fun Z hZ => by
            have hrow := H.out.still (HTW.out.same hZ)
            have hlx : (X ++ A ++ B ++ Y).length = X.length + A.length + B.length + Y.length := by simp; omega
            obtain ⟨c0, c1, -⟩ := TR.two hrow (i := cc) (x := x) (by rw [hlx, ← HXL.out, ← HAL.out, ← HBL.out]; omega) (by rw [hx]; exact get_mid (P := X) (A := A) (R := B ++ Y) (by simp) hkA (by rw [← HXL.out]; exact hcc) _)
            obtain ⟨c2, c3, -⟩ := TR.two hrow (i := qq) (x := y) (by rw [hlx, ← HXL.out, ← HAL.out]; have := hkB; omega) (by rw [hy]; exact get_mid (P := X ++ A) (A := B) (R := Y) rfl hkB (by rw [List.length_append, ← HXL.out, ← HAL.out]; exact hqq) _)
            exact ⟨⟨c0, c1⟩, c2, c3⟩
          have e5 : IntKind.i64.wrap (((md : Int) + (xl + al) - 1) - (cc : Int)) = (qq : Int) := by rw [IntWalk.i64_in _ (by omega)]; omega
          have HX := hide hx
          have HY := hide hy
          have HC := hide hcell
          have hk1 : 2 * k ≤ s + r := by omega
          have hk2 : s + r ≤ 2 * k + 1 := by omega
          have hh1 : cc ≤ xl + k := by omega
          have hh2 : xl + k ≤ cc := by omega
          have hq1 : qq ≤ xl + al + kb := by omega
          have hq2 : xl + al + kb ≤ qq := by omega
          have hb1 : kb + 1 + k ≤ hf := by omega
          have hb2 : hf ≤ kb + 1 + k := by omega
          clear hcell hx hy hk hcc hkb hqq
          have i1 : (cc : Int) < (n : Int) := by omega
          have i2 : (qq : Int) < (n : Int) := by have := hkB; rw [← HBL.out] at this; omega
          go_wp2
          clear e
          refine wp_region_loose (Turn []) (by kernel_rfl) (by kernel_rfl) (by kernel_rfl) (by kernel_rfl) rfl (Turn.refl _) (fun _ _ _ h k => h.same k) ?_
          apply Lo.runx 1 rfl rfl [] (by kernel_rfl) (Turn.refl _)
          apply Exists.intro; apply And.intro
          · intro u w1 hR hF
            clear hF
            refine ⟨rfl, fun a ha K hK => ?_⟩
            have e4 := ha 4
            conv at e4 => rhs; whnf
            clear ha
            go_simp
            refine hK _ ?_; rfl
          apply Lo.runx 2 rfl rfl [] (by kernel_rfl) (Turn.refl _)
          apply Exists.intro; apply And.intro
          · intro u w1 hR hF
            clear hF
            refine ⟨rfl, fun a ha K hK => ?_⟩
            have e0 := ha 0
            conv at e0 => rhs; whnf
            clear ha
            go_simp
            refine hK _ ?_; rfl
          apply Lo.runx 3 rfl rfl [] (by kernel_rfl) (Turn.refl _)
          apply Exists.intro; apply And.intro
          · intro u w1 hR hF
            clear hF
            refine ⟨rfl, fun a ha K hK => ?_⟩
            have e22 := ha 22
            conv at e22 => rhs; whnf
            clear ha
            go_simp
            refine hK _ ?_; rfl
          apply Lo.runx 4 rfl rfl [] (by kernel_rfl) (Turn.refl _)
          apply Exists.intro; apply And.intro
          · intro u w1 hR hF
            clear hF
            refine ⟨rfl, fun a ha K hK => ?_⟩
            have e23 := ha 23
            conv at e23 => rhs; whnf
            clear ha
            go_simp
            refine hK _ ?_; rfl
          refine Lo.runv 5 rfl rfl [2, 3] (.int .i64 (qq : Int)) (by kernel_rfl) (fun u w1 hR hF => ?_) (Turn.refl _) ?_
          · obtain ⟨h2, h3, -⟩ := hF
            refine ⟨rfl, fun a ha K hK => ?_⟩
            have e160 := (ha 160).trans h2
            have e161 := (ha 161).trans h3
            clear ha h2 h3
            go_simp
            refine hK _ ?_
            rfl
          apply Lo.runx 6 rfl rfl [1, 4] (by kernel_rfl) (Turn.refl _)
          apply Exists.intro; apply And.intro
          · intro u w1 hR hF
            obtain ⟨h1, h4, -⟩ := hF
            refine ⟨rfl, fun a ha K hK => ?_⟩
            have e159 := (ha 159).trans h1
            have e162 := (ha 162).trans h4
            clear ha h1 h4
            go_simp
            refine hK _ ?_; rfl
          refine Lo.runv 7 rfl rfl [5] (tmV y) (by kernel_rfl) (fun u w1 hR hF => ?_) (Turn.refl _) ?_
          · obtain ⟨h5, -⟩ := hF
            refine ⟨rfl, fun a ha K hK => ?_⟩
            have e163 := (ha 163).trans h5
            clear ha h5
            obtain ⟨⟨c0, c1⟩, c2, c3⟩ := HC.out w1 (((Turn.refl [] _).drew).same hR)
            go_simp
            refine hK _ ?_
            rfl
          apply Lo.runx 8 rfl rfl [] (by kernel_rfl) (Turn.refl _)
          apply Exists.intro; apply And.intro
          · intro u w1 hR hF
            clear hF
            refine ⟨rfl, fun a ha K hK => ?_⟩
            have e0 := ha 0
            conv at e0 => rhs; whnf
            clear ha
            go_simp
            refine hK _ ?_; rfl
          apply Lo.runx 9 rfl rfl [] (by kernel_rfl) (Turn.refl _)
          apply Exists.intro; apply And.intro
          · intro u w1 hR hF
            clear hF
            refine ⟨rfl, fun a ha K hK => ?_⟩
            have e23 := ha 23
            conv at e23 => rhs; whnf
            clear ha
            go_simp
            refine hK _ ?_; rfl
          apply Lo.runx 10 rfl rfl [7, 8] (by kernel_rfl) (Turn.refl _)
          apply Exists.intro; apply And.intro
          · intro u w1 hR hF
            obtain ⟨h7, h8, -⟩ := hF
            refine ⟨rfl, fun a ha K hK => ?_⟩
            have e165 := (ha 165).trans h7
            have e166 := (ha 166).trans h8
            clear ha h7 h8
            go_simp
            refine hK _ ?_; rfl
          refine Lo.runv 11 rfl rfl [9] (tmV x) (by kernel_rfl) (fun u w1 hR hF => ?_) (Turn.refl _) ?_
          · obtain ⟨h9, -⟩ := hF
            refine ⟨rfl, fun a ha K hK => ?_⟩
            have e167 := (ha 167).trans h9
            clear ha h9
            obtain ⟨⟨c0, c1⟩, c2, c3⟩ := HC.out w1 (((Turn.refl [] _).drew).same hR)
            go_simp
            refine hK _ ?_
            rfl
          refine Lo.run 12 rfl rfl [0, 6, 10] (fun v w' => v = .int .i64 (cmpI y.1 x.1)) (by kernel_rfl) (fun x w w' h hR => ?_) (fun _ _ h => h) (fun u w1 hR hF => ?_) ?_
          · exact h
          · obtain ⟨h0, h6, h10, -⟩ := hF
            refine ⟨rfl, fun a ha K hK => ?_⟩
            have e158 := (ha 158).trans h0
            have e164 := (ha 164).trans h6
            have e168 := (ha 168).trans h10
            clear ha h0 h6 h10
            go_simp
            refine (cmp_any y x w1).mono ?_
            rintro e w5 ⟨rfl, ht5⟩
            exact hK _ _ rfl ht5
          refine Lo.runv 13 rfl rfl [11] (.bool (decide (y.1 < x.1))) (by kernel_rfl) (fun u w1 hR hF => ?_) (Turn.refl _) ?_
          · obtain ⟨h11, -⟩ := hF
            refine ⟨rfl, fun a ha K hK => ?_⟩
            have e169 : a.tmps.getD 169 undef = u 11 := ha 169
            have h11 := (show (fun v w' => v = .int .i64 (cmpI y.1 x.1)) (u 11) w1 from h11)
            dsimp only at h11
            clear ha
            go_simp
            refine hK _ ?_
            rw [← cmpI_lt y.1 x.1]
          refine Lo.runv 14 rfl rfl [12] (.bool (!decide (y.1 < x.1))) (by kernel_rfl) (fun u w1 hR hF => ?_) (Turn.refl _) ?_
          · obtain ⟨h12, -⟩ := hF
            refine ⟨rfl, fun a ha K hK => ?_⟩
            have e170 := (ha 170).trans h12
            clear ha h12
            go_simp
            refine hK _ ?_
            rfl
          refine Lo.done [13] (fun u w1 hRd hSd hF => ?_)
          clear hSd
          obtain ⟨f13, -⟩ := hF
          have d13 : u 13 = _ := f13
          clear f13
          simp only [putFrom, Act.put, List.setIfInBounds_toArray, List.set_cons_succ, List.set_cons_zero, Nat.zero_add, Nat.reduceAdd, d13]
          have HT1 := hide (HTW.out.same (((Turn.refl [] wr).drew).same hRd))
          clear d13 hRd
          by_cases hyx : y.1 < x.1
          · have hd : decide (y.1 < x.1) = true := by simpa using hyx
            rw [hd]
            clear hd
            have hpt2 : Part A B hf s0 r0 s k := ⟨q1, by omega, by omega, HPT.out.left, .inr ⟨hkA, by rw [show hf - 1 - k = kb by omega]; exact hkB, by
              simp only [show hf - 1 - k = kb by omega]
              rw [← HX.out, ← HY.out]
              exact hyx⟩⟩
            have HPT2 := hide hpt2
            clear hpt2
            go_wp2
            exact ⟨⟨s, k, rfl, by simp only [Value.int.injEq, true_and]; omega, HPT2.out, HT1.out⟩, by simp only [intOf]; omega⟩
          · have hd : decide (y.1 < x.1) = false := by simpa using hyx
            rw [hd]
            clear hd
            have hpt2 : Part A B hf s0 r0 (k + 1) r := ⟨by omega, by omega, q3, .inr ⟨by simpa using hkA, by rw [show hf - (k + 1) = kb by omega]; exact hkB, by
              simp only [show hf - (k + 1) = kb by omega, Nat.add_sub_cancel]
              rw [← HX.out, ← HY.out]
              omega⟩, HPT.out.right⟩
            have HPT2 := hide hpt2
            have e2 : IntKind.i64.wrap ((cc : Int) + 1) = ((xl + (k + 1) : Nat) : Int) := by rw [IntWalk.i64_in _ (by omega)]; omega
            clear hpt2
            go_wp2
            exact ⟨⟨k + 1, r, by simp only [Value.int.injEq, true_and]; omega, rfl, HPT2.out, HT1.out⟩, by simp only [intOf]; omega⟩
        · obtain rfl : s = r := by omega
          have hfin : ∀ M1 M2, Stb (A.take s ++ B.take (hf - s)) M1 → Stb (A.drop s ++ B.drop (hf - s)) M2 → Stb (A ++ B) (M1 ++ M2) := fun M1 M2 h1 h2 =>
            Part.merged HPT.out HSA.out HSB.out (by rw [← HBL.out]; exact HS0.out) (by rw [← HAL.out]; exact HR0.out) (by rw [← HAL.out]; omega) (by omega) (by rw [← HBL.out]; omega) h1 h2
          have hrow0 := H.out.still HTW.out
          rw [split4 X A B Y s (hf - s)] at hrow0
          obtain ⟨A1, hA1⟩ : ∃ A1, A1 = A.take s := ⟨_, rfl⟩
          obtain ⟨A2, hA2⟩ : ∃ A2, A2 = A.drop s := ⟨_, rfl⟩
          obtain ⟨B1, hB1⟩ : ∃ B1, B1 = B.take (hf - s) := ⟨_, rfl⟩
          obtain ⟨B2, hB2⟩ : ∃ B2, B2 = B.drop (hf - s) := ⟨_, rfl⟩
          have sA1 : Srt A1 := by rw [hA1]; exact srt_take' HSA.out s
          have sA2 : Srt A2 := by rw [hA2]; exact srt_drop' HSA.out s
          have sB1 : Srt B1 := by rw [hB1]; exact srt_take' HSB.out _
          have sB2 : Srt B2 := by rw [hB2]; exact srt_drop' HSB.out _
          have lA1 : A1.length = s := by rw [hA1, List.length_take, ← HAL.out]; omega
          have lA2 : A2.length = al - s := by rw [hA2, List.length_drop, ← HAL.out]
          have lB1 : B1.length = hf - s := by rw [hB1, List.length_take, ← HBL.out]; omega
          have lB2 : B2.length = bl - (hf - s) := by rw [hB2, List.length_drop, ← HBL.out]
          rw [← hA1, ← hA2, ← hB1, ← hB2] at hrow0
          rw [← hA1, ← hA2, ← hB1, ← hB2] at hfin
          have HFIN := hide hfin
          have HROW := hide hrow0
          have LA1 := hide lA1
          have LA2 := hide lA2
          have LB1 := hide lB1
          have LB2 := hide lB2
          have SA1 := hide sA1
          have SA2 := hide sA2
          have SB1 := hide sB1
          have SB2 := hide sB2
          clear hfin hrow0 hA1 hA2 hB1 hB2 sA1 sA2 sB1 sB2 lA1 lA2 lB1 lB2
          obtain ⟨en, hen⟩ : ∃ en, en = xl + al + (hf - s) := ⟨_, rfl⟩
          have hen1 : en ≤ xl + al + (hf - s) := by omega
          have hen2 : xl + al + (hf - s) ≤ en := by omega
          clear hen
          have een : IntKind.i64.wrap ((md : Int) + (xl + al) - ((xl + s : Nat) : Int)) = (en : Int) := by rw [IntWalk.i64_in _ (by omega)]; omega
          have een2 : ((md : Int) + (xl + al) - ((xl : Int) + s)) = (en : Int) := by omega
          have hways : (s < al ∧ s < hf ∧ 0 < s ∧ hf - s < bl) ∨ (s < al ∧ s < hf ∧ 0 < s ∧ ¬ hf - s < bl) ∨ (s < al ∧ s < hf ∧ ¬ 0 < s ∧ hf - s < bl) ∨ (s < al ∧ s < hf ∧ ¬ 0 < s ∧ ¬ hf - s < bl) ∨ (s < al ∧ ¬ s < hf ∧ 0 < s ∧ hf - s < bl) ∨ (¬ s < al ∧ s < hf ∧ 0 < s ∧ hf - s < bl) ∨ (¬ s < al ∧ ¬ s < hf ∧ 0 < s ∧ hf - s < bl) := by omega
          rcases hways with ⟨p1, p2, p3, p4⟩ | ⟨p1, p2, p3, p4⟩ | ⟨p1, p2, p3, p4⟩ | ⟨p1, p2, p3, p4⟩ | ⟨p1, p2, p3, p4⟩ | ⟨p1, p2, p3, p4⟩ | ⟨p1, p2, p3, p4⟩
          · first
            | (exfalso; have := HE1.out; have := HE2.out; omega)
            | skip
            all_goals
              have v1 : ((xl : Int) + s) < (xl : Int) + al := by omega
              have v2 : ((xl : Int) + s) < (md : Int) := by omega
              have v3 : (xl : Int) < (xl : Int) + s := by omega
              have v4 : (en : Int) < ((xl : Int) + al) + bl := by omega
              have v5 : ((xl : Int) + al) < (en : Int) := by omega
              have v6 : (md : Int) < (en : Int) := by omega
              go_wp2_with fail
              refine (rotate_any wr base g n c (X ++ A1) A2 B1 (B2 ++ Y) HROW.out ?_ ?_ ?_ _ _ _ ?_ ?_ ?_).mono ?_
              · have h1 := LA1.out; have h2 := LA2.out; have h3 := LB1.out; have h4 := LB2.out; have h5 := HYL.out; have h6 := HXL.out
                simp only [List.length_append]; omega
              · rw [LA2.out]; omega
              · rw [LB1.out]; omega
              · rw [List.length_append, LA1.out, ← HXL.out]; omega
              · simp only [List.length_append]; rw [LA1.out, LA2.out, ← HXL.out]; omega
              · simp only [List.length_append]; rw [LA1.out, LA2.out, LB1.out, ← HXL.out]; omega
              rintro e w1 ⟨rfl, hr1, ht1⟩
              have HR1 := hide hr1
              have HT1 := hide ((HTW.out.mono (T := [g]) (by simp)).same ht1)
              clear hr1 ht1
              go_wp2_with fail
              refine (show Calls _ _ _ _ _ from HIH.out w1 base g n c X A1 B1 (A2 ++ (B2 ++ Y)) (by simpa using HR1.out) ?_ SA1.out SB1.out ?_ ?_ ?_ _ _ _ ?_ ?_ ?_).mono ?_
              · have h1 := LA1.out; have h2 := LA2.out; have h3 := LB1.out; have h4 := LB2.out; have h5 := HYL.out; have h6 := HXL.out
                simp only [List.length_append]; omega
              · rw [LA1.out]; omega
              · rw [LB1.out]; omega
              · rw [LA1.out, LB1.out]; omega
              · rw [← HXL.out]
              · rw [← HXL.out, LA1.out]; omega
              · rw [← HXL.out, LA1.out, LB1.out]; omega
              rintro e w2 ⟨rfl, ⟨M1, hm1, hr2⟩, ht2⟩
              have HR2 := hide hr2
              have HM1 := hide hm1
              have HT2 := hide (HT1.out.same ht2)
              clear hr2 ht2 hm1
              have lM1 : M1.length = hf := by rw [HM1.out.length, List.length_append, LA1.out, LB1.out]; omega
              have LM1 := hide lM1
              clear lM1
              go_wp2_with fail
              refine (show Calls _ _ _ _ _ from HIH.out w2 base g n c (X ++ M1) A2 B2 Y (by simpa using HR2.out) ?_ SA2.out SB2.out ?_ ?_ ?_ _ _ _ ?_ ?_ ?_).mono ?_
              · have h1 := LM1.out; have h2 := LA2.out; have h3 := LB1.out; have h4 := LB2.out; have h5 := HYL.out; have h6 := HXL.out
                simp only [List.length_append]; omega
              · rw [LA2.out]; omega
              · rw [LB2.out]; omega
              · rw [LA2.out, LB2.out]; omega
              · rw [List.length_append, ← HXL.out, LM1.out]; omega
              · rw [List.length_append, ← HXL.out, LM1.out, LA2.out]; omega
              · rw [List.length_append, ← HXL.out, LM1.out, LA2.out, LB2.out]; omega
              rintro e w3 ⟨rfl, ⟨M2, hm2, hr3⟩, ht3⟩
              have HR3 := hide hr3
              have HM2 := hide hm2
              have HT3 := hide (HT2.out.same ht3)
              clear hr3 ht3 hm2
              go_wp2
              go_end0
              exact ⟨rfl, ⟨M1 ++ M2, HFIN.out M1 M2 HM1.out HM2.out, by simpa using HR3.out⟩, HT3.out⟩
          · first
            | (exfalso; have := HE1.out; have := HE2.out; omega)
            | skip
            all_goals
              have v1 : ((xl : Int) + s) < (xl : Int) + al := by omega
              have v2 : ((xl : Int) + s) < (md : Int) := by omega
              have v3 : (xl : Int) < (xl : Int) + s := by omega
              have v4 : ¬ (en : Int) < ((xl : Int) + al) + bl := by omega
              have v5 : ((xl : Int) + al) < (en : Int) := by omega
              have v6 : (md : Int) < (en : Int) := by omega
              go_wp2_with fail
              refine (rotate_any wr base g n c (X ++ A1) A2 B1 (B2 ++ Y) HROW.out ?_ ?_ ?_ _ _ _ ?_ ?_ ?_).mono ?_
              · have h1 := LA1.out; have h2 := LA2.out; have h3 := LB1.out; have h4 := LB2.out; have h5 := HYL.out; have h6 := HXL.out
                simp only [List.length_append]; omega
              · rw [LA2.out]; omega
              · rw [LB1.out]; omega
              · rw [List.length_append, LA1.out, ← HXL.out]; omega
              · simp only [List.length_append]; rw [LA1.out, LA2.out, ← HXL.out]; omega
              · simp only [List.length_append]; rw [LA1.out, LA2.out, LB1.out, ← HXL.out]; omega
              rintro e w1 ⟨rfl, hr1, ht1⟩
              have HR1 := hide hr1
              have HT1 := hide ((HTW.out.mono (T := [g]) (by simp)).same ht1)
              clear hr1 ht1
              go_wp2_with fail
              refine (show Calls _ _ _ _ _ from HIH.out w1 base g n c X A1 B1 (A2 ++ (B2 ++ Y)) (by simpa using HR1.out) ?_ SA1.out SB1.out ?_ ?_ ?_ _ _ _ ?_ ?_ ?_).mono ?_
              · have h1 := LA1.out; have h2 := LA2.out; have h3 := LB1.out; have h4 := LB2.out; have h5 := HYL.out; have h6 := HXL.out
                simp only [List.length_append]; omega
              · rw [LA1.out]; omega
              · rw [LB1.out]; omega
              · rw [LA1.out, LB1.out]; omega
              · rw [← HXL.out]
              · rw [← HXL.out, LA1.out]; omega
              · rw [← HXL.out, LA1.out, LB1.out]; omega
              rintro e w2 ⟨rfl, ⟨M1, hm1, hr2⟩, ht2⟩
              have HR2 := hide hr2
              have HM1 := hide hm1
              have HT2 := hide (HT1.out.same ht2)
              clear hr2 ht2 hm1
              have lM1 : M1.length = hf := by rw [HM1.out.length, List.length_append, LA1.out, LB1.out]; omega
              have LM1 := hide lM1
              clear lM1
              obtain ⟨w3, rfl⟩ : ∃ w3, w3 = w2 := ⟨_, rfl⟩
              have HT3 := hide HT2.out
              obtain ⟨M2, hm2, hr3⟩ : ∃ M2, Stb (A2 ++ B2) M2 ∧ TR w3 base (.slice (some ⟨g, 0, none⟩) n c) (X ++ M1 ++ M2 ++ Y) := by
                refine ⟨A2 ++ B2, Srt.stb ?_, by simpa using HR2.out⟩
                rw [List.eq_nil_of_length_eq_zero (l := B2) (by rw [LB2.out]; omega)]
                simpa using SA2.out
              have HR3 := hide hr3
              have HM2 := hide hm2
              clear hr3 hm2
              go_wp2
              go_end0
              exact ⟨rfl, ⟨M1 ++ M2, HFIN.out M1 M2 HM1.out HM2.out, by simpa using HR3.out⟩, HT3.out⟩
          · first
            | (exfalso; have := HE1.out; have := HE2.out; omega)
            | skip
            all_goals
              have v1 : ((xl : Int) + s) < (xl : Int) + al := by omega
              have v2 : ((xl : Int) + s) < (md : Int) := by omega
              have v3 : ¬ (xl : Int) < (xl : Int) + s := by omega
              have v4 : (en : Int) < ((xl : Int) + al) + bl := by omega
              have v5 : ((xl : Int) + al) < (en : Int) := by omega
              have v6 : (md : Int) < (en : Int) := by omega
              go_wp2_with fail
              refine (rotate_any wr base g n c (X ++ A1) A2 B1 (B2 ++ Y) HROW.out ?_ ?_ ?_ _ _ _ ?_ ?_ ?_).mono ?_
              · have h1 := LA1.out; have h2 := LA2.out; have h3 := LB1.out; have h4 := LB2.out; have h5 := HYL.out; have h6 := HXL.out
                simp only [List.length_append]; omega
              · rw [LA2.out]; omega
              · rw [LB1.out]; omega
              · rw [List.length_append, LA1.out, ← HXL.out]; omega
              · simp only [List.length_append]; rw [LA1.out, LA2.out, ← HXL.out]; omega
              · simp only [List.length_append]; rw [LA1.out, LA2.out, LB1.out, ← HXL.out]; omega
              rintro e w1 ⟨rfl, hr1, ht1⟩
              have HR1 := hide hr1
              have HT1 := hide ((HTW.out.mono (T := [g]) (by simp)).same ht1)
              clear hr1 ht1
              obtain ⟨w2, rfl⟩ : ∃ w2, w2 = w1 := ⟨_, rfl⟩
              have HT2 := hide HT1.out
              obtain ⟨M1, hm1, hr2⟩ : ∃ M1, Stb (A1 ++ B1) M1 ∧ TR w2 base (.slice (some ⟨g, 0, none⟩) n c) (X ++ M1 ++ (A2 ++ (B2 ++ Y))) := by
                refine ⟨A1 ++ B1, Srt.stb ?_, by simpa using HR1.out⟩
                rw [List.eq_nil_of_length_eq_zero (l := A1) (by rw [LA1.out]; omega)]
                simpa using SB1.out
              have HR2 := hide hr2
              have HM1 := hide hm1
              clear hr2 hm1
              have lM1 : M1.length = hf := by rw [HM1.out.length, List.length_append, LA1.out, LB1.out]; omega
              have LM1 := hide lM1
              clear lM1
              go_wp2_with fail
              refine (show Calls _ _ _ _ _ from HIH.out w2 base g n c (X ++ M1) A2 B2 Y (by simpa using HR2.out) ?_ SA2.out SB2.out ?_ ?_ ?_ _ _ _ ?_ ?_ ?_).mono ?_
              · have h1 := LM1.out; have h2 := LA2.out; have h3 := LB1.out; have h4 := LB2.out; have h5 := HYL.out; have h6 := HXL.out
                simp only [List.length_append]; omega
              · rw [LA2.out]; omega
              · rw [LB2.out]; omega
              · rw [LA2.out, LB2.out]; omega
              · rw [List.length_append, ← HXL.out, LM1.out]; omega
              · rw [List.length_append, ← HXL.out, LM1.out, LA2.out]; omega
              · rw [List.length_append, ← HXL.out, LM1.out, LA2.out, LB2.out]; omega
              rintro e w3 ⟨rfl, ⟨M2, hm2, hr3⟩, ht3⟩
              have HR3 := hide hr3
              have HM2 := hide hm2
              have HT3 := hide (HT2.out.same ht3)
              clear hr3 ht3 hm2
              go_wp2
              go_end0
              exact ⟨rfl, ⟨M1 ++ M2, HFIN.out M1 M2 HM1.out HM2.out, by simpa using HR3.out⟩, HT3.out⟩
          · first
            | (exfalso; have := HE1.out; have := HE2.out; omega)
            | skip
            all_goals
              have v1 : ((xl : Int) + s) < (xl : Int) + al := by omega
              have v2 : ((xl : Int) + s) < (md : Int) := by omega
              have v3 : ¬ (xl : Int) < (xl : Int) + s := by omega
              have v4 : ¬ (en : Int) < ((xl : Int) + al) + bl := by omega
              have v5 : ((xl : Int) + al) < (en : Int) := by omega
              have v6 : (md : Int) < (en : Int) := by omega
              go_wp2_with fail
              refine (rotate_any wr base g n c (X ++ A1) A2 B1 (B2 ++ Y) HROW.out ?_ ?_ ?_ _ _ _ ?_ ?_ ?_).mono ?_
              · have h1 := LA1.out; have h2 := LA2.out; have h3 := LB1.out; have h4 := LB2.out; have h5 := HYL.out; have h6 := HXL.out
                simp only [List.length_append]; omega
              · rw [LA2.out]; omega
              · rw [LB1.out]; omega
              · rw [List.length_append, LA1.out, ← HXL.out]; omega
              · simp only [List.length_append]; rw [LA1.out, LA2.out, ← HXL.out]; omega
              · simp only [List.length_append]; rw [LA1.out, LA2.out, LB1.out, ← HXL.out]; omega
              rintro e w1 ⟨rfl, hr1, ht1⟩
              have HR1 := hide hr1
              have HT1 := hide ((HTW.out.mono (T := [g]) (by simp)).same ht1)
              clear hr1 ht1
              obtain ⟨w2, rfl⟩ : ∃ w2, w2 = w1 := ⟨_, rfl⟩
              have HT2 := hide HT1.out
              obtain ⟨M1, hm1, hr2⟩ : ∃ M1, Stb (A1 ++ B1) M1 ∧ TR w2 base (.slice (some ⟨g, 0, none⟩) n c) (X ++ M1 ++ (A2 ++ (B2 ++ Y))) := by
                refine ⟨A1 ++ B1, Srt.stb ?_, by simpa using HR1.out⟩
                rw [List.eq_nil_of_length_eq_zero (l := A1) (by rw [LA1.out]; omega)]
                simpa using SB1.out
              have HR2 := hide hr2
              have HM1 := hide hm1
              clear hr2 hm1
              have lM1 : M1.length = hf := by rw [HM1.out.length, List.length_append, LA1.out, LB1.out]; omega
              have LM1 := hide lM1
              clear lM1
              obtain ⟨w3, rfl⟩ : ∃ w3, w3 = w2 := ⟨_, rfl⟩
              have HT3 := hide HT2.out
              obtain ⟨M2, hm2, hr3⟩ : ∃ M2, Stb (A2 ++ B2) M2 ∧ TR w3 base (.slice (some ⟨g, 0, none⟩) n c) (X ++ M1 ++ M2 ++ Y) := by
                refine ⟨A2 ++ B2, Srt.stb ?_, by simpa using HR2.out⟩
                rw [List.eq_nil_of_length_eq_zero (l := B2) (by rw [LB2.out]; omega)]
                simpa using SA2.out
              have HR3 := hide hr3
              have HM2 := hide hm2
              clear hr3 hm2
              go_wp2
              go_end0
              exact ⟨rfl, ⟨M1 ++ M2, HFIN.out M1 M2 HM1.out HM2.out, by simpa using HR3.out⟩, HT3.out⟩
          · first
            | (exfalso; have := HE1.out; have := HE2.out; omega)
            | skip
            all_goals
              have v1 : ((xl : Int) + s) < (xl : Int) + al := by omega
              have v2 : ¬ ((xl : Int) + s) < (md : Int) := by omega
              have v3 : (xl : Int) < (xl : Int) + s := by omega
              have v4 : (en : Int) < ((xl : Int) + al) + bl := by omega
              have v5 : ¬ ((xl : Int) + al) < (en : Int) := by omega
              have v6 : (md : Int) < (en : Int) := by omega
              obtain ⟨w1, rfl⟩ : ∃ w1, w1 = wr := ⟨_, rfl⟩
              have HT1 := hide (HTW.out.mono (T := [g]) (by simp))
              have hr1 : TR w1 base (.slice (some ⟨g, 0, none⟩) n c) (X ++ A1 ++ B1 ++ A2 ++ (B2 ++ Y)) := by
                have := HROW.out
                rw [List.eq_nil_of_length_eq_zero (l := B1) (by rw [LB1.out]; omega)] at this ⊢
                simpa using this
              have HR1 := hide hr1
              clear hr1
              obtain ⟨w2, rfl⟩ : ∃ w2, w2 = w1 := ⟨_, rfl⟩
              have HT2 := hide HT1.out
              obtain ⟨M1, hm1, hr2⟩ : ∃ M1, Stb (A1 ++ B1) M1 ∧ TR w2 base (.slice (some ⟨g, 0, none⟩) n c) (X ++ M1 ++ (A2 ++ (B2 ++ Y))) := by
                refine ⟨A1 ++ B1, Srt.stb ?_, by simpa using HR1.out⟩
                rw [List.eq_nil_of_length_eq_zero (l := B1) (by rw [LB1.out]; omega)]
                simpa using SA1.out
              have HR2 := hide hr2
              have HM1 := hide hm1
              clear hr2 hm1
              have lM1 : M1.length = hf := by rw [HM1.out.length, List.length_append, LA1.out, LB1.out]; omega
              have LM1 := hide lM1
              clear lM1
              go_wp2_with fail
              refine (show Calls _ _ _ _ _ from HIH.out w2 base g n c (X ++ M1) A2 B2 Y (by simpa using HR2.out) ?_ SA2.out SB2.out ?_ ?_ ?_ _ _ _ ?_ ?_ ?_).mono ?_
              · have h1 := LM1.out; have h2 := LA2.out; have h3 := LB1.out; have h4 := LB2.out; have h5 := HYL.out; have h6 := HXL.out
                simp only [List.length_append]; omega
              · rw [LA2.out]; omega
              · rw [LB2.out]; omega
              · rw [LA2.out, LB2.out]; omega
              · rw [List.length_append, ← HXL.out, LM1.out]; omega
              · rw [List.length_append, ← HXL.out, LM1.out, LA2.out]; omega
              · rw [List.length_append, ← HXL.out, LM1.out, LA2.out, LB2.out]; omega
              rintro e w3 ⟨rfl, ⟨M2, hm2, hr3⟩, ht3⟩
              have HR3 := hide hr3
              have HM2 := hide hm2
              have HT3 := hide (HT2.out.same ht3)
              clear hr3 ht3 hm2
              go_wp2
              go_end0
              exact ⟨rfl, ⟨M1 ++ M2, HFIN.out M1 M2 HM1.out HM2.out, by simpa using HR3.out⟩, HT3.out⟩
          · first
            | (exfalso; have := HE1.out; have := HE2.out; omega)
            | skip
            all_goals
              have v1 : ¬ ((xl : Int) + s) < (xl : Int) + al := by omega
              have v2 : ((xl : Int) + s) < (md : Int) := by omega
              have v3 : (xl : Int) < (xl : Int) + s := by omega
              have v4 : (en : Int) < ((xl : Int) + al) + bl := by omega
              have v5 : ((xl : Int) + al) < (en : Int) := by omega
              have v6 : ¬ (md : Int) < (en : Int) := by omega
              obtain ⟨w1, rfl⟩ : ∃ w1, w1 = wr := ⟨_, rfl⟩
              have HT1 := hide (HTW.out.mono (T := [g]) (by simp))
              have hr1 : TR w1 base (.slice (some ⟨g, 0, none⟩) n c) (X ++ A1 ++ B1 ++ A2 ++ (B2 ++ Y)) := by
                have := HROW.out
                rw [List.eq_nil_of_length_eq_zero (l := A2) (by rw [LA2.out]; omega)] at this ⊢
                simpa using this
              have HR1 := hide hr1
              clear hr1
              go_wp2_with fail
              refine (show Calls _ _ _ _ _ from HIH.out w1 base g n c X A1 B1 (A2 ++ (B2 ++ Y)) (by simpa using HR1.out) ?_ SA1.out SB1.out ?_ ?_ ?_ _ _ _ ?_ ?_ ?_).mono ?_
              · have h1 := LA1.out; have h2 := LA2.out; have h3 := LB1.out; have h4 := LB2.out; have h5 := HYL.out; have h6 := HXL.out
                simp only [List.length_append]; omega
              · rw [LA1.out]; omega
              · rw [LB1.out]; omega
              · rw [LA1.out, LB1.out]; omega
              · rw [← HXL.out]
              · rw [← HXL.out, LA1.out]; omega
              · rw [← HXL.out, LA1.out, LB1.out]; omega
              rintro e w2 ⟨rfl, ⟨M1, hm1, hr2⟩, ht2⟩
              have HR2 := hide hr2
              have HM1 := hide hm1
              have HT2 := hide (HT1.out.same ht2)
              clear hr2 ht2 hm1
              have lM1 : M1.length = hf := by rw [HM1.out.length, List.length_append, LA1.out, LB1.out]; omega
              have LM1 := hide lM1
              clear lM1
              obtain ⟨w3, rfl⟩ : ∃ w3, w3 = w2 := ⟨_, rfl⟩
              have HT3 := hide HT2.out
              obtain ⟨M2, hm2, hr3⟩ : ∃ M2, Stb (A2 ++ B2) M2 ∧ TR w3 base (.slice (some ⟨g, 0, none⟩) n c) (X ++ M1 ++ M2 ++ Y) := by
                refine ⟨A2 ++ B2, Srt.stb ?_, by simpa using HR2.out⟩
                rw [List.eq_nil_of_length_eq_zero (l := A2) (by rw [LA2.out]; omega)]
                simpa using SB2.out
              have HR3 := hide hr3
              have HM2 := hide hm2
              clear hr3 hm2
              go_wp2
              go_end0
              exact ⟨rfl, ⟨M1 ++ M2, HFIN.out M1 M2 HM1.out HM2.out, by simpa using HR3.out⟩, HT3.out⟩
          · first
            | (exfalso; have := HE1.out; have := HE2.out; omega)
            | skip
            all_goals
              have v1 : ¬ ((xl : Int) + s) < (xl : Int) + al := by omega
              have v2 : ¬ ((xl : Int) + s) < (md : Int) := by omega
              have v3 : (xl : Int) < (xl : Int) + s := by omega
              have v4 : (en : Int) < ((xl : Int) + al) + bl := by omega
              have v5 : ¬ ((xl : Int) + al) < (en : Int) := by omega
              have v6 : ¬ (md : Int) < (en : Int) := by omega
              obtain ⟨w1, rfl⟩ : ∃ w1, w1 = wr := ⟨_, rfl⟩
              have HT1 := hide (HTW.out.mono (T := [g]) (by simp))
              have hr1 : TR w1 base (.slice (some ⟨g, 0, none⟩) n c) (X ++ A1 ++ B1 ++ A2 ++ (B2 ++ Y)) := by
                have := HROW.out
                rw [List.eq_nil_of_length_eq_zero (l := A2) (by rw [LA2.out]; omega)] at this ⊢
                simpa using this
              have HR1 := hide hr1
              clear hr1
              obtain ⟨w2, rfl⟩ : ∃ w2, w2 = w1 := ⟨_, rfl⟩
              have HT2 := hide HT1.out
              obtain ⟨M1, hm1, hr2⟩ : ∃ M1, Stb (A1 ++ B1) M1 ∧ TR w2 base (.slice (some ⟨g, 0, none⟩) n c) (X ++ M1 ++ (A2 ++ (B2 ++ Y))) := by
                refine ⟨A1 ++ B1, Srt.stb ?_, by simpa using HR1.out⟩
                rw [List.eq_nil_of_length_eq_zero (l := B1) (by rw [LB1.out]; omega)]
                simpa using SA1.out
              have HR2 := hide hr2
              have HM1 := hide hm1
              clear hr2 hm1
              have lM1 : M1.length = hf := by rw [HM1.out.length, List.length_append, LA1.out, LB1.out]; omega
              have LM1 := hide lM1
              clear lM1
              obtain ⟨w3, rfl⟩ : ∃ w3, w3 = w2 := ⟨_, rfl⟩
              have HT3 := hide HT2.out
              obtain ⟨M2, hm2, hr3⟩ : ∃ M2, Stb (A2 ++ B2) M2 ∧ TR w3 base (.slice (some ⟨g, 0, none⟩) n c) (X ++ M1 ++ M2 ++ Y) := by
                refine ⟨A2 ++ B2, Srt.stb ?_, by simpa using HR2.out⟩
                rw [List.eq_nil_of_length_eq_zero (l := A2) (by rw [LA2.out]; omega)]
                simpa using SB2.out
              have HR3 := hide hr3
              have HM2 := hide hm2
              clear hr3 hm2
              go_wp2
              go_end0
              exact ⟨rfl, ⟨M1 ++ M2, HFIN.out M1 M2 HM1.out HM2.out, by simpa using HR3.out⟩, HT3.out⟩
theorem merge_any : ∀ N, MergesN N
  | 0 => by intro w base g n c X A B Y h hl hA hB hA0 hB0 hN; omega
  | N + 1 => merge_step N (merge_any N)
end Go.Proofs.YtcficgpknokpbaaDoor.Wh
