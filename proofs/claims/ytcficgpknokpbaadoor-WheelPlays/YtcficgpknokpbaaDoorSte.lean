/- slices.SortStableFunc of timers: the insertion sort. -/
import Derived.Test.YtcficgpknokpbaaDoorStd
namespace Go.Proofs.YtcficgpknokpbaaDoor.Wh
open Go.RowKit Go.Maps
set_option maxRecDepth 100000
set_option linter.unusedSimpArgs false
set_option linter.unusedVariables false
attribute [local go_sem] Oper.semAt_some

/-- Two timers of a row: their cells. -/
theorem TR.two {w : World} {base g n c : Nat} {l : List Tm} (h : TR w base (.slice (some ⟨g, 0, none⟩) n c) l) {i : Nat} (hi : i < l.length) {x : Tm} (hx : l[i] = x) :
    w.cell? ⟨g, i * 2, none⟩ = some (.int .i64 x.1) ∧ w.cell? ⟨g, i * 2 + 1, none⟩ = some (.int .i64 x.2) ∧ w.frozen? ⟨g, i * 2, none⟩ = false ∧ w.frozen? ⟨g, i * 2 + 1, none⟩ = false ∧ g < w.heap.size := by
  obtain ⟨g', cap', e, k1, kf⟩ := h.at tmC_len hi
  simp only [Value.slice.injEq, Option.some.injEq, Addr.mk.injEq, and_true] at e
  obtain ⟨rfl, -, rfl⟩ := e
  rw [hx] at k1
  exact ⟨k1 0 (by omega), k1 1 (by omega), kf _, kf _, (h.lt g (by simp [Value.ownBlock])).2⟩
theorem TR.len {w : World} {base n c : Nat} {a : Option Addr} {l : List Tm} (h : TR w base (.slice a n c) l) : n = l.length := by
  obtain ⟨a, c, e, -⟩ := h.form
  simp only [Value.slice.injEq] at e
  exact e.2.1

set_option maxHeartbeats 1000000 in
theorem insert_any (w : World) (base g n c : Nat) (X A Y : List Tm) (h : TR w base (.slice (some ⟨g, 0, none⟩) n c) (X ++ A ++ Y)) (hl : X.length + A.length + Y.length ≤ 1000000) (a b : Int) (ha : a = X.length) (hb : b = ((X.length + A.length : Nat) : Int)) :
    Calls Tryd.prog 28 #[.slice (some ⟨g, 0, none⟩) n c, .int .i64 a, .int .i64 b, fnT] w fun e w' => e = .returned (.tuple #[]) ∧ (∃ M, Stb A M ∧ TR w' base (.slice (some ⟨g, 0, none⟩) n c) (X ++ M ++ Y)) ∧ Turn [g] w w' := by
  subst ha
  subst hb
  have H := hide h
  have hn : n = X.length + A.length + Y.length := by rw [h.len]; simp; omega
  obtain ⟨xl, hxl⟩ : ∃ xl, xl = X.length := ⟨_, rfl⟩
  obtain ⟨al, hal⟩ : ∃ al, al = A.length := ⟨_, rfl⟩
  rw [← hxl, ← hal] at hl hn ⊢
  have HXL := hide hxl
  have HAL := hide hal
  have hmax : n ≤ 1000000 := by omega
  have hxn : xl + al ≤ n := by omega
  clear h hl hxl hal hn
  unfold fnT
  go_enter Tryd.func28, Tryd.ntmps28
  go_wp2
  go_loopw [8] (fun iv wr => ∃ (k : Nat) (A' : List Tm), 1 ≤ k ∧ (k ≤ al ∨ al = 0 ∧ k = 1) ∧ iv = .int .i64 ((xl + k : Nat) : Int) ∧ Stb (A.take k) A' ∧ TR wr base (.slice (some ⟨g, 0, none⟩) n c) (X ++ A' ++ A.drop k ++ Y) ∧ Turn [g] w wr) (fun iv _ => xl + al + 1 - (intOf iv).toNat)
  case atStart =>
    refine ⟨1, A.take 1, Nat.le_refl _, by omega, by simp only [Value.int.injEq, true_and]; omega, ?_, ?_, Turn.refl _ _⟩
    · refine Srt.stb ?_
      unfold Srt
      rw [List.pairwise_iff_getElem]
      intro i j hi hj hij
      rw [List.length_take] at hi hj
      omega
    · rw [List.append_assoc X, List.take_append_drop]
      exact H.out
  case round =>
    obtain ⟨k, A', hk1, hk2, rfl, hst, hrow, htw⟩ := hrel
    have HTW := hide htw
    have HST := hide hst
    have HROW := hide hrow
    clear htw hst hrow
    by_cases hlt : k < al
    · have hkA : k < A.length := by rw [← HAL.out]; exact hlt
      obtain ⟨x, hx⟩ : ∃ x, x = A[k] := ⟨_, rfl⟩
      have hrow0 := HROW.out
      rw [List.drop_eq_getElem_cons hkA, ← hx] at hrow0
      have HX := hide hx
      have HROW0 := hide hrow0
      have hA'l : A'.length = k := by rw [HST.out.length, List.length_take]; omega
      have HA'L := hide hA'l
      clear hrow0 hx hA'l
      have hlt1 : (xl : Int) + k < xl + al := by omega
      have s1 : IntKind.i64.wrap ((xl : Int) + k + 1) = ((xl + (k + 1) : Nat) : Int) := by rw [IntWalk.i64_in _ (by omega)]; omega
      obtain ⟨wo, rfl⟩ : ∃ wo, wo = wr := ⟨_, rfl⟩
      go_wp2
      go_loopw [9] (fun jv wq => ∃ L R : List Tm, A' = L ++ R ∧ jv = .int .i64 ((xl + L.length : Nat) : Int) ∧ (∀ z ∈ R, x.1 < z.1) ∧ TR wq base (.slice (some ⟨g, 0, none⟩) n c) (X ++ L ++ x :: (R ++ A.drop (k + 1) ++ Y)) ∧ Turn [g] wo wq) (fun jv _ => (intOf jv).toNat - xl)
      case atStart =>
        refine ⟨A', [], by simp, by rw [HA'L.out], by simp, ?_, Turn.refl _ _⟩
        have := HROW0.out
        simpa using this
      case round =>
        obtain ⟨L, R, hA', rfl, hR, hrow, htq⟩ := hrel
        have HA := hide hA'
        have HR := hide hR
        have HTQ := hide htq
        have HRQ := hide hrow
        have hLl : L.length ≤ k := by rw [← HA'L.out, hA', List.length_append]; omega
        clear hA' hR htq hrow
        have hdone : ∀ Z, Turn [] wr Z → (∀ z ∈ L, z.1 ≤ x.1) → ∃ A2, Stb (A.take (k + 1)) A2 ∧ TR Z base (.slice (some ⟨g, 0, none⟩) n c) (X ++ A2 ++ A.drop (k + 1) ++ Y) ∧ Turn [g] w Z := fun Z hZ hz => by
          refine ⟨L ++ x :: R, ?_, ?_, HTW.out.same (HTQ.out.same (hZ.mono (by simp)))⟩
          · rw [List.take_succ_eq_append_getElem hkA, ← HX.out]
            exact stb_insert (by rw [← HA.out]; exact HST.out) HR.out hz
          · have := HRQ.out.still hZ
            simpa using this
        have HD := hide hdone
        clear hdone
        rcases List.eq_nil_or_concat L with rfl | ⟨L1, y, rfl⟩
        · go_wp2
          refine wp_region_loose (Turn []) (by kernel_rfl) (by kernel_rfl) (by kernel_rfl) (by kernel_rfl) rfl (Turn.refl _) (fun _ _ _ h k => h.same k) ?_
          apply Lo.runx 1 rfl rfl [] (by kernel_rfl) (Turn.refl _)
          apply Exists.intro; apply And.intro
          · intro u w1 hR hF
            clear hF
            refine ⟨rfl, fun a ha K hK => ?_⟩
            have e9 := ha 9
            conv at e9 => rhs; whnf
            clear ha
            go_simp
            refine hK _ ?_; rfl
          apply Lo.runx 2 rfl rfl [] (by kernel_rfl) (Turn.refl _)
          apply Exists.intro; apply And.intro
          · intro u w1 hR hF
            clear hF
            refine ⟨rfl, fun a ha K hK => ?_⟩
            have e1 := ha 1
            conv at e1 => rhs; whnf
            clear ha
            go_simp
            refine hK _ ?_; rfl
          refine Lo.runv 3 rfl rfl [0, 1] (.bool (false)) (by kernel_rfl) (fun u w1 hR hF => ?_) (Turn.refl _) ?_
          · obtain ⟨h0, h1, -⟩ := hF
            refine ⟨rfl, fun a ha K hK => ?_⟩
            have e18 := (ha 18).trans h0
            have e19 := (ha 19).trans h1
            clear ha h0 h1
            go_simp
            refine hK _ ?_
            simp
          apply Lo.runx 4 rfl rfl [2] (by kernel_rfl) (Turn.refl _)
          apply Exists.intro; apply And.intro
          · intro u w1 hR hF
            obtain ⟨h2, -⟩ := hF
            refine ⟨rfl, fun a ha K hK => ?_⟩
            have e20 := (ha 20).trans h2
            clear ha h2
            go_simp
            refine hK _ ?_; rfl
          refine Lo.pass 5 rfl rfl [3] (by kernel_rfl) (Turn.refl _) (fun u w1 hR hF => ?_) ?_
          · exact .inl ⟨false, hF.1, rfl⟩
          refine Lo.pass 6 rfl rfl [3] (by kernel_rfl) (Turn.refl _) (fun u w1 hR hF => ?_) ?_
          · exact .inl ⟨false, hF.1, rfl⟩
          refine Lo.pass 7 rfl rfl [3] (by kernel_rfl) (Turn.refl _) (fun u w1 hR hF => ?_) ?_
          · exact .inl ⟨false, hF.1, rfl⟩
          refine Lo.pass 8 rfl rfl [3] (by kernel_rfl) (Turn.refl _) (fun u w1 hR hF => ?_) ?_
          · exact .inl ⟨false, hF.1, rfl⟩
          refine Lo.pass 9 rfl rfl [3] (by kernel_rfl) (Turn.refl _) (fun u w1 hR hF => ?_) ?_
          · exact .inl ⟨false, hF.1, rfl⟩
          refine Lo.pass 10 rfl rfl [3] (by kernel_rfl) (Turn.refl _) (fun u w1 hR hF => ?_) ?_
          · exact .inl ⟨false, hF.1, rfl⟩
          refine Lo.pass 11 rfl rfl [3] (by kernel_rfl) (Turn.refl _) (fun u w1 hR hF => ?_) ?_
          · exact .inl ⟨false, hF.1, rfl⟩
          refine Lo.pass 12 rfl rfl [3] (by kernel_rfl) (Turn.refl _) (fun u w1 hR hF => ?_) ?_
          · exact .inl ⟨false, hF.1, rfl⟩
          refine Lo.pass 13 rfl rfl [3] (by kernel_rfl) (Turn.refl _) (fun u w1 hR hF => ?_) ?_
          · exact .inl ⟨false, hF.1, rfl⟩
          refine Lo.pass 14 rfl rfl [3] (by kernel_rfl) (Turn.refl _) (fun u w1 hR hF => ?_) ?_
          · exact .inl ⟨false, hF.1, rfl⟩
          refine Lo.pass 15 rfl rfl [3] (by kernel_rfl) (Turn.refl _) (fun u w1 hR hF => ?_) ?_
          · exact .inl ⟨false, hF.1, rfl⟩
          refine Lo.pass 16 rfl rfl [3] (by kernel_rfl) (Turn.refl _) (fun u w1 hR hF => ?_) ?_
          · exact .inl ⟨false, hF.1, rfl⟩
          apply Lo.runx 17 rfl rfl [3, 15] (by kernel_rfl) (Turn.refl _)
          apply Exists.intro; apply And.intro
          · intro u w1 hR hF
            obtain ⟨h3, h15, -⟩ := hF
            refine ⟨rfl, fun a ha K hK => ?_⟩
            have e21 := (ha 21).trans h3
            have e33 := (ha 33).trans h15
            clear ha h3 h15
            go_simp
            refine hK _ ?_; rfl
          refine Lo.done [16] (fun u w1 hRd hSd hF => ?_)
          clear hSd
          obtain ⟨f16, -⟩ := hF
          have d16 : u 16 = _ := f16
          clear f16
          simp only [putFrom, Act.put, List.setIfInBounds_toArray, List.set_cons_succ, List.set_cons_zero, Nat.zero_add, Nat.reduceAdd, d16]
          have HT1 := hide (((Turn.refl [] wr).drew).same hRd)
          clear d16 hRd
          obtain ⟨A2, hs2, hr2, ht2⟩ := HD.out _ HT1.out (by simp)
          have HS2 := hide hs2
          have HR2 := hide hr2
          have HT2 := hide ht2
          clear hs2 hr2 ht2
          go_wp2
          exact ⟨⟨k + 1, A2, by omega, by omega, by simp only [Value.int.injEq, true_and]; omega, HS2.out, HR2.out, HT2.out⟩, by simp only [intOf]; omega⟩
        · rw [List.concat_eq_append] at *
          have hl1 : (L1 ++ [y]).length = L1.length + 1 := by simp
          rw [hl1] at hLl ⊢
          clear hl1
          obtain ⟨l1, hl1⟩ : ∃ l1, l1 = L1.length := ⟨_, rfl⟩
          rw [← hl1] at hLl ⊢
          have hrow := HRQ.out
          rw [show X ++ (L1 ++ [y]) ++ x :: (R ++ A.drop (k + 1) ++ Y) = (X ++ L1) ++ y :: ([] ++ x :: (R ++ A.drop (k + 1) ++ Y)) by simp] at hrow
          have hp1 : (X ++ L1).length = xl + l1 := by rw [List.length_append, ← HXL.out, ← hl1]
          have hlen := hrow.len
          have hg1 : ∀ h, ((X ++ L1) ++ y :: ([] ++ x :: (R ++ A.drop (k + 1) ++ Y)))[xl + l1]'h = y := fun h => get_split rfl hp1.symm h
          have hg2 : ∀ h, ((X ++ L1) ++ y :: ([] ++ x :: (R ++ A.drop (k + 1) ++ Y)))[xl + l1 + 1]'h = x := fun h => get_split (P := X ++ L1 ++ [y]) (R := R ++ A.drop (k + 1) ++ Y) (by simp) (by rw [List.length_append, hp1]; rfl) h
          have hlb : xl + l1 + 1 < ((X ++ L1) ++ y :: ([] ++ x :: (R ++ A.drop (k + 1) ++ Y))).length := by rw [List.length_append, hp1]; simp
          have hsw := hrow.swapped.2
          rw [hp1, show xl + l1 + 1 + ([] : List Tm).length = xl + l1 + 1 by simp] at hsw
          obtain ⟨j, hj⟩ : ∃ j, j = xl + l1 := ⟨_, rfl⟩
          rw [← hj] at hsw hg1 hg2 hlb
          have hcell : ∀ Z, Turn [] wr Z → (Z.cell? ⟨g, j * 2, none⟩ = some (.int .i64 y.1) ∧ Z.cell? ⟨g, j * 2 + 1, none⟩ = some (.int .i64 y.2) ∧ Z.cell? ⟨g, (j + 1) * 2, none⟩ = some (.int .i64 x.1) ∧ Z.cell? ⟨g, (j + 1) * 2 + 1, none⟩ = some (.int .i64 x.2)) ∧ Z.frozen? ⟨g, j * 2, none⟩ = false ∧ Z.frozen? ⟨g, j * 2 + 1, none⟩ = false ∧ Z.frozen? ⟨g, (j + 1) * 2, none⟩ = false ∧ Z.frozen? ⟨g, (j + 1) * 2 + 1, none⟩ = false ∧ g < Z.heap.size := fun Z hZ => by
            obtain ⟨c0, c1, f0, f1, z⟩ := TR.two (hrow.still hZ) (i := j) (by omega) (hg1 _)
            obtain ⟨c2, c3, f2, f3, -⟩ := TR.two (hrow.still hZ) (i := j + 1) hlb (hg2 _)
            exact ⟨⟨c0, c1, c2, c3⟩, f0, f1, f2, f3, z⟩
          have hjn : j + 1 < n := by rw [hlen]; exact hlb
          have hj1 : j ≤ xl + l1 := by omega
          have hj2 : xl + l1 ≤ j := by omega
          have HL1 := hide hl1
          have HC := hide hcell
          have HSW := hide (show ∀ Z, Turn [] wr Z → TR ((Z.setCells g ((j + 1) * 2) (tmC y)).setCells g (j * 2) (tmC x)) base (.slice (some ⟨g, 0, none⟩) n c) ((X ++ L1) ++ x :: ([] ++ y :: (R ++ A.drop (k + 1) ++ Y))) from fun Z hZ => by
            have := (TR.swapped (hrow.still hZ)).2
            rw [hp1, show xl + l1 + 1 + ([] : List Tm).length = j + 1 by simp; omega, ← hj] at this
            exact this)
          clear hrow hp1 hlen hg1 hg2 hlb hsw hj hcell hl1
          have hgt1 : (xl : Int) < ((xl + (l1 + 1) : Nat) : Int) := by omega
          have i1 : ((j + 1 : Nat) : Int) < (n : Int) := by omega
          have i2 : (j : Int) < (n : Int) := by omega
          have e1 : ((xl + (l1 + 1) : Nat) : Int) = ((j + 1 : Nat) : Int) := by omega
          rw [e1] at hgt1 ⊢
          clear e1
          obtain ⟨j1, hj1e⟩ : ∃ j1, j1 = j + 1 := ⟨_, rfl⟩
          rw [← hj1e] at HC HSW i1 hgt1 hjn ⊢
          have j1a : j1 ≤ j + 1 := by omega
          have j1b : j + 1 ≤ j1 := by omega
          clear hj1e
          have hs1 : IntKind.i64.wrap ((j1 : Int) - 1) = j := by rw [IntWalk.i64_in _ (by omega)]; omega
          go_wp2
          refine wp_region_loose (Turn []) (by kernel_rfl) (by kernel_rfl) (by kernel_rfl) (by kernel_rfl) rfl (Turn.refl _) (fun _ _ _ h k => h.same k) ?_
          apply Lo.runx 1 rfl rfl [] (by kernel_rfl) (Turn.refl _)
          apply Exists.intro; apply And.intro
          · intro u w1 hR hF
            clear hF
            refine ⟨rfl, fun a ha K hK => ?_⟩
            have e9 := ha 9
            conv at e9 => rhs; whnf
            clear ha
            go_simp
            refine hK _ ?_; rfl
          apply Lo.runx 2 rfl rfl [] (by kernel_rfl) (Turn.refl _)
          apply Exists.intro; apply And.intro
          · intro u w1 hR hF
            clear hF
            refine ⟨rfl, fun a ha K hK => ?_⟩
            have e1 := ha 1
            conv at e1 => rhs; whnf
            clear ha
            go_simp
            refine hK _ ?_; rfl
          refine Lo.runv 3 rfl rfl [0, 1] (.bool (true)) (by kernel_rfl) (fun u w1 hR hF => ?_) (Turn.refl _) ?_
          · obtain ⟨h0, h1, -⟩ := hF
            refine ⟨rfl, fun a ha K hK => ?_⟩
            have e18 := (ha 18).trans h0
            have e19 := (ha 19).trans h1
            clear ha h0 h1
            go_simp
            refine hK _ ?_
            simp
          apply Lo.runx 4 rfl rfl [2] (by kernel_rfl) (Turn.refl _)
          apply Exists.intro; apply And.intro
          · intro u w1 hR hF
            obtain ⟨h2, -⟩ := hF
            refine ⟨rfl, fun a ha K hK => ?_⟩
            have e20 := (ha 20).trans h2
            clear ha h2
            go_simp
            refine hK _ ?_; rfl
          apply Lo.runx 5 rfl rfl [3] (by kernel_rfl) (Turn.refl _)
          apply Exists.intro; apply And.intro
          · intro u w1 hR hF
            obtain ⟨h3, -⟩ := hF
            refine ⟨.inl ⟨true, h3, rfl⟩, fun a ha K hK => ?_⟩
            have e3 := ha 3
            conv at e3 => rhs; whnf
            clear ha h3
            go_simp
            refine hK _ ?_; rfl
          apply Lo.runx 6 rfl rfl [3] (by kernel_rfl) (Turn.refl _)
          apply Exists.intro; apply And.intro
          · intro u w1 hR hF
            obtain ⟨h3, -⟩ := hF
            refine ⟨.inl ⟨true, h3, rfl⟩, fun a ha K hK => ?_⟩
            have e0 := ha 0
            conv at e0 => rhs; whnf
            clear ha h3
            go_simp
            refine hK _ ?_; rfl
          apply Lo.runx 7 rfl rfl [3] (by kernel_rfl) (Turn.refl _)
          apply Exists.intro; apply And.intro
          · intro u w1 hR hF
            obtain ⟨h3, -⟩ := hF
            refine ⟨.inl ⟨true, h3, rfl⟩, fun a ha K hK => ?_⟩
            have e9 := ha 9
            conv at e9 => rhs; whnf
            clear ha h3
            go_simp
            refine hK _ ?_; rfl
          apply Lo.runx 8 rfl rfl [3, 5, 6] (by kernel_rfl) (Turn.refl _)
          apply Exists.intro; apply And.intro
          · intro u w1 hR hF
            obtain ⟨h3, h5, h6, -⟩ := hF
            refine ⟨.inl ⟨true, h3, rfl⟩, fun a ha K hK => ?_⟩
            have e23 := (ha 23).trans h5
            have e24 := (ha 24).trans h6
            clear ha h3 h5 h6
            go_simp
            refine hK _ ?_; rfl
          refine Lo.runv 9 rfl rfl [3, 7] (tmV x) (by kernel_rfl) (fun u w1 hR hF => ?_) (Turn.refl _) ?_
          · obtain ⟨h3, h7, -⟩ := hF
            refine ⟨.inl ⟨true, h3, rfl⟩, fun a ha K hK => ?_⟩
            have e25 := (ha 25).trans h7
            clear ha h3 h7
            obtain ⟨⟨c0, c1, c2, c3⟩, -⟩ := HC.out w1 (((Turn.refl [] _).drew).same hR)
            go_simp
            refine hK _ ?_
            rfl
          apply Lo.runx 10 rfl rfl [3] (by kernel_rfl) (Turn.refl _)
          apply Exists.intro; apply And.intro
          · intro u w1 hR hF
            obtain ⟨h3, -⟩ := hF
            refine ⟨.inl ⟨true, h3, rfl⟩, fun a ha K hK => ?_⟩
            have e0 := ha 0
            conv at e0 => rhs; whnf
            clear ha h3
            go_simp
            refine hK _ ?_; rfl
          apply Lo.runx 11 rfl rfl [3] (by kernel_rfl) (Turn.refl _)
          apply Exists.intro; apply And.intro
          · intro u w1 hR hF
            obtain ⟨h3, -⟩ := hF
            refine ⟨.inl ⟨true, h3, rfl⟩, fun a ha K hK => ?_⟩
            have e9 := ha 9
            conv at e9 => rhs; whnf
            clear ha h3
            go_simp
            refine hK _ ?_; rfl
          refine Lo.runv 12 rfl rfl [3, 10] (.int .i64 (j : Int)) (by kernel_rfl) (fun u w1 hR hF => ?_) (Turn.refl _) ?_
          · obtain ⟨h3, h10, -⟩ := hF
            refine ⟨.inl ⟨true, h3, rfl⟩, fun a ha K hK => ?_⟩
            have e28 := (ha 28).trans h10
            clear ha h3 h10
            go_simp
            refine hK _ ?_
            rfl
          apply Lo.runx 13 rfl rfl [3, 9, 11] (by kernel_rfl) (Turn.refl _)
          apply Exists.intro; apply And.intro
          · intro u w1 hR hF
            obtain ⟨h3, h9, h11, -⟩ := hF
            refine ⟨.inl ⟨true, h3, rfl⟩, fun a ha K hK => ?_⟩
            have e27 := (ha 27).trans h9
            have e29 := (ha 29).trans h11
            clear ha h3 h9 h11
            go_simp
            refine hK _ ?_; rfl
          refine Lo.runv 14 rfl rfl [3, 12] (tmV y) (by kernel_rfl) (fun u w1 hR hF => ?_) (Turn.refl _) ?_
          · obtain ⟨h3, h12, -⟩ := hF
            refine ⟨.inl ⟨true, h3, rfl⟩, fun a ha K hK => ?_⟩
            have e30 := (ha 30).trans h12
            clear ha h3 h12
            obtain ⟨⟨c0, c1, c2, c3⟩, -⟩ := HC.out w1 (((Turn.refl [] _).drew).same hR)
            go_simp
            refine hK _ ?_
            rfl
          refine Lo.run 15 rfl rfl [3, 4, 8, 13] (fun v w' => v = .int .i64 (cmpI x.1 y.1)) (by kernel_rfl) (fun x w w' h hR => ?_) (fun _ _ h => h) (fun u w1 hR hF => ?_) ?_
          · exact h
          · obtain ⟨h3, h4, h8, h13, -⟩ := hF
            refine ⟨.inl ⟨true, h3, rfl⟩, fun a ha K hK => ?_⟩
            have e22 := (ha 22).trans h4
            have e26 := (ha 26).trans h8
            have e31 := (ha 31).trans h13
            clear ha h3 h4 h8 h13
            go_simp
            refine (cmp_any x y w1).mono ?_
            rintro e w5 ⟨rfl, ht5⟩
            exact hK _ _ rfl ht5
          refine Lo.runv 16 rfl rfl [3, 14] (.bool (decide (x.1 < y.1))) (by kernel_rfl) (fun u w1 hR hF => ?_) (Turn.refl _) ?_
          · obtain ⟨h3, h14, -⟩ := hF
            refine ⟨.inl ⟨true, h3, rfl⟩, fun a ha K hK => ?_⟩
            have e32 : a.tmps.getD 32 undef = u 14 := ha 32
            have h14 := (show (fun v w' => v = .int .i64 (cmpI x.1 y.1)) (u 14) w1 from h14)
            dsimp only at h14
            clear ha h3
            go_simp
            refine hK _ ?_
            rw [← cmpI_lt x.1 y.1]
          apply Lo.runx 17 rfl rfl [3, 15] (by kernel_rfl) (Turn.refl _)
          apply Exists.intro; apply And.intro
          · intro u w1 hR hF
            obtain ⟨h3, h15, -⟩ := hF
            refine ⟨rfl, fun a ha K hK => ?_⟩
            have e21 := (ha 21).trans h3
            have e33 := (ha 33).trans h15
            clear ha h3 h15
            go_simp
            refine hK _ ?_; rfl
          refine Lo.done [16] (fun u w1 hRd hSd hF => ?_)
          clear hSd
          obtain ⟨f16, -⟩ := hF
          have d16 : u 16 = _ := f16
          clear f16
          simp only [putFrom, Act.put, List.setIfInBounds_toArray, List.set_cons_succ, List.set_cons_zero, Nat.zero_add, Nat.reduceAdd, d16]
          have HT1 := hide (((Turn.refl [] wr).drew).same hRd)
          obtain ⟨wa, rfl⟩ : ∃ wa, wa = w1 := ⟨_, rfl⟩
          clear d16 hRd
          by_cases hxy : x.1 < y.1
          · have hd : decide (x.1 < y.1) = true := by simpa using hxy
            rw [hd]
            clear hd
            obtain ⟨⟨c0, c1, c2, c3⟩, f0, f1, f2, f3, z⟩ := HC.out wa HT1.out
            have hsw := HSW.out wa HT1.out
            have HSW2 := hide hsw
            clear hsw
            go_wp2
            go_region
            go_wp2
            refine ⟨⟨L1, y :: R, by rw [HA.out]; simp, by rw [← HL1.out]; simp only [Value.int.injEq, true_and]; omega, ?_, ?_, HTQ.out.same (((HT1.out.mono (T := [g]) (by simp)).same (turn_two wa g (j1 * 2) (j * 2) (tmC y) (tmC x))).drew)⟩, by simp only [intOf]; omega⟩
            · intro z' hz
              rcases List.mem_cons.1 hz with rfl | hz
              · exact hxy
              · exact HR.out z' hz
            · exact HSW2.out.still ((Turn.refl [] _).drew)
          · have hd : decide (x.1 < y.1) = false := by simpa using hxy
            rw [hd]
            clear hd
            obtain ⟨A2, hs2, hr2, ht2⟩ := HD.out _ HT1.out (srt_last ((srt_append.1 (by have := HST.out.srt; rw [HA.out] at this; exact this)).1) (by omega))
            have HS2 := hide hs2
            have HR2 := hide hr2
            have HT2 := hide ht2
            clear hs2 hr2 ht2
            go_wp2
            exact ⟨⟨k + 1, A2, by omega, by omega, by simp only [Value.int.injEq, true_and]; omega, HS2.out, HR2.out, HT2.out⟩, by simp only [intOf]; omega⟩
    · have hd : A.drop k = [] := List.drop_eq_nil_of_le (by rw [← HAL.out]; omega)
      have ht : A.take k = A := List.take_of_length_le (by rw [← HAL.out]; omega)
      have hr := HROW.out
      have hs := HST.out
      rw [hd, List.append_nil] at hr
      rw [ht] at hs
      have HR := hide hr
      have HS := hide hs
      clear hr hs hd ht
      have hlt1 : ¬ (xl : Int) + k < xl + al := by omega
      go_wp2
      go_end0
      exact ⟨rfl, ⟨A', HS.out, by simpa using HR.out⟩, HTW.out⟩
end Go.Proofs.YtcficgpknokpbaaDoor.Wh
