/- The document's maker: truths, texts, frames. -/
import Derived.Test.YtodadoaindfecaaDoorWin
namespace Go.Proofs.YtodadoaindfecaaDoor.Wi
open Go.RowKit Go.Maps
set_option maxRecDepth 100000
set_option linter.unusedSimpArgs false
set_option linter.unusedVariables false

theorem mnum_new (w : World) (wb base : Nat) (sv : Value) (s : WS) (h : MkAt mT eI w wb base sv s) (hbase : base ≤ w.heap.size) (l : List Int) {cs : Array Value} {n K : Nat} (hcs : cs = intsZ l) (hn : n = l.length) (hK : K = w.heap.size) (hl : l.length ≤ 9) (hsl : s.1.length ≤ 900000000000) :
    Calls Tryd.prog 40 #[.pointer (some ⟨wb, 0, none⟩), .slice (some ⟨K, 0, none⟩) n n] (w.alloc (.cells cs 3)) fun e w' => e = .returned (.tuple #[]) ∧ ∃ sv', MkTo mT eI w w' wb base sv sv' (nums s l) := by
  subst hcs; subst hn; subst hK
  exact (mnum_any (w.alloc (.cells (intsZ l) 3)) wb base sv s (h.still ((Turn.refl [] w).alloc _)) (by simp; omega) w.heap.size l (heap_new w _) hl hsl).mono fun e w' ⟨h1, sv', h2⟩ => ⟨h1, sv', MkTo.pre ((Turn.refl [] w).alloc _) h2⟩
theorem mtru_any (w : World) (wb base : Nat) (sv : Value) (s : WS) (h : MkAt mT eI w wb base sv s) (hbase : base ≤ w.heap.size) (b : Bool) (hsl : s.1.length ≤ 900000000000) :
    Calls Tryd.prog 42 #[.pointer (some ⟨wb, 0, none⟩), .bool b] w fun e w' => e = .returned (.tuple #[]) ∧ ∃ sv', MkTo mT eI w w' wb base sv sv' (nums s [tr b]) := by
  have HM := hide h
  clear h
  cases b
  · go_enter Tryd.func42, Tryd.ntmps42
    go_wp2_with fail
    refine (mnum_new _ wb base sv s HM.out hbase [tr false] (by rfl) (by rfl) (by rfl) (by simp) hsl).mono ?_
    rintro e w' ⟨rfl, s', h⟩
    have H := hide h
    clear h
    go_wp2
    first
      | (go_end0
         exact ⟨rfl, s', H.out⟩)
      | (refine bodyPost_ret (results_none rfl _ _ _) rfl ?_
         exact ⟨rfl, s', H.out⟩)
  · go_enter Tryd.func42, Tryd.ntmps42
    go_wp2_with fail
    refine (mnum_new _ wb base sv s HM.out hbase [tr true] (by rfl) (by rfl) (by rfl) (by simp) hsl).mono ?_
    rintro e w' ⟨rfl, s', h⟩
    have H := hide h
    clear h
    go_wp2
    first
      | (go_end0
         exact ⟨rfl, s', H.out⟩)
      | (refine bodyPost_ret (results_none rfl _ _ _) rfl ?_
         exact ⟨rfl, s', H.out⟩)
theorem pN_len (s : WS) (n : Int) : (pN s n).1.length ≤ s.1.length + 6 := by
  have := nums_len s [n]
  simpa [nums] using this

set_option maxHeartbeats 2000000 in
theorem mtext_any (w : World) (wb base : Nat) (sv : Value) (s : WS) (h : MkAt mT eI w wb base sv s) (hbase : base ≤ w.heap.size) (t : List UInt8) (most : Nat) (hm : most ≤ 1000) (ht : t.length ≤ 1048576) (hsl : s.1.length ≤ 800000000000) :
    Calls Tryd.prog 41 #[.pointer (some ⟨wb, 0, none⟩), .string ⟨t.toArray⟩, .int .i64 most] w fun e w' => e = .returned (.tuple #[]) ∧ ∃ sv', MkTo mT eI w w' wb base sv sv' (rStep s (.tx t most)) := by
  obtain ⟨i0, hi, hz, hz1, hz2⟩ := infoB_parts
  have HM := hide h
  obtain ⟨⟨c0, c1⟩, f0, f1⟩ := h.cells
  clear h
  by_cases hb : most < t.length
  · have hb1 : (t.length : Int) > (most : Int) := by omega
    have hp : rStep s (.tx t most) = ((pN (s.1, 4) t.length).1 ++ t, (pN (s.1, 4) t.length).2) := by rw [rStep_tx, if_pos hb]
    have HP := hide hp
    have hbad := HM.out.bad 4
    have HBAD := hide hbad
    have hnl := pN_len (s.1, 4) t.length
    obtain ⟨q, hq⟩ : ∃ q, q = pN (s.1, 4) (t.length : Int) := ⟨_, rfl⟩
    rw [← hq] at HP hnl
    have HQ : Hid (nums (s.1, 4) [(t.length : Int)] = q) := hq.symm
    have HSZ : Hid (base ≤ (w.setCell ⟨wb, 1, none⟩ (eI 4)).heap.size) := by show _ ≤ _; simpa using hbase
    simp only at hnl
    clear hp hb hbad hq
    go_enter Tryd.func41, Tryd.ntmps41
    go_wp2_with fail
    refine (mnum_new _ wb base sv (s.1, 4) HBAD.out.1 HSZ.out [(t.length : Int)] (by rfl) (by rfl) (by simp) (by simp) (by simp only; omega)).mono ?_
    rintro e w1 ⟨rfl, sv1, hto⟩
    rw [HQ.out] at hto
    have HTO := hide (HBAD.out.trans hto)
    have hszw := hto.2.1.size
    clear hto c0 c1 f0 f1
    obtain ⟨⟨c0, c1⟩, f0, f1⟩ := HTO.out.1.cells
    have hs1 := HTO.out.2.1.size
    go_wp2_with (at_builtin; go_must (refine wpList_append_str rfl _ _ 49 9 rfl 5 base i0 Tryd.underlying49 Tryd.underlying9 hi hz hz1 hz2 sv1 q.1 t rfl rfl HTO.out.1.2.1 (by omega) (by omega) ?_; intro v2 w2 hr2 ht2 ho2; obtain ⟨a3, n3, cp3, hv3⟩ := hr2.some_slice; subst hv3; have HG := hide (HTO.out.1.putS hr2 ht2 ho2); have c3 : w2.cell? ⟨wb, 0, none⟩ = some sv1 := (by simpa using cell_of HG.out.2 0); have f3 : w2.frozen? ⟨wb, 0, none⟩ = false := frozen_of HG.out.2 0; clear hr2 ht2 ho2))
    go_end0
    refine ⟨rfl, .slice a3 n3 cp3, ?_⟩
    rw [HP.out]
    exact HTO.out.trans HG.out.1
  · have hb1 : ¬ (t.length : Int) > (most : Int) := by omega
    have hp : rStep s (.tx t most) = ((pN s t.length).1 ++ t, (pN s t.length).2) := by rw [rStep_tx, if_neg hb]
    have HP := hide hp
    have hnl := pN_len s t.length
    obtain ⟨q, hq⟩ : ∃ q, q = pN s (t.length : Int) := ⟨_, rfl⟩
    rw [← hq] at HP hnl
    have HQ : Hid (nums s [(t.length : Int)] = q) := hq.symm
    clear hp hb hq
    go_enter Tryd.func41, Tryd.ntmps41
    go_wp2_with fail
    refine (mnum_new _ wb base sv s HM.out hbase [(t.length : Int)] (by rfl) (by rfl) (by rfl) (by simp) (by omega)).mono ?_
    rintro e w1 ⟨rfl, sv1, hto⟩
    rw [HQ.out] at hto
    have HTO := hide hto
    have hs1 := hto.2.1.size
    clear hto c0 c1 f0 f1
    obtain ⟨⟨c0, c1⟩, f0, f1⟩ := HTO.out.1.cells
    go_wp2_with (at_builtin; go_must (refine wpList_append_str rfl _ _ 49 9 rfl 5 base i0 Tryd.underlying49 Tryd.underlying9 hi hz hz1 hz2 sv1 q.1 t rfl rfl HTO.out.1.2.1 (by omega) (by omega) ?_; intro v2 w2 hr2 ht2 ho2; obtain ⟨a3, n3, cp3, hv3⟩ := hr2.some_slice; subst hv3; have HG := hide (HTO.out.1.putS hr2 ht2 ho2); have c3 : w2.cell? ⟨wb, 0, none⟩ = some sv1 := (by simpa using cell_of HG.out.2 0); have f3 : w2.frozen? ⟨wb, 0, none⟩ = false := frozen_of HG.out.2 0; clear hr2 ht2 ho2))
    go_end0
    refine ⟨rfl, .slice a3 n3 cp3, ?_⟩
    rw [HP.out]
    exact HTO.out.trans HG.out.1

set_option maxHeartbeats 4000000 in
theorem mframe_any (w : World) (wb base : Nat) (sv : Value) (s : WS) (h : MkAt mT eI w wb base sv s) (hbase : base ≤ w.heap.size) (hne : s.1 ≠ []) :
    Calls Tryd.prog 44 #[.pointer (some ⟨wb, 0, none⟩)] w fun e w' => ∃ v, e = .returned (.tuple #[v, .int .i64 (rF s).2]) ∧ RowAt w' 5 base v (rF s).1 ∧ Turn [] w w' := by
  obtain ⟨i0, hi, hz, hz1, hz2⟩ := infoB_parts
  have HM := hide h
  have HNE := hide hne
  clear hne
  obtain ⟨⟨c0, c1⟩, f0, f1⟩ := h.cells
  have hce : ∀ Z, Turn [] w Z → Z.cell? ⟨wb, 0, none⟩ = some sv ∧ Z.cell? ⟨wb, 1, none⟩ = some (.int .i64 s.2) := fun Z hZ => (h.still hZ).cells.1
  have HC := hide hce
  have c1' : w.cell? ⟨wb, 1, none⟩ = some (.int .i64 s.2) := c1
  obtain ⟨sa, sc, hsv, hsl, hsm⟩ := h.2.1.form
  obtain ⟨er, her⟩ : ∃ er, er = s.2 := ⟨_, rfl⟩
  rw [← her] at c1'
  have HER := hide her
  clear hce h c1
  by_cases he : er = 0
  · have hb1 : (er == 0) = true := by simpa using he
    have hb2 : (er != 0) = false := by simp [he]
    obtain ⟨n, hn⟩ : ∃ n, n = s.1.length := ⟨_, rfl⟩
    rw [← hn] at hsv hsl
    have hp : rF s = if 10000 < n then ([], 4) else (Bt.four n ++ s.1, 0) := by
      unfold rF
      rw [if_neg (by rw [← her]; simpa using he), ← hn]
    have HP := hide hp
    have HN := hide hn
    subst hsv
    clear hp hn he her
    by_cases hbig : 10000 < n
    · have hbi : (n : Int) > 10000 := by omega
      have hp : rF s = ([], 4) := by rw [HP.out, if_pos hbig]
      have HP2 := hide hp
      clear hp hbig
      go_enter Tryd.func44, Tryd.ntmps44
      go_wp2
      go_ret2
      exact ⟨.slice none 0 0, by rw [HP2.out]; rfl, .inl ⟨rfl, by rw [HP2.out]⟩, Turn.refl _ _⟩
    · have hbi : ¬ (n : Int) > 10000 := by omega
      have hp : rF s = (Bt.four n ++ s.1, 0) := by rw [HP.out, if_neg hbig]
      have HP2 := hide hp
      have hn4 : n < 4294967296 := by omega
      have hl1 : (Bt.four n).length + s.1.length ≤ 1099511627776 := by rw [Bt.four_len, ← HN.out]; omega
      have HL1 := hide hl1
      clear hp hbig hl1
      go_enter Tryd.func44, Tryd.ntmps44
      go_wp2
      refine wp_region_loose (Turn []) (by kernel_rfl) (by kernel_rfl) (by kernel_rfl) (by kernel_rfl) rfl (Turn.refl _) (fun _ _ _ h k => h.same k) ?_
      apply Lo.runx 1 rfl rfl [] (by kernel_rfl) (Turn.refl _)
      apply Exists.intro; apply And.intro
      · intro u w1 hR hF
        clear hF
        refine ⟨rfl, fun a ha K hK => ?_⟩
        have e0 := ha 0
        conv at e0 => rhs; whnf
        clear ha
        go_simp
        refine hK _ ?_; rfl
      apply Lo.runx 2 rfl rfl [0] (by kernel_rfl) (Turn.refl _)
      apply Exists.intro; apply And.intro
      · intro u w1 hR hF
        obtain ⟨h0, -⟩ := hF
        refine ⟨rfl, fun a ha K hK => ?_⟩
        have e19 := (ha 19).trans h0
        clear ha h0
        go_simp
        refine hK _ ?_; rfl
      apply Lo.runx 3 rfl rfl [1] (by kernel_rfl) (Turn.refl _)
      apply Exists.intro; apply And.intro
      · intro u w1 hR hF
        obtain ⟨h1, -⟩ := hF
        refine ⟨rfl, fun a ha K hK => ?_⟩
        have e20 := (ha 20).trans h1
        clear ha h1
        go_simp
        refine hK _ ?_; rfl
      apply Lo.runx 4 rfl rfl [2] (by kernel_rfl) (Turn.refl _)
      apply Exists.intro; apply And.intro
      · intro u w1 hR hF
        obtain ⟨h2, -⟩ := hF
        refine ⟨rfl, fun a ha K hK => ?_⟩
        have e21 := (ha 21).trans h2
        clear ha h2
        have c0 := (HC.out w1 (((Turn.refl [] _).drew).same hR)).1
        go_simp
        refine hK _ ?_; rfl
      apply Lo.runx 5 rfl rfl [3] (by kernel_rfl) (Turn.refl _)
      apply Exists.intro; apply And.intro
      · intro u w1 hR hF
        obtain ⟨h3, -⟩ := hF
        refine ⟨rfl, fun a ha K hK => ?_⟩
        have e22 := (ha 22).trans h3
        clear ha h3
        go_simp
        refine hK _ ?_; rfl
      refine Lo.run 6 rfl rfl [4] (fun y w' => (∃ p, y = .slice (some p) 4 4) ∧ SliceAt w' y ((Bt.four n).map encB)) (by kernel_rfl) (fun x w w' h hR => ?_) (fun _ _ h => h) (fun u w1 hR hF => ?_) ?_
      · exact ⟨h.1, h.2.still hR⟩
      · obtain ⟨h4, -⟩ := hF
        refine ⟨rfl, fun a ha K hK => ?_⟩
        have e23 := (ha 23).trans h4
        clear ha h4
        go_simp
        refine (refFour_any _ n hn4).mono ?_
        rintro e w2 ⟨v2, rfl, hp2, hs2, ht2⟩
        exact hK _ _ ⟨hp2, hs2⟩ ht2
      apply Lo.runx 7 rfl rfl [] (by kernel_rfl) (Turn.refl _)
      apply Exists.intro; apply And.intro
      · intro u w1 hR hF
        clear hF
        refine ⟨rfl, fun a ha K hK => ?_⟩
        have e0 := ha 0
        conv at e0 => rhs; whnf
        clear ha
        go_simp
        refine hK _ ?_; rfl
      apply Lo.runx 8 rfl rfl [6] (by kernel_rfl) (Turn.refl _)
      apply Exists.intro; apply And.intro
      · intro u w1 hR hF
        obtain ⟨h6, -⟩ := hF
        refine ⟨rfl, fun a ha K hK => ?_⟩
        have e25 := (ha 25).trans h6
        clear ha h6
        go_simp
        refine hK _ ?_; rfl
      apply Lo.runx 9 rfl rfl [7] (by kernel_rfl) (Turn.refl _)
      apply Exists.intro; apply And.intro
      · intro u w1 hR hF
        obtain ⟨h7, -⟩ := hF
        refine ⟨rfl, fun a ha K hK => ?_⟩
        have e26 := (ha 26).trans h7
        clear ha h7
        go_simp
        refine hK _ ?_; rfl
      apply Lo.runx 10 rfl rfl [8] (by kernel_rfl) (Turn.refl _)
      apply Exists.intro; apply And.intro
      · intro u w1 hR hF
        obtain ⟨h8, -⟩ := hF
        refine ⟨rfl, fun a ha K hK => ?_⟩
        have e27 := (ha 27).trans h8
        clear ha h8
        have c0 := (HC.out w1 (((Turn.refl [] _).drew).same hR)).1
        go_simp
        refine hK _ ?_; rfl
      refine Lo.run 11 rfl rfl [5, 9] (fun y w' => RowAt w' 5 w.heap.size y (Bt.four n ++ s.1)) (by kernel_rfl) (fun x w w' h hR => ?_) (fun _ _ h => h) (fun u w1 hR hF => ?_) ?_
      · exact h.kept hR (by simp)
      · obtain ⟨h5, h9, -⟩ := hF
        refine ⟨rfl, fun a ha K hK => ?_⟩
        have e24 : a.tmps.getD 24 undef = u 5 := ha 24
        have e28 := (ha 28).trans h9
        have h5 := (show (fun y w' => (∃ p, y = .slice (some p) 4 4) ∧ SliceAt w' y ((Bt.four n).map encB)) (u 5) w1 from h5)
        dsimp only at h5
        clear ha h9
        obtain ⟨p5, hp5⟩ := h5.1
        have hs5 := h5.2
        have hsl := (HM.out.2.1.kept (((Turn.refl [] _).drew).same hR) (by simp)).cells
        have hsz := (((Turn.refl [] w).drew).same hR).size
        have happ : ∃ v' w', (Builtin.append_ #[49, 49] 49 #[u 5, .slice sa n sc]).run Tryd.prog w1 = .ok v' w' ∧ RowAt w' 5 w.heap.size v' (Bt.four n ++ s.1) ∧ Turn [] w1 w' := by
          by_cases h0 : s.1 = []
          · exact absurd h0 HNE.out
          · obtain ⟨v7, w7, hr7, hrow7, ht7⟩ := run_append_fresh (P := Tryd.prog) 49 49 i0 Tryd.underlying49 hi hz hz1 hz2 w1 w1 (u 5) (.slice sa n sc) (Bt.four n) s.1 ⟨Turn.refl _ _, .inl ⟨p5, hp5, hs5⟩⟩ hsl h0 HL1.out
            exact ⟨v7, w7, hr7, hrow7.low hsz, ht7⟩
        obtain ⟨v7, w7, hr7, hrow7, ht7⟩ := happ
        exact oper_append rfl e24 e28 hr7 (hK _ _ hrow7 ht7)
      refine Lo.run 12 rfl rfl [10] (fun y w' => RowAt w' 5 w.heap.size y (Bt.four n ++ s.1)) (by kernel_rfl) (fun x w w' h hR => ?_) (fun _ _ h => h) (fun u w1 hR hF => ?_) ?_
      · exact h.kept hR (by simp)
      · obtain ⟨h10, -⟩ := hF
        refine ⟨rfl, fun a ha K hK => ?_⟩
        have e29 : a.tmps.getD 29 undef = u 10 := ha 29
        have h10 := (show (fun y w' => RowAt w' 5 w.heap.size y (Bt.four n ++ s.1)) (u 10) w1 from h10)
        dsimp only at h10
        clear ha
        go_simp
        refine hK _ _ ?_ (Turn.refl _ _)
        exact h10
      apply Lo.runx 13 rfl rfl [] (by kernel_rfl) (Turn.refl _)
      apply Exists.intro; apply And.intro
      · intro u w1 hR hF
        clear hF
        refine ⟨rfl, fun a ha K hK => ?_⟩
        clear ha
        go_simp
        refine hK _ ?_; rfl
      refine Lo.done [11, 12] (fun u w1 hRd hSd hF => ?_)
      clear hSd
      obtain ⟨f11, f12, -⟩ := hF
      have d11 := (show (fun y w' => RowAt w' 5 w.heap.size y (Bt.four n ++ s.1)) (u 11) w1 from f11)
      dsimp only at d11
      have d12 : u 12 = _ := f12
      clear f11 f12
      simp only [putFrom, Act.put, List.setIfInBounds_toArray, List.set_cons_succ, List.set_cons_zero, Nat.zero_add, Nat.reduceAdd, d12]
      have ht1 := ((Turn.refl [] w).drew).same hRd
      have HT1 := hide ht1
      have HD := hide d11
      clear ht1 hRd d11
      go_wp2
      go_ret2
      exact ⟨u 11, by rw [HP2.out]; rfl, by rw [HP2.out]; exact HD.out.low hbase, HT1.out⟩
  · have hb1 : (er == 0) = false := by simpa using he
    have hb2 : (er != 0) = true := by simp [he]
    have hp : rF s = ([], er) := by unfold rF; rw [if_pos (by rw [← her]; exact he), her]
    have HP := hide hp
    have hc1 : ∀ Z, Turn [] w Z → Z.cell? ⟨wb, 1, none⟩ = some (.int .i64 er) := fun Z hZ => by rw [(HC.out Z hZ).2, ← HER.out]
    have HC1 := hide hc1
    clear hp her hc1 he
    go_enter Tryd.func44, Tryd.ntmps44
    go_wp2
    refine wp_region_loose (Turn []) (by kernel_rfl) (by kernel_rfl) (by kernel_rfl) (by kernel_rfl) rfl (Turn.refl _) (fun _ _ _ h k => h.same k) ?_
    apply Lo.runx 1 rfl rfl [] (by kernel_rfl) (Turn.refl _)
    apply Exists.intro; apply And.intro
    · intro u w1 hR hF
      clear hF
      refine ⟨rfl, fun a ha K hK => ?_⟩
      have e0 := ha 0
      conv at e0 => rhs; whnf
      clear ha
      go_simp
      refine hK _ ?_; rfl
    apply Lo.runx 2 rfl rfl [0] (by kernel_rfl) (Turn.refl _)
    apply Exists.intro; apply And.intro
    · intro u w1 hR hF
      obtain ⟨h0, -⟩ := hF
      refine ⟨rfl, fun a ha K hK => ?_⟩
      have e9 := (ha 9).trans h0
      clear ha h0
      go_simp
      refine hK _ ?_; rfl
    apply Lo.runx 3 rfl rfl [1] (by kernel_rfl) (Turn.refl _)
    apply Exists.intro; apply And.intro
    · intro u w1 hR hF
      obtain ⟨h1, -⟩ := hF
      refine ⟨rfl, fun a ha K hK => ?_⟩
      have e10 := (ha 10).trans h1
      clear ha h1
      go_simp
      refine hK _ ?_; rfl
    apply Lo.runx 4 rfl rfl [2] (by kernel_rfl) (Turn.refl _)
    apply Exists.intro; apply And.intro
    · intro u w1 hR hF
      obtain ⟨h2, -⟩ := hF
      refine ⟨rfl, fun a ha K hK => ?_⟩
      have e11 := (ha 11).trans h2
      clear ha h2
      have c1 := HC1.out w1 (((Turn.refl [] _).drew).same hR)
      go_simp
      refine hK _ ?_; rfl
    apply Lo.runx 5 rfl rfl [] (by kernel_rfl) (Turn.refl _)
    apply Exists.intro; apply And.intro
    · intro u w1 hR hF
      clear hF
      refine ⟨rfl, fun a ha K hK => ?_⟩
      clear ha
      go_simp
      refine hK _ ?_; rfl
    apply Lo.runx 6 rfl rfl [3] (by kernel_rfl) (Turn.refl _)
    apply Exists.intro; apply And.intro
    · intro u w1 hR hF
      obtain ⟨h3, -⟩ := hF
      refine ⟨rfl, fun a ha K hK => ?_⟩
      have e12 := (ha 12).trans h3
      clear ha h3
      go_simp
      refine hK _ ?_; rfl
    refine Lo.done [4, 5] (fun u w1 hRd hSd hF => ?_)
    clear hSd
    obtain ⟨f4, f5, -⟩ := hF
    have d4 : u 4 = _ := f4
    have d5 : u 5 = _ := f5
    clear f4 f5
    simp only [putFrom, Act.put, List.setIfInBounds_toArray, List.set_cons_succ, List.set_cons_zero, Nat.zero_add, Nat.reduceAdd, d4, d5]
    have HT := hide (((Turn.refl [] w).drew).same hRd)
    clear hRd
    go_wp2
    go_ret2
    refine ⟨.slice none 0 0, ?_, .inl ⟨rfl, by rw [HP.out]⟩, HT.out⟩
    rw [HP.out]
    rfl
end Go.Proofs.YtodadoaindfecaaDoor.Wi
