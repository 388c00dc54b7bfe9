/- For every batch, the law RecordChecks answers true: what is wrong first with a batch of at most 80 records is what the document says; longer ones are not asked. The package-level variable errors.errorType starts as the program's text lays it (the card ties it). -/
import Derived.Test.YtjjfjbclmdnodaaDoorCards
import Derived.Test.YtjjfjbclmdnodaaDoorTie
import Derived.Test.YtjjfjbclmdnodaaDoorDoor
import Derived.SevenTiedAt
import Derived.Test.YtjjfjbclmdnodaaDoorChkR
import Derived.ChangeShapes
namespace Go.Proofs.YtjjfjbclmdnodaaDoor.recordChecks
open Go.ChangeShapes Go.WideShapes Go.ChangeAt Go.RowKit
set_option linter.unusedVariables false
set_option linter.unusedSimpArgs false
set_option maxHeartbeats 1000000
set_option maxRecDepth 100000

theorem walk {H : Type} {enc : TypeId × Value → H} (W : World) (base : Nat) (v0 : Value) (d0 : DataW H) (p0 : List MemPlace) (ok0 : Value.okWide Tryd.prog W .any base 53 v0) (h0 : DataW.Trod enc Tryd.prog W 0 (fun _ => true) true 53 v0 d0 p0)
    (hsz : (DataW.weightsEach Tryd.prog (Tryd.f4.params.toList ++ Rows.recordChecksSpec.plain.varTypes Tryd.prog) ([d0] ++ [])).all (· ≤ reachBytes) = true) (hL : As.ErrT W) :
    Calls Tryd.prog 4 #[v0] W fun e w' => e = .returned (.bool true) ∧ Below W.heap.size W w' := by
  obtain ⟨x, hx⟩ := open_bat ok0 h0
  clear ok0 h0 hsz
  have HX := hide hx
  have HG := hide hL
  obtain ⟨sv, rfl, hr, b1, b2, f1, f2⟩ := hx
  obtain ⟨a, c, rfl, hlc, hcm, hn0, hp⟩ := hr.form
  clear hr hp hn0 hL
  have hmx : maxLen = 9223372036854775807 := by simp [maxLen]
  rw [hmx] at hcm
  go_enter Tryd.func4, Tryd.ntmps4
  go_wp2
  by_cases hl : 80 < x.recs.length
  · have hd : decide (80 < (x.recs.length : Int)) = true := by simp; omega
    refine wp_region_loose (fun a b => a = b) (by kernel_rfl) (by kernel_rfl) (by kernel_rfl) rfl (fun _ => rfl) (fun _ _ _ h k => h.trans k) ?_
    apply Lo.runx 1 rfl [] (by kernel_rfl) (fun _ => rfl)
    apply Exists.intro; apply And.intro
    · intro u w1 hR hF
      clear hF
      subst hR
      refine ⟨rfl, fun a ha K hK => ?_⟩
      have e1 := ha 1
      conv at e1 => rhs; whnf
      clear ha
      go_simp
      refine hK _ ?_; rfl
    apply Lo.runx 2 rfl [0] (by kernel_rfl) (fun _ => rfl)
    apply Exists.intro; apply And.intro
    · intro u w1 hR hF
      obtain ⟨h0, -⟩ := hF
      subst hR
      refine ⟨rfl, fun a ha K hK => ?_⟩
      have e3 := (ha 3).trans h0
      clear ha h0
      go_simp
      refine hK _ ?_; rfl
    apply Lo.runx 3 rfl [1] (by kernel_rfl) (fun _ => rfl)
    apply Exists.intro; apply And.intro
    · intro u w1 hR hF
      obtain ⟨h1, -⟩ := hF
      subst hR
      refine ⟨rfl, fun a ha K hK => ?_⟩
      have e4 := (ha 4).trans h1
      clear ha h1
      go_simp
      refine hK _ ?_; rfl
    apply Lo.runx 4 rfl [2] (by kernel_rfl) (fun _ => rfl)
    apply Exists.intro; apply And.intro
    · intro u w1 hR hF
      obtain ⟨h2, -⟩ := hF
      subst hR
      refine ⟨rfl, fun a ha K hK => ?_⟩
      have e5 := (ha 5).trans h2
      clear ha h2
      go_simp
      refine hK _ ?_; rfl
    apply Lo.runx 5 rfl [3] (by kernel_rfl) (fun _ => rfl)
    apply Exists.intro; apply And.intro
    · intro u w1 hR hF
      obtain ⟨h3, -⟩ := hF
      subst hR
      refine ⟨rfl, fun a ha K hK => ?_⟩
      have e6 := (ha 6).trans h3
      clear ha h3
      go_simp
      refine hK _ ?_; rfl
    refine Lo.pass 6 rfl [4] (by kernel_rfl) (fun u w1 hR hF => ?_) ?_
    · exact .inl ⟨true, hF.1, rfl⟩
    refine Lo.pass 7 rfl [4] (by kernel_rfl) (fun u w1 hR hF => ?_) ?_
    · exact .inl ⟨true, hF.1, rfl⟩
    refine Lo.pass 8 rfl [4] (by kernel_rfl) (fun u w1 hR hF => ?_) ?_
    · exact .inl ⟨true, hF.1, rfl⟩
    refine Lo.pass 9 rfl [4] (by kernel_rfl) (fun u w1 hR hF => ?_) ?_
    · exact .inl ⟨true, hF.1, rfl⟩
    refine Lo.pass 10 rfl [4] (by kernel_rfl) (fun u w1 hR hF => ?_) ?_
    · exact .inl ⟨true, hF.1, rfl⟩
    apply Lo.runx 11 rfl [4, 9] (by kernel_rfl) (fun _ => rfl)
    apply Exists.intro; apply And.intro
    · intro u w1 hR hF
      obtain ⟨h4, h9, -⟩ := hF
      subst hR
      refine ⟨rfl, fun a ha K hK => ?_⟩
      have e7 := (ha 7).trans h4
      have e12 := (ha 12).trans h9
      clear ha h4 h9
      go_simp
      refine hK _ ?_; rfl
    apply Lo.runx 12 rfl [10] (by kernel_rfl) (fun _ => rfl)
    apply Exists.intro; apply And.intro
    · intro u w1 hR hF
      obtain ⟨h10, -⟩ := hF
      subst hR
      refine ⟨rfl, fun a ha K hK => ?_⟩
      have e13 := (ha 13).trans h10
      clear ha h10
      go_simp
      refine hK _ ?_; rfl
    refine Lo.done [11] (fun u w1 hRd hF => ?_)
    obtain ⟨f11, -⟩ := hF
    subst hRd
    have d11 : u 11 = _ := f11
    clear f11
    simp only [putFrom, Act.put, List.setIfInBounds_toArray, List.set_cons_succ, List.set_cons_zero, Nat.zero_add, Nat.reduceAdd, d11]
    clear d11
    go_wp2
    go_ret
    exact ⟨rfl, ((Turn.refl [] W).alloc _).drew.nil⟩
  · have hc : ∀ Z, Turn [] (W.alloc (.cells #[.int .i64 x.base, .int .i64 x.fin, .slice a x.recs.length c] 53)) Z →
        Z.cell? ⟨W.heap.size, 0, none⟩ = some (.int .i64 x.base) ∧ Z.cell? ⟨W.heap.size, 1, none⟩ = some (.int .i64 x.fin) ∧ Z.cell? ⟨W.heap.size, 2, none⟩ = some (.slice a x.recs.length c) := by
      intro Z hZ
      have hb := hZ.heap (heap_new W _) (by simp)
      exact ⟨by simpa using cell_of hb 0, by simpa using cell_of hb 1, by simpa using cell_of hb 2⟩
    have HC := hide hc
    clear hc
    have hd : decide (80 < (x.recs.length : Int)) = false := by simp; omega
    have hb : ∀ Z, Turn [] (W.alloc (.cells #[.int .i64 x.base, .int .i64 x.fin, .slice a x.recs.length c] 53)).drew Z → BatAt Z (.agg #[.int .i64 x.base, .int .i64 x.fin, .slice a x.recs.length c]) x ∧ As.ErrT Z ∧ Turn [] W Z := by
      intro Z hZ
      have ht : Turn [] W Z := ((Turn.refl [] W).alloc _).drew.same hZ
      obtain ⟨sv, e, hr, r⟩ := HX.out
      exact ⟨⟨sv, e, hr.still ht, r⟩, HG.out.below ht.nil, ht⟩
    have HB := hide hb
    clear hb
    refine wp_region_loose (Turn []) (by kernel_rfl) (by kernel_rfl) (by kernel_rfl) rfl (Turn.refl _) (fun _ _ _ h k => h.same k) ?_
    apply Lo.runx 1 rfl [] (by kernel_rfl) (Turn.refl _)
    apply Exists.intro; apply And.intro
    · intro u w1 hR hF
      clear hF
      refine ⟨rfl, fun a ha K hK => ?_⟩
      have e1 := ha 1
      conv at e1 => rhs; whnf
      clear ha
      go_simp
      refine hK _ ?_; rfl
    apply Lo.runx 2 rfl [0] (by kernel_rfl) (Turn.refl _)
    apply Exists.intro; apply And.intro
    · intro u w1 hR hF
      obtain ⟨h0, -⟩ := hF
      refine ⟨rfl, fun a ha K hK => ?_⟩
      have e3 := (ha 3).trans h0
      clear ha h0
      obtain ⟨c0, c1, c2⟩ := HC.out w1 ((Turn.refl [] _).drew.same hR)
      go_simp
      refine hK _ ?_; rfl
    apply Lo.runx 3 rfl [1] (by kernel_rfl) (Turn.refl _)
    apply Exists.intro; apply And.intro
    · intro u w1 hR hF
      obtain ⟨h1, -⟩ := hF
      refine ⟨rfl, fun a ha K hK => ?_⟩
      have e4 := (ha 4).trans h1
      clear ha h1
      go_simp
      refine hK _ ?_; rfl
    apply Lo.runx 4 rfl [2] (by kernel_rfl) (Turn.refl _)
    apply Exists.intro; apply And.intro
    · intro u w1 hR hF
      obtain ⟨h2, -⟩ := hF
      refine ⟨rfl, fun a ha K hK => ?_⟩
      have e5 := (ha 5).trans h2
      clear ha h2
      go_simp
      refine hK _ ?_; rfl
    apply Lo.runx 5 rfl [3] (by kernel_rfl) (Turn.refl _)
    apply Exists.intro; apply And.intro
    · intro u w1 hR hF
      obtain ⟨h3, -⟩ := hF
      refine ⟨rfl, fun a ha K hK => ?_⟩
      have e6 := (ha 6).trans h3
      clear ha h3
      go_simp
      refine hK _ ?_; rfl
    apply Lo.runx 6 rfl [4] (by kernel_rfl) (Turn.refl _)
    apply Exists.intro; apply And.intro
    · intro u w1 hR hF
      obtain ⟨h4, -⟩ := hF
      refine ⟨.inl ⟨false, h4, rfl⟩, fun a ha K hK => ?_⟩
      have e1 := ha 1
      conv at e1 => rhs; whnf
      clear ha h4
      obtain ⟨c0, c1, c2⟩ := HC.out w1 ((Turn.refl [] _).drew.same hR)
      go_simp
      refine hK _ ?_; rfl
    refine Lo.run 7 rfl [4, 5] (fun x' w' => x' = As.errN (Bt.chk x)) (by kernel_rfl) (fun x w w' h hR => ?_) (fun u w1 hR hF => ?_) ?_
    · exact h
    · obtain ⟨h4, h5, -⟩ := hF
      refine ⟨.inl ⟨false, h4, rfl⟩, fun a ha K hK => ?_⟩
      have e8 := (ha 8).trans h5
      clear ha h4 h5
      go_simp
      refine (chk_any _ _ x (HB.out w1 hR).1).mono ?_
      rintro e w2 ⟨rfl, ht2⟩
      exact hK _ _ rfl ht2
    apply Lo.runx 8 rfl [4] (by kernel_rfl) (Turn.refl _)
    apply Exists.intro; apply And.intro
    · intro u w1 hR hF
      obtain ⟨h4, -⟩ := hF
      refine ⟨.inl ⟨false, h4, rfl⟩, fun a ha K hK => ?_⟩
      have e1 := ha 1
      conv at e1 => rhs; whnf
      clear ha h4
      obtain ⟨c0, c1, c2⟩ := HC.out w1 ((Turn.refl [] _).drew.same hR)
      go_simp
      refine hK _ ?_; rfl
    refine Lo.run 9 rfl [4, 7] (fun x' w' => x' = .int .i64 (Bt.chk x)) (by kernel_rfl) (fun x w w' h hR => ?_) (fun u w1 hR hF => ?_) ?_
    · exact h
    · obtain ⟨h4, h7, -⟩ := hF
      refine ⟨.inl ⟨false, h4, rfl⟩, fun a ha K hK => ?_⟩
      have e10 := (ha 10).trans h7
      clear ha h4 h7
      go_simp
      refine (refChk_any _ _ x (HB.out w1 hR).1).mono ?_
      rintro e w2 ⟨rfl, ht2⟩
      exact hK _ _ rfl ht2
    refine Lo.run 10 rfl [4, 6, 8] (fun x' w' => x' = .bool true) (by kernel_rfl) (fun x w w' h hR => ?_) (fun u w1 hR hF => ?_) ?_
    · exact h
    · obtain ⟨h4, h6, h8, -⟩ := hF
      refine ⟨.inl ⟨false, h4, rfl⟩, fun a ha K hK => ?_⟩
      have e9 : a.tmps.getD 9 undef = u 6 := ha 9
      have e11 : a.tmps.getD 11 undef = u 8 := ha 11
      have h6 := (show (fun x' w' => x' = As.errN (Bt.chk x)) (u 6) w1 from h6)
      dsimp only at h6
      have h8 := (show (fun x' w' => x' = .int .i64 (Bt.chk x)) (u 8) w1 from h8)
      dsimp only at h8
      clear ha h4
      go_simp
      refine (As.bare_any (Bt.chk x) (Bt.chk x) _ (HB.out w1 hR).2.1).mono ?_
      rintro e w2 ⟨rfl, ht2⟩
      exact hK _ _ (by simp) (Turn.of_below ht2 _)
    apply Lo.runx 11 rfl [4, 9] (by kernel_rfl) (Turn.refl _)
    apply Exists.intro; apply And.intro
    · intro u w1 hR hF
      obtain ⟨h4, h9, -⟩ := hF
      refine ⟨rfl, fun a ha K hK => ?_⟩
      have e7 := (ha 7).trans h4
      have e12 : a.tmps.getD 12 undef = u 9 := ha 12
      have h9 := (show (fun x' w' => x' = .bool true) (u 9) w1 from h9)
      dsimp only at h9
      clear ha h4
      go_simp
      refine hK _ ?_; rfl
    apply Lo.runx 12 rfl [10] (by kernel_rfl) (Turn.refl _)
    apply Exists.intro; apply And.intro
    · intro u w1 hR hF
      obtain ⟨h10, -⟩ := hF
      refine ⟨rfl, fun a ha K hK => ?_⟩
      have e13 := (ha 13).trans h10
      clear ha h10
      go_simp
      refine hK _ ?_; rfl
    refine Lo.done [11] (fun u w1 hRd hF => ?_)
    obtain ⟨f11, -⟩ := hF
    have d11 : u 11 = _ := f11
    clear f11
    simp only [putFrom, Act.put, List.setIfInBounds_toArray, List.set_cons_succ, List.set_cons_zero, Nat.zero_add, Nat.reduceAdd, d11]
    have HT2 := hide (HB.out _ hRd).2.2
    clear hRd d11
    go_wp2
    go_ret
    exact ⟨rfl, HT2.out.nil⟩
set_option maxRecDepth 100000 in
theorem lifted (os : Os) (started : os.Started) (H : Type) (enc : TypeId × Value → H) :
    ReturnsInHanded {} Tryd.checked os 4 .any (fun w args => (Rows.recordChecksSpec.pre enc Tryd.prog Tryd.f4 [] false w args ∧ laidMetH Tryd.prog Dr.laid w) ∧ sizedMet enc Tryd.prog Tryd.f4 (OpenSpec.ofChange Rows.recordChecksSpec) false w args)
      (Rows.recordChecksSpec.post enc Tryd.prog Tryd.f4 false true false false) := by
  refine returnsInHanded_of_change_and (C := Tryd.checked) (X := fun w _ => laidMetH Tryd.prog Dr.laid w) (fun _ _ _ hh h => h.of_heap hh) Dr.own started (by kernel_rfl) Tryd.func4
    (ChangeSpec.witness_at (enc := enc) (C := Tryd.checked) (os := os) (X := fun w _ => laidMetH Tryd.prog Dr.laid w) false (Dr.laidWorld os) #[.agg #[.int .i64 0, .int .i64 0, .slice none 0 0]] 8 rfl (by kernel_rfl) (by kernel_rfl) (by kernel_rfl) (by kernel_rfl) (by kernel_rfl) (Dr.laidWorld_met os _)) ?_
  intro W base args ds gs before hval0 hW _ hsz hL _
  have hval : ∀ (j : Nat) t v, Tryd.f4.params[j]? = some t → args[j]? = some v → Value.okWide Tryd.prog W .any base t v := hval0
  have hW' := hW
  obtain ⟨p, q, hA0, hV0, rfl, hfz, hnd⟩ := hW
  have hA : DataW.TrodAll enc Tryd.prog W 0 (fun _ => true) true Tryd.f4.params.toList args.toList ds p := hA0
  have hV : DataW.TrodVars enc Tryd.prog W (fun _ => true) [] gs q := hV0
  rw [Tryd.params4] at hA hval
  obtain ⟨v0, vs0, d0, ds0, p0, q0, hargs, rfl, rfl, h0, r0⟩ := trodAll_cons hA
  obtain ⟨rfl, rfl, rfl⟩ := trodAll_nil r0
  obtain rfl : args = #[v0] := by cases args; simp_all
  obtain ⟨rfl, rfl⟩ : gs = [] ∧ q = [] := by
    cases gs with
    | nil => exact ⟨rfl, hV⟩
    | cons g r => exact absurd hV (by intro h; cases h)
  have lt0 : ∀ x ∈ p0, x.block < W.heap.size := by obtain ⟨m, hm⟩ := h0; exact DataW.trod_lt m _ _ _ hm
  clear hA0 hval0
  refine (walk W base v0 d0 p0 (hval 0 53 v0 rfl rfl) h0 hsz (Dr.handle_of_laid hL)).mono fun e W' ⟨he, bel⟩ => ?_
  subst he
  exact ⟨_, rfl, _, _, _, [], _, [], hW', trodAll_mk1 (shut_bool Tryd.underlying4 _), (trodAll_cons_mk (Below.trod Dr.laidOut (by kernel_rfl) (of_decide_eq_true (by kernel_rfl)) h0 bel lt0) trodAll_mk0), rfl, bel.frame _, fun h => by cases h⟩

theorem over : Rows.RecordChecksSaid :=
  OpenClaim.holds_of_wide 4 Tryd.f4 rfl rfl rfl rfl rfl rfl rfl ⟨rfl, rfl, rfl, rfl, rfl⟩ rfl rfl rfl rfl rfl (by kernel_rfl) Tryd.func4 (by kernel_rfl)
    (of_decide_eq_true (by kernel_rfl)) (by unfold Func.isWrapper; rw [if_neg (of_decide_eq_false (by kernel_rfl))]; exact ⟨rfl, rfl⟩)
    (fun os started H enc _ => lifted os started H enc)

/-- ████ THE STATEMENT ████ -/
theorem proved : Rows.RecordChecksCardSaid :=
  Claim7.holds_tied_plain_at .later [] [.handle] true (true, "a04f45638f0e76efa6eda5c7967a950c6aedee8d44af19bdfd892ff908d2bfa3") true
    over (fun _ h => by cases h) (by kernel_rfl) (fun _ h => by cases h) recordChecks_row_tie rfl ⟨rfl, rfl⟩ (by kernel_rfl) rfl
    (fun f fn hf hfn => by
      obtain rfl : f = 4 := Option.some.inj ((show Tryd.prog.funcNamed "conveyor/conveyorlaw.RecordChecks" = some 4 by kernel_rfl).symm.trans hf) |>.symm
      obtain rfl : fn = Tryd.f4 := (Option.some.inj (Tryd.func4.symm.trans hfn)).symm
      refine ⟨by kernel_rfl, fun j t ht => ?_⟩
      rw [Tryd.params4] at ht
      have hin : t ∈ ([53] : List Nat) := List.mem_of_getElem? (by simpa using ht)
      exact (List.all_eq_true.1 (show ([53] : List Nat).all (fun t => Tryd.prog.wantsStandIn t == false) = true by kernel_rfl) t hin) |> beq_iff_eq.1)
    (by kernel_rfl)
end Go.Proofs.YtjjfjbclmdnodaaDoor.recordChecks
namespace Go.Proofs.YtjjfjbclmdnodaaDoor
theorem recordChecks_holds : Rows.RecordChecksCardSaid := recordChecks.proved
end Go.Proofs.YtjjfjbclmdnodaaDoor
