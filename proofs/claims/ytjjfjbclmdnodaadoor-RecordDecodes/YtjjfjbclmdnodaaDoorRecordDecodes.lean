/- For every row of bytes, the law RecordDecodes answers true: of at most 8000 bytes, the batch that is read, its length, or why there is none, are what the document says; longer ones are not asked. The package-level variable errors.errorType starts as the program's text lays it (the card ties it). -/
import Derived.Test.YtjjfjbclmdnodaaDoorCards
import Derived.Test.YtjjfjbclmdnodaaDoorTie
import Derived.Test.YtjjfjbclmdnodaaDoorDoor
import Derived.SevenTiedAt
import Derived.Test.YtjjfjbclmdnodaaDoorOpB
import Derived.Lib.Strings
namespace Go.Proofs.YtjjfjbclmdnodaaDoor.recordDecodes
open Go.ChangeShapes Go.WideShapes Go.ChangeAt Go.RowKit
set_option linter.unusedVariables false
set_option linter.unusedSimpArgs false
set_option maxHeartbeats 2000000
set_option maxRecDepth 100000

theorem walk {H : Type} {enc : TypeId × Value → H} (W : World) (base : Nat) (v0 : Value) (d0 : DataW H) (p0 : List MemPlace) (ok0 : Value.okWide Tryd.prog W .any base 35 v0) (h0 : DataW.Trod enc Tryd.prog W 0 (fun _ => true) true 35 v0 d0 p0)
    (hsz : (DataW.weightsEach Tryd.prog (Tryd.f6.params.toList ++ Rows.recordDecodesSpec.plain.varTypes Tryd.prog) ([d0] ++ [])).all (· ≤ reachBytes) = true) (hL : As.ErrT W) :
    Calls Tryd.prog 6 #[v0] W fun e w' => e = .returned (.bool true) ∧ Below W.heap.size W w' := by
  obtain ⟨b, hx⟩ := open_bytes ok0 h0
  clear ok0 h0 hsz
  have HX := hide hx
  have HG := hide hL
  obtain ⟨a, c, rfl, hlc, hcm, hc⟩ := hx.form
  clear hx hc hL
  by_cases hl : 8000 < b.length
  · go_enter Tryd.func6, Tryd.ntmps6
    go_wp2
    go_ret
    exact ⟨rfl, Below.refl _ _⟩
  · have hl' : ¬ (8000 < (b.length : Int)) := by omega
    obtain ⟨x, n, er, hd⟩ : ∃ x n er, dec b = (x, n, er) := ⟨_, _, _, rfl⟩
    have HREF := hide (fun Z hZ => refDec_any Z _ b (HX.out.still hZ) (by omega))
    have HDEC := hide (fun Z hZ => dec_any Z _ b (HX.out.still hZ) (by omega))
    rw [hd] at HREF HDEC
    simp only at HREF HDEC
    clear hd
    go_enter Tryd.func6, Tryd.ntmps6
    go_wp2_with fail
    refine (HREF.out W (Turn.refl _ _)).mono ?_
    rintro e w1 ⟨s1, rfl, hr1, ht1⟩
    obtain ⟨a1, q1, rfl, -, -, -, -⟩ := hr1.form
    have HT1 := hide ht1
    have HR1 := hide hr1
    clear ht1 hr1
    go_wp2_with fail
    refine (HDEC.out _ (HT1.out.alloc _)).mono ?_
    rintro e w2 ⟨s2, rfl, hr2, ht2⟩
    obtain ⟨a2, q2, rfl, -, -, -, -⟩ := hr2.form
    have hall : ∀ Z, Turn [] (w2.alloc (.cells #[.int .i64 x.base, .int .i64 x.fin, .slice a2 x.recs.length q2] 53)) Z → (w1.heap.size < Z.heap.size ∧ w2.heap.size < Z.heap.size) ∧
        (Z.cell? ⟨w1.heap.size, 0, none⟩ = some (.int .i64 x.base) ∧ Z.cell? ⟨w1.heap.size, 1, none⟩ = some (.int .i64 x.fin) ∧ Z.cell? ⟨w1.heap.size, 2, none⟩ = some (.slice a1 x.recs.length q1)) ∧
        (Z.cell? ⟨w2.heap.size, 0, none⟩ = some (.int .i64 x.base) ∧ Z.cell? ⟨w2.heap.size, 1, none⟩ = some (.int .i64 x.fin) ∧ Z.cell? ⟨w2.heap.size, 2, none⟩ = some (.slice a2 x.recs.length q2)) ∧
        RecsAt Z (.slice a1 x.recs.length q1) x.recs ∧ RecsAt Z (.slice a2 x.recs.length q2) x.recs ∧ As.ErrT Z ∧ Turn [] W Z := by
      intro Z hZ
      have g2 := hZ.heap (heap_new w2 _) (by simp)
      have t2 : Turn [] w2 Z := ((Turn.refl [] w2).alloc _).same hZ
      have t1 : Turn [] (w1.alloc (.cells #[.int .i64 x.base, .int .i64 x.fin, .slice a1 x.recs.length q1] 53)) Z := ht2.same t2
      have g1 := t1.heap (heap_new w1 _) (by simp)
      have t0 : Turn [] W Z := HT1.out.same (((Turn.refl [] w1).alloc _).same t1)
      exact ⟨⟨lt_of_heap g1, lt_of_heap g2⟩, ⟨by simpa using cell_of g1 0, by simpa using cell_of g1 1, by simpa using cell_of g1 2⟩, ⟨by simpa using cell_of g2 0, by simpa using cell_of g2 1, by simpa using cell_of g2 2⟩,
        HR1.out.still (((Turn.refl [] w1).alloc _).same t1), hr2.still t2, HG.out.below t0.nil, t0⟩
    have HALL := hide hall
    clear hall hr2 ht2
    go_wp2_with fail
    refine (As.bare_any er er _ (HALL.out _ (Turn.refl _ _)).2.2.2.2.2.1).mono ?_
    rintro e w3 ⟨rfl, hb3⟩
    have ht3 := Turn.of_below hb3 []
    have HT3 := hide ht3
    obtain ⟨⟨z1, z2⟩, ⟨c0, c1, c2⟩, ⟨d0, d1, d2⟩, -, -, -, -⟩ := HALL.out _ ht3
    clear hb3 ht3
    simp only [beq_self_eq_true]
    go_wp2_with fail
    refine (same_any _ _ _ x.recs (HALL.out _ HT3.out).2.2.2.2.1 (HALL.out _ HT3.out).2.2.2.1).mono ?_
    rintro e w4 ⟨rfl, ht4⟩
    have HT4 := hide ((HALL.out _ HT3.out).2.2.2.2.2.2.same ht4)
    clear ht4
    go_wp2
    go_ret
    exact ⟨by simp, HT4.out.nil⟩
set_option maxRecDepth 100000 in
theorem lifted (os : Os) (started : os.Started) (H : Type) (enc : TypeId × Value → H) :
    ReturnsInHanded {} Tryd.checked os 6 .any (fun w args => (Rows.recordDecodesSpec.pre enc Tryd.prog Tryd.f6 [] false w args ∧ laidMetH Tryd.prog Dr.laid w) ∧ sizedMet enc Tryd.prog Tryd.f6 (OpenSpec.ofChange Rows.recordDecodesSpec) false w args)
      (Rows.recordDecodesSpec.post enc Tryd.prog Tryd.f6 false true false false) := by
  refine returnsInHanded_of_change_and (C := Tryd.checked) (X := fun w _ => laidMetH Tryd.prog Dr.laid w) (fun _ _ _ hh h => h.of_heap hh) Dr.own started (by kernel_rfl) Tryd.func6
    (ChangeSpec.witness_at (enc := enc) (C := Tryd.checked) (os := os) (X := fun w _ => laidMetH Tryd.prog Dr.laid w) false (Dr.laidWorld os) #[.slice none 0 0] 8 rfl (by kernel_rfl) (by kernel_rfl) (by kernel_rfl) (by kernel_rfl) (by kernel_rfl) (Dr.laidWorld_met os _)) ?_
  intro W base args ds gs before hval0 hW _ hsz hL _
  have hval : ∀ (j : Nat) t v, Tryd.f6.params[j]? = some t → args[j]? = some v → Value.okWide Tryd.prog W .any base t v := hval0
  have hW' := hW
  obtain ⟨p, q, hA0, hV0, rfl, hfz, hnd⟩ := hW
  have hA : DataW.TrodAll enc Tryd.prog W 0 (fun _ => true) true Tryd.f6.params.toList args.toList ds p := hA0
  have hV : DataW.TrodVars enc Tryd.prog W (fun _ => true) [] gs q := hV0
  rw [Tryd.params6] at hA hval
  obtain ⟨v0, vs0, d0, ds0, p0, q0, hargs, rfl, rfl, h0, r0⟩ := trodAll_cons hA
  obtain ⟨rfl, rfl, rfl⟩ := trodAll_nil r0
  obtain rfl : args = #[v0] := by cases args; simp_all
  obtain ⟨rfl, rfl⟩ : gs = [] ∧ q = [] := by
    cases gs with
    | nil => exact ⟨rfl, hV⟩
    | cons g r => exact absurd hV (by intro h; cases h)
  have lt0 : ∀ x ∈ p0, x.block < W.heap.size := by obtain ⟨m, hm⟩ := h0; exact DataW.trod_lt m _ _ _ hm
  clear hA0 hval0
  refine (walk W base v0 d0 p0 (hval 0 35 v0 rfl rfl) h0 hsz (Dr.handle_of_laid hL)).mono fun e W' ⟨he, bel⟩ => ?_
  subst he
  exact ⟨_, rfl, _, _, _, [], _, [], hW', trodAll_mk1 (shut_bool Tryd.underlying4 _), (trodAll_cons_mk (Below.trod Dr.laidOut (by kernel_rfl) (of_decide_eq_true (by kernel_rfl)) h0 bel lt0) trodAll_mk0), rfl, bel.frame _, fun h => by cases h⟩

theorem over : Rows.RecordDecodesSaid :=
  OpenClaim.holds_of_wide 6 Tryd.f6 rfl rfl rfl rfl rfl rfl rfl ⟨rfl, rfl, rfl, rfl, rfl⟩ rfl rfl rfl rfl rfl (by kernel_rfl) Tryd.func6 (by kernel_rfl)
    (of_decide_eq_true (by kernel_rfl)) (by unfold Func.isWrapper; rw [if_neg (of_decide_eq_false (by kernel_rfl))]; exact ⟨rfl, rfl⟩)
    (fun os started H enc _ => lifted os started H enc)

/-- ████ THE STATEMENT ████ -/
theorem proved : Rows.RecordDecodesCardSaid :=
  Claim7.holds_tied_plain_at .later [] [.handle] true (true, "a04f45638f0e76efa6eda5c7967a950c6aedee8d44af19bdfd892ff908d2bfa3") true
    over (fun _ h => by cases h) (by kernel_rfl) (fun _ h => by cases h) recordDecodes_row_tie rfl ⟨rfl, rfl⟩ (by kernel_rfl) rfl
    (fun f fn hf hfn => by
      obtain rfl : f = 6 := Option.some.inj ((show Tryd.prog.funcNamed "conveyor/conveyorlaw.RecordDecodes" = some 6 by kernel_rfl).symm.trans hf) |>.symm
      obtain rfl : fn = Tryd.f6 := (Option.some.inj (Tryd.func6.symm.trans hfn)).symm
      refine ⟨by kernel_rfl, fun j t ht => ?_⟩
      rw [Tryd.params6] at ht
      have hin : t ∈ ([35] : List Nat) := List.mem_of_getElem? (by simpa using ht)
      exact (List.all_eq_true.1 (show ([35] : List Nat).all (fun t => Tryd.prog.wantsStandIn t == false) = true by kernel_rfl) t hin) |> beq_iff_eq.1)
    (by kernel_rfl)
end Go.Proofs.YtjjfjbclmdnodaaDoor.recordDecodes
namespace Go.Proofs.YtjjfjbclmdnodaaDoor
theorem recordDecodes_holds : Rows.RecordDecodesCardSaid := recordDecodes.proved
end Go.Proofs.YtjjfjbclmdnodaaDoor
