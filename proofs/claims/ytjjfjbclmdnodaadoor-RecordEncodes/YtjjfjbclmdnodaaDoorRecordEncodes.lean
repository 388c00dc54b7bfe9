/- For every batch, the law RecordEncodes answers true: the bytes of a batch of at most 80 records, or why there are none, are what the document says; longer ones are not asked. The package-level variable errors.errorType starts as the program's text lays it (the card ties it). -/
import Derived.Test.YtjjfjbclmdnodaaDoorCards
import Derived.Test.YtjjfjbclmdnodaaDoorTie
import Derived.Test.YtjjfjbclmdnodaaDoorDoor
import Derived.SevenTiedAt
import Derived.Test.YtjjfjbclmdnodaaDoorEncR
import Derived.Lib.Strings
namespace Go.Proofs.YtjjfjbclmdnodaaDoor.recordEncodes
open Go.ChangeShapes Go.WideShapes Go.ChangeAt Go.RowKit
set_option linter.unusedVariables false
set_option linter.unusedSimpArgs false
set_option maxHeartbeats 2000000
set_option maxRecDepth 100000

theorem walk {H : Type} {enc : TypeId × Value → H} (W : World) (base : Nat) (v0 : Value) (d0 : DataW H) (p0 : List MemPlace) (ok0 : Value.okWide Tryd.prog W .any base 53 v0) (h0 : DataW.Trod enc Tryd.prog W 0 (fun _ => true) true 53 v0 d0 p0)
    (hsz : (DataW.weightsEach Tryd.prog (Tryd.f5.params.toList ++ Rows.recordEncodesSpec.plain.varTypes Tryd.prog) ([d0] ++ [])).all (· ≤ reachBytes) = true) (hL : As.ErrT W) :
    Calls Tryd.prog 5 #[v0] W fun e w' => e = .returned (.bool true) ∧ Below W.heap.size W w' := by
  obtain ⟨x, hx⟩ := open_bat ok0 h0
  clear ok0 h0 hsz
  have HX := hide hx
  have HG := hide hL
  obtain ⟨sv, rfl, hr, b1, b2, f1, f2⟩ := hx
  obtain ⟨a, c, rfl, hlc, hcm, hn0, hp⟩ := hr.form
  clear hr hp hn0 hL
  have hmx : maxLen = 9223372036854775807 := by simp [maxLen]
  rw [hmx] at hcm
  by_cases hl : 80 < x.recs.length
  · go_enter Tryd.func5, Tryd.ntmps5
    go_wp2
    go_ret
    exact ⟨rfl, ((Turn.refl [] W).alloc _).nil⟩
  · have hall : ∀ Z, Turn [] (W.alloc (.cells #[.int .i64 x.base, .int .i64 x.fin, .slice a x.recs.length c] 53)) Z → (W.heap.size < Z.heap.size ∧
        Z.cell? ⟨W.heap.size, 0, none⟩ = some (.int .i64 x.base) ∧ Z.cell? ⟨W.heap.size, 1, none⟩ = some (.int .i64 x.fin) ∧ Z.cell? ⟨W.heap.size, 2, none⟩ = some (.slice a x.recs.length c)) ∧ BatAt Z (.agg #[.int .i64 x.base, .int .i64 x.fin, .slice a x.recs.length c]) x ∧ As.ErrT Z ∧ Turn [] W Z := by
      intro Z hZ
      have hb := hZ.heap (heap_new W _) (by simp)
      have ht : Turn [] W Z := ((Turn.refl [] W).alloc _).same hZ
      have hs := hZ.size
      obtain ⟨sv, e, hr, r⟩ := HX.out
      exact ⟨⟨by simp at hs; omega, by simpa using cell_of hb 0, by simpa using cell_of hb 1, by simpa using cell_of hb 2⟩, ⟨sv, e, hr.still ht, r⟩, HG.out.below ht.nil, ht⟩
    have HALL := hide hall
    clear hall
    go_enter Tryd.func5, Tryd.ntmps5
    go_wp2_with fail
    refine (refEnc_any _ _ x (HALL.out _ (Turn.refl _ _)).2.1).mono ?_
    rintro e w1 ⟨v1, rfl, ht1, hr1⟩
    have HT1 := hide ht1
    have HR1 := hide hr1.bytes
    clear ht1 hr1
    obtain ⟨z1, c0, c1, c2⟩ := (HALL.out _ HT1.out).1
    go_wp2_with fail
    refine (enc_any _ _ x (HALL.out _ HT1.out).2.1).mono ?_
    rintro e w2 ⟨v2, rfl, ht2, hr2⟩
    have HT2 := hide (HT1.out.same ht2)
    have HR12 := hide (HR1.out.still ht2)
    have HR2 := hide hr2.bytes
    clear ht2 hr2 z1 c0 c1 c2
    go_wp2_with fail
    refine (As.bare_any (Bt.encErr x) (Bt.encErr x) _ (HALL.out _ HT2.out).2.2.1).mono ?_
    rintro e w3 ⟨rfl, hb3⟩
    have ht3 : Turn [] w2 w3 := Turn.of_below hb3 _
    have hc1 := (HR12.out.still ht3).conv
    have hc2 := (HR2.out.still ht3).conv
    have HT3 := hide (HALL.out _ (HT2.out.same ht3)).2.2.2
    clear hb3 ht3
    simp only [beq_self_eq_true]
    go_wp2
    go_ret
    exact ⟨by simp, HT3.out.nil⟩
set_option maxRecDepth 100000 in
theorem lifted (os : Os) (started : os.Started) (H : Type) (enc : TypeId × Value → H) :
    ReturnsInHanded {} Tryd.checked os 5 .any (fun w args => (Rows.recordEncodesSpec.pre enc Tryd.prog Tryd.f5 [] false w args ∧ laidMetH Tryd.prog Dr.laid w) ∧ sizedMet enc Tryd.prog Tryd.f5 (OpenSpec.ofChange Rows.recordEncodesSpec) false w args)
      (Rows.recordEncodesSpec.post enc Tryd.prog Tryd.f5 false true false false) := by
  refine returnsInHanded_of_change_and (C := Tryd.checked) (X := fun w _ => laidMetH Tryd.prog Dr.laid w) (fun _ _ _ hh h => h.of_heap hh) Dr.own started (by kernel_rfl) Tryd.func5
    (ChangeSpec.witness_at (enc := enc) (C := Tryd.checked) (os := os) (X := fun w _ => laidMetH Tryd.prog Dr.laid w) false (Dr.laidWorld os) #[.agg #[.int .i64 0, .int .i64 0, .slice none 0 0]] 8 rfl (by kernel_rfl) (by kernel_rfl) (by kernel_rfl) (by kernel_rfl) (by kernel_rfl) (Dr.laidWorld_met os _)) ?_
  intro W base args ds gs before hval0 hW _ hsz hL _
  have hval : ∀ (j : Nat) t v, Tryd.f5.params[j]? = some t → args[j]? = some v → Value.okWide Tryd.prog W .any base t v := hval0
  have hW' := hW
  obtain ⟨p, q, hA0, hV0, rfl, hfz, hnd⟩ := hW
  have hA : DataW.TrodAll enc Tryd.prog W 0 (fun _ => true) true Tryd.f5.params.toList args.toList ds p := hA0
  have hV : DataW.TrodVars enc Tryd.prog W (fun _ => true) [] gs q := hV0
  rw [Tryd.params5] at hA hval
  obtain ⟨v0, vs0, d0, ds0, p0, q0, hargs, rfl, rfl, h0, r0⟩ := trodAll_cons hA
  obtain ⟨rfl, rfl, rfl⟩ := trodAll_nil r0
  obtain rfl : args = #[v0] := by cases args; simp_all
  obtain ⟨rfl, rfl⟩ : gs = [] ∧ q = [] := by
    cases gs with
    | nil => exact ⟨rfl, hV⟩
    | cons g r => exact absurd hV (by intro h; cases h)
  have lt0 : ∀ x ∈ p0, x.block < W.heap.size := by obtain ⟨m, hm⟩ := h0; exact DataW.trod_lt m _ _ _ hm
  clear hA0 hval0
  refine (walk W base v0 d0 p0 (hval 0 53 v0 rfl rfl) h0 hsz (Dr.handle_of_laid hL)).mono fun e W' ⟨he, bel⟩ => ?_
  subst he
  exact ⟨_, rfl, _, _, _, [], _, [], hW', trodAll_mk1 (shut_bool Tryd.underlying4 _), (trodAll_cons_mk (Below.trod Dr.laidOut (by kernel_rfl) (of_decide_eq_true (by kernel_rfl)) h0 bel lt0) trodAll_mk0), rfl, bel.frame _, fun h => by cases h⟩

theorem over : Rows.RecordEncodesSaid :=
  OpenClaim.holds_of_wide 5 Tryd.f5 rfl rfl rfl rfl rfl rfl rfl ⟨rfl, rfl, rfl, rfl, rfl⟩ rfl rfl rfl rfl rfl (by kernel_rfl) Tryd.func5 (by kernel_rfl)
    (of_decide_eq_true (by kernel_rfl)) (by unfold Func.isWrapper; rw [if_neg (of_decide_eq_false (by kernel_rfl))]; exact ⟨rfl, rfl⟩)
    (fun os started H enc _ => lifted os started H enc)

/-- ████ THE STATEMENT ████ -/
theorem proved : Rows.RecordEncodesCardSaid :=
  Claim7.holds_tied_plain_at .later [] [.handle] true (true, "a04f45638f0e76efa6eda5c7967a950c6aedee8d44af19bdfd892ff908d2bfa3") true
    over (fun _ h => by cases h) (by kernel_rfl) (fun _ h => by cases h) recordEncodes_row_tie rfl ⟨rfl, rfl⟩ (by kernel_rfl) rfl
    (fun f fn hf hfn => by
      obtain rfl : f = 5 := Option.some.inj ((show Tryd.prog.funcNamed "conveyor/conveyorlaw.RecordEncodes" = some 5 by kernel_rfl).symm.trans hf) |>.symm
      obtain rfl : fn = Tryd.f5 := (Option.some.inj (Tryd.func5.symm.trans hfn)).symm
      refine ⟨by kernel_rfl, fun j t ht => ?_⟩
      rw [Tryd.params5] at ht
      have hin : t ∈ ([53] : List Nat) := List.mem_of_getElem? (by simpa using ht)
      exact (List.all_eq_true.1 (show ([53] : List Nat).all (fun t => Tryd.prog.wantsStandIn t == false) = true by kernel_rfl) t hin) |> beq_iff_eq.1)
    (by kernel_rfl)
end Go.Proofs.YtjjfjbclmdnodaaDoor.recordEncodes
namespace Go.Proofs.YtjjfjbclmdnodaaDoor
theorem recordEncodes_holds : Rows.RecordEncodesCardSaid := recordEncodes.proved
end Go.Proofs.YtjjfjbclmdnodaaDoor
