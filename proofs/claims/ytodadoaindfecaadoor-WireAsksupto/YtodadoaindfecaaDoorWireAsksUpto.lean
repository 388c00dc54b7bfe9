/- For every request of bulk at most 1048576, the law WireAsks answers true: its frame, or why there is none, is the document's (requests of more than 300 records are not asked). The bound: what the arguments hold is of bulk at most 1048576 (beyond it, at a topic, a key or a value of more than 2^40 bytes, the law is false: the document's own length of it is a number above MaxTime). The package-level variable errors.errorType starts as the program's text lays it (the card ties it). -/
import Derived.Test.YtodadoaindfecaaDoorCards
import Derived.Test.YtodadoaindfecaaDoorTie
import Derived.Test.YtodadoaindfecaaDoorDoor
import Derived.SevenTiedAt
import Derived.Deep.DeepHandedRow
import Derived.Test.YtodadoaindfecaaDoorWit
import Derived.Test.YtodadoaindfecaaDoorWiu
import Derived.Lib.Strings
namespace Go.Proofs.YtodadoaindfecaaDoor.wireAsksUpto
open Go.ChangeShapes Go.WideShapes Go.ChangeAt Go.RowKit
set_option linter.unusedVariables false
set_option linter.unusedSimpArgs false
set_option maxHeartbeats 4000000
set_option maxRecDepth 100000

theorem walk {H : Type} {enc : TypeId × Value → H} (W : World) (base : Nat) (v0 : Value) (d0 : DataW H) (p0 : List MemPlace) (ok0 : Value.okWide Tryd.prog W .any base 48 v0) (h0 : DataW.Trod enc Tryd.prog W 0 (fun _ => true) true 48 v0 d0 p0)
    (hk : Rows.uptoSmall H ([d0] ++ []) = true)
    (hsz : (DataW.weightsEach Tryd.prog (Tryd.f4.params.toList ++ Rows.wireAsksSpec.plain.varTypes Tryd.prog) ([d0] ++ [])).all (· ≤ reachBytes) = true) (hL : As.ErrT W) :
    Calls Tryd.prog 4 #[v0] W fun e w' => e = .returned (.bool true) ∧ Below W.heap.size W w' := by
  obtain ⟨x, rv, rfl, hrec, hok, hb1, hb2, hb3⟩ := Go.Proofs.YtodadoaindfecaaDoor.Wi.open_req ok0 h0
  have hb : Rows.uptoBulkAll ([d0] ++ []) ≤ 1048576 := of_decide_eq_true hk
  have hb' : Rows.uptoBulk d0 ≤ 1048576 := by
    simp only [List.append_nil, Rows.uptoBulkAll] at hb
    omega
  clear ok0 h0 hsz hk hb
  exact Go.Proofs.YtodadoaindfecaaDoor.Wi.wireasks_any W x rv hrec (by omega) (fun r hr => ⟨by have := (hb3 r hr).1; omega, by have := (hb3 r hr).2; omega⟩) hL
theorem reads (os : Os) {H : Type} (enc : TypeId × Value → H) : (DataW.whole enc Tryd.prog ((Dr.laidWorld os).forCall (fun _ _ => 0) ⟨#[], #[.agg #[.int .i64 0, .int .i64 0, .string .empty, .int .i64 0, .int .i64 0, .int .i64 0, .int .i64 0, .int .i64 0, .int .i64 0, .int .i64 0, .bool false, .bool false, .slice none 0 0]], []⟩).memory Tryd.f4.params.toList Rows.wireAsksSpec.vars false (#[.agg #[.int .i64 0, .int .i64 0, .string .empty, .int .i64 0, .int .i64 0, .int .i64 0, .int .i64 0, .int .i64 0, .int .i64 0, .int .i64 0, .bool false, .bool false, .slice none 0 0]] : Array Value).toList 20).map (fun x => (x.2.1.length, Rows.uptoSmall H (x.1 ++ x.2.1))) = some (0, true) := by kernel_rfl
set_option maxRecDepth 100000 in
theorem lifted (os : Os) (started : os.Started) (H : Type) (enc : TypeId × Value → H) (F : Stop.Interp) :
    ReturnsInHanded {} Tryd.checked os 4 .any ((Rows.OpenSpec.upto Rows.wireAsksSpec).preRow enc Tryd.prog Tryd.f4 Rows.wireAsksUptoRow.domain false Rows.wireAsksUptoRow.laid) (((Rows.OpenSpec.upto Rows.wireAsksSpec).at F).post enc Tryd.prog Tryd.f4 false true false false) := by
  have hrd := reads os enc
  obtain ⟨x, hx, hxk⟩ := Option.map_eq_some_iff.1 hrd
  simp only [Prod.mk.injEq] at hxk
  refine returnsInHanded_of_row (C := Tryd.checked) (s := Rows.OpenSpec.upto Rows.wireAsksSpec) Dr.own started (by kernel_rfl) Tryd.func4
    (witness_row_at (enc := enc) (C := Tryd.checked) false (Dr.laidWorld os) #[.agg #[.int .i64 0, .int .i64 0, .string .empty, .int .i64 0, .int .i64 0, .int .i64 0, .int .i64 0, .int .i64 0, .int .i64 0, .int .i64 0, .bool false, .bool false, .slice none 0 0]] rfl (by kernel_rfl) (by kernel_rfl) (by kernel_rfl)
      (OpenSpec.preRow_of_cond 20 (x := x) hx rfl (fun k hk => by cases hk; exact hxk.2) (by kernel_rfl) (Dr.laidWorld_met os _))) ?_
  intro W base args ds gs before hval0 hW _ hcond hsz hL0 _ _
  have hL : laidMetH Tryd.prog Dr.laid W := hL0
  have hval : ∀ (j : Nat) t v, Tryd.f4.params[j]? = some t → args[j]? = some v → Value.okWide Tryd.prog W .any base t v := hval0
  have hW' := hW
  obtain ⟨p, q, hA0, hV0, rfl, hfz, hnd⟩ := hW
  have hA : DataW.TrodAll enc Tryd.prog W 0 (fun _ => true) true Tryd.f4.params.toList args.toList ds p := hA0
  have hV : DataW.TrodVars enc Tryd.prog W (fun _ => true) [] gs q := hV0
  rw [Tryd.params4] at hA hval
  obtain ⟨v0, vs0, d0, ds0, p0, q0, hargs, rfl, rfl, h0, r0⟩ := trodAll_cons hA
  obtain ⟨rfl, rfl, rfl⟩ := trodAll_nil r0
  obtain rfl : args = #[v0] := by cases args; simp_all
  obtain ⟨rfl, rfl⟩ : gs = [] ∧ q = [] := by
    cases gs with
    | nil => exact ⟨rfl, hV⟩
    | cons g r => exact absurd hV (by intro h; cases h)
  have lt0 : ∀ x ∈ p0, x.block < W.heap.size := by obtain ⟨m, hm⟩ := h0; exact DataW.trod_lt m _ _ _ hm
  clear hA0 hval0
  have hk := hcond _ rfl
  refine (walk W base v0 d0 p0 (hval 0 48 v0 rfl rfl) h0 hk hsz (Dr.handle_of_laid hL)).mono fun e W' ⟨he, bel⟩ => ?_
  subst he
  exact ⟨_, rfl, _, _, _, [], _, [], hW', trodAll_mk1 (shut_bool Tryd.underlying4 _), (trodAll_cons_mk (Below.trod Dr.laidOut (by kernel_rfl) (of_decide_eq_true (by kernel_rfl)) h0 bel lt0) trodAll_mk0), rfl, bel.frame _, fun h => by cases h⟩

theorem over : Rows.WireAsksUptoSaid :=
  OpenClaim.holds_of_cond 4 Tryd.f4 rfl rfl rfl rfl rfl rfl rfl ⟨rfl, rfl, rfl, rfl, rfl⟩ rfl rfl rfl rfl rfl (by kernel_rfl) Tryd.func4 (by kernel_rfl)
    (of_decide_eq_true (by kernel_rfl)) (by unfold Func.isWrapper; rw [if_neg (of_decide_eq_false (by kernel_rfl))]; exact ⟨rfl, rfl⟩)
    (fun os started H enc _ F => by rw [OpenClaim.pre_eq_preRow]; exact lifted os started H enc F)

/-- ████ THE STATEMENT ████ -/
theorem proved : Rows.WireAsksUptoCardSaid :=
  Claim7.holds_tied_plain_at .later [] [.handle] true (true, "0537f0b81eb9868a35f988d8b1e3d9a7f0ecc1faee84093b8ad32c7c141403ca") true
    over (fun _ h => by cases h) (by kernel_rfl) (fun _ h => by cases h) wireAsksUpto_row_tie rfl ⟨rfl, rfl⟩ (by kernel_rfl) rfl
    (fun f fn hf hfn => by
      obtain rfl : f = 4 := Option.some.inj ((show Tryd.prog.funcNamed "conveyor/conveyorlaw.WireAsks" = some 4 by kernel_rfl).symm.trans hf) |>.symm
      obtain rfl : fn = Tryd.f4 := (Option.some.inj (Tryd.func4.symm.trans hfn)).symm
      refine ⟨by kernel_rfl, fun j t ht => ?_⟩
      rw [Tryd.params4] at ht
      have hin : t ∈ ([48] : List Nat) := List.mem_of_getElem? (by simpa using ht)
      exact (List.all_eq_true.1 (show ([48] : List Nat).all (fun t => Tryd.prog.wantsStandIn t == false) = true by kernel_rfl) t hin) |> beq_iff_eq.1)
    (by kernel_rfl)
end Go.Proofs.YtodadoaindfecaaDoor.wireAsksUpto
namespace Go.Proofs.YtodadoaindfecaaDoor
theorem wireAsksUpto_holds : Rows.WireAsksUptoCardSaid := wireAsksUpto.proved
end Go.Proofs.YtodadoaindfecaaDoor
