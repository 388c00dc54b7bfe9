/- conveyorlaw.DiskPlays, walked. -/
import Derived.Test.YtlcgcckllecjpaaDoorDPlay0
import Derived.Test.YtlcgcckllecjpaaDoorDObs
import Derived.Test.YtlcgcckllecjpaaDoorOpD
import Derived.Test.YtlcgcckllecjpaaDoorBare
import Derived.Test.YtlcgcckllecjpaaDoorClone
import Derived.Deep.CutBlock
import Derived.Deep.DeepCutAuto
namespace Go.Proofs.YtlcgcckllecjpaaDoor.Dk
open Go.RowKit Go.Maps
set_option maxRecDepth 100000
set_option linter.unusedSimpArgs false
set_option linter.unusedVariables false

set_option maxHeartbeats 8000000 in
theorem diskPlays_main (W : World) (room : Nat) (hroom : room ≤ 1048576) (v : Value) (ds : List DoV) (hd : DosAt W v ds) (hl : ¬ (60 < (ds.length : Int))) (hL : As.ErrT W) :
    Calls Tryd.prog 3 #[.int .i64 room, v] W fun e w' => e = .returned (.bool true) ∧ Below W.heap.size W w' := by
  have HG := hide hL
  have HD := hide hd
  obtain ⟨a, c, rfl, hlc, hcm, -⟩ := hd
  have hmx : maxLen = 9223372036854775807 := by simp [maxLen]
  rw [hmx] at hcm
  clear hL
  have hz0 : ¬ ((room : Int) < 0) := by omega
  have hz3 : ¬ (1048576 < (room : Int)) := by omega
  have HNEW := hide (new_ok room hroom W W.heap.size (Nat.le_refl _))
  go_enter Tryd.func3, Tryd.ntmps3
  go_wp2_with fail
  refine HNEW.out.mono ?_
  rintro e w1 ⟨rfl, hdk, ht1⟩
  have HT1 := hide ht1
  have HDK := hide hdk
  clear hdk ht1 HNEW
  go_wp2_with fail
  obtain ⟨r, hr⟩ : ∃ r, r = w1.heap.size := ⟨_, rfl⟩
  rw [← hr]
  have hpl0 : PlI W ((w1.alloc (.cells #[.slice none 0 0, .int .i64 room, .int .i64 (-1)] 33)).alloc (.cells wordsC 9)) W.heap.size r [(r + 1, .cells wordsC 9 (0, 0))] := by
    have hn := heap_new w1 (.cells #[.slice none 0 0, .int .i64 room, .int .i64 (-1)] 33)
    rw [← hr] at hn
    have hsz := HT1.out.size
    have hdl := (HDK.out.kept' ((Turn.refl [] w1).alloc (.cells #[.slice none 0 0, .int .i64 room, .int .i64 (-1)] 33)) (by simp))
    have hwl : W.heap.size < w1.heap.size := by obtain ⟨mref, ms, hp⟩ := HDK.out; exact hp.lt _ (by simp)
    have h0 : PlS W (w1.alloc (.cells #[.slice none 0 0, .int .i64 room, .int .i64 (-1)] 33)) W.heap.size r [] (DA.empty room) [W.heap.size] (.slice none 0 0) [] := by
      refine ⟨hdl, ⟨⟨hn, .inl ⟨rfl, rfl⟩, by simp, by simp [Value.ownBlock]⟩, rfl⟩, fun k hk hr' => ?_, fun k hk => ?_, HT1.out.alloc _, by simp⟩
      · simp [RFoot, Value.ownBlock] at hk hr'; omega
      · simp [RFoot, Value.ownBlock] at hk; omega
    have := h0.add (.cells wordsC 9 (0, 0))
    rw [World.size_alloc, ← hr] at this
    exact ⟨_, _, _, _, this⟩
  have HPL0 := hide hpl0
  have hwr : W.heap.size < r := by rw [hr]; obtain ⟨mref, ms, hp⟩ := HDK.out; exact hp.lt _ (by simp)
  have HR := hide hr
  unfold wordsC at HPL0
  clear hpl0 HDK hr
  go_loopw [9] (fun i wr => ∃ k : Nat, k ≤ ds.length ∧ i = .int .i64 k ∧ PlI W wr W.heap.size r [(r + 1, .cells wordsC 9 (0, 0))]) (fun i _ => ds.length - (intOf i).toNat)
  case atStart => exact ⟨0, Nat.zero_le _, rfl, HPL0.out⟩
  case round =>
    obtain ⟨k, hk, rfl, hpl⟩ := hrel
    obtain ⟨A, F, sv, ms, hps⟩ := hpl
    have HPS := hide hps
    by_cases hlt : k < ds.length
    · obtain ⟨p, rfl, hok, -, g0, g1, g2, g3, g4, g5⟩ := (HD.out.still hps.turn).six hlt
      obtain ⟨-, -, -, hby, -⟩ := HD.out.six hlt
      obtain ⟨x, hx⟩ : ∃ x, x = ds[k] := ⟨_, rfl⟩
      rw [← hx] at hok hby g0 g1 g2 g3 g4 g5
      have HOK := hide hok
      have HBY := hide hby
      clear hx hps hok hby
      by_cases hn60 : 60 < (x.name.length : Int)
      · go_wp2
        go_ret
        exact ⟨rfl, (HPS.out.turn.alloc _).nil⟩
      by_cases ht60 : 60 < (x.to.length : Int)
      · go_wp2
        go_ret
        exact ⟨rfl, (HPS.out.turn.alloc _).nil⟩
      by_cases hb3 : 3000 < (x.bytes.length : Int)
      · go_wp2
        go_ret
        exact ⟨rfl, (HPS.out.turn.alloc _).nil⟩
      have HPX := hide (HPS.out.add (.cells #[.int .i64 x.what, .string ⟨x.name.toArray⟩, .string ⟨x.to.toArray⟩, .slice x.a x.bytes.length x.c, .int .i64 x.n, .int .i64 x.m] 37 (0, 0)))
      go_upto_block 2 with fail
      go_cut [11] from 50 to 228 (fun _ wx => PlI W wx W.heap.size r [(wr.heap.size, .cells #[.int .i64 x.what, .string ⟨x.name.toArray⟩, .string ⟨x.to.toArray⟩, .slice x.a x.bytes.length x.c, .int .i64 x.n, .int .i64 x.m] 37 (0, 0)), (r + 1, .cells wordsC 9 (0, 0))])
      case first =>
        by_cases q0 : x.what = 0
        · have b0 : (x.what == 0) = true := (by simp <;> omega); have b1 : (x.what == 1) = false := (by simp <;> omega); have b2 : (x.what == 2) = false := (by simp <;> omega); have b3 : (x.what == 3) = false := (by simp <;> omega); have b4 : (x.what == 4) = false := (by simp <;> omega); have b5 : (x.what == 5) = false := (by simp <;> omega); have b6 : (x.what == 6) = false := (by simp <;> omega); have b7 : (x.what == 7) = false := (by simp <;> omega)
          have HQ := hide q0
          clear q0
          obtain ⟨mref, mm, hp⟩ := HPX.out.dk
          have hprog : Calls Tryd.prog 11 _ _ fun e w' => e = .returned (errR (A.make ⟨x.name.toArray⟩).1) ∧ Did _ w' W.heap.size W.heap.size F (A.make ⟨x.name.toArray⟩).2 := make_any hp ⟨x.name.toArray⟩ (by simp [ByteArray.size, maxLen]; omega)
          have HPROG := hide hprog
          clear hprog hp
          go_wp2_with fail
          refine HPROG.out.mono ?_
          rintro e w2 ⟨rfl, hdid⟩
          obtain ⟨en, hen⟩ : ∃ en, en = (A.make ⟨x.name.toArray⟩).1 := ⟨_, rfl⟩
          obtain ⟨A', hA'⟩ : ∃ A', A' = (A.make ⟨x.name.toArray⟩).2 := ⟨_, rfl⟩
          rw [← hA'] at hdid
          rw [← hen, errR_eq]
          have HEN := hide hen
          have HA' := hide hA'
          have HDID := hide hdid
          obtain ⟨hrf2, htw2, hk2⟩ := HPX.out.did hdid
          have HRF2 := hide hrf2
          have HTW2 := hide htw2
          have hcel : ∀ Z, Turn (RFoot r sv ms) w2 Z → (Z.cell? ⟨wr.heap.size, 0, none⟩ = some (.int .i64 0) ∧ Z.cell? ⟨wr.heap.size, 1, none⟩ = some (.string ⟨x.name.toArray⟩) ∧ Z.cell? ⟨wr.heap.size, 2, none⟩ = some (.string ⟨x.to.toArray⟩) ∧ Z.cell? ⟨wr.heap.size, 3, none⟩ = some (.slice x.a x.bytes.length x.c) ∧ Z.cell? ⟨wr.heap.size, 4, none⟩ = some (.int .i64 x.n)) ∧ Z.cell? ⟨r + 1, 0, none⟩ = some (.string { data := #[109, 97, 107, 101] }) ∧ wr.heap.size < Z.heap.size ∧ Turn [] W Z := by
            intro Z hZ
            have h1 := hZ.heap (hk2 _ (List.mem_cons_self ..)) (HPX.out.kept _ (List.mem_cons_self ..)).2.2
            have h2 := hZ.heap (hk2 _ (List.mem_cons_of_mem _ (List.mem_cons_self ..))) (HPX.out.kept _ (List.mem_cons_of_mem _ (List.mem_cons_self ..))).2.2
            simp only at h1 h2
            exact ⟨⟨by rw [cell_of h1, ← HQ.out]; rfl, by rw [cell_of h1]; rfl, by rw [cell_of h1]; rfl, by rw [cell_of h1]; rfl, by rw [cell_of h1]; rfl⟩, by rw [cell_of h2]; rfl, lt_of_heap h1, HTW2.out.trans hZ (fun k hk => .inr (HPX.out.low k hk))⟩
          have HCEL := hide hcel
          clear hen hA' hdid hrf2 htw2 hk2 hcel g0 g1 g2 g3 g4 g5
          go_wp2
          refine wp_region_loud 18 (Turn (RFoot r sv ms)) (Turn []) (fun k w => match k with | 0 => (fun w => Ref w r sv ms A) w | _ => (fun w => RDid w2 w r sv ms A') w) [15] (by kernel_rfl) (by kernel_rfl) (by kernel_rfl) (by kernel_rfl) (by kernel_rfl) (by kernel_rfl) (Nat.le_of_ble_eq_true rfl) (by decide) rfl (Turn.refl _) (fun _ _ _ h k => h.same k) (fun _ _ h => h.mono (by simp)) ?_ ?_ ?_
          · intro k a b hk hR
            match k, hk with
            | 0, hk =>
              have hk := (show (fun w => Ref w r sv ms A) a from hk)
              dsimp only at hk
              show (fun w => Ref w r sv ms A) b
              dsimp only
              exact hk.still hR
            | _ + 1, hk =>
              have hk := (show (fun w => RDid w2 w r sv ms A') a from hk)
              dsimp only at hk
              show (fun w => RDid w2 w r sv ms A') b
              dsimp only
              exact hk.still hR
          · show (fun w => Ref w r sv ms A) _
            dsimp only
            exact HRF2.out.still ((Turn.refl [] _).drew)
          apply Lo.runx 1 rfl rfl [] (by kernel_rfl) (Turn.refl _)
          apply Exists.intro; apply And.intro
          · intro u w1 hR hF
            clear hF
            refine ⟨rfl, fun a ha K hK => ?_⟩
            have e11 := ha 11
            conv at e11 => rhs; whnf
            clear ha
            go_simp
            refine hK _ ?_; rfl
          apply Lo.runx 2 rfl rfl [] (by kernel_rfl) (Turn.refl _)
          apply Exists.intro; apply And.intro
          · intro u w1 hR hF
            clear hF
            refine ⟨rfl, fun a ha K hK => ?_⟩
            have e7 := ha 7
            conv at e7 => rhs; whnf
            clear ha
            go_simp
            refine hK _ ?_; rfl
          apply Lo.runx 3 rfl rfl [] (by kernel_rfl) (Turn.refl _)
          apply Exists.intro; apply And.intro
          · intro u w1 hR hF
            clear hF
            refine ⟨rfl, fun a ha K hK => ?_⟩
            have e8 := ha 8
            conv at e8 => rhs; whnf
            clear ha
            go_simp
            refine hK _ ?_; rfl
          apply Lo.runx 4 rfl rfl [] (by kernel_rfl) (Turn.refl _)
          apply Exists.intro; apply And.intro
          · intro u w1 hR hF
            clear hF
            refine ⟨rfl, fun a ha K hK => ?_⟩
            have e10 := ha 10
            conv at e10 => rhs; whnf
            clear ha
            go_simp
            refine hK _ ?_; rfl
          apply Lo.runx 5 rfl rfl [3] (by kernel_rfl) (Turn.refl _)
          apply Exists.intro; apply And.intro
          · intro u w1 hR hF
            obtain ⟨h3, -⟩ := hF
            refine ⟨rfl, fun a ha K hK => ?_⟩
            have e130 := (ha 130).trans h3
            clear ha h3
            obtain ⟨⟨x0, x1, x2, x3, x4⟩, wd, zx, htW⟩ := HCEL.out w1 (((Turn.refl _ _).drew).same hR)
            go_simp
            refine hK _ ?_; rfl
          apply Lo.runx 6 rfl rfl [2, 4] (by kernel_rfl) (Turn.refl _)
          apply Exists.intro; apply And.intro
          · intro u w1 hR hF
            obtain ⟨h2, h4, -⟩ := hF
            refine ⟨rfl, fun a ha K hK => ?_⟩
            have e129 := (ha 129).trans h2
            have e131 := (ha 131).trans h4
            clear ha h2 h4
            go_simp
            refine hK _ ?_; rfl
          apply Lo.runx 7 rfl rfl [5] (by kernel_rfl) (Turn.refl _)
          apply Exists.intro; apply And.intro
          · intro u w1 hR hF
            obtain ⟨h5, -⟩ := hF
            refine ⟨rfl, fun a ha K hK => ?_⟩
            have e132 := (ha 132).trans h5
            clear ha h5
            obtain ⟨⟨x0, x1, x2, x3, x4⟩, wd, zx, htW⟩ := HCEL.out w1 (((Turn.refl _ _).drew).same hR)
            go_simp
            refine hK _ ?_; rfl
          apply Lo.runx 8 rfl rfl [] (by kernel_rfl) (Turn.refl _)
          apply Exists.intro; apply And.intro
          · intro u w1 hR hF
            clear hF
            refine ⟨rfl, fun a ha K hK => ?_⟩
            have e10 := ha 10
            conv at e10 => rhs; whnf
            clear ha
            go_simp
            refine hK _ ?_; rfl
          apply Lo.runx 9 rfl rfl [7] (by kernel_rfl) (Turn.refl _)
          apply Exists.intro; apply And.intro
          · intro u w1 hR hF
            obtain ⟨h7, -⟩ := hF
            refine ⟨rfl, fun a ha K hK => ?_⟩
            have e134 := (ha 134).trans h7
            clear ha h7
            obtain ⟨⟨x0, x1, x2, x3, x4⟩, wd, zx, htW⟩ := HCEL.out w1 (((Turn.refl _ _).drew).same hR)
            go_simp
            refine hK _ ?_; rfl
          apply Lo.runx 10 rfl rfl [] (by kernel_rfl) (Turn.refl _)
          apply Exists.intro; apply And.intro
          · intro u w1 hR hF
            clear hF
            refine ⟨rfl, fun a ha K hK => ?_⟩
            have e10 := ha 10
            conv at e10 => rhs; whnf
            clear ha
            go_simp
            refine hK _ ?_; rfl
          apply Lo.runx 11 rfl rfl [9] (by kernel_rfl) (Turn.refl _)
          apply Exists.intro; apply And.intro
          · intro u w1 hR hF
            obtain ⟨h9, -⟩ := hF
            refine ⟨rfl, fun a ha K hK => ?_⟩
            have e136 := (ha 136).trans h9
            clear ha h9
            obtain ⟨⟨x0, x1, x2, x3, x4⟩, wd, zx, htW⟩ := HCEL.out w1 (((Turn.refl _ _).drew).same hR)
            go_simp
            refine hK _ ?_; rfl
          apply Lo.runx 12 rfl rfl [] (by kernel_rfl) (Turn.refl _)
          apply Exists.intro; apply And.intro
          · intro u w1 hR hF
            clear hF
            refine ⟨rfl, fun a ha K hK => ?_⟩
            have e10 := ha 10
            conv at e10 => rhs; whnf
            clear ha
            go_simp
            refine hK _ ?_; rfl
          apply Lo.runx 13 rfl rfl [11] (by kernel_rfl) (Turn.refl _)
          apply Exists.intro; apply And.intro
          · intro u w1 hR hF
            obtain ⟨h11, -⟩ := hF
            refine ⟨rfl, fun a ha K hK => ?_⟩
            have e138 := (ha 138).trans h11
            clear ha h11
            obtain ⟨⟨x0, x1, x2, x3, x4⟩, wd, zx, htW⟩ := HCEL.out w1 (((Turn.refl _ _).drew).same hR)
            go_simp
            refine hK _ ?_; rfl
          apply Lo.runx 14 rfl rfl [] (by kernel_rfl) (Turn.refl _)
          apply Exists.intro; apply And.intro
          · intro u w1 hR hF
            clear hF
            refine ⟨rfl, fun a ha K hK => ?_⟩
            have e10 := ha 10
            conv at e10 => rhs; whnf
            clear ha
            go_simp
            refine hK _ ?_; rfl
          apply Lo.runx 15 rfl rfl [13] (by kernel_rfl) (Turn.refl _)
          apply Exists.intro; apply And.intro
          · intro u w1 hR hF
            obtain ⟨h13, -⟩ := hF
            refine ⟨rfl, fun a ha K hK => ?_⟩
            have e140 := (ha 140).trans h13
            clear ha h13
            obtain ⟨⟨x0, x1, x2, x3, x4⟩, wd, zx, htW⟩ := HCEL.out w1 (((Turn.refl _ _).drew).same hR)
            go_simp
            refine hK _ ?_; rfl
          refine Lo.noisy 16 rfl 0 rfl [1, 6, 8, 10, 12, 14] (fun y w' => y = .int .i64 en) (by kernel_rfl) (fun x w w' h hR => ?_) (.inl (by kernel_rfl)) (fun u w1 hR hS hF => ?_) ?_
          · exact h
          · obtain ⟨h1, h6, h8, h10, h12, h14, -⟩ := hF
            have hS := (show (fun w => Ref w r sv ms A) w1 from hS)
            dsimp only at hS
            refine ⟨rfl, fun a ha K hK => ?_⟩
            have e128 := (ha 128).trans h1
            have e133 := (ha 133).trans h6
            have e135 := (ha 135).trans h8
            have e137 := (ha 137).trans h10
            have e139 := (ha 139).trans h12
            have e141 := (ha 141).trans h14
            clear ha h1 h6 h8 h10 h12 h14
            go_simp
            have htW := (HCEL.out w1 (((Turn.refl _ _).drew).same hR)).2.2.2
            refine (do_make hS HPX.out.good x.name x.to (by omega) (by omega) _ _).mono ?_
            rintro e w5 ⟨rfl, hrd⟩
            rw [← HEN.out]
            rw [← HA'.out] at hrd
            have ht5 := hrd.turn
            exact hK _ _ rfl ht5 (RDid.from' (((Turn.refl _ _).drew).same hR) hrd)
          refine Lo.run 17 rfl rfl [0, 15] (fun y w' => y = .bool true) (by kernel_rfl) (fun x w w' h hR => ?_) (fun _ _ h => h.mono (by simp)) (fun u w1 hR hF => ?_) ?_
          · exact h
          · obtain ⟨h0, h15, -⟩ := hF
            refine ⟨rfl, fun a ha K hK => ?_⟩
            have e127 := (ha 127).trans h0
            have e142 : a.tmps.getD 142 undef = u 15 := ha 142
            have h15 := (show (fun y w' => y = .int .i64 en) (u 15) w1 from h15)
            dsimp only at h15
            clear ha h0
            rw [h15] at e142
            go_simp
            refine (As.bare_any en en w1 (HG.out.below (HCEL.out w1 (((Turn.refl _ _).drew).same hR)).2.2.2.nil)).mono ?_
            rintro e w5 ⟨rfl, hb5⟩
            exact hK _ _ (by simp) (Turn.of_below hb5 _)
          apply Lo.runx 18 rfl rfl [16] (by kernel_rfl) (Turn.refl _)
          apply Exists.intro; apply And.intro
          · intro u w1 hR hF
            obtain ⟨h16, -⟩ := hF
            refine ⟨rfl, fun a ha K hK => ?_⟩
            have e143 : a.tmps.getD 143 undef = u 16 := ha 143
            have h16 := (show (fun y w' => y = .bool true) (u 16) w1 from h16)
            dsimp only at h16
            clear ha
            go_simp
            refine hK _ ?_; rfl
          refine Lo.done [17] (fun u w1 hRd hSd hF => ?_)
          have hSd := (show (fun w => RDid w2 w r sv ms A') w1 from hSd)
          dsimp only at hSd
          obtain ⟨f17, -⟩ := hF
          have d17 : u 17 = _ := f17
          clear f17
          simp only [List.take_succ_cons, List.take_zero, List.drop_succ_cons, List.drop_zero, putFrom, Act.put, List.setIfInBounds_toArray, List.set_cons_succ, List.set_cons_zero, Nat.zero_add, Nat.reduceAdd, d17]
          go_wp2
          go_meet
          case rel =>
            obtain ⟨F', sv', ms', hfin⟩ := HPX.out.step HDID.out hSd
            exact ⟨_, _, _, _, hfin⟩

        by_cases q1 : x.what = 1
        · have b0 : (x.what == 0) = false := (by simp <;> omega); have b1 : (x.what == 1) = true := (by simp <;> omega); have b2 : (x.what == 2) = false := (by simp <;> omega); have b3 : (x.what == 3) = false := (by simp <;> omega); have b4 : (x.what == 4) = false := (by simp <;> omega); have b5 : (x.what == 5) = false := (by simp <;> omega); have b6 : (x.what == 6) = false := (by simp <;> omega); have b7 : (x.what == 7) = false := (by simp <;> omega)
          have HQ := hide q1
          clear q1
          obtain ⟨mref, mm, hp⟩ := HPX.out.dk
          have hprog : Calls Tryd.prog 12 _ _ fun e w' => e = .returned (errR (A.add x.name x.bytes).1) ∧ Did _ w' W.heap.size W.heap.size F (A.add x.name x.bytes).2 := add_any hp ⟨x.name.toArray⟩ (by simp [ByteArray.size, maxLen]; omega) (.slice x.a x.bytes.length x.c) x.bytes (fun Z hZ => (HBY.out.still (HPX.out.turn.trans hZ (fun k hk => .inr (HPX.out.flow k hk).1))).slice) (by omega)
          have HPROG := hide hprog
          clear hprog hp
          go_wp2_with fail
          refine HPROG.out.mono ?_
          rintro e w2 ⟨rfl, hdid⟩
          obtain ⟨en, hen⟩ : ∃ en, en = (A.add x.name x.bytes).1 := ⟨_, rfl⟩
          obtain ⟨A', hA'⟩ : ∃ A', A' = (A.add x.name x.bytes).2 := ⟨_, rfl⟩
          rw [← hA'] at hdid
          rw [← hen, errR_eq]
          have HEN := hide hen
          have HA' := hide hA'
          have HDID := hide hdid
          obtain ⟨hrf2, htw2, hk2⟩ := HPX.out.did hdid
          have HRF2 := hide hrf2
          have HTW2 := hide htw2
          have hcel : ∀ Z, Turn (RFoot r sv ms) w2 Z → (Z.cell? ⟨wr.heap.size, 0, none⟩ = some (.int .i64 1) ∧ Z.cell? ⟨wr.heap.size, 1, none⟩ = some (.string ⟨x.name.toArray⟩) ∧ Z.cell? ⟨wr.heap.size, 2, none⟩ = some (.string ⟨x.to.toArray⟩) ∧ Z.cell? ⟨wr.heap.size, 3, none⟩ = some (.slice x.a x.bytes.length x.c) ∧ Z.cell? ⟨wr.heap.size, 4, none⟩ = some (.int .i64 x.n)) ∧ Z.cell? ⟨r + 1, 1, none⟩ = some (.string { data := #[97, 100, 100] }) ∧ wr.heap.size < Z.heap.size ∧ Turn [] W Z := by
            intro Z hZ
            have h1 := hZ.heap (hk2 _ (List.mem_cons_self ..)) (HPX.out.kept _ (List.mem_cons_self ..)).2.2
            have h2 := hZ.heap (hk2 _ (List.mem_cons_of_mem _ (List.mem_cons_self ..))) (HPX.out.kept _ (List.mem_cons_of_mem _ (List.mem_cons_self ..))).2.2
            simp only at h1 h2
            exact ⟨⟨by rw [cell_of h1, ← HQ.out]; rfl, by rw [cell_of h1]; rfl, by rw [cell_of h1]; rfl, by rw [cell_of h1]; rfl, by rw [cell_of h1]; rfl⟩, by rw [cell_of h2]; rfl, lt_of_heap h1, HTW2.out.trans hZ (fun k hk => .inr (HPX.out.low k hk))⟩
          have HCEL := hide hcel
          clear hen hA' hdid hrf2 htw2 hk2 hcel g0 g1 g2 g3 g4 g5
          go_wp2
          refine wp_region_loud 18 (Turn (RFoot r sv ms)) (Turn []) (fun k w => match k with | 0 => (fun w => Ref w r sv ms A) w | _ => (fun w => RDid w2 w r sv ms A') w) [15] (by kernel_rfl) (by kernel_rfl) (by kernel_rfl) (by kernel_rfl) (by kernel_rfl) (by kernel_rfl) (Nat.le_of_ble_eq_true rfl) (by decide) rfl (Turn.refl _) (fun _ _ _ h k => h.same k) (fun _ _ h => h.mono (by simp)) ?_ ?_ ?_
          · intro k a b hk hR
            match k, hk with
            | 0, hk =>
              have hk := (show (fun w => Ref w r sv ms A) a from hk)
              dsimp only at hk
              show (fun w => Ref w r sv ms A) b
              dsimp only
              exact hk.still hR
            | _ + 1, hk =>
              have hk := (show (fun w => RDid w2 w r sv ms A') a from hk)
              dsimp only at hk
              show (fun w => RDid w2 w r sv ms A') b
              dsimp only
              exact hk.still hR
          · show (fun w => Ref w r sv ms A) _
            dsimp only
            exact HRF2.out.still ((Turn.refl [] _).drew)
          apply Lo.runx 1 rfl rfl [] (by kernel_rfl) (Turn.refl _)
          apply Exists.intro; apply And.intro
          · intro u w1 hR hF
            clear hF
            refine ⟨rfl, fun a ha K hK => ?_⟩
            have e11 := ha 11
            conv at e11 => rhs; whnf
            clear ha
            go_simp
            refine hK _ ?_; rfl
          apply Lo.runx 2 rfl rfl [] (by kernel_rfl) (Turn.refl _)
          apply Exists.intro; apply And.intro
          · intro u w1 hR hF
            clear hF
            refine ⟨rfl, fun a ha K hK => ?_⟩
            have e7 := ha 7
            conv at e7 => rhs; whnf
            clear ha
            go_simp
            refine hK _ ?_; rfl
          apply Lo.runx 3 rfl rfl [] (by kernel_rfl) (Turn.refl _)
          apply Exists.intro; apply And.intro
          · intro u w1 hR hF
            clear hF
            refine ⟨rfl, fun a ha K hK => ?_⟩
            have e8 := ha 8
            conv at e8 => rhs; whnf
            clear ha
            go_simp
            refine hK _ ?_; rfl
          apply Lo.runx 4 rfl rfl [] (by kernel_rfl) (Turn.refl _)
          apply Exists.intro; apply And.intro
          · intro u w1 hR hF
            clear hF
            refine ⟨rfl, fun a ha K hK => ?_⟩
            have e10 := ha 10
            conv at e10 => rhs; whnf
            clear ha
            go_simp
            refine hK _ ?_; rfl
          apply Lo.runx 5 rfl rfl [3] (by kernel_rfl) (Turn.refl _)
          apply Exists.intro; apply And.intro
          · intro u w1 hR hF
            obtain ⟨h3, -⟩ := hF
            refine ⟨rfl, fun a ha K hK => ?_⟩
            have e130 := (ha 130).trans h3
            clear ha h3
            obtain ⟨⟨x0, x1, x2, x3, x4⟩, wd, zx, htW⟩ := HCEL.out w1 (((Turn.refl _ _).drew).same hR)
            go_simp
            refine hK _ ?_; rfl
          apply Lo.runx 6 rfl rfl [2, 4] (by kernel_rfl) (Turn.refl _)
          apply Exists.intro; apply And.intro
          · intro u w1 hR hF
            obtain ⟨h2, h4, -⟩ := hF
            refine ⟨rfl, fun a ha K hK => ?_⟩
            have e129 := (ha 129).trans h2
            have e131 := (ha 131).trans h4
            clear ha h2 h4
            go_simp
            refine hK _ ?_; rfl
          apply Lo.runx 7 rfl rfl [5] (by kernel_rfl) (Turn.refl _)
          apply Exists.intro; apply And.intro
          · intro u w1 hR hF
            obtain ⟨h5, -⟩ := hF
            refine ⟨rfl, fun a ha K hK => ?_⟩
            have e132 := (ha 132).trans h5
            clear ha h5
            obtain ⟨⟨x0, x1, x2, x3, x4⟩, wd, zx, htW⟩ := HCEL.out w1 (((Turn.refl _ _).drew).same hR)
            go_simp
            refine hK _ ?_; rfl
          apply Lo.runx 8 rfl rfl [] (by kernel_rfl) (Turn.refl _)
          apply Exists.intro; apply And.intro
          · intro u w1 hR hF
            clear hF
            refine ⟨rfl, fun a ha K hK => ?_⟩
            have e10 := ha 10
            conv at e10 => rhs; whnf
            clear ha
            go_simp
            refine hK _ ?_; rfl
          apply Lo.runx 9 rfl rfl [7] (by kernel_rfl) (Turn.refl _)
          apply Exists.intro; apply And.intro
          · intro u w1 hR hF
            obtain ⟨h7, -⟩ := hF
            refine ⟨rfl, fun a ha K hK => ?_⟩
            have e134 := (ha 134).trans h7
            clear ha h7
            obtain ⟨⟨x0, x1, x2, x3, x4⟩, wd, zx, htW⟩ := HCEL.out w1 (((Turn.refl _ _).drew).same hR)
            go_simp
            refine hK _ ?_; rfl
          apply Lo.runx 10 rfl rfl [] (by kernel_rfl) (Turn.refl _)
          apply Exists.intro; apply And.intro
          · intro u w1 hR hF
            clear hF
            refine ⟨rfl, fun a ha K hK => ?_⟩
            have e10 := ha 10
            conv at e10 => rhs; whnf
            clear ha
            go_simp
            refine hK _ ?_; rfl
          apply Lo.runx 11 rfl rfl [9] (by kernel_rfl) (Turn.refl _)
          apply Exists.intro; apply And.intro
          · intro u w1 hR hF
            obtain ⟨h9, -⟩ := hF
            refine ⟨rfl, fun a ha K hK => ?_⟩
            have e136 := (ha 136).trans h9
            clear ha h9
            obtain ⟨⟨x0, x1, x2, x3, x4⟩, wd, zx, htW⟩ := HCEL.out w1 (((Turn.refl _ _).drew).same hR)
            go_simp
            refine hK _ ?_; rfl
          apply Lo.runx 12 rfl rfl [] (by kernel_rfl) (Turn.refl _)
          apply Exists.intro; apply And.intro
          · intro u w1 hR hF
            clear hF
            refine ⟨rfl, fun a ha K hK => ?_⟩
            have e10 := ha 10
            conv at e10 => rhs; whnf
            clear ha
            go_simp
            refine hK _ ?_; rfl
          apply Lo.runx 13 rfl rfl [11] (by kernel_rfl) (Turn.refl _)
          apply Exists.intro; apply And.intro
          · intro u w1 hR hF
            obtain ⟨h11, -⟩ := hF
            refine ⟨rfl, fun a ha K hK => ?_⟩
            have e138 := (ha 138).trans h11
            clear ha h11
            obtain ⟨⟨x0, x1, x2, x3, x4⟩, wd, zx, htW⟩ := HCEL.out w1 (((Turn.refl _ _).drew).same hR)
            go_simp
            refine hK _ ?_; rfl
          apply Lo.runx 14 rfl rfl [] (by kernel_rfl) (Turn.refl _)
          apply Exists.intro; apply And.intro
          · intro u w1 hR hF
            clear hF
            refine ⟨rfl, fun a ha K hK => ?_⟩
            have e10 := ha 10
            conv at e10 => rhs; whnf
            clear ha
            go_simp
            refine hK _ ?_; rfl
          apply Lo.runx 15 rfl rfl [13] (by kernel_rfl) (Turn.refl _)
          apply Exists.intro; apply And.intro
          · intro u w1 hR hF
            obtain ⟨h13, -⟩ := hF
            refine ⟨rfl, fun a ha K hK => ?_⟩
            have e140 := (ha 140).trans h13
            clear ha h13
            obtain ⟨⟨x0, x1, x2, x3, x4⟩, wd, zx, htW⟩ := HCEL.out w1 (((Turn.refl _ _).drew).same hR)
            go_simp
            refine hK _ ?_; rfl
          refine Lo.noisy 16 rfl 0 rfl [1, 6, 8, 10, 12, 14] (fun y w' => y = .int .i64 en) (by kernel_rfl) (fun x w w' h hR => ?_) (.inl (by kernel_rfl)) (fun u w1 hR hS hF => ?_) ?_
          · exact h
          · obtain ⟨h1, h6, h8, h10, h12, h14, -⟩ := hF
            have hS := (show (fun w => Ref w r sv ms A) w1 from hS)
            dsimp only at hS
            refine ⟨rfl, fun a ha K hK => ?_⟩
            have e128 := (ha 128).trans h1
            have e133 := (ha 133).trans h6
            have e135 := (ha 135).trans h8
            have e137 := (ha 137).trans h10
            have e139 := (ha 139).trans h12
            have e141 := (ha 141).trans h14
            clear ha h1 h6 h8 h10 h12 h14
            go_simp
            have htW := (HCEL.out w1 (((Turn.refl _ _).drew).same hR)).2.2.2
            refine (do_add hS HPX.out.good x.name x.to (by omega) (by omega) _ _ x.bytes (hide fun Z hZ => HBY.out.still (htW.trans hZ (fun k hk => .inr (HPX.out.low k hk)))) (by omega)).mono ?_
            rintro e w5 ⟨rfl, hrd⟩
            rw [← HEN.out]
            rw [← HA'.out] at hrd
            have ht5 := hrd.turn
            exact hK _ _ rfl ht5 (RDid.from' (((Turn.refl _ _).drew).same hR) hrd)
          refine Lo.run 17 rfl rfl [0, 15] (fun y w' => y = .bool true) (by kernel_rfl) (fun x w w' h hR => ?_) (fun _ _ h => h.mono (by simp)) (fun u w1 hR hF => ?_) ?_
          · exact h
          · obtain ⟨h0, h15, -⟩ := hF
            refine ⟨rfl, fun a ha K hK => ?_⟩
            have e127 := (ha 127).trans h0
            have e142 : a.tmps.getD 142 undef = u 15 := ha 142
            have h15 := (show (fun y w' => y = .int .i64 en) (u 15) w1 from h15)
            dsimp only at h15
            clear ha h0
            rw [h15] at e142
            go_simp
            refine (As.bare_any en en w1 (HG.out.below (HCEL.out w1 (((Turn.refl _ _).drew).same hR)).2.2.2.nil)).mono ?_
            rintro e w5 ⟨rfl, hb5⟩
            exact hK _ _ (by simp) (Turn.of_below hb5 _)
          apply Lo.runx 18 rfl rfl [16] (by kernel_rfl) (Turn.refl _)
          apply Exists.intro; apply And.intro
          · intro u w1 hR hF
            obtain ⟨h16, -⟩ := hF
            refine ⟨rfl, fun a ha K hK => ?_⟩
            have e143 : a.tmps.getD 143 undef = u 16 := ha 143
            have h16 := (show (fun y w' => y = .bool true) (u 16) w1 from h16)
            dsimp only at h16
            clear ha
            go_simp
            refine hK _ ?_; rfl
          refine Lo.done [17] (fun u w1 hRd hSd hF => ?_)
          have hSd := (show (fun w => RDid w2 w r sv ms A') w1 from hSd)
          dsimp only at hSd
          obtain ⟨f17, -⟩ := hF
          have d17 : u 17 = _ := f17
          clear f17
          simp only [List.take_succ_cons, List.take_zero, List.drop_succ_cons, List.drop_zero, putFrom, Act.put, List.setIfInBounds_toArray, List.set_cons_succ, List.set_cons_zero, Nat.zero_add, Nat.reduceAdd, d17]
          go_wp2
          go_meet
          case rel =>
            obtain ⟨F', sv', ms', hfin⟩ := HPX.out.step HDID.out hSd
            exact ⟨_, _, _, _, hfin⟩

        by_cases q2 : x.what = 2
        · have b0 : (x.what == 0) = false := (by simp <;> omega); have b1 : (x.what == 1) = false := (by simp <;> omega); have b2 : (x.what == 2) = true := (by simp <;> omega); have b3 : (x.what == 3) = false := (by simp <;> omega); have b4 : (x.what == 4) = false := (by simp <;> omega); have b5 : (x.what == 5) = false := (by simp <;> omega); have b6 : (x.what == 6) = false := (by simp <;> omega); have b7 : (x.what == 7) = false := (by simp <;> omega)
          have HQ := hide q2
          clear q2
          obtain ⟨mref, mm, hp⟩ := HPX.out.dk
          have hprog : Calls Tryd.prog 13 _ _ fun e w' => e = .returned (errR (A.cut x.name x.n).1) ∧ Did _ w' W.heap.size W.heap.size F (A.cut x.name x.n).2 := cut_any hp ⟨x.name.toArray⟩ (by simp [ByteArray.size, maxLen]; omega) x.n
          have HPROG := hide hprog
          clear hprog hp
          go_wp2_with fail
          refine HPROG.out.mono ?_
          rintro e w2 ⟨rfl, hdid⟩
          obtain ⟨en, hen⟩ : ∃ en, en = (A.cut x.name x.n).1 := ⟨_, rfl⟩
          obtain ⟨A', hA'⟩ : ∃ A', A' = (A.cut x.name x.n).2 := ⟨_, rfl⟩
          rw [← hA'] at hdid
          rw [← hen, errR_eq]
          have HEN := hide hen
          have HA' := hide hA'
          have HDID := hide hdid
          obtain ⟨hrf2, htw2, hk2⟩ := HPX.out.did hdid
          have HRF2 := hide hrf2
          have HTW2 := hide htw2
          have hcel : ∀ Z, Turn (RFoot r sv ms) w2 Z → (Z.cell? ⟨wr.heap.size, 0, none⟩ = some (.int .i64 2) ∧ Z.cell? ⟨wr.heap.size, 1, none⟩ = some (.string ⟨x.name.toArray⟩) ∧ Z.cell? ⟨wr.heap.size, 2, none⟩ = some (.string ⟨x.to.toArray⟩) ∧ Z.cell? ⟨wr.heap.size, 3, none⟩ = some (.slice x.a x.bytes.length x.c) ∧ Z.cell? ⟨wr.heap.size, 4, none⟩ = some (.int .i64 x.n)) ∧ Z.cell? ⟨r + 1, 2, none⟩ = some (.string { data := #[99, 117, 116] }) ∧ wr.heap.size < Z.heap.size ∧ Turn [] W Z := by
            intro Z hZ
            have h1 := hZ.heap (hk2 _ (List.mem_cons_self ..)) (HPX.out.kept _ (List.mem_cons_self ..)).2.2
            have h2 := hZ.heap (hk2 _ (List.mem_cons_of_mem _ (List.mem_cons_self ..))) (HPX.out.kept _ (List.mem_cons_of_mem _ (List.mem_cons_self ..))).2.2
            simp only at h1 h2
            exact ⟨⟨by rw [cell_of h1, ← HQ.out]; rfl, by rw [cell_of h1]; rfl, by rw [cell_of h1]; rfl, by rw [cell_of h1]; rfl, by rw [cell_of h1]; rfl⟩, by rw [cell_of h2]; rfl, lt_of_heap h1, HTW2.out.trans hZ (fun k hk => .inr (HPX.out.low k hk))⟩
          have HCEL := hide hcel
          clear hen hA' hdid hrf2 htw2 hk2 hcel g0 g1 g2 g3 g4 g5
          go_wp2
          refine wp_region_loud 18 (Turn (RFoot r sv ms)) (Turn []) (fun k w => match k with | 0 => (fun w => Ref w r sv ms A) w | _ => (fun w => RDid w2 w r sv ms A') w) [15] (by kernel_rfl) (by kernel_rfl) (by kernel_rfl) (by kernel_rfl) (by kernel_rfl) (by kernel_rfl) (Nat.le_of_ble_eq_true rfl) (by decide) rfl (Turn.refl _) (fun _ _ _ h k => h.same k) (fun _ _ h => h.mono (by simp)) ?_ ?_ ?_
          · intro k a b hk hR
            match k, hk with
            | 0, hk =>
              have hk := (show (fun w => Ref w r sv ms A) a from hk)
              dsimp only at hk
              show (fun w => Ref w r sv ms A) b
              dsimp only
              exact hk.still hR
            | _ + 1, hk =>
              have hk := (show (fun w => RDid w2 w r sv ms A') a from hk)
              dsimp only at hk
              show (fun w => RDid w2 w r sv ms A') b
              dsimp only
              exact hk.still hR
          · show (fun w => Ref w r sv ms A) _
            dsimp only
            exact HRF2.out.still ((Turn.refl [] _).drew)
          apply Lo.runx 1 rfl rfl [] (by kernel_rfl) (Turn.refl _)
          apply Exists.intro; apply And.intro
          · intro u w1 hR hF
            clear hF
            refine ⟨rfl, fun a ha K hK => ?_⟩
            have e11 := ha 11
            conv at e11 => rhs; whnf
            clear ha
            go_simp
            refine hK _ ?_; rfl
          apply Lo.runx 2 rfl rfl [] (by kernel_rfl) (Turn.refl _)
          apply Exists.intro; apply And.intro
          · intro u w1 hR hF
            clear hF
            refine ⟨rfl, fun a ha K hK => ?_⟩
            have e7 := ha 7
            conv at e7 => rhs; whnf
            clear ha
            go_simp
            refine hK _ ?_; rfl
          apply Lo.runx 3 rfl rfl [] (by kernel_rfl) (Turn.refl _)
          apply Exists.intro; apply And.intro
          · intro u w1 hR hF
            clear hF
            refine ⟨rfl, fun a ha K hK => ?_⟩
            have e8 := ha 8
            conv at e8 => rhs; whnf
            clear ha
            go_simp
            refine hK _ ?_; rfl
          apply Lo.runx 4 rfl rfl [] (by kernel_rfl) (Turn.refl _)
          apply Exists.intro; apply And.intro
          · intro u w1 hR hF
            clear hF
            refine ⟨rfl, fun a ha K hK => ?_⟩
            have e10 := ha 10
            conv at e10 => rhs; whnf
            clear ha
            go_simp
            refine hK _ ?_; rfl
          apply Lo.runx 5 rfl rfl [3] (by kernel_rfl) (Turn.refl _)
          apply Exists.intro; apply And.intro
          · intro u w1 hR hF
            obtain ⟨h3, -⟩ := hF
            refine ⟨rfl, fun a ha K hK => ?_⟩
            have e130 := (ha 130).trans h3
            clear ha h3
            obtain ⟨⟨x0, x1, x2, x3, x4⟩, wd, zx, htW⟩ := HCEL.out w1 (((Turn.refl _ _).drew).same hR)
            go_simp
            refine hK _ ?_; rfl
          apply Lo.runx 6 rfl rfl [2, 4] (by kernel_rfl) (Turn.refl _)
          apply Exists.intro; apply And.intro
          · intro u w1 hR hF
            obtain ⟨h2, h4, -⟩ := hF
            refine ⟨rfl, fun a ha K hK => ?_⟩
            have e129 := (ha 129).trans h2
            have e131 := (ha 131).trans h4
            clear ha h2 h4
            go_simp
            refine hK _ ?_; rfl
          apply Lo.runx 7 rfl rfl [5] (by kernel_rfl) (Turn.refl _)
          apply Exists.intro; apply And.intro
          · intro u w1 hR hF
            obtain ⟨h5, -⟩ := hF
            refine ⟨rfl, fun a ha K hK => ?_⟩
            have e132 := (ha 132).trans h5
            clear ha h5
            obtain ⟨⟨x0, x1, x2, x3, x4⟩, wd, zx, htW⟩ := HCEL.out w1 (((Turn.refl _ _).drew).same hR)
            go_simp
            refine hK _ ?_; rfl
          apply Lo.runx 8 rfl rfl [] (by kernel_rfl) (Turn.refl _)
          apply Exists.intro; apply And.intro
          · intro u w1 hR hF
            clear hF
            refine ⟨rfl, fun a ha K hK => ?_⟩
            have e10 := ha 10
            conv at e10 => rhs; whnf
            clear ha
            go_simp
            refine hK _ ?_; rfl
          apply Lo.runx 9 rfl rfl [7] (by kernel_rfl) (Turn.refl _)
          apply Exists.intro; apply And.intro
          · intro u w1 hR hF
            obtain ⟨h7, -⟩ := hF
            refine ⟨rfl, fun a ha K hK => ?_⟩
            have e134 := (ha 134).trans h7
            clear ha h7
            obtain ⟨⟨x0, x1, x2, x3, x4⟩, wd, zx, htW⟩ := HCEL.out w1 (((Turn.refl _ _).drew).same hR)
            go_simp
            refine hK _ ?_; rfl
          apply Lo.runx 10 rfl rfl [] (by kernel_rfl) (Turn.refl _)
          apply Exists.intro; apply And.intro
          · intro u w1 hR hF
            clear hF
            refine ⟨rfl, fun a ha K hK => ?_⟩
            have e10 := ha 10
            conv at e10 => rhs; whnf
            clear ha
            go_simp
            refine hK _ ?_; rfl
          apply Lo.runx 11 rfl rfl [9] (by kernel_rfl) (Turn.refl _)
          apply Exists.intro; apply And.intro
          · intro u w1 hR hF
            obtain ⟨h9, -⟩ := hF
            refine ⟨rfl, fun a ha K hK => ?_⟩
            have e136 := (ha 136).trans h9
            clear ha h9
            obtain ⟨⟨x0, x1, x2, x3, x4⟩, wd, zx, htW⟩ := HCEL.out w1 (((Turn.refl _ _).drew).same hR)
            go_simp
            refine hK _ ?_; rfl
          apply Lo.runx 12 rfl rfl [] (by kernel_rfl) (Turn.refl _)
          apply Exists.intro; apply And.intro
          · intro u w1 hR hF
            clear hF
            refine ⟨rfl, fun a ha K hK => ?_⟩
            have e10 := ha 10
            conv at e10 => rhs; whnf
            clear ha
            go_simp
            refine hK _ ?_; rfl
          apply Lo.runx 13 rfl rfl [11] (by kernel_rfl) (Turn.refl _)
          apply Exists.intro; apply And.intro
          · intro u w1 hR hF
            obtain ⟨h11, -⟩ := hF
            refine ⟨rfl, fun a ha K hK => ?_⟩
            have e138 := (ha 138).trans h11
            clear ha h11
            obtain ⟨⟨x0, x1, x2, x3, x4⟩, wd, zx, htW⟩ := HCEL.out w1 (((Turn.refl _ _).drew).same hR)
            go_simp
            refine hK _ ?_; rfl
          apply Lo.runx 14 rfl rfl [] (by kernel_rfl) (Turn.refl _)
          apply Exists.intro; apply And.intro
          · intro u w1 hR hF
            clear hF
            refine ⟨rfl, fun a ha K hK => ?_⟩
            have e10 := ha 10
            conv at e10 => rhs; whnf
            clear ha
            go_simp
            refine hK _ ?_; rfl
          apply Lo.runx 15 rfl rfl [13] (by kernel_rfl) (Turn.refl _)
          apply Exists.intro; apply And.intro
          · intro u w1 hR hF
            obtain ⟨h13, -⟩ := hF
            refine ⟨rfl, fun a ha K hK => ?_⟩
            have e140 := (ha 140).trans h13
            clear ha h13
            obtain ⟨⟨x0, x1, x2, x3, x4⟩, wd, zx, htW⟩ := HCEL.out w1 (((Turn.refl _ _).drew).same hR)
            go_simp
            refine hK _ ?_; rfl
          refine Lo.noisy 16 rfl 0 rfl [1, 6, 8, 10, 12, 14] (fun y w' => y = .int .i64 en) (by kernel_rfl) (fun x w w' h hR => ?_) (.inl (by kernel_rfl)) (fun u w1 hR hS hF => ?_) ?_
          · exact h
          · obtain ⟨h1, h6, h8, h10, h12, h14, -⟩ := hF
            have hS := (show (fun w => Ref w r sv ms A) w1 from hS)
            dsimp only at hS
            refine ⟨rfl, fun a ha K hK => ?_⟩
            have e128 := (ha 128).trans h1
            have e133 := (ha 133).trans h6
            have e135 := (ha 135).trans h8
            have e137 := (ha 137).trans h10
            have e139 := (ha 139).trans h12
            have e141 := (ha 141).trans h14
            clear ha h1 h6 h8 h10 h12 h14
            go_simp
            have htW := (HCEL.out w1 (((Turn.refl _ _).drew).same hR)).2.2.2
            refine (do_cut hS HPX.out.good x.name x.to (by omega) (by omega) _ _ HOK.out.n2).mono ?_
            rintro e w5 ⟨rfl, hrd⟩
            rw [← HEN.out]
            rw [← HA'.out] at hrd
            have ht5 := hrd.turn
            exact hK _ _ rfl ht5 (RDid.from' (((Turn.refl _ _).drew).same hR) hrd)
          refine Lo.run 17 rfl rfl [0, 15] (fun y w' => y = .bool true) (by kernel_rfl) (fun x w w' h hR => ?_) (fun _ _ h => h.mono (by simp)) (fun u w1 hR hF => ?_) ?_
          · exact h
          · obtain ⟨h0, h15, -⟩ := hF
            refine ⟨rfl, fun a ha K hK => ?_⟩
            have e127 := (ha 127).trans h0
            have e142 : a.tmps.getD 142 undef = u 15 := ha 142
            have h15 := (show (fun y w' => y = .int .i64 en) (u 15) w1 from h15)
            dsimp only at h15
            clear ha h0
            rw [h15] at e142
            go_simp
            refine (As.bare_any en en w1 (HG.out.below (HCEL.out w1 (((Turn.refl _ _).drew).same hR)).2.2.2.nil)).mono ?_
            rintro e w5 ⟨rfl, hb5⟩
            exact hK _ _ (by simp) (Turn.of_below hb5 _)
          apply Lo.runx 18 rfl rfl [16] (by kernel_rfl) (Turn.refl _)
          apply Exists.intro; apply And.intro
          · intro u w1 hR hF
            obtain ⟨h16, -⟩ := hF
            refine ⟨rfl, fun a ha K hK => ?_⟩
            have e143 : a.tmps.getD 143 undef = u 16 := ha 143
            have h16 := (show (fun y w' => y = .bool true) (u 16) w1 from h16)
            dsimp only at h16
            clear ha
            go_simp
            refine hK _ ?_; rfl
          refine Lo.done [17] (fun u w1 hRd hSd hF => ?_)
          have hSd := (show (fun w => RDid w2 w r sv ms A') w1 from hSd)
          dsimp only at hSd
          obtain ⟨f17, -⟩ := hF
          have d17 : u 17 = _ := f17
          clear f17
          simp only [List.take_succ_cons, List.take_zero, List.drop_succ_cons, List.drop_zero, putFrom, Act.put, List.setIfInBounds_toArray, List.set_cons_succ, List.set_cons_zero, Nat.zero_add, Nat.reduceAdd, d17]
          go_wp2
          go_meet
          case rel =>
            obtain ⟨F', sv', ms', hfin⟩ := HPX.out.step HDID.out hSd
            exact ⟨_, _, _, _, hfin⟩

        by_cases q3 : x.what = 3
        · have b0 : (x.what == 0) = false := (by simp <;> omega); have b1 : (x.what == 1) = false := (by simp <;> omega); have b2 : (x.what == 2) = false := (by simp <;> omega); have b3 : (x.what == 3) = true := (by simp <;> omega); have b4 : (x.what == 4) = false := (by simp <;> omega); have b5 : (x.what == 5) = false := (by simp <;> omega); have b6 : (x.what == 6) = false := (by simp <;> omega); have b7 : (x.what == 7) = false := (by simp <;> omega)
          have HQ := hide q3
          clear q3
          obtain ⟨mref, mm, hp⟩ := HPX.out.dk
          have hprog : Calls Tryd.prog 14 _ _ fun e w' => e = .returned (errR (A.sync x.name).1) ∧ Did _ w' W.heap.size W.heap.size F (A.sync x.name).2 := sync_any hp ⟨x.name.toArray⟩ (by simp [ByteArray.size, maxLen]; omega)
          have HPROG := hide hprog
          clear hprog hp
          go_wp2_with fail
          refine HPROG.out.mono ?_
          rintro e w2 ⟨rfl, hdid⟩
          obtain ⟨en, hen⟩ : ∃ en, en = (A.sync x.name).1 := ⟨_, rfl⟩
          obtain ⟨A', hA'⟩ : ∃ A', A' = (A.sync x.name).2 := ⟨_, rfl⟩
          rw [← hA'] at hdid
          rw [← hen, errR_eq]
          have HEN := hide hen
          have HA' := hide hA'
          have HDID := hide hdid
          obtain ⟨hrf2, htw2, hk2⟩ := HPX.out.did hdid
          have HRF2 := hide hrf2
          have HTW2 := hide htw2
          have hcel : ∀ Z, Turn (RFoot r sv ms) w2 Z → (Z.cell? ⟨wr.heap.size, 0, none⟩ = some (.int .i64 3) ∧ Z.cell? ⟨wr.heap.size, 1, none⟩ = some (.string ⟨x.name.toArray⟩) ∧ Z.cell? ⟨wr.heap.size, 2, none⟩ = some (.string ⟨x.to.toArray⟩) ∧ Z.cell? ⟨wr.heap.size, 3, none⟩ = some (.slice x.a x.bytes.length x.c) ∧ Z.cell? ⟨wr.heap.size, 4, none⟩ = some (.int .i64 x.n)) ∧ Z.cell? ⟨r + 1, 3, none⟩ = some (.string { data := #[115, 121, 110, 99] }) ∧ wr.heap.size < Z.heap.size ∧ Turn [] W Z := by
            intro Z hZ
            have h1 := hZ.heap (hk2 _ (List.mem_cons_self ..)) (HPX.out.kept _ (List.mem_cons_self ..)).2.2
            have h2 := hZ.heap (hk2 _ (List.mem_cons_of_mem _ (List.mem_cons_self ..))) (HPX.out.kept _ (List.mem_cons_of_mem _ (List.mem_cons_self ..))).2.2
            simp only at h1 h2
            exact ⟨⟨by rw [cell_of h1, ← HQ.out]; rfl, by rw [cell_of h1]; rfl, by rw [cell_of h1]; rfl, by rw [cell_of h1]; rfl, by rw [cell_of h1]; rfl⟩, by rw [cell_of h2]; rfl, lt_of_heap h1, HTW2.out.trans hZ (fun k hk => .inr (HPX.out.low k hk))⟩
          have HCEL := hide hcel
          clear hen hA' hdid hrf2 htw2 hk2 hcel g0 g1 g2 g3 g4 g5
          go_wp2
          refine wp_region_loud 18 (Turn (RFoot r sv ms)) (Turn []) (fun k w => match k with | 0 => (fun w => Ref w r sv ms A) w | _ => (fun w => RDid w2 w r sv ms A') w) [15] (by kernel_rfl) (by kernel_rfl) (by kernel_rfl) (by kernel_rfl) (by kernel_rfl) (by kernel_rfl) (Nat.le_of_ble_eq_true rfl) (by decide) rfl (Turn.refl _) (fun _ _ _ h k => h.same k) (fun _ _ h => h.mono (by simp)) ?_ ?_ ?_
          · intro k a b hk hR
            match k, hk with
            | 0, hk =>
              have hk := (show (fun w => Ref w r sv ms A) a from hk)
              dsimp only at hk
              show (fun w => Ref w r sv ms A) b
              dsimp only
              exact hk.still hR
            | _ + 1, hk =>
              have hk := (show (fun w => RDid w2 w r sv ms A') a from hk)
              dsimp only at hk
              show (fun w => RDid w2 w r sv ms A') b
              dsimp only
              exact hk.still hR
          · show (fun w => Ref w r sv ms A) _
            dsimp only
            exact HRF2.out.still ((Turn.refl [] _).drew)
          apply Lo.runx 1 rfl rfl [] (by kernel_rfl) (Turn.refl _)
          apply Exists.intro; apply And.intro
          · intro u w1 hR hF
            clear hF
            refine ⟨rfl, fun a ha K hK => ?_⟩
            have e11 := ha 11
            conv at e11 => rhs; whnf
            clear ha
            go_simp
            refine hK _ ?_; rfl
          apply Lo.runx 2 rfl rfl [] (by kernel_rfl) (Turn.refl _)
          apply Exists.intro; apply And.intro
          · intro u w1 hR hF
            clear hF
            refine ⟨rfl, fun a ha K hK => ?_⟩
            have e7 := ha 7
            conv at e7 => rhs; whnf
            clear ha
            go_simp
            refine hK _ ?_; rfl
          apply Lo.runx 3 rfl rfl [] (by kernel_rfl) (Turn.refl _)
          apply Exists.intro; apply And.intro
          · intro u w1 hR hF
            clear hF
            refine ⟨rfl, fun a ha K hK => ?_⟩
            have e8 := ha 8
            conv at e8 => rhs; whnf
            clear ha
            go_simp
            refine hK _ ?_; rfl
          apply Lo.runx 4 rfl rfl [] (by kernel_rfl) (Turn.refl _)
          apply Exists.intro; apply And.intro
          · intro u w1 hR hF
            clear hF
            refine ⟨rfl, fun a ha K hK => ?_⟩
            have e10 := ha 10
            conv at e10 => rhs; whnf
            clear ha
            go_simp
            refine hK _ ?_; rfl
          apply Lo.runx 5 rfl rfl [3] (by kernel_rfl) (Turn.refl _)
          apply Exists.intro; apply And.intro
          · intro u w1 hR hF
            obtain ⟨h3, -⟩ := hF
            refine ⟨rfl, fun a ha K hK => ?_⟩
            have e130 := (ha 130).trans h3
            clear ha h3
            obtain ⟨⟨x0, x1, x2, x3, x4⟩, wd, zx, htW⟩ := HCEL.out w1 (((Turn.refl _ _).drew).same hR)
            go_simp
            refine hK _ ?_; rfl
          apply Lo.runx 6 rfl rfl [2, 4] (by kernel_rfl) (Turn.refl _)
          apply Exists.intro; apply And.intro
          · intro u w1 hR hF
            obtain ⟨h2, h4, -⟩ := hF
            refine ⟨rfl, fun a ha K hK => ?_⟩
            have e129 := (ha 129).trans h2
            have e131 := (ha 131).trans h4
            clear ha h2 h4
            go_simp
            refine hK _ ?_; rfl
          apply Lo.runx 7 rfl rfl [5] (by kernel_rfl) (Turn.refl _)
          apply Exists.intro; apply And.intro
          · intro u w1 hR hF
            obtain ⟨h5, -⟩ := hF
            refine ⟨rfl, fun a ha K hK => ?_⟩
            have e132 := (ha 132).trans h5
            clear ha h5
            obtain ⟨⟨x0, x1, x2, x3, x4⟩, wd, zx, htW⟩ := HCEL.out w1 (((Turn.refl _ _).drew).same hR)
            go_simp
            refine hK _ ?_; rfl
          apply Lo.runx 8 rfl rfl [] (by kernel_rfl) (Turn.refl _)
          apply Exists.intro; apply And.intro
          · intro u w1 hR hF
            clear hF
            refine ⟨rfl, fun a ha K hK => ?_⟩
            have e10 := ha 10
            conv at e10 => rhs; whnf
            clear ha
            go_simp
            refine hK _ ?_; rfl
          apply Lo.runx 9 rfl rfl [7] (by kernel_rfl) (Turn.refl _)
          apply Exists.intro; apply And.intro
          · intro u w1 hR hF
            obtain ⟨h7, -⟩ := hF
            refine ⟨rfl, fun a ha K hK => ?_⟩
            have e134 := (ha 134).trans h7
            clear ha h7
            obtain ⟨⟨x0, x1, x2, x3, x4⟩, wd, zx, htW⟩ := HCEL.out w1 (((Turn.refl _ _).drew).same hR)
            go_simp
            refine hK _ ?_; rfl
          apply Lo.runx 10 rfl rfl [] (by kernel_rfl) (Turn.refl _)
          apply Exists.intro; apply And.intro
          · intro u w1 hR hF
            clear hF
            refine ⟨rfl, fun a ha K hK => ?_⟩
            have e10 := ha 10
            conv at e10 => rhs; whnf
            clear ha
            go_simp
            refine hK _ ?_; rfl
          apply Lo.runx 11 rfl rfl [9] (by kernel_rfl) (Turn.refl _)
          apply Exists.intro; apply And.intro
          · intro u w1 hR hF
            obtain ⟨h9, -⟩ := hF
            refine ⟨rfl, fun a ha K hK => ?_⟩
            have e136 := (ha 136).trans h9
            clear ha h9
            obtain ⟨⟨x0, x1, x2, x3, x4⟩, wd, zx, htW⟩ := HCEL.out w1 (((Turn.refl _ _).drew).same hR)
            go_simp
            refine hK _ ?_; rfl
          apply Lo.runx 12 rfl rfl [] (by kernel_rfl) (Turn.refl _)
          apply Exists.intro; apply And.intro
          · intro u w1 hR hF
            clear hF
            refine ⟨rfl, fun a ha K hK => ?_⟩
            have e10 := ha 10
            conv at e10 => rhs; whnf
            clear ha
            go_simp
            refine hK _ ?_; rfl
          apply Lo.runx 13 rfl rfl [11] (by kernel_rfl) (Turn.refl _)
          apply Exists.intro; apply And.intro
          · intro u w1 hR hF
            obtain ⟨h11, -⟩ := hF
            refine ⟨rfl, fun a ha K hK => ?_⟩
            have e138 := (ha 138).trans h11
            clear ha h11
            obtain ⟨⟨x0, x1, x2, x3, x4⟩, wd, zx, htW⟩ := HCEL.out w1 (((Turn.refl _ _).drew).same hR)
            go_simp
            refine hK _ ?_; rfl
          apply Lo.runx 14 rfl rfl [] (by kernel_rfl) (Turn.refl _)
          apply Exists.intro; apply And.intro
          · intro u w1 hR hF
            clear hF
            refine ⟨rfl, fun a ha K hK => ?_⟩
            have e10 := ha 10
            conv at e10 => rhs; whnf
            clear ha
            go_simp
            refine hK _ ?_; rfl
          apply Lo.runx 15 rfl rfl [13] (by kernel_rfl) (Turn.refl _)
          apply Exists.intro; apply And.intro
          · intro u w1 hR hF
            obtain ⟨h13, -⟩ := hF
            refine ⟨rfl, fun a ha K hK => ?_⟩
            have e140 := (ha 140).trans h13
            clear ha h13
            obtain ⟨⟨x0, x1, x2, x3, x4⟩, wd, zx, htW⟩ := HCEL.out w1 (((Turn.refl _ _).drew).same hR)
            go_simp
            refine hK _ ?_; rfl
          refine Lo.noisy 16 rfl 0 rfl [1, 6, 8, 10, 12, 14] (fun y w' => y = .int .i64 en) (by kernel_rfl) (fun x w w' h hR => ?_) (.inl (by kernel_rfl)) (fun u w1 hR hS hF => ?_) ?_
          · exact h
          · obtain ⟨h1, h6, h8, h10, h12, h14, -⟩ := hF
            have hS := (show (fun w => Ref w r sv ms A) w1 from hS)
            dsimp only at hS
            refine ⟨rfl, fun a ha K hK => ?_⟩
            have e128 := (ha 128).trans h1
            have e133 := (ha 133).trans h6
            have e135 := (ha 135).trans h8
            have e137 := (ha 137).trans h10
            have e139 := (ha 139).trans h12
            have e141 := (ha 141).trans h14
            clear ha h1 h6 h8 h10 h12 h14
            go_simp
            have htW := (HCEL.out w1 (((Turn.refl _ _).drew).same hR)).2.2.2
            refine (do_sync hS HPX.out.good x.name x.to (by omega) (by omega) _ _).mono ?_
            rintro e w5 ⟨rfl, hrd⟩
            rw [← HEN.out]
            rw [← HA'.out] at hrd
            have ht5 := hrd.turn
            exact hK _ _ rfl ht5 (RDid.from' (((Turn.refl _ _).drew).same hR) hrd)
          refine Lo.run 17 rfl rfl [0, 15] (fun y w' => y = .bool true) (by kernel_rfl) (fun x w w' h hR => ?_) (fun _ _ h => h.mono (by simp)) (fun u w1 hR hF => ?_) ?_
          · exact h
          · obtain ⟨h0, h15, -⟩ := hF
            refine ⟨rfl, fun a ha K hK => ?_⟩
            have e127 := (ha 127).trans h0
            have e142 : a.tmps.getD 142 undef = u 15 := ha 142
            have h15 := (show (fun y w' => y = .int .i64 en) (u 15) w1 from h15)
            dsimp only at h15
            clear ha h0
            rw [h15] at e142
            go_simp
            refine (As.bare_any en en w1 (HG.out.below (HCEL.out w1 (((Turn.refl _ _).drew).same hR)).2.2.2.nil)).mono ?_
            rintro e w5 ⟨rfl, hb5⟩
            exact hK _ _ (by simp) (Turn.of_below hb5 _)
          apply Lo.runx 18 rfl rfl [16] (by kernel_rfl) (Turn.refl _)
          apply Exists.intro; apply And.intro
          · intro u w1 hR hF
            obtain ⟨h16, -⟩ := hF
            refine ⟨rfl, fun a ha K hK => ?_⟩
            have e143 : a.tmps.getD 143 undef = u 16 := ha 143
            have h16 := (show (fun y w' => y = .bool true) (u 16) w1 from h16)
            dsimp only at h16
            clear ha
            go_simp
            refine hK _ ?_; rfl
          refine Lo.done [17] (fun u w1 hRd hSd hF => ?_)
          have hSd := (show (fun w => RDid w2 w r sv ms A') w1 from hSd)
          dsimp only at hSd
          obtain ⟨f17, -⟩ := hF
          have d17 : u 17 = _ := f17
          clear f17
          simp only [List.take_succ_cons, List.take_zero, List.drop_succ_cons, List.drop_zero, putFrom, Act.put, List.setIfInBounds_toArray, List.set_cons_succ, List.set_cons_zero, Nat.zero_add, Nat.reduceAdd, d17]
          go_wp2
          go_meet
          case rel =>
            obtain ⟨F', sv', ms', hfin⟩ := HPX.out.step HDID.out hSd
            exact ⟨_, _, _, _, hfin⟩

        by_cases q4 : x.what = 4
        · have b0 : (x.what == 0) = false := (by simp <;> omega); have b1 : (x.what == 1) = false := (by simp <;> omega); have b2 : (x.what == 2) = false := (by simp <;> omega); have b3 : (x.what == 3) = false := (by simp <;> omega); have b4 : (x.what == 4) = true := (by simp <;> omega); have b5 : (x.what == 5) = false := (by simp <;> omega); have b6 : (x.what == 6) = false := (by simp <;> omega); have b7 : (x.what == 7) = false := (by simp <;> omega)
          have HQ := hide q4
          clear q4
          obtain ⟨mref, mm, hp⟩ := HPX.out.dk
          have hprog : Calls Tryd.prog 15 _ _ fun e w' => e = .returned (errR (A.rename x.name ⟨x.to.toArray⟩).1) ∧ Did _ w' W.heap.size W.heap.size F (A.rename x.name ⟨x.to.toArray⟩).2 := rename_any hp ⟨x.name.toArray⟩ (by simp [ByteArray.size, maxLen]; omega) ⟨x.to.toArray⟩ (by simp [ByteArray.size, maxLen]; omega)
          have HPROG := hide hprog
          clear hprog hp
          go_wp2_with fail
          refine HPROG.out.mono ?_
          rintro e w2 ⟨rfl, hdid⟩
          obtain ⟨en, hen⟩ : ∃ en, en = (A.rename x.name ⟨x.to.toArray⟩).1 := ⟨_, rfl⟩
          obtain ⟨A', hA'⟩ : ∃ A', A' = (A.rename x.name ⟨x.to.toArray⟩).2 := ⟨_, rfl⟩
          rw [← hA'] at hdid
          rw [← hen, errR_eq]
          have HEN := hide hen
          have HA' := hide hA'
          have HDID := hide hdid
          obtain ⟨hrf2, htw2, hk2⟩ := HPX.out.did hdid
          have HRF2 := hide hrf2
          have HTW2 := hide htw2
          have hcel : ∀ Z, Turn (RFoot r sv ms) w2 Z → (Z.cell? ⟨wr.heap.size, 0, none⟩ = some (.int .i64 4) ∧ Z.cell? ⟨wr.heap.size, 1, none⟩ = some (.string ⟨x.name.toArray⟩) ∧ Z.cell? ⟨wr.heap.size, 2, none⟩ = some (.string ⟨x.to.toArray⟩) ∧ Z.cell? ⟨wr.heap.size, 3, none⟩ = some (.slice x.a x.bytes.length x.c) ∧ Z.cell? ⟨wr.heap.size, 4, none⟩ = some (.int .i64 x.n)) ∧ Z.cell? ⟨r + 1, 4, none⟩ = some (.string { data := #[114, 101, 110, 97, 109, 101] }) ∧ wr.heap.size < Z.heap.size ∧ Turn [] W Z := by
            intro Z hZ
            have h1 := hZ.heap (hk2 _ (List.mem_cons_self ..)) (HPX.out.kept _ (List.mem_cons_self ..)).2.2
            have h2 := hZ.heap (hk2 _ (List.mem_cons_of_mem _ (List.mem_cons_self ..))) (HPX.out.kept _ (List.mem_cons_of_mem _ (List.mem_cons_self ..))).2.2
            simp only at h1 h2
            exact ⟨⟨by rw [cell_of h1, ← HQ.out]; rfl, by rw [cell_of h1]; rfl, by rw [cell_of h1]; rfl, by rw [cell_of h1]; rfl, by rw [cell_of h1]; rfl⟩, by rw [cell_of h2]; rfl, lt_of_heap h1, HTW2.out.trans hZ (fun k hk => .inr (HPX.out.low k hk))⟩
          have HCEL := hide hcel
          clear hen hA' hdid hrf2 htw2 hk2 hcel g0 g1 g2 g3 g4 g5
          go_wp2
          refine wp_region_loud 18 (Turn (RFoot r sv ms)) (Turn []) (fun k w => match k with | 0 => (fun w => Ref w r sv ms A) w | _ => (fun w => RDid w2 w r sv ms A') w) [15] (by kernel_rfl) (by kernel_rfl) (by kernel_rfl) (by kernel_rfl) (by kernel_rfl) (by kernel_rfl) (Nat.le_of_ble_eq_true rfl) (by decide) rfl (Turn.refl _) (fun _ _ _ h k => h.same k) (fun _ _ h => h.mono (by simp)) ?_ ?_ ?_
          · intro k a b hk hR
            match k, hk with
            | 0, hk =>
              have hk := (show (fun w => Ref w r sv ms A) a from hk)
              dsimp only at hk
              show (fun w => Ref w r sv ms A) b
              dsimp only
              exact hk.still hR
            | _ + 1, hk =>
              have hk := (show (fun w => RDid w2 w r sv ms A') a from hk)
              dsimp only at hk
              show (fun w => RDid w2 w r sv ms A') b
              dsimp only
              exact hk.still hR
          · show (fun w => Ref w r sv ms A) _
            dsimp only
            exact HRF2.out.still ((Turn.refl [] _).drew)
          apply Lo.runx 1 rfl rfl [] (by kernel_rfl) (Turn.refl _)
          apply Exists.intro; apply And.intro
          · intro u w1 hR hF
            clear hF
            refine ⟨rfl, fun a ha K hK => ?_⟩
            have e11 := ha 11
            conv at e11 => rhs; whnf
            clear ha
            go_simp
            refine hK _ ?_; rfl
          apply Lo.runx 2 rfl rfl [] (by kernel_rfl) (Turn.refl _)
          apply Exists.intro; apply And.intro
          · intro u w1 hR hF
            clear hF
            refine ⟨rfl, fun a ha K hK => ?_⟩
            have e7 := ha 7
            conv at e7 => rhs; whnf
            clear ha
            go_simp
            refine hK _ ?_; rfl
          apply Lo.runx 3 rfl rfl [] (by kernel_rfl) (Turn.refl _)
          apply Exists.intro; apply And.intro
          · intro u w1 hR hF
            clear hF
            refine ⟨rfl, fun a ha K hK => ?_⟩
            have e8 := ha 8
            conv at e8 => rhs; whnf
            clear ha
            go_simp
            refine hK _ ?_; rfl
          apply Lo.runx 4 rfl rfl [] (by kernel_rfl) (Turn.refl _)
          apply Exists.intro; apply And.intro
          · intro u w1 hR hF
            clear hF
            refine ⟨rfl, fun a ha K hK => ?_⟩
            have e10 := ha 10
            conv at e10 => rhs; whnf
            clear ha
            go_simp
            refine hK _ ?_; rfl
          apply Lo.runx 5 rfl rfl [3] (by kernel_rfl) (Turn.refl _)
          apply Exists.intro; apply And.intro
          · intro u w1 hR hF
            obtain ⟨h3, -⟩ := hF
            refine ⟨rfl, fun a ha K hK => ?_⟩
            have e130 := (ha 130).trans h3
            clear ha h3
            obtain ⟨⟨x0, x1, x2, x3, x4⟩, wd, zx, htW⟩ := HCEL.out w1 (((Turn.refl _ _).drew).same hR)
            go_simp
            refine hK _ ?_; rfl
          apply Lo.runx 6 rfl rfl [2, 4] (by kernel_rfl) (Turn.refl _)
          apply Exists.intro; apply And.intro
          · intro u w1 hR hF
            obtain ⟨h2, h4, -⟩ := hF
            refine ⟨rfl, fun a ha K hK => ?_⟩
            have e129 := (ha 129).trans h2
            have e131 := (ha 131).trans h4
            clear ha h2 h4
            go_simp
            refine hK _ ?_; rfl
          apply Lo.runx 7 rfl rfl [5] (by kernel_rfl) (Turn.refl _)
          apply Exists.intro; apply And.intro
          · intro u w1 hR hF
            obtain ⟨h5, -⟩ := hF
            refine ⟨rfl, fun a ha K hK => ?_⟩
            have e132 := (ha 132).trans h5
            clear ha h5
            obtain ⟨⟨x0, x1, x2, x3, x4⟩, wd, zx, htW⟩ := HCEL.out w1 (((Turn.refl _ _).drew).same hR)
            go_simp
            refine hK _ ?_; rfl
          apply Lo.runx 8 rfl rfl [] (by kernel_rfl) (Turn.refl _)
          apply Exists.intro; apply And.intro
          · intro u w1 hR hF
            clear hF
            refine ⟨rfl, fun a ha K hK => ?_⟩
            have e10 := ha 10
            conv at e10 => rhs; whnf
            clear ha
            go_simp
            refine hK _ ?_; rfl
          apply Lo.runx 9 rfl rfl [7] (by kernel_rfl) (Turn.refl _)
          apply Exists.intro; apply And.intro
          · intro u w1 hR hF
            obtain ⟨h7, -⟩ := hF
            refine ⟨rfl, fun a ha K hK => ?_⟩
            have e134 := (ha 134).trans h7
            clear ha h7
            obtain ⟨⟨x0, x1, x2, x3, x4⟩, wd, zx, htW⟩ := HCEL.out w1 (((Turn.refl _ _).drew).same hR)
            go_simp
            refine hK _ ?_; rfl
          apply Lo.runx 10 rfl rfl [] (by kernel_rfl) (Turn.refl _)
          apply Exists.intro; apply And.intro
          · intro u w1 hR hF
            clear hF
            refine ⟨rfl, fun a ha K hK => ?_⟩
            have e10 := ha 10
            conv at e10 => rhs; whnf
            clear ha
            go_simp
            refine hK _ ?_; rfl
          apply Lo.runx 11 rfl rfl [9] (by kernel_rfl) (Turn.refl _)
          apply Exists.intro; apply And.intro
          · intro u w1 hR hF
            obtain ⟨h9, -⟩ := hF
            refine ⟨rfl, fun a ha K hK => ?_⟩
            have e136 := (ha 136).trans h9
            clear ha h9
            obtain ⟨⟨x0, x1, x2, x3, x4⟩, wd, zx, htW⟩ := HCEL.out w1 (((Turn.refl _ _).drew).same hR)
            go_simp
            refine hK _ ?_; rfl
          apply Lo.runx 12 rfl rfl [] (by kernel_rfl) (Turn.refl _)
          apply Exists.intro; apply And.intro
          · intro u w1 hR hF
            clear hF
            refine ⟨rfl, fun a ha K hK => ?_⟩
            have e10 := ha 10
            conv at e10 => rhs; whnf
            clear ha
            go_simp
            refine hK _ ?_; rfl
          apply Lo.runx 13 rfl rfl [11] (by kernel_rfl) (Turn.refl _)
          apply Exists.intro; apply And.intro
          · intro u w1 hR hF
            obtain ⟨h11, -⟩ := hF
            refine ⟨rfl, fun a ha K hK => ?_⟩
            have e138 := (ha 138).trans h11
            clear ha h11
            obtain ⟨⟨x0, x1, x2, x3, x4⟩, wd, zx, htW⟩ := HCEL.out w1 (((Turn.refl _ _).drew).same hR)
            go_simp
            refine hK _ ?_; rfl
          apply Lo.runx 14 rfl rfl [] (by kernel_rfl) (Turn.refl _)
          apply Exists.intro; apply And.intro
          · intro u w1 hR hF
            clear hF
            refine ⟨rfl, fun a ha K hK => ?_⟩
            have e10 := ha 10
            conv at e10 => rhs; whnf
            clear ha
            go_simp
            refine hK _ ?_; rfl
          apply Lo.runx 15 rfl rfl [13] (by kernel_rfl) (Turn.refl _)
          apply Exists.intro; apply And.intro
          · intro u w1 hR hF
            obtain ⟨h13, -⟩ := hF
            refine ⟨rfl, fun a ha K hK => ?_⟩
            have e140 := (ha 140).trans h13
            clear ha h13
            obtain ⟨⟨x0, x1, x2, x3, x4⟩, wd, zx, htW⟩ := HCEL.out w1 (((Turn.refl _ _).drew).same hR)
            go_simp
            refine hK _ ?_; rfl
          refine Lo.noisy 16 rfl 0 rfl [1, 6, 8, 10, 12, 14] (fun y w' => y = .int .i64 en) (by kernel_rfl) (fun x w w' h hR => ?_) (.inl (by kernel_rfl)) (fun u w1 hR hS hF => ?_) ?_
          · exact h
          · obtain ⟨h1, h6, h8, h10, h12, h14, -⟩ := hF
            have hS := (show (fun w => Ref w r sv ms A) w1 from hS)
            dsimp only at hS
            refine ⟨rfl, fun a ha K hK => ?_⟩
            have e128 := (ha 128).trans h1
            have e133 := (ha 133).trans h6
            have e135 := (ha 135).trans h8
            have e137 := (ha 137).trans h10
            have e139 := (ha 139).trans h12
            have e141 := (ha 141).trans h14
            clear ha h1 h6 h8 h10 h12 h14
            go_simp
            have htW := (HCEL.out w1 (((Turn.refl _ _).drew).same hR)).2.2.2
            refine (do_rename hS HPX.out.good x.name x.to (by omega) (by omega) _ _).mono ?_
            rintro e w5 ⟨rfl, hrd⟩
            rw [← HEN.out]
            rw [← HA'.out] at hrd
            have ht5 := hrd.turn
            exact hK _ _ rfl ht5 (RDid.from' (((Turn.refl _ _).drew).same hR) hrd)
          refine Lo.run 17 rfl rfl [0, 15] (fun y w' => y = .bool true) (by kernel_rfl) (fun x w w' h hR => ?_) (fun _ _ h => h.mono (by simp)) (fun u w1 hR hF => ?_) ?_
          · exact h
          · obtain ⟨h0, h15, -⟩ := hF
            refine ⟨rfl, fun a ha K hK => ?_⟩
            have e127 := (ha 127).trans h0
            have e142 : a.tmps.getD 142 undef = u 15 := ha 142
            have h15 := (show (fun y w' => y = .int .i64 en) (u 15) w1 from h15)
            dsimp only at h15
            clear ha h0
            rw [h15] at e142
            go_simp
            refine (As.bare_any en en w1 (HG.out.below (HCEL.out w1 (((Turn.refl _ _).drew).same hR)).2.2.2.nil)).mono ?_
            rintro e w5 ⟨rfl, hb5⟩
            exact hK _ _ (by simp) (Turn.of_below hb5 _)
          apply Lo.runx 18 rfl rfl [16] (by kernel_rfl) (Turn.refl _)
          apply Exists.intro; apply And.intro
          · intro u w1 hR hF
            obtain ⟨h16, -⟩ := hF
            refine ⟨rfl, fun a ha K hK => ?_⟩
            have e143 : a.tmps.getD 143 undef = u 16 := ha 143
            have h16 := (show (fun y w' => y = .bool true) (u 16) w1 from h16)
            dsimp only at h16
            clear ha
            go_simp
            refine hK _ ?_; rfl
          refine Lo.done [17] (fun u w1 hRd hSd hF => ?_)
          have hSd := (show (fun w => RDid w2 w r sv ms A') w1 from hSd)
          dsimp only at hSd
          obtain ⟨f17, -⟩ := hF
          have d17 : u 17 = _ := f17
          clear f17
          simp only [List.take_succ_cons, List.take_zero, List.drop_succ_cons, List.drop_zero, putFrom, Act.put, List.setIfInBounds_toArray, List.set_cons_succ, List.set_cons_zero, Nat.zero_add, Nat.reduceAdd, d17]
          go_wp2
          go_meet
          case rel =>
            obtain ⟨F', sv', ms', hfin⟩ := HPX.out.step HDID.out hSd
            exact ⟨_, _, _, _, hfin⟩

        by_cases q5 : x.what = 5
        · have b0 : (x.what == 0) = false := (by simp <;> omega); have b1 : (x.what == 1) = false := (by simp <;> omega); have b2 : (x.what == 2) = false := (by simp <;> omega); have b3 : (x.what == 3) = false := (by simp <;> omega); have b4 : (x.what == 4) = false := (by simp <;> omega); have b5 : (x.what == 5) = true := (by simp <;> omega); have b6 : (x.what == 6) = false := (by simp <;> omega); have b7 : (x.what == 7) = false := (by simp <;> omega)
          have HQ := hide q5
          clear q5
          obtain ⟨mref, mm, hp⟩ := HPX.out.dk
          have hprog : Calls Tryd.prog 16 _ _ fun e w' => e = .returned (errR (A.remove x.name).1) ∧ Did _ w' W.heap.size W.heap.size F (A.remove x.name).2 := remove_any hp ⟨x.name.toArray⟩ (by simp [ByteArray.size, maxLen]; omega)
          have HPROG := hide hprog
          clear hprog hp
          go_wp2_with fail
          refine HPROG.out.mono ?_
          rintro e w2 ⟨rfl, hdid⟩
          obtain ⟨en, hen⟩ : ∃ en, en = (A.remove x.name).1 := ⟨_, rfl⟩
          obtain ⟨A', hA'⟩ : ∃ A', A' = (A.remove x.name).2 := ⟨_, rfl⟩
          rw [← hA'] at hdid
          rw [← hen, errR_eq]
          have HEN := hide hen
          have HA' := hide hA'
          have HDID := hide hdid
          obtain ⟨hrf2, htw2, hk2⟩ := HPX.out.did hdid
          have HRF2 := hide hrf2
          have HTW2 := hide htw2
          have hcel : ∀ Z, Turn (RFoot r sv ms) w2 Z → (Z.cell? ⟨wr.heap.size, 0, none⟩ = some (.int .i64 5) ∧ Z.cell? ⟨wr.heap.size, 1, none⟩ = some (.string ⟨x.name.toArray⟩) ∧ Z.cell? ⟨wr.heap.size, 2, none⟩ = some (.string ⟨x.to.toArray⟩) ∧ Z.cell? ⟨wr.heap.size, 3, none⟩ = some (.slice x.a x.bytes.length x.c) ∧ Z.cell? ⟨wr.heap.size, 4, none⟩ = some (.int .i64 x.n)) ∧ Z.cell? ⟨r + 1, 5, none⟩ = some (.string { data := #[114, 101, 109, 111, 118, 101] }) ∧ wr.heap.size < Z.heap.size ∧ Turn [] W Z := by
            intro Z hZ
            have h1 := hZ.heap (hk2 _ (List.mem_cons_self ..)) (HPX.out.kept _ (List.mem_cons_self ..)).2.2
            have h2 := hZ.heap (hk2 _ (List.mem_cons_of_mem _ (List.mem_cons_self ..))) (HPX.out.kept _ (List.mem_cons_of_mem _ (List.mem_cons_self ..))).2.2
            simp only at h1 h2
            exact ⟨⟨by rw [cell_of h1, ← HQ.out]; rfl, by rw [cell_of h1]; rfl, by rw [cell_of h1]; rfl, by rw [cell_of h1]; rfl, by rw [cell_of h1]; rfl⟩, by rw [cell_of h2]; rfl, lt_of_heap h1, HTW2.out.trans hZ (fun k hk => .inr (HPX.out.low k hk))⟩
          have HCEL := hide hcel
          clear hen hA' hdid hrf2 htw2 hk2 hcel g0 g1 g2 g3 g4 g5
          go_wp2
          refine wp_region_loud 18 (Turn (RFoot r sv ms)) (Turn []) (fun k w => match k with | 0 => (fun w => Ref w r sv ms A) w | _ => (fun w => RDid w2 w r sv ms A') w) [15] (by kernel_rfl) (by kernel_rfl) (by kernel_rfl) (by kernel_rfl) (by kernel_rfl) (by kernel_rfl) (Nat.le_of_ble_eq_true rfl) (by decide) rfl (Turn.refl _) (fun _ _ _ h k => h.same k) (fun _ _ h => h.mono (by simp)) ?_ ?_ ?_
          · intro k a b hk hR
            match k, hk with
            | 0, hk =>
              have hk := (show (fun w => Ref w r sv ms A) a from hk)
              dsimp only at hk
              show (fun w => Ref w r sv ms A) b
              dsimp only
              exact hk.still hR
            | _ + 1, hk =>
              have hk := (show (fun w => RDid w2 w r sv ms A') a from hk)
              dsimp only at hk
              show (fun w => RDid w2 w r sv ms A') b
              dsimp only
              exact hk.still hR
          · show (fun w => Ref w r sv ms A) _
            dsimp only
            exact HRF2.out.still ((Turn.refl [] _).drew)
          apply Lo.runx 1 rfl rfl [] (by kernel_rfl) (Turn.refl _)
          apply Exists.intro; apply And.intro
          · intro u w1 hR hF
            clear hF
            refine ⟨rfl, fun a ha K hK => ?_⟩
            have e11 := ha 11
            conv at e11 => rhs; whnf
            clear ha
            go_simp
            refine hK _ ?_; rfl
          apply Lo.runx 2 rfl rfl [] (by kernel_rfl) (Turn.refl _)
          apply Exists.intro; apply And.intro
          · intro u w1 hR hF
            clear hF
            refine ⟨rfl, fun a ha K hK => ?_⟩
            have e7 := ha 7
            conv at e7 => rhs; whnf
            clear ha
            go_simp
            refine hK _ ?_; rfl
          apply Lo.runx 3 rfl rfl [] (by kernel_rfl) (Turn.refl _)
          apply Exists.intro; apply And.intro
          · intro u w1 hR hF
            clear hF
            refine ⟨rfl, fun a ha K hK => ?_⟩
            have e8 := ha 8
            conv at e8 => rhs; whnf
            clear ha
            go_simp
            refine hK _ ?_; rfl
          apply Lo.runx 4 rfl rfl [] (by kernel_rfl) (Turn.refl _)
          apply Exists.intro; apply And.intro
          · intro u w1 hR hF
            clear hF
            refine ⟨rfl, fun a ha K hK => ?_⟩
            have e10 := ha 10
            conv at e10 => rhs; whnf
            clear ha
            go_simp
            refine hK _ ?_; rfl
          apply Lo.runx 5 rfl rfl [3] (by kernel_rfl) (Turn.refl _)
          apply Exists.intro; apply And.intro
          · intro u w1 hR hF
            obtain ⟨h3, -⟩ := hF
            refine ⟨rfl, fun a ha K hK => ?_⟩
            have e130 := (ha 130).trans h3
            clear ha h3
            obtain ⟨⟨x0, x1, x2, x3, x4⟩, wd, zx, htW⟩ := HCEL.out w1 (((Turn.refl _ _).drew).same hR)
            go_simp
            refine hK _ ?_; rfl
          apply Lo.runx 6 rfl rfl [2, 4] (by kernel_rfl) (Turn.refl _)
          apply Exists.intro; apply And.intro
          · intro u w1 hR hF
            obtain ⟨h2, h4, -⟩ := hF
            refine ⟨rfl, fun a ha K hK => ?_⟩
            have e129 := (ha 129).trans h2
            have e131 := (ha 131).trans h4
            clear ha h2 h4
            go_simp
            refine hK _ ?_; rfl
          apply Lo.runx 7 rfl rfl [5] (by kernel_rfl) (Turn.refl _)
          apply Exists.intro; apply And.intro
          · intro u w1 hR hF
            obtain ⟨h5, -⟩ := hF
            refine ⟨rfl, fun a ha K hK => ?_⟩
            have e132 := (ha 132).trans h5
            clear ha h5
            obtain ⟨⟨x0, x1, x2, x3, x4⟩, wd, zx, htW⟩ := HCEL.out w1 (((Turn.refl _ _).drew).same hR)
            go_simp
            refine hK _ ?_; rfl
          apply Lo.runx 8 rfl rfl [] (by kernel_rfl) (Turn.refl _)
          apply Exists.intro; apply And.intro
          · intro u w1 hR hF
            clear hF
            refine ⟨rfl, fun a ha K hK => ?_⟩
            have e10 := ha 10
            conv at e10 => rhs; whnf
            clear ha
            go_simp
            refine hK _ ?_; rfl
          apply Lo.runx 9 rfl rfl [7] (by kernel_rfl) (Turn.refl _)
          apply Exists.intro; apply And.intro
          · intro u w1 hR hF
            obtain ⟨h7, -⟩ := hF
            refine ⟨rfl, fun a ha K hK => ?_⟩
            have e134 := (ha 134).trans h7
            clear ha h7
            obtain ⟨⟨x0, x1, x2, x3, x4⟩, wd, zx, htW⟩ := HCEL.out w1 (((Turn.refl _ _).drew).same hR)
            go_simp
            refine hK _ ?_; rfl
          apply Lo.runx 10 rfl rfl [] (by kernel_rfl) (Turn.refl _)
          apply Exists.intro; apply And.intro
          · intro u w1 hR hF
            clear hF
            refine ⟨rfl, fun a ha K hK => ?_⟩
            have e10 := ha 10
            conv at e10 => rhs; whnf
            clear ha
            go_simp
            refine hK _ ?_; rfl
          apply Lo.runx 11 rfl rfl [9] (by kernel_rfl) (Turn.refl _)
          apply Exists.intro; apply And.intro
          · intro u w1 hR hF
            obtain ⟨h9, -⟩ := hF
            refine ⟨rfl, fun a ha K hK => ?_⟩
            have e136 := (ha 136).trans h9
            clear ha h9
            obtain ⟨⟨x0, x1, x2, x3, x4⟩, wd, zx, htW⟩ := HCEL.out w1 (((Turn.refl _ _).drew).same hR)
            go_simp
            refine hK _ ?_; rfl
          apply Lo.runx 12 rfl rfl [] (by kernel_rfl) (Turn.refl _)
          apply Exists.intro; apply And.intro
          · intro u w1 hR hF
            clear hF
            refine ⟨rfl, fun a ha K hK => ?_⟩
            have e10 := ha 10
            conv at e10 => rhs; whnf
            clear ha
            go_simp
            refine hK _ ?_; rfl
          apply Lo.runx 13 rfl rfl [11] (by kernel_rfl) (Turn.refl _)
          apply Exists.intro; apply And.intro
          · intro u w1 hR hF
            obtain ⟨h11, -⟩ := hF
            refine ⟨rfl, fun a ha K hK => ?_⟩
            have e138 := (ha 138).trans h11
            clear ha h11
            obtain ⟨⟨x0, x1, x2, x3, x4⟩, wd, zx, htW⟩ := HCEL.out w1 (((Turn.refl _ _).drew).same hR)
            go_simp
            refine hK _ ?_; rfl
          apply Lo.runx 14 rfl rfl [] (by kernel_rfl) (Turn.refl _)
          apply Exists.intro; apply And.intro
          · intro u w1 hR hF
            clear hF
            refine ⟨rfl, fun a ha K hK => ?_⟩
            have e10 := ha 10
            conv at e10 => rhs; whnf
            clear ha
            go_simp
            refine hK _ ?_; rfl
          apply Lo.runx 15 rfl rfl [13] (by kernel_rfl) (Turn.refl _)
          apply Exists.intro; apply And.intro
          · intro u w1 hR hF
            obtain ⟨h13, -⟩ := hF
            refine ⟨rfl, fun a ha K hK => ?_⟩
            have e140 := (ha 140).trans h13
            clear ha h13
            obtain ⟨⟨x0, x1, x2, x3, x4⟩, wd, zx, htW⟩ := HCEL.out w1 (((Turn.refl _ _).drew).same hR)
            go_simp
            refine hK _ ?_; rfl
          refine Lo.noisy 16 rfl 0 rfl [1, 6, 8, 10, 12, 14] (fun y w' => y = .int .i64 en) (by kernel_rfl) (fun x w w' h hR => ?_) (.inl (by kernel_rfl)) (fun u w1 hR hS hF => ?_) ?_
          · exact h
          · obtain ⟨h1, h6, h8, h10, h12, h14, -⟩ := hF
            have hS := (show (fun w => Ref w r sv ms A) w1 from hS)
            dsimp only at hS
            refine ⟨rfl, fun a ha K hK => ?_⟩
            have e128 := (ha 128).trans h1
            have e133 := (ha 133).trans h6
            have e135 := (ha 135).trans h8
            have e137 := (ha 137).trans h10
            have e139 := (ha 139).trans h12
            have e141 := (ha 141).trans h14
            clear ha h1 h6 h8 h10 h12 h14
            go_simp
            have htW := (HCEL.out w1 (((Turn.refl _ _).drew).same hR)).2.2.2
            refine (do_remove hS HPX.out.good x.name x.to (by omega) (by omega) _ _).mono ?_
            rintro e w5 ⟨rfl, hrd⟩
            rw [← HEN.out]
            rw [← HA'.out] at hrd
            have ht5 := hrd.turn
            exact hK _ _ rfl ht5 (RDid.from' (((Turn.refl _ _).drew).same hR) hrd)
          refine Lo.run 17 rfl rfl [0, 15] (fun y w' => y = .bool true) (by kernel_rfl) (fun x w w' h hR => ?_) (fun _ _ h => h.mono (by simp)) (fun u w1 hR hF => ?_) ?_
          · exact h
          · obtain ⟨h0, h15, -⟩ := hF
            refine ⟨rfl, fun a ha K hK => ?_⟩
            have e127 := (ha 127).trans h0
            have e142 : a.tmps.getD 142 undef = u 15 := ha 142
            have h15 := (show (fun y w' => y = .int .i64 en) (u 15) w1 from h15)
            dsimp only at h15
            clear ha h0
            rw [h15] at e142
            go_simp
            refine (As.bare_any en en w1 (HG.out.below (HCEL.out w1 (((Turn.refl _ _).drew).same hR)).2.2.2.nil)).mono ?_
            rintro e w5 ⟨rfl, hb5⟩
            exact hK _ _ (by simp) (Turn.of_below hb5 _)
          apply Lo.runx 18 rfl rfl [16] (by kernel_rfl) (Turn.refl _)
          apply Exists.intro; apply And.intro
          · intro u w1 hR hF
            obtain ⟨h16, -⟩ := hF
            refine ⟨rfl, fun a ha K hK => ?_⟩
            have e143 : a.tmps.getD 143 undef = u 16 := ha 143
            have h16 := (show (fun y w' => y = .bool true) (u 16) w1 from h16)
            dsimp only at h16
            clear ha
            go_simp
            refine hK _ ?_; rfl
          refine Lo.done [17] (fun u w1 hRd hSd hF => ?_)
          have hSd := (show (fun w => RDid w2 w r sv ms A') w1 from hSd)
          dsimp only at hSd
          obtain ⟨f17, -⟩ := hF
          have d17 : u 17 = _ := f17
          clear f17
          simp only [List.take_succ_cons, List.take_zero, List.drop_succ_cons, List.drop_zero, putFrom, Act.put, List.setIfInBounds_toArray, List.set_cons_succ, List.set_cons_zero, Nat.zero_add, Nat.reduceAdd, d17]
          go_wp2
          go_meet
          case rel =>
            obtain ⟨F', sv', ms', hfin⟩ := HPX.out.step HDID.out hSd
            exact ⟨_, _, _, _, hfin⟩

        by_cases q6 : x.what = 6
        · have b0 : (x.what == 0) = false := (by simp <;> omega); have b1 : (x.what == 1) = false := (by simp <;> omega); have b2 : (x.what == 2) = false := (by simp <;> omega); have b3 : (x.what == 3) = false := (by simp <;> omega); have b4 : (x.what == 4) = false := (by simp <;> omega); have b5 : (x.what == 5) = false := (by simp <;> omega); have b6 : (x.what == 6) = true := (by simp <;> omega); have b7 : (x.what == 7) = false := (by simp <;> omega)
          have HQ := hide q6
          clear q6
          obtain ⟨mref, mm, hp⟩ := HPX.out.dk
          have HP := hide hp
          have HF := hide (fail_any hp x.n HOK.out.n2)
          clear hp
          go_wp2_with fail
          refine HF.out.mono ?_
          rintro e w2 ⟨rfl, hp2, ht2⟩
          have hdid := Did.tick hp2 HP.out.mem_self ht2
          have HDID := hide hdid
          obtain ⟨hrf2, htw2, hk2⟩ := HPX.out.did hdid
          have h1 := hk2 _ (List.mem_cons_self ..)
          simp only at h1
          have x4 : w2.cell? ⟨wr.heap.size, 4, none⟩ = some (.int .i64 x.n) := by rw [cell_of h1]; rfl
          obtain ⟨c0, c1, c2⟩ := hrf2.mem.c
          obtain ⟨f0, f1, f2⟩ := hrf2.mem.f
          have hn1 := HOK.out.n1
          have hn2 := HOK.out.n2
          have HRF2 := hide hrf2
          clear hp2 ht2 hdid hrf2 htw2 hk2 h1 g0 g1 g2 g3 g4 g5
          go_wp2
          go_meet
          case rel =>
            have hlf : leftOf (A.failAt x.n) = max x.n (-1) := by
              unfold leftOf DA.failAt
              by_cases h : 0 ≤ x.n
              · simp [h]; omega
              · simp [h]; omega
            have hrd : RDid w2 (w2.setCell ⟨r, 2, none⟩ (.int .i64 (max x.n (-1)))) r sv ms (A.failAt x.n) := by
              have htr : Turn (RFoot r sv ms) w2 (w2.setCell ⟨r, 2, none⟩ (.int .i64 (max x.n (-1)))) := (Turn.refl _ _).setCell (.inl (foot_r r sv ms)) _
              refine ⟨sv, ms, ⟨?_, HRF2.out.files⟩, htr, fun k hk => .inl hk⟩
              rw [hlf]
              exact HRF2.out.mem.setLeft _
            obtain ⟨F', sv', ms', hfin⟩ := HPX.out.step HDID.out hrd
            exact ⟨_, _, _, _, hfin⟩
        by_cases q7 : x.what = 7
        · have b0 : (x.what == 0) = false := (by simp <;> omega); have b1 : (x.what == 1) = false := (by simp <;> omega); have b2 : (x.what == 2) = false := (by simp <;> omega); have b3 : (x.what == 3) = false := (by simp <;> omega); have b4 : (x.what == 4) = false := (by simp <;> omega); have b5 : (x.what == 5) = false := (by simp <;> omega); have b6 : (x.what == 6) = false := (by simp <;> omega); have b7 : (x.what == 7) = true := (by simp <;> omega)
          have HQ := hide q7
          clear q7
          obtain ⟨mref, mm, hp⟩ := HPX.out.dk
          have hcr := crash_any hp (.slice x.a x.bytes.length x.c) x.bytes (fun Z hZ => (HBY.out.still (HPX.out.turn.trans hZ (fun k hk => .inr (HPX.out.flow k hk).1))).slice) (by omega)
          have HCR := hide hcr
          clear hp hcr
          go_wp2_with fail
          refine HCR.out.mono ?_
          rintro e w2 ⟨rfl, hdid⟩
          have HDID := hide hdid
          obtain ⟨hrf2, htw2, hk2⟩ := HPX.out.did hdid
          have h1 := hk2 _ (List.mem_cons_self ..)
          simp only at h1
          have x3 : w2.cell? ⟨wr.heap.size, 3, none⟩ = some (.slice x.a x.bytes.length x.c) := by rw [cell_of h1]; rfl
          have HRC := hide (refCrash_any hrf2 HPX.out.good (.slice x.a x.bytes.length x.c) x.bytes (hide fun Z hZ => HBY.out.still (htw2.trans hZ (fun k hk => .inr (HPX.out.low k hk)))) (by omega))
          clear hdid hrf2 htw2 hk2 h1 g0 g1 g2 g3 g4 g5
          go_wp2_with fail
          refine HRC.out.mono ?_
          rintro e w3 ⟨rfl, hrd⟩
          have HRD := hide hrd
          clear hrd
          go_wp2
          go_meet
          case rel =>
            obtain ⟨F', sv', ms', hfin⟩ := HPX.out.step HDID.out HRD.out
            exact ⟨_, _, _, _, hfin⟩
        have b0 : (x.what == 0) = false := (by simp <;> omega); have b1 : (x.what == 1) = false := (by simp <;> omega); have b2 : (x.what == 2) = false := (by simp <;> omega); have b3 : (x.what == 3) = false := (by simp <;> omega); have b4 : (x.what == 4) = false := (by simp <;> omega); have b5 : (x.what == 5) = false := (by simp <;> omega); have b6 : (x.what == 6) = false := (by simp <;> omega); have b7 : (x.what == 7) = false := (by simp <;> omega)
        clear g0 g1 g2 g3 g4 g5
        go_wp2
        go_meet
        case rel => exact ⟨_, _, _, _, HPX.out⟩
      case rest =>
        obtain ⟨A2, F2, sv2, ms2, hp2⟩ := hcut
        obtain ⟨U, hU⟩ : ∃ U, U = usedL A2.files := ⟨_, rfl⟩
        obtain ⟨S, hS⟩ : ∃ S, S = A2.sizeOf x.name := ⟨_, rfl⟩
        obtain ⟨NL, hNL⟩ : ∃ NL, NL = namesOf A2 x.to := ⟨_, rfl⟩
        obtain ⟨L1, hL1⟩ : ∃ L1, L1 = readL (A2.bytesOf x.name) x.n x.m := ⟨_, rfl⟩
        obtain ⟨L2, hL2⟩ : ∃ L2, L2 = readL (A2.bytesOf x.name) 0 1048576 := ⟨_, rfl⟩
        have hnl : NL.length ≤ 1048576 := by rw [hNL]; exact names_few hp2 x.to
        have hcel : ∀ Z, Turn [] wc Z → (Z.cell? ⟨wr.heap.size, 1, none⟩ = some (.string ⟨x.name.toArray⟩) ∧ Z.cell? ⟨wr.heap.size, 2, none⟩ = some (.string ⟨x.to.toArray⟩) ∧ Z.cell? ⟨wr.heap.size, 4, none⟩ = some (.int .i64 x.n) ∧ Z.cell? ⟨wr.heap.size, 5, none⟩ = some (.int .i64 x.m)) ∧ wr.heap.size < Z.heap.size ∧
            PlS W Z W.heap.size r [(wr.heap.size, .cells #[.int .i64 x.what, .string ⟨x.name.toArray⟩, .string ⟨x.to.toArray⟩, .slice x.a x.bytes.length x.c, .int .i64 x.n, .int .i64 x.m] 37 (0, 0)), (r + 1, .cells wordsC 9 (0, 0))] A2 F2 sv2 ms2 := by
          intro Z hZ
          have hz := hp2.still hZ
          have h1 := (hz.kept _ (List.mem_cons_self ..)).1
          simp only at h1
          exact ⟨⟨by rw [cell_of h1]; rfl, by rw [cell_of h1]; rfl, by rw [cell_of h1]; rfl, by rw [cell_of h1]; rfl⟩, lt_of_heap h1, hz⟩
        have HCEL := hide hcel
        have HU := hide hU
        have HSS := hide hS
        have HNL := hide hNL
        have HL1 := hide hL1
        have HL2 := hide hL2
        clear hcel hU hS hNL hL1 hL2 hp2 g0 g1 g2 g3 g4 g5
        go_wp2
        refine wp_region_loose (Turn []) (by kernel_rfl) (by kernel_rfl) (by kernel_rfl) (by kernel_rfl) rfl (Turn.refl _) (fun _ _ _ h k => h.same k) ?_
        apply Lo.runx 1 rfl rfl [] (by kernel_rfl) (Turn.refl _)
        apply Exists.intro; apply And.intro
        · intro u w1 hR hF
          clear hF
          refine ⟨rfl, fun a ha K hK => ?_⟩
          have e5 := ha 5
          conv at e5 => rhs; whnf
          clear ha
          go_simp
          refine hK _ ?_; rfl
        refine Lo.run 2 rfl rfl [0] (fun y w' => y = .int .i64 (U : Nat)) (by kernel_rfl) (fun x w w' h hR => ?_) (fun _ _ h => h) (fun u w1 hR hF => ?_) ?_
        · exact h
        · obtain ⟨h0, -⟩ := hF
          refine ⟨rfl, fun a ha K hK => ?_⟩
          have e167 := (ha 167).trans h0
          clear ha h0
          go_simp
          refine (obs_used (HCEL.out w1 (((Turn.refl [] _).drew).same hR)).2.2).mono ?_
          rintro e w5 ⟨rfl, ht5⟩
          rw [← HU.out]
          exact hK _ _ rfl ht5
        apply Lo.runx 3 rfl rfl [] (by kernel_rfl) (Turn.refl _)
        apply Exists.intro; apply And.intro
        · intro u w1 hR hF
          clear hF
          refine ⟨rfl, fun a ha K hK => ?_⟩
          have e7 := ha 7
          conv at e7 => rhs; whnf
          clear ha
          go_simp
          refine hK _ ?_; rfl
        refine Lo.run 4 rfl rfl [2] (fun y w' => y = .int .i64 (U : Nat)) (by kernel_rfl) (fun x w w' h hR => ?_) (fun _ _ h => h) (fun u w1 hR hF => ?_) ?_
        · exact h
        · obtain ⟨h2, -⟩ := hF
          refine ⟨rfl, fun a ha K hK => ?_⟩
          have e169 := (ha 169).trans h2
          clear ha h2
          go_simp
          refine (obs_rused (HCEL.out w1 (((Turn.refl [] _).drew).same hR)).2.2).mono ?_
          rintro e w5 ⟨rfl, ht5⟩
          rw [← HU.out]
          exact hK _ _ rfl ht5
        refine Lo.runv 5 rfl rfl [1, 3] (.bool (false)) (by kernel_rfl) (fun u w1 hR hF => ?_) (Turn.refl _) ?_
        · obtain ⟨h1, h3, -⟩ := hF
          refine ⟨rfl, fun a ha K hK => ?_⟩
          have e168 : a.tmps.getD 168 undef = u 1 := ha 168
          have e170 : a.tmps.getD 170 undef = u 3 := ha 170
          have h1 := (show (fun y w' => y = .int .i64 (U : Nat)) (u 1) w1 from h1)
          dsimp only at h1
          have h3 := (show (fun y w' => y = .int .i64 (U : Nat)) (u 3) w1 from h3)
          dsimp only at h3
          clear ha
          go_simp
          refine hK _ ?_
          simp
        apply Lo.runx 6 rfl rfl [4] (by kernel_rfl) (Turn.refl _)
        apply Exists.intro; apply And.intro
        · intro u w1 hR hF
          obtain ⟨h4, -⟩ := hF
          refine ⟨rfl, fun a ha K hK => ?_⟩
          have e171 := (ha 171).trans h4
          clear ha h4
          go_simp
          refine hK _ ?_; rfl
        apply Lo.runx 7 rfl rfl [5] (by kernel_rfl) (Turn.refl _)
        apply Exists.intro; apply And.intro
        · intro u w1 hR hF
          obtain ⟨h5, -⟩ := hF
          refine ⟨.inl ⟨false, h5, rfl⟩, fun a ha K hK => ?_⟩
          have e5 := ha 5
          conv at e5 => rhs; whnf
          clear ha h5
          go_simp
          refine hK _ ?_; rfl
        apply Lo.runx 8 rfl rfl [5] (by kernel_rfl) (Turn.refl _)
        apply Exists.intro; apply And.intro
        · intro u w1 hR hF
          obtain ⟨h5, -⟩ := hF
          refine ⟨.inl ⟨false, h5, rfl⟩, fun a ha K hK => ?_⟩
          have e10 := ha 10
          conv at e10 => rhs; whnf
          clear ha h5
          go_simp
          refine hK _ ?_; rfl
        apply Lo.runx 9 rfl rfl [5, 7] (by kernel_rfl) (Turn.refl _)
        apply Exists.intro; apply And.intro
        · intro u w1 hR hF
          obtain ⟨h5, h7, -⟩ := hF
          refine ⟨.inl ⟨false, h5, rfl⟩, fun a ha K hK => ?_⟩
          have e174 := (ha 174).trans h7
          clear ha h5 h7
          obtain ⟨⟨x1, x2, x4, x5⟩, zx, -⟩ := HCEL.out w1 (((Turn.refl [] _).drew).same hR)
          go_simp
          refine hK _ ?_; rfl
        refine Lo.run 10 rfl rfl [5, 6, 8] (fun y w' => y = .int .i64 S) (by kernel_rfl) (fun x w w' h hR => ?_) (fun _ _ h => h) (fun u w1 hR hF => ?_) ?_
        · exact h
        · obtain ⟨h5, h6, h8, -⟩ := hF
          refine ⟨.inl ⟨false, h5, rfl⟩, fun a ha K hK => ?_⟩
          have e173 := (ha 173).trans h6
          have e175 := (ha 175).trans h8
          clear ha h5 h6 h8
          go_simp
          refine (obs_size (HCEL.out w1 (((Turn.refl [] _).drew).same hR)).2.2 x.name (by omega)).mono ?_
          rintro e w5 ⟨rfl, ht5⟩
          rw [← HSS.out]
          exact hK _ _ rfl ht5
        apply Lo.runx 11 rfl rfl [5] (by kernel_rfl) (Turn.refl _)
        apply Exists.intro; apply And.intro
        · intro u w1 hR hF
          obtain ⟨h5, -⟩ := hF
          refine ⟨.inl ⟨false, h5, rfl⟩, fun a ha K hK => ?_⟩
          have e7 := ha 7
          conv at e7 => rhs; whnf
          clear ha h5
          go_simp
          refine hK _ ?_; rfl
        apply Lo.runx 12 rfl rfl [5] (by kernel_rfl) (Turn.refl _)
        apply Exists.intro; apply And.intro
        · intro u w1 hR hF
          obtain ⟨h5, -⟩ := hF
          refine ⟨.inl ⟨false, h5, rfl⟩, fun a ha K hK => ?_⟩
          have e10 := ha 10
          conv at e10 => rhs; whnf
          clear ha h5
          go_simp
          refine hK _ ?_; rfl
        apply Lo.runx 13 rfl rfl [5, 11] (by kernel_rfl) (Turn.refl _)
        apply Exists.intro; apply And.intro
        · intro u w1 hR hF
          obtain ⟨h5, h11, -⟩ := hF
          refine ⟨.inl ⟨false, h5, rfl⟩, fun a ha K hK => ?_⟩
          have e178 := (ha 178).trans h11
          clear ha h5 h11
          obtain ⟨⟨x1, x2, x4, x5⟩, zx, -⟩ := HCEL.out w1 (((Turn.refl [] _).drew).same hR)
          go_simp
          refine hK _ ?_; rfl
        refine Lo.run 14 rfl rfl [5, 10, 12] (fun y w' => y = .int .i64 S) (by kernel_rfl) (fun x w w' h hR => ?_) (fun _ _ h => h) (fun u w1 hR hF => ?_) ?_
        · exact h
        · obtain ⟨h5, h10, h12, -⟩ := hF
          refine ⟨.inl ⟨false, h5, rfl⟩, fun a ha K hK => ?_⟩
          have e177 := (ha 177).trans h10
          have e179 := (ha 179).trans h12
          clear ha h5 h10 h12
          go_simp
          refine (obs_rsize (HCEL.out w1 (((Turn.refl [] _).drew).same hR)).2.2 x.name).mono ?_
          rintro e w5 ⟨rfl, ht5⟩
          rw [← HSS.out]
          exact hK _ _ rfl ht5
        refine Lo.runv 15 rfl rfl [5, 9, 13] (.bool (false)) (by kernel_rfl) (fun u w1 hR hF => ?_) (Turn.refl _) ?_
        · obtain ⟨h5, h9, h13, -⟩ := hF
          refine ⟨.inl ⟨false, h5, rfl⟩, fun a ha K hK => ?_⟩
          have e176 : a.tmps.getD 176 undef = u 9 := ha 176
          have e180 : a.tmps.getD 180 undef = u 13 := ha 180
          have h9 := (show (fun y w' => y = .int .i64 S) (u 9) w1 from h9)
          dsimp only at h9
          have h13 := (show (fun y w' => y = .int .i64 S) (u 13) w1 from h13)
          dsimp only at h13
          clear ha h5
          go_simp
          refine hK _ ?_
          simp
        apply Lo.runx 16 rfl rfl [5, 14] (by kernel_rfl) (Turn.refl _)
        apply Exists.intro; apply And.intro
        · intro u w1 hR hF
          obtain ⟨h5, h14, -⟩ := hF
          refine ⟨rfl, fun a ha K hK => ?_⟩
          have e172 := (ha 172).trans h5
          have e181 := (ha 181).trans h14
          clear ha h5 h14
          go_simp
          refine hK _ ?_; rfl
        apply Lo.runx 17 rfl rfl [15] (by kernel_rfl) (Turn.refl _)
        apply Exists.intro; apply And.intro
        · intro u w1 hR hF
          obtain ⟨h15, -⟩ := hF
          refine ⟨rfl, fun a ha K hK => ?_⟩
          have e182 := (ha 182).trans h15
          clear ha h15
          go_simp
          refine hK _ ?_; rfl
        apply Lo.runx 18 rfl rfl [16] (by kernel_rfl) (Turn.refl _)
        apply Exists.intro; apply And.intro
        · intro u w1 hR hF
          obtain ⟨h16, -⟩ := hF
          refine ⟨.inl ⟨false, h16, rfl⟩, fun a ha K hK => ?_⟩
          have e5 := ha 5
          conv at e5 => rhs; whnf
          clear ha h16
          go_simp
          refine hK _ ?_; rfl
        apply Lo.runx 19 rfl rfl [16] (by kernel_rfl) (Turn.refl _)
        apply Exists.intro; apply And.intro
        · intro u w1 hR hF
          obtain ⟨h16, -⟩ := hF
          refine ⟨.inl ⟨false, h16, rfl⟩, fun a ha K hK => ?_⟩
          have e10 := ha 10
          conv at e10 => rhs; whnf
          clear ha h16
          go_simp
          refine hK _ ?_; rfl
        apply Lo.runx 20 rfl rfl [16, 18] (by kernel_rfl) (Turn.refl _)
        apply Exists.intro; apply And.intro
        · intro u w1 hR hF
          obtain ⟨h16, h18, -⟩ := hF
          refine ⟨.inl ⟨false, h16, rfl⟩, fun a ha K hK => ?_⟩
          have e185 := (ha 185).trans h18
          clear ha h16 h18
          obtain ⟨⟨x1, x2, x4, x5⟩, zx, -⟩ := HCEL.out w1 (((Turn.refl [] _).drew).same hR)
          go_simp
          refine hK _ ?_; rfl
        refine Lo.run 21 rfl rfl [16, 17, 19] (fun y w' => StrAt w' y NL) (by kernel_rfl) (fun x w w' h hR => ?_) (fun _ _ h => h) (fun u w1 hR hF => ?_) ?_
        · exact h.still hR
        · obtain ⟨h16, h17, h19, -⟩ := hF
          refine ⟨.inl ⟨false, h16, rfl⟩, fun a ha K hK => ?_⟩
          have e184 := (ha 184).trans h17
          have e186 := (ha 186).trans h19
          clear ha h16 h17 h19
          go_simp
          refine (obs_list (HCEL.out w1 (((Turn.refl [] _).drew).same hR)).2.2 x.to (by omega)).mono ?_
          rintro e w5 ⟨v5, rfl, hs5, ht5⟩
          rw [← HNL.out] at hs5
          exact hK _ _ hs5 ht5
        apply Lo.runx 22 rfl rfl [16] (by kernel_rfl) (Turn.refl _)
        apply Exists.intro; apply And.intro
        · intro u w1 hR hF
          obtain ⟨h16, -⟩ := hF
          refine ⟨.inl ⟨false, h16, rfl⟩, fun a ha K hK => ?_⟩
          have e7 := ha 7
          conv at e7 => rhs; whnf
          clear ha h16
          go_simp
          refine hK _ ?_; rfl
        apply Lo.runx 23 rfl rfl [16] (by kernel_rfl) (Turn.refl _)
        apply Exists.intro; apply And.intro
        · intro u w1 hR hF
          obtain ⟨h16, -⟩ := hF
          refine ⟨.inl ⟨false, h16, rfl⟩, fun a ha K hK => ?_⟩
          have e10 := ha 10
          conv at e10 => rhs; whnf
          clear ha h16
          go_simp
          refine hK _ ?_; rfl
        apply Lo.runx 24 rfl rfl [16, 22] (by kernel_rfl) (Turn.refl _)
        apply Exists.intro; apply And.intro
        · intro u w1 hR hF
          obtain ⟨h16, h22, -⟩ := hF
          refine ⟨.inl ⟨false, h16, rfl⟩, fun a ha K hK => ?_⟩
          have e189 := (ha 189).trans h22
          clear ha h16 h22
          obtain ⟨⟨x1, x2, x4, x5⟩, zx, -⟩ := HCEL.out w1 (((Turn.refl [] _).drew).same hR)
          go_simp
          refine hK _ ?_; rfl
        refine Lo.run 25 rfl rfl [16, 21, 23] (fun y w' => StrAt w' y NL) (by kernel_rfl) (fun x w w' h hR => ?_) (fun _ _ h => h) (fun u w1 hR hF => ?_) ?_
        · exact h.still hR
        · obtain ⟨h16, h21, h23, -⟩ := hF
          refine ⟨.inl ⟨false, h16, rfl⟩, fun a ha K hK => ?_⟩
          have e188 := (ha 188).trans h21
          have e190 := (ha 190).trans h23
          clear ha h16 h21 h23
          go_simp
          refine (obs_rlist (HCEL.out w1 (((Turn.refl [] _).drew).same hR)).2.2 x.to (by omega)).mono ?_
          rintro e w5 ⟨v5, rfl, hs5, ht5⟩
          rw [← HNL.out] at hs5
          exact hK _ _ hs5 ht5
        refine Lo.run 26 rfl rfl [16, 20, 24] (fun y w' => y = .bool true) (by kernel_rfl) (fun x w w' h hR => ?_) (fun _ _ h => h) (fun u w1 hR hF => ?_) ?_
        · exact h
        · obtain ⟨h16, h20, h24, -⟩ := hF
          refine ⟨.inl ⟨false, h16, rfl⟩, fun a ha K hK => ?_⟩
          have e187 : a.tmps.getD 187 undef = u 20 := ha 187
          have e191 : a.tmps.getD 191 undef = u 24 := ha 191
          have h20 := (show (fun y w' => StrAt w' y NL) (u 20) w1 from h20)
          dsimp only at h20
          have h24 := (show (fun y w' => StrAt w' y NL) (u 24) w1 from h24)
          dsimp only at h24
          clear ha h16
          go_simp
          refine (same_strs h20 h24 hnl).mono ?_
          rintro e w5 ⟨rfl, ht5⟩
          exact hK _ _ rfl ht5
        refine Lo.runv 27 rfl rfl [16, 25] (.bool (false)) (by kernel_rfl) (fun u w1 hR hF => ?_) (Turn.refl _) ?_
        · obtain ⟨h16, h25, -⟩ := hF
          refine ⟨.inl ⟨false, h16, rfl⟩, fun a ha K hK => ?_⟩
          have e192 : a.tmps.getD 192 undef = u 25 := ha 192
          have h25 := (show (fun y w' => y = .bool true) (u 25) w1 from h25)
          dsimp only at h25
          clear ha h16
          go_simp
          refine hK _ ?_
          simp
        apply Lo.runx 28 rfl rfl [16, 26] (by kernel_rfl) (Turn.refl _)
        apply Exists.intro; apply And.intro
        · intro u w1 hR hF
          obtain ⟨h16, h26, -⟩ := hF
          refine ⟨rfl, fun a ha K hK => ?_⟩
          have e183 := (ha 183).trans h16
          have e193 := (ha 193).trans h26
          clear ha h16 h26
          go_simp
          refine hK _ ?_; rfl
        apply Lo.runx 29 rfl rfl [27] (by kernel_rfl) (Turn.refl _)
        apply Exists.intro; apply And.intro
        · intro u w1 hR hF
          obtain ⟨h27, -⟩ := hF
          refine ⟨rfl, fun a ha K hK => ?_⟩
          have e194 := (ha 194).trans h27
          clear ha h27
          go_simp
          refine hK _ ?_; rfl
        apply Lo.runx 30 rfl rfl [28] (by kernel_rfl) (Turn.refl _)
        apply Exists.intro; apply And.intro
        · intro u w1 hR hF
          obtain ⟨h28, -⟩ := hF
          refine ⟨.inl ⟨false, h28, rfl⟩, fun a ha K hK => ?_⟩
          have e5 := ha 5
          conv at e5 => rhs; whnf
          clear ha h28
          go_simp
          refine hK _ ?_; rfl
        apply Lo.runx 31 rfl rfl [28] (by kernel_rfl) (Turn.refl _)
        apply Exists.intro; apply And.intro
        · intro u w1 hR hF
          obtain ⟨h28, -⟩ := hF
          refine ⟨.inl ⟨false, h28, rfl⟩, fun a ha K hK => ?_⟩
          have e10 := ha 10
          conv at e10 => rhs; whnf
          clear ha h28
          go_simp
          refine hK _ ?_; rfl
        apply Lo.runx 32 rfl rfl [28, 30] (by kernel_rfl) (Turn.refl _)
        apply Exists.intro; apply And.intro
        · intro u w1 hR hF
          obtain ⟨h28, h30, -⟩ := hF
          refine ⟨.inl ⟨false, h28, rfl⟩, fun a ha K hK => ?_⟩
          have e197 := (ha 197).trans h30
          clear ha h28 h30
          obtain ⟨⟨x1, x2, x4, x5⟩, zx, -⟩ := HCEL.out w1 (((Turn.refl [] _).drew).same hR)
          go_simp
          refine hK _ ?_; rfl
        apply Lo.runx 33 rfl rfl [28] (by kernel_rfl) (Turn.refl _)
        apply Exists.intro; apply And.intro
        · intro u w1 hR hF
          obtain ⟨h28, -⟩ := hF
          refine ⟨.inl ⟨false, h28, rfl⟩, fun a ha K hK => ?_⟩
          have e10 := ha 10
          conv at e10 => rhs; whnf
          clear ha h28
          go_simp
          refine hK _ ?_; rfl
        apply Lo.runx 34 rfl rfl [28, 32] (by kernel_rfl) (Turn.refl _)
        apply Exists.intro; apply And.intro
        · intro u w1 hR hF
          obtain ⟨h28, h32, -⟩ := hF
          refine ⟨.inl ⟨false, h28, rfl⟩, fun a ha K hK => ?_⟩
          have e199 := (ha 199).trans h32
          clear ha h28 h32
          obtain ⟨⟨x1, x2, x4, x5⟩, zx, -⟩ := HCEL.out w1 (((Turn.refl [] _).drew).same hR)
          go_simp
          refine hK _ ?_; rfl
        apply Lo.runx 35 rfl rfl [28] (by kernel_rfl) (Turn.refl _)
        apply Exists.intro; apply And.intro
        · intro u w1 hR hF
          obtain ⟨h28, -⟩ := hF
          refine ⟨.inl ⟨false, h28, rfl⟩, fun a ha K hK => ?_⟩
          have e10 := ha 10
          conv at e10 => rhs; whnf
          clear ha h28
          go_simp
          refine hK _ ?_; rfl
        apply Lo.runx 36 rfl rfl [28, 34] (by kernel_rfl) (Turn.refl _)
        apply Exists.intro; apply And.intro
        · intro u w1 hR hF
          obtain ⟨h28, h34, -⟩ := hF
          refine ⟨.inl ⟨false, h28, rfl⟩, fun a ha K hK => ?_⟩
          have e201 := (ha 201).trans h34
          clear ha h28 h34
          obtain ⟨⟨x1, x2, x4, x5⟩, zx, -⟩ := HCEL.out w1 (((Turn.refl [] _).drew).same hR)
          go_simp
          refine hK _ ?_; rfl
        refine Lo.run 37 rfl rfl [28, 29, 31, 33, 35] (fun y w' => BytesAt w' y L1) (by kernel_rfl) (fun x w w' h hR => ?_) (fun _ _ h => h) (fun u w1 hR hF => ?_) ?_
        · exact h.still hR
        · obtain ⟨h28, h29, h31, h33, h35, -⟩ := hF
          refine ⟨.inl ⟨false, h28, rfl⟩, fun a ha K hK => ?_⟩
          have e196 := (ha 196).trans h29
          have e198 := (ha 198).trans h31
          have e200 := (ha 200).trans h33
          have e202 := (ha 202).trans h35
          clear ha h28 h29 h31 h33 h35
          go_simp
          refine (obs_read (HCEL.out w1 (((Turn.refl [] _).drew).same hR)).2.2 x.name (by omega) x.n x.m ⟨HOK.out.m1, HOK.out.m2⟩).mono ?_
          rintro e w5 ⟨v5, rfl, hs5, ht5⟩
          rw [← HL1.out] at hs5
          exact hK _ _ hs5 ht5
        refine Lo.runv 38 rfl rfl [28, 36] (.string ⟨L1.toArray⟩) (by kernel_rfl) (fun u w1 hR hF => ?_) (Turn.refl _) ?_
        · obtain ⟨h28, h36, -⟩ := hF
          refine ⟨.inl ⟨false, h28, rfl⟩, fun a ha K hK => ?_⟩
          have e203 : a.tmps.getD 203 undef = u 36 := ha 203
          have h36 := (show (fun y w' => BytesAt w' y L1) (u 36) w1 from h36)
          dsimp only at h36
          clear ha h28
          have hc := h36.conv
          go_simp
          refine hK _ ?_
          rfl
        apply Lo.runx 39 rfl rfl [28] (by kernel_rfl) (Turn.refl _)
        apply Exists.intro; apply And.intro
        · intro u w1 hR hF
          obtain ⟨h28, -⟩ := hF
          refine ⟨.inl ⟨false, h28, rfl⟩, fun a ha K hK => ?_⟩
          have e7 := ha 7
          conv at e7 => rhs; whnf
          clear ha h28
          go_simp
          refine hK _ ?_; rfl
        apply Lo.runx 40 rfl rfl [28] (by kernel_rfl) (Turn.refl _)
        apply Exists.intro; apply And.intro
        · intro u w1 hR hF
          obtain ⟨h28, -⟩ := hF
          refine ⟨.inl ⟨false, h28, rfl⟩, fun a ha K hK => ?_⟩
          have e10 := ha 10
          conv at e10 => rhs; whnf
          clear ha h28
          go_simp
          refine hK _ ?_; rfl
        apply Lo.runx 41 rfl rfl [28, 39] (by kernel_rfl) (Turn.refl _)
        apply Exists.intro; apply And.intro
        · intro u w1 hR hF
          obtain ⟨h28, h39, -⟩ := hF
          refine ⟨.inl ⟨false, h28, rfl⟩, fun a ha K hK => ?_⟩
          have e206 := (ha 206).trans h39
          clear ha h28 h39
          obtain ⟨⟨x1, x2, x4, x5⟩, zx, -⟩ := HCEL.out w1 (((Turn.refl [] _).drew).same hR)
          go_simp
          refine hK _ ?_; rfl
        apply Lo.runx 42 rfl rfl [28] (by kernel_rfl) (Turn.refl _)
        apply Exists.intro; apply And.intro
        · intro u w1 hR hF
          obtain ⟨h28, -⟩ := hF
          refine ⟨.inl ⟨false, h28, rfl⟩, fun a ha K hK => ?_⟩
          have e10 := ha 10
          conv at e10 => rhs; whnf
          clear ha h28
          go_simp
          refine hK _ ?_; rfl
        apply Lo.runx 43 rfl rfl [28, 41] (by kernel_rfl) (Turn.refl _)
        apply Exists.intro; apply And.intro
        · intro u w1 hR hF
          obtain ⟨h28, h41, -⟩ := hF
          refine ⟨.inl ⟨false, h28, rfl⟩, fun a ha K hK => ?_⟩
          have e208 := (ha 208).trans h41
          clear ha h28 h41
          obtain ⟨⟨x1, x2, x4, x5⟩, zx, -⟩ := HCEL.out w1 (((Turn.refl [] _).drew).same hR)
          go_simp
          refine hK _ ?_; rfl
        apply Lo.runx 44 rfl rfl [28] (by kernel_rfl) (Turn.refl _)
        apply Exists.intro; apply And.intro
        · intro u w1 hR hF
          obtain ⟨h28, -⟩ := hF
          refine ⟨.inl ⟨false, h28, rfl⟩, fun a ha K hK => ?_⟩
          have e10 := ha 10
          conv at e10 => rhs; whnf
          clear ha h28
          go_simp
          refine hK _ ?_; rfl
        apply Lo.runx 45 rfl rfl [28, 43] (by kernel_rfl) (Turn.refl _)
        apply Exists.intro; apply And.intro
        · intro u w1 hR hF
          obtain ⟨h28, h43, -⟩ := hF
          refine ⟨.inl ⟨false, h28, rfl⟩, fun a ha K hK => ?_⟩
          have e210 := (ha 210).trans h43
          clear ha h28 h43
          obtain ⟨⟨x1, x2, x4, x5⟩, zx, -⟩ := HCEL.out w1 (((Turn.refl [] _).drew).same hR)
          go_simp
          refine hK _ ?_; rfl
        refine Lo.run 46 rfl rfl [28, 38, 40, 42, 44] (fun y w' => BytesAt w' y L1) (by kernel_rfl) (fun x w w' h hR => ?_) (fun _ _ h => h) (fun u w1 hR hF => ?_) ?_
        · exact h.still hR
        · obtain ⟨h28, h38, h40, h42, h44, -⟩ := hF
          refine ⟨.inl ⟨false, h28, rfl⟩, fun a ha K hK => ?_⟩
          have e205 := (ha 205).trans h38
          have e207 := (ha 207).trans h40
          have e209 := (ha 209).trans h42
          have e211 := (ha 211).trans h44
          clear ha h28 h38 h40 h42 h44
          go_simp
          refine (obs_rread (HCEL.out w1 (((Turn.refl [] _).drew).same hR)).2.2 x.name x.n x.m HOK.out.n2).mono ?_
          rintro e w5 ⟨v5, rfl, hs5, ht5⟩
          rw [← HL1.out] at hs5
          exact hK _ _ hs5 ht5
        refine Lo.runv 47 rfl rfl [28, 45] (.string ⟨L1.toArray⟩) (by kernel_rfl) (fun u w1 hR hF => ?_) (Turn.refl _) ?_
        · obtain ⟨h28, h45, -⟩ := hF
          refine ⟨.inl ⟨false, h28, rfl⟩, fun a ha K hK => ?_⟩
          have e212 : a.tmps.getD 212 undef = u 45 := ha 212
          have h45 := (show (fun y w' => BytesAt w' y L1) (u 45) w1 from h45)
          dsimp only at h45
          clear ha h28
          have hc := h45.conv
          go_simp
          refine hK _ ?_
          rfl
        refine Lo.runv 48 rfl rfl [28, 37, 46] (.bool (false)) (by kernel_rfl) (fun u w1 hR hF => ?_) (Turn.refl _) ?_
        · obtain ⟨h28, h37, h46, -⟩ := hF
          refine ⟨.inl ⟨false, h28, rfl⟩, fun a ha K hK => ?_⟩
          have e204 := (ha 204).trans h37
          have e213 := (ha 213).trans h46
          clear ha h28 h37 h46
          go_simp
          refine hK _ ?_
          simp
        apply Lo.runx 49 rfl rfl [28, 47] (by kernel_rfl) (Turn.refl _)
        apply Exists.intro; apply And.intro
        · intro u w1 hR hF
          obtain ⟨h28, h47, -⟩ := hF
          refine ⟨rfl, fun a ha K hK => ?_⟩
          have e195 := (ha 195).trans h28
          have e214 := (ha 214).trans h47
          clear ha h28 h47
          go_simp
          refine hK _ ?_; rfl
        apply Lo.runx 50 rfl rfl [48] (by kernel_rfl) (Turn.refl _)
        apply Exists.intro; apply And.intro
        · intro u w1 hR hF
          obtain ⟨h48, -⟩ := hF
          refine ⟨rfl, fun a ha K hK => ?_⟩
          have e215 := (ha 215).trans h48
          clear ha h48
          go_simp
          refine hK _ ?_; rfl
        apply Lo.runx 51 rfl rfl [49] (by kernel_rfl) (Turn.refl _)
        apply Exists.intro; apply And.intro
        · intro u w1 hR hF
          obtain ⟨h49, -⟩ := hF
          refine ⟨.inl ⟨false, h49, rfl⟩, fun a ha K hK => ?_⟩
          have e5 := ha 5
          conv at e5 => rhs; whnf
          clear ha h49
          go_simp
          refine hK _ ?_; rfl
        apply Lo.runx 52 rfl rfl [49] (by kernel_rfl) (Turn.refl _)
        apply Exists.intro; apply And.intro
        · intro u w1 hR hF
          obtain ⟨h49, -⟩ := hF
          refine ⟨.inl ⟨false, h49, rfl⟩, fun a ha K hK => ?_⟩
          have e10 := ha 10
          conv at e10 => rhs; whnf
          clear ha h49
          go_simp
          refine hK _ ?_; rfl
        apply Lo.runx 53 rfl rfl [49, 51] (by kernel_rfl) (Turn.refl _)
        apply Exists.intro; apply And.intro
        · intro u w1 hR hF
          obtain ⟨h49, h51, -⟩ := hF
          refine ⟨.inl ⟨false, h49, rfl⟩, fun a ha K hK => ?_⟩
          have e218 := (ha 218).trans h51
          clear ha h49 h51
          obtain ⟨⟨x1, x2, x4, x5⟩, zx, -⟩ := HCEL.out w1 (((Turn.refl [] _).drew).same hR)
          go_simp
          refine hK _ ?_; rfl
        refine Lo.run 54 rfl rfl [49, 50, 52] (fun y w' => BytesAt w' y L2) (by kernel_rfl) (fun x w w' h hR => ?_) (fun _ _ h => h) (fun u w1 hR hF => ?_) ?_
        · exact h.still hR
        · obtain ⟨h49, h50, h52, -⟩ := hF
          refine ⟨.inl ⟨false, h49, rfl⟩, fun a ha K hK => ?_⟩
          have e217 := (ha 217).trans h50
          have e219 := (ha 219).trans h52
          clear ha h49 h50 h52
          go_simp
          refine (obs_read (HCEL.out w1 (((Turn.refl [] _).drew).same hR)).2.2 x.name (by omega) 0 1048576 (by omega)).mono ?_
          rintro e w5 ⟨v5, rfl, hs5, ht5⟩
          rw [← HL2.out] at hs5
          exact hK _ _ hs5 ht5
        refine Lo.runv 55 rfl rfl [49, 53] (.string ⟨L2.toArray⟩) (by kernel_rfl) (fun u w1 hR hF => ?_) (Turn.refl _) ?_
        · obtain ⟨h49, h53, -⟩ := hF
          refine ⟨.inl ⟨false, h49, rfl⟩, fun a ha K hK => ?_⟩
          have e220 : a.tmps.getD 220 undef = u 53 := ha 220
          have h53 := (show (fun y w' => BytesAt w' y L2) (u 53) w1 from h53)
          dsimp only at h53
          clear ha h49
          have hc := h53.conv
          go_simp
          refine hK _ ?_
          rfl
        apply Lo.runx 56 rfl rfl [49] (by kernel_rfl) (Turn.refl _)
        apply Exists.intro; apply And.intro
        · intro u w1 hR hF
          obtain ⟨h49, -⟩ := hF
          refine ⟨.inl ⟨false, h49, rfl⟩, fun a ha K hK => ?_⟩
          have e7 := ha 7
          conv at e7 => rhs; whnf
          clear ha h49
          go_simp
          refine hK _ ?_; rfl
        apply Lo.runx 57 rfl rfl [49] (by kernel_rfl) (Turn.refl _)
        apply Exists.intro; apply And.intro
        · intro u w1 hR hF
          obtain ⟨h49, -⟩ := hF
          refine ⟨.inl ⟨false, h49, rfl⟩, fun a ha K hK => ?_⟩
          have e10 := ha 10
          conv at e10 => rhs; whnf
          clear ha h49
          go_simp
          refine hK _ ?_; rfl
        apply Lo.runx 58 rfl rfl [49, 56] (by kernel_rfl) (Turn.refl _)
        apply Exists.intro; apply And.intro
        · intro u w1 hR hF
          obtain ⟨h49, h56, -⟩ := hF
          refine ⟨.inl ⟨false, h49, rfl⟩, fun a ha K hK => ?_⟩
          have e223 := (ha 223).trans h56
          clear ha h49 h56
          obtain ⟨⟨x1, x2, x4, x5⟩, zx, -⟩ := HCEL.out w1 (((Turn.refl [] _).drew).same hR)
          go_simp
          refine hK _ ?_; rfl
        refine Lo.run 59 rfl rfl [49, 55, 57] (fun y w' => BytesAt w' y L2) (by kernel_rfl) (fun x w w' h hR => ?_) (fun _ _ h => h) (fun u w1 hR hF => ?_) ?_
        · exact h.still hR
        · obtain ⟨h49, h55, h57, -⟩ := hF
          refine ⟨.inl ⟨false, h49, rfl⟩, fun a ha K hK => ?_⟩
          have e222 := (ha 222).trans h55
          have e224 := (ha 224).trans h57
          clear ha h49 h55 h57
          go_simp
          refine (obs_rread (HCEL.out w1 (((Turn.refl [] _).drew).same hR)).2.2 x.name 0 1048576 (by omega)).mono ?_
          rintro e w5 ⟨v5, rfl, hs5, ht5⟩
          rw [← HL2.out] at hs5
          exact hK _ _ hs5 ht5
        refine Lo.runv 60 rfl rfl [49, 58] (.string ⟨L2.toArray⟩) (by kernel_rfl) (fun u w1 hR hF => ?_) (Turn.refl _) ?_
        · obtain ⟨h49, h58, -⟩ := hF
          refine ⟨.inl ⟨false, h49, rfl⟩, fun a ha K hK => ?_⟩
          have e225 : a.tmps.getD 225 undef = u 58 := ha 225
          have h58 := (show (fun y w' => BytesAt w' y L2) (u 58) w1 from h58)
          dsimp only at h58
          clear ha h49
          have hc := h58.conv
          go_simp
          refine hK _ ?_
          rfl
        refine Lo.runv 61 rfl rfl [49, 54, 59] (.bool (false)) (by kernel_rfl) (fun u w1 hR hF => ?_) (Turn.refl _) ?_
        · obtain ⟨h49, h54, h59, -⟩ := hF
          refine ⟨.inl ⟨false, h49, rfl⟩, fun a ha K hK => ?_⟩
          have e221 := (ha 221).trans h54
          have e226 := (ha 226).trans h59
          clear ha h49 h54 h59
          go_simp
          refine hK _ ?_
          simp
        apply Lo.runx 62 rfl rfl [49, 60] (by kernel_rfl) (Turn.refl _)
        apply Exists.intro; apply And.intro
        · intro u w1 hR hF
          obtain ⟨h49, h60, -⟩ := hF
          refine ⟨rfl, fun a ha K hK => ?_⟩
          have e216 := (ha 216).trans h49
          have e227 := (ha 227).trans h60
          clear ha h49 h60
          go_simp
          refine hK _ ?_; rfl
        refine Lo.done [61] (fun u w1 hRd hSd hF => ?_)
        clear hSd
        obtain ⟨f61, -⟩ := hF
        have d61 : u 61 = _ := f61
        clear f61
        simp only [putFrom, Act.put, List.setIfInBounds_toArray, List.set_cons_succ, List.set_cons_zero, Nat.zero_add, Nat.reduceAdd, d61]
        have HEND := hide ((HCEL.out w1 (((Turn.refl [] _).drew).same hRd)).2.2)
        clear hRd
        go_wp2
        refine ⟨⟨k + 1, by omega, by go_num, ⟨_, _, _, _, HEND.out.less (fun p hp => List.mem_cons_of_mem _ hp)⟩⟩, ?_⟩
        simp only [intOf]; omega
    · obtain rfl : k = ds.length := by omega
      go_wp2
      go_ret
      exact ⟨rfl, HPS.out.turn.nil⟩
end Go.Proofs.YtlcgcckllecjpaaDoor.Dk
