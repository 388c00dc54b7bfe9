/- The document's Get. -/
import Derived.Test.YtjjfjbclmdnodaaDoorGetP
import Derived.Test.YtjjfjbclmdnodaaDoorPutR
import Derived.Test.YtjjfjbclmdnodaaDoorLoose
import Derived.Deep.RegionWith
namespace Go.Proofs.YtjjfjbclmdnodaaDoor
open Go.RowKit Go.Maps
set_option maxRecDepth 100000
set_option linter.unusedSimpArgs false
set_option linter.unusedVariables false

theorem add_val (bs : List UInt8) (k : Nat) (hk : k < bs.length) (h6 : k < 6) :
    wrap64 ((Nu.val (bs.take k) : Int) + wrap64 ((bs[k].toNat : Int) % 128 * 128 ^ k)) = ((Nu.val (bs.take (k + 1)) : Nat) : Int) := by
  have hb := bs[k].toNat_lt
  rw [take_snoc bs k hk, Nu.val_snoc]
  have hl : (bs.take k).length = k := by simp; omega
  have hv := Nu.val_lt (bs.take k)
  rw [hl] at hv ⊢
  have hp : 128 ^ k ≤ 128 ^ 5 := Nat.pow_le_pow_right (by omega) (by omega)
  have hp' : 128 ^ k ≤ 34359738368 := hp
  rw [show ((bs[k].toNat : Int) % 128) = ((bs[k].toNat % 128 : Nat) : Int) by omega]
  generalize hq : bs[k].toNat % 128 = q at *
  have hm : q * 128 ^ k ≤ 127 * 34359738368 := Nat.mul_le_mul (by omega) hp'
  rw [show ((128 : Int) ^ k) = ((128 ^ k : Nat) : Int) by simp]
  generalize Nu.val (bs.take k) = x at *
  rw [show ((q : Int) * ((128 ^ k : Nat) : Int)) = ((q * 128 ^ k : Nat) : Int) by simp]
  generalize 128 ^ k = r at *
  generalize q * r = y at *
  rw [IntWalk.wrap64_in (y : Int) (by omega), IntWalk.wrap64_in _ (by omega)]
  omega

set_option maxHeartbeats 1000000 in
theorem refGet_any (w : World) (v : Value) (bs : List UInt8) (hx : BytesAt w v bs) (hl : bs.length ≤ 9223372036854775807) :
    Calls Tryd.prog 80 #[v] w fun e w' => e = .returned (.tuple #[.int .i64 (Nu.get bs).1, .int .i64 (Nu.get bs).2]) ∧ Turn [] w w' := by
  obtain ⟨a, c, rfl, hlc, hcm, hc⟩ := hx.form
  have HX : Hid (BytesAt w (.slice a bs.length c) bs) := hx
  clear hx
  go_enter Tryd.func80, Tryd.ntmps80
  go_wp2
  go_loop [4, 5, 6] (fun n t i => ∃ k : Nat, k ≤ bs.length ∧ k ≤ 6 ∧ i = .int .i64 k ∧ n = .int .i64 (Nu.val (bs.take k)) ∧ t = .int .i64 (128 ^ k : Nat) ∧ Nu.more (bs.take k) = true ∧ Nu.get bs = Nu.getF (6 - k) (bs.take k) (bs.drop k)) (fun _ _ i => 6 - (intOf i).toNat)
  case atStart => exact ⟨0, Nat.zero_le _, by omega, rfl, rfl, rfl, rfl, rfl⟩
  case round =>
    obtain ⟨k, hk, hk6, rfl, rfl, rfl, hmo, hg⟩ := hrel
    have HG : Hid (Nu.get bs = Nu.getF (6 - k) (bs.take k) (bs.drop k)) := hg
    have HM : Hid (Nu.more (bs.take k) = true) := hmo
    clear hg hmo
    by_cases hlt : k < bs.length
    · by_cases hlt6 : k < 6
      · obtain ⟨p, rfl, hcell⟩ := hc k (by omega)
        have hb8 := bs[k].toNat_lt
        clear hc
        have hn1 := Nu.val_lt (bs.take k)
        rw [show (bs.take k).length = k by simp; omega] at hn1
        have hp : 128 ^ k ≤ 128 ^ 5 := Nat.pow_le_pow_right (by omega) (by omega)
        have hp' : 128 ^ k ≤ 34359738368 := hp
        have hval := add_val bs k hlt hlt6
        have htim : wrap64 (128 ^ k * 128) = 128 ^ (k + 1) := by
          rw [Int.pow_succ, IntWalk.wrap64_in _ (by rw [show ((128 : Int) ^ k) = ((128 ^ k : Nat) : Int) by simp]; generalize 128 ^ k = q at *; omega)]
        have HS : Hid (Nu.get bs = Nu.getF (5 - k + 1) (bs.take k) (bs[k] :: bs.drop (k + 1))) := by
          show _ = _
          rw [HG.out, drop_cons bs k (by omega), show 6 - k = 5 - k + 1 by omega]
        have HT : Hid (bs.take k ++ [bs[k]] = bs.take (k + 1)) := (take_snoc bs k (by omega)).symm
        have HL : Hid ((bs.take k).length = k) := by show _ = _; simp; omega
        have HN : Hid (bs.take k ≠ [] ↔ 0 < k) := by
          show _ ↔ _
          have := HL.out
          rw [List.ne_nil_iff_length_pos, this]
        by_cases hc8 : 128 ≤ bs[k].toNat
        · have HM2 : Hid (Nu.get bs = Nu.getF (6 - (k + 1)) (bs.take (k + 1)) (bs.drop (k + 1))) := by
            show _ = _
            rw [HS.out, Nu.getF_more hc8, HT.out, show 5 - k = 6 - (k + 1) by omega]
          have HM3 : Hid (Nu.more (bs.take (k + 1)) = true) := by
            show _ = _
            rw [← HT.out, Nu.more_snoc, HM.out]; simpa using hc8
          go_wp2
          refine ⟨⟨k + 1, by omega, by omega, by go_num, by rw [hval], by rw [htim]; simp, HM3.out, HM2.out⟩, ?_⟩
          simp only [intOf]; omega
        · have HM2 : Hid (Nu.get bs = if 1099511627776 < Nu.val (bs.take (k + 1)) ∨ (bs.take k ≠ [] ∧ bs[k].toNat = 0) then (0, 0) else (Nu.val (bs.take (k + 1)), k + 1)) := by
            show _ = _
            rw [HS.out, Nu.getF_last (by omega), HT.out, HL.out]
          by_cases hbig : 1099511627776 < Nu.val (bs.take (k + 1))
          · have hbd : decide ((1099511627776 : Int) < ((Nu.val (bs.take (k + 1)) : Nat) : Int)) = true := by simp; omega
            have hz : Nu.get bs = (0, 0) := by rw [HM2.out, if_pos (.inl hbig)]
            have HZ := hide hz
            clear hz
            go_wp2
            go_region
            all_goals
              go_wp2
              go_ret2
              exact ⟨ret_two (by rw [HZ.out] <;> rfl) (by rw [HZ.out] <;> rfl), (Turn.refl _ _).drew⟩
          · have hbd : decide ((1099511627776 : Int) < ((Nu.val (bs.take (k + 1)) : Nat) : Int)) = false := by simp; omega
            have hput := fun w => refPut_any (Nu.val (bs.take (k + 1)) + 1) (Nu.val (bs.take (k + 1))) (by omega) (by omega) w
            have HPut := hide hput
            clear hput
            have hsl := fun w => @run_to (some p) bs.length c (k + 1) (by omega) w
            simp only [Int.natCast_add, Int.natCast_one] at hsl
            have hcvA : ∀ Z, Turn [] w Z → (convert 35 9 (.slice (some p) (k + 1) c)).run Tryd.prog Z = .ok (.string ⟨(bs.take (k + 1)).toArray⟩) Z := fun Z hZ => ((HX.out.take (n := k + 1) (by omega)).still hZ).conv
            have hcv0 := hcvA w.drew (Turn.refl [] w).drew
            have HC := hide hcvA
            clear hcvA
            by_cases hlast : bs.take k ≠ [] ∧ bs[k].toNat = 0
            · have hz : Nu.get bs = (0, 0) := by rw [HM2.out, if_pos (.inr hlast)]
              have hne : Nu.put (Nu.val (bs.take (k + 1))) ≠ bs.take (k + 1) := by rw [← HT.out]; exact Nu.put_ne _ _ _ hlast.1 hlast.2
              have HZ := hide hz
              have HNE := hide hne
              clear hz hne hlast
              go_wp2
              refine wp_region_loose (Turn []) (by kernel_rfl) (by kernel_rfl) (by kernel_rfl) (by kernel_rfl) rfl (Turn.refl _) (fun _ _ _ h k => h.same k) ?_
              apply Lo.runx 1 rfl rfl [] (by kernel_rfl) (Turn.refl _)
              apply Exists.intro; apply And.intro
              · intro u w1 hR hF
                clear hF
                refine ⟨rfl, fun a ha K hK => ?_⟩
                have e4 := ha 4
                conv at e4 => rhs; whnf
                clear ha
                go_simp
                refine hK _ ?_; rfl
              apply Lo.runx 2 rfl rfl [0] (by kernel_rfl) (Turn.refl _)
              apply Exists.intro; apply And.intro
              · intro u w1 hR hF
                obtain ⟨h0, -⟩ := hF
                refine ⟨rfl, fun a ha K hK => ?_⟩
                have e34 := (ha 34).trans h0
                clear ha h0
                go_simp
                refine hK _ ?_; rfl
              apply Lo.runx 3 rfl rfl [1] (by kernel_rfl) (Turn.refl _)
              apply Exists.intro; apply And.intro
              · intro u w1 hR hF
                obtain ⟨h1, -⟩ := hF
                refine ⟨rfl, fun a ha K hK => ?_⟩
                have e35 := (ha 35).trans h1
                clear ha h1
                go_simp
                refine hK _ ?_; rfl
              apply Lo.runx 4 rfl rfl [2] (by kernel_rfl) (Turn.refl _)
              apply Exists.intro; apply And.intro
              · intro u w1 hR hF
                obtain ⟨h2, -⟩ := hF
                refine ⟨.inl ⟨false, h2, rfl⟩, fun a ha K hK => ?_⟩
                have e4 := ha 4
                conv at e4 => rhs; whnf
                clear ha h2
                go_simp
                refine hK _ ?_; rfl
              refine Lo.run 5 rfl rfl [2, 3] (fun x w' => BytesAt w' x (Nu.put (Nu.val (bs.take (k + 1))))) (by kernel_rfl) (fun x w w' h hR => ?_) (fun _ _ h => h) (fun u w1 hR hF => ?_) ?_
              · exact h.still hR
              · obtain ⟨h2, h3, -⟩ := hF
                refine ⟨.inl ⟨false, h2, rfl⟩, fun a ha K hK => ?_⟩
                have e37 := (ha 37).trans h3
                clear ha h2 h3
                go_simp
                refine (HPut.out _).mono ?_
                rintro e w2 ⟨v2, rfl, hr2, ht2⟩
                exact hK _ _ (hr2.bytes) ht2
              apply Lo.runx 6 rfl rfl [2, 4] (by kernel_rfl) (Turn.refl _)
              apply Exists.intro; apply And.intro
              · intro u w1 hR hF
                obtain ⟨h2, h4, -⟩ := hF
                refine ⟨.inl ⟨false, h2, rfl⟩, fun a ha K hK => ?_⟩
                have e38 : a.tmps.getD 38 undef = u 4 := ha 38
                have h4 := (show (fun x w' => BytesAt w' x (Nu.put (Nu.val (bs.take (k + 1))))) (u 4) w1 from h4)
                dsimp only at h4
                clear ha h2
                have hcv := (show BytesAt w1 (u 4) _ from h4).conv
                go_simp
                refine hK _ ?_; rfl
              apply Lo.runx 7 rfl rfl [2] (by kernel_rfl) (Turn.refl _)
              apply Exists.intro; apply And.intro
              · intro u w1 hR hF
                obtain ⟨h2, -⟩ := hF
                refine ⟨.inl ⟨false, h2, rfl⟩, fun a ha K hK => ?_⟩
                have e0 := ha 0
                conv at e0 => rhs; whnf
                clear ha h2
                go_simp
                refine hK _ ?_; rfl
              apply Lo.runx 8 rfl rfl [2] (by kernel_rfl) (Turn.refl _)
              apply Exists.intro; apply And.intro
              · intro u w1 hR hF
                obtain ⟨h2, -⟩ := hF
                refine ⟨.inl ⟨false, h2, rfl⟩, fun a ha K hK => ?_⟩
                have e6 := ha 6
                conv at e6 => rhs; whnf
                clear ha h2
                go_simp
                refine hK _ ?_; rfl
              refine Lo.runv 9 rfl rfl [2, 7] (.int .i64 ((k : Int) + 1)) (by kernel_rfl) (fun u w1 hR hF => ?_) (Turn.refl _) ?_
              · obtain ⟨h2, h7, -⟩ := hF
                refine ⟨.inl ⟨false, h2, rfl⟩, fun a ha K hK => ?_⟩
                have e41 := (ha 41).trans h7
                clear ha h2 h7
                go_simp
                refine hK _ ?_
                rw [IntWalk.i64_left, IntWalk.wrap64_in _ (by omega)]
              refine Lo.runv 10 rfl rfl [2, 6, 8] (.slice (some p) (k + 1) c) (by kernel_rfl) (fun u w1 hR hF => ?_) (Turn.refl _) ?_
              · obtain ⟨h2, h6, h8, -⟩ := hF
                refine ⟨.inl ⟨false, h2, rfl⟩, fun a ha K hK => ?_⟩
                have e40 := (ha 40).trans h6
                have e42 := (ha 42).trans h8
                clear ha h2 h6 h8
                go_simp
                refine hK _ ?_
                rfl
              apply Lo.runx 11 rfl rfl [2, 9] (by kernel_rfl) (Turn.refl _)
              apply Exists.intro; apply And.intro
              · intro u w1 hR hF
                obtain ⟨h2, h9, -⟩ := hF
                refine ⟨.inl ⟨false, h2, rfl⟩, fun a ha K hK => ?_⟩
                have e43 := (ha 43).trans h9
                clear ha h2 h9
                have hcv := HC.out w1 ((Turn.refl [] w).drew.same hR)
                go_simp
                refine hK _ ?_; rfl
              refine Lo.runv 12 rfl rfl [2, 5, 10] (.bool true) (by kernel_rfl) (fun u w1 hR hF => ?_) (Turn.refl _) ?_
              · obtain ⟨h2, h5, h10, -⟩ := hF
                refine ⟨.inl ⟨false, h2, rfl⟩, fun a ha K hK => ?_⟩
                have e39 := (ha 39).trans h5
                have e44 := (ha 44).trans h10
                clear ha h2 h5 h10
                go_simp
                refine hK _ ?_
                simp [HNE.out]
              apply Lo.runx 13 rfl rfl [2, 11] (by kernel_rfl) (Turn.refl _)
              apply Exists.intro; apply And.intro
              · intro u w1 hR hF
                obtain ⟨h2, h11, -⟩ := hF
                refine ⟨rfl, fun a ha K hK => ?_⟩
                have e36 := (ha 36).trans h2
                have e45 := (ha 45).trans h11
                clear ha h2 h11
                go_simp
                refine hK _ ?_; rfl
              refine Lo.done [12] (fun u w1 hRd hSd hF => ?_)
              clear hSd
              obtain ⟨f12, -⟩ := hF
              have d12 : u 12 = _ := f12
              clear f12
              simp only [putFrom, Act.put, List.setIfInBounds_toArray, List.set_cons_succ, List.set_cons_zero, Nat.zero_add, Nat.reduceAdd, d12]
              have ht1 := (Turn.refl [] w).drew.same hRd
              clear hRd
              all_goals
                go_wp2
                go_ret2
                exact ⟨ret_two (by rw [HZ.out] <;> rfl) (by rw [HZ.out] <;> rfl), ht1⟩
            · have hz : Nu.get bs = (Nu.val (bs.take (k + 1)), k + 1) := by
                rw [HM2.out, if_neg]
                rintro (h1 | h1)
                · omega
                · exact hlast h1
              have hpt : Nu.put (Nu.val (bs.take (k + 1))) = bs.take (k + 1) := by
                rw [← HT.out]
                refine Nu.put_val _ _ HM.out (by omega) ?_
                by_cases e : bs.take k = []
                · exact .inl e
                · exact .inr (fun e2 => hlast ⟨e, e2⟩)
              have HZ := hide hz
              have HE := hide hpt
              clear hz hpt hlast
              go_wp2
              refine wp_region_loose (Turn []) (by kernel_rfl) (by kernel_rfl) (by kernel_rfl) (by kernel_rfl) rfl (Turn.refl _) (fun _ _ _ h k => h.same k) ?_
              apply Lo.runx 1 rfl rfl [] (by kernel_rfl) (Turn.refl _)
              apply Exists.intro; apply And.intro
              · intro u w1 hR hF
                clear hF
                refine ⟨rfl, fun a ha K hK => ?_⟩
                have e4 := ha 4
                conv at e4 => rhs; whnf
                clear ha
                go_simp
                refine hK _ ?_; rfl
              apply Lo.runx 2 rfl rfl [0] (by kernel_rfl) (Turn.refl _)
              apply Exists.intro; apply And.intro
              · intro u w1 hR hF
                obtain ⟨h0, -⟩ := hF
                refine ⟨rfl, fun a ha K hK => ?_⟩
                have e34 := (ha 34).trans h0
                clear ha h0
                go_simp
                refine hK _ ?_; rfl
              apply Lo.runx 3 rfl rfl [1] (by kernel_rfl) (Turn.refl _)
              apply Exists.intro; apply And.intro
              · intro u w1 hR hF
                obtain ⟨h1, -⟩ := hF
                refine ⟨rfl, fun a ha K hK => ?_⟩
                have e35 := (ha 35).trans h1
                clear ha h1
                go_simp
                refine hK _ ?_; rfl
              apply Lo.runx 4 rfl rfl [2] (by kernel_rfl) (Turn.refl _)
              apply Exists.intro; apply And.intro
              · intro u w1 hR hF
                obtain ⟨h2, -⟩ := hF
                refine ⟨.inl ⟨false, h2, rfl⟩, fun a ha K hK => ?_⟩
                have e4 := ha 4
                conv at e4 => rhs; whnf
                clear ha h2
                go_simp
                refine hK _ ?_; rfl
              refine Lo.run 5 rfl rfl [2, 3] (fun x w' => BytesAt w' x (bs.take (k + 1))) (by kernel_rfl) (fun x w w' h hR => ?_) (fun _ _ h => h) (fun u w1 hR hF => ?_) ?_
              · exact h.still hR
              · obtain ⟨h2, h3, -⟩ := hF
                refine ⟨.inl ⟨false, h2, rfl⟩, fun a ha K hK => ?_⟩
                have e37 := (ha 37).trans h3
                clear ha h2 h3
                go_simp
                refine (HPut.out _).mono ?_
                rintro e w2 ⟨v2, rfl, hr2, ht2⟩
                exact hK _ _ (by have := hr2.bytes; rwa [HE.out] at this) ht2
              apply Lo.runx 6 rfl rfl [2, 4] (by kernel_rfl) (Turn.refl _)
              apply Exists.intro; apply And.intro
              · intro u w1 hR hF
                obtain ⟨h2, h4, -⟩ := hF
                refine ⟨.inl ⟨false, h2, rfl⟩, fun a ha K hK => ?_⟩
                have e38 : a.tmps.getD 38 undef = u 4 := ha 38
                have h4 := (show (fun x w' => BytesAt w' x (bs.take (k + 1))) (u 4) w1 from h4)
                dsimp only at h4
                clear ha h2
                have hcv := (show BytesAt w1 (u 4) _ from h4).conv
                go_simp
                refine hK _ ?_; rfl
              apply Lo.runx 7 rfl rfl [2] (by kernel_rfl) (Turn.refl _)
              apply Exists.intro; apply And.intro
              · intro u w1 hR hF
                obtain ⟨h2, -⟩ := hF
                refine ⟨.inl ⟨false, h2, rfl⟩, fun a ha K hK => ?_⟩
                have e0 := ha 0
                conv at e0 => rhs; whnf
                clear ha h2
                go_simp
                refine hK _ ?_; rfl
              apply Lo.runx 8 rfl rfl [2] (by kernel_rfl) (Turn.refl _)
              apply Exists.intro; apply And.intro
              · intro u w1 hR hF
                obtain ⟨h2, -⟩ := hF
                refine ⟨.inl ⟨false, h2, rfl⟩, fun a ha K hK => ?_⟩
                have e6 := ha 6
                conv at e6 => rhs; whnf
                clear ha h2
                go_simp
                refine hK _ ?_; rfl
              refine Lo.runv 9 rfl rfl [2, 7] (.int .i64 ((k : Int) + 1)) (by kernel_rfl) (fun u w1 hR hF => ?_) (Turn.refl _) ?_
              · obtain ⟨h2, h7, -⟩ := hF
                refine ⟨.inl ⟨false, h2, rfl⟩, fun a ha K hK => ?_⟩
                have e41 := (ha 41).trans h7
                clear ha h2 h7
                go_simp
                refine hK _ ?_
                rw [IntWalk.i64_left, IntWalk.wrap64_in _ (by omega)]
              refine Lo.runv 10 rfl rfl [2, 6, 8] (.slice (some p) (k + 1) c) (by kernel_rfl) (fun u w1 hR hF => ?_) (Turn.refl _) ?_
              · obtain ⟨h2, h6, h8, -⟩ := hF
                refine ⟨.inl ⟨false, h2, rfl⟩, fun a ha K hK => ?_⟩
                have e40 := (ha 40).trans h6
                have e42 := (ha 42).trans h8
                clear ha h2 h6 h8
                go_simp
                refine hK _ ?_
                rfl
              apply Lo.runx 11 rfl rfl [2, 9] (by kernel_rfl) (Turn.refl _)
              apply Exists.intro; apply And.intro
              · intro u w1 hR hF
                obtain ⟨h2, h9, -⟩ := hF
                refine ⟨.inl ⟨false, h2, rfl⟩, fun a ha K hK => ?_⟩
                have e43 := (ha 43).trans h9
                clear ha h2 h9
                have hcv := HC.out w1 ((Turn.refl [] w).drew.same hR)
                go_simp
                refine hK _ ?_; rfl
              refine Lo.runv 12 rfl rfl [2, 5, 10] (.bool false) (by kernel_rfl) (fun u w1 hR hF => ?_) (Turn.refl _) ?_
              · obtain ⟨h2, h5, h10, -⟩ := hF
                refine ⟨.inl ⟨false, h2, rfl⟩, fun a ha K hK => ?_⟩
                have e39 := (ha 39).trans h5
                have e44 := (ha 44).trans h10
                clear ha h2 h5 h10
                go_simp
                refine hK _ ?_
                simp
              apply Lo.runx 13 rfl rfl [2, 11] (by kernel_rfl) (Turn.refl _)
              apply Exists.intro; apply And.intro
              · intro u w1 hR hF
                obtain ⟨h2, h11, -⟩ := hF
                refine ⟨rfl, fun a ha K hK => ?_⟩
                have e36 := (ha 36).trans h2
                have e45 := (ha 45).trans h11
                clear ha h2 h11
                go_simp
                refine hK _ ?_; rfl
              refine Lo.done [12] (fun u w1 hRd hSd hF => ?_)
              clear hSd
              obtain ⟨f12, -⟩ := hF
              have d12 : u 12 = _ := f12
              clear f12
              simp only [putFrom, Act.put, List.setIfInBounds_toArray, List.set_cons_succ, List.set_cons_zero, Nat.zero_add, Nat.reduceAdd, d12]
              have ht1 := (Turn.refl [] w).drew.same hRd
              clear hRd
              all_goals
                go_wp2
                go_ret2
                exact ⟨ret_two (by rw [HZ.out] <;> rfl) (by rw [HZ.out] <;> rfl), ht1⟩
      · go_wp2
        go_ret2
        have hz : Nu.get bs = (0, 0) := by
          rw [HG.out, show 6 - k = 0 by omega]; rfl
        exact ⟨ret_two (by rw [hz] <;> rfl) (by rw [hz] <;> rfl), Turn.refl _ _⟩
    · go_wp2
      go_ret2
      have hz : Nu.get bs = (0, 0) := by
        rw [HG.out, List.drop_of_length_le (by omega)]; exact Nu.getF_none _ _
      exact ⟨ret_two (by rw [hz] <;> rfl) (by rw [hz] <;> rfl), Turn.refl _ _⟩
end Go.Proofs.YtjjfjbclmdnodaaDoor
