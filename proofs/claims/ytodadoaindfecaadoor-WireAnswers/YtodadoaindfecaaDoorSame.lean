/- plain.Same of equal records: true. -/
import Derived.Test.YtodadoaindfecaaDoorDecP
namespace Go.Proofs.YtodadoaindfecaaDoor
open Go.RowKit Go.Maps
set_option maxRecDepth 100000
set_option linter.unusedSimpArgs false
set_option linter.unusedVariables false

set_option maxHeartbeats 2000000 in
theorem same_any (w : World) (v v' : Value) (recs : List Bt.Rec) (h : RecsAt w v recs) (h' : RecsAt w v' recs) :
    Calls Tryd.prog 58 #[v, v'] w fun e w' => e = .returned (.bool true) ∧ Turn [] w w' := by
  obtain ⟨a, c, rfl, hlc, hcm, hn0, hp⟩ := h.form
  obtain ⟨a', c', rfl, hlc', hcm', hn0', hp'⟩ := h'.form
  have hmx : maxLen = 9223372036854775807 := by simp [maxLen]
  rw [hmx] at hcm hcm'
  have HR : Hid (RecsAt w (.slice a recs.length c) recs) := h
  have HR' : Hid (RecsAt w (.slice a' recs.length c') recs) := h'
  clear h h' hn0 hn0'
  go_enter Tryd.func58, Tryd.ntmps58
  go_wp2
  go_loopw [13] (fun i wr => ∃ k : Nat, k ≤ recs.length ∧ i = .int .i64 k ∧ Turn [] w wr) (fun i _ => recs.length - (intOf i).toNat)
  case atStart => exact ⟨0, Nat.zero_le _, rfl, Turn.refl _ _⟩
  case round =>
    obtain ⟨k, hk, rfl, ht⟩ := hrel
    have HT := hide ht
    clear ht
    by_cases hlt : k < recs.length
    · obtain ⟨p, rfl⟩ := hp k hlt
      obtain ⟨p', rfl⟩ := hp' k hlt
      have HC := hide (fun Z (hZ : Turn [] wr Z) => ((HR.out.still HT.out).still hZ).six hlt)
      have HC' := hide (fun Z (hZ : Turn [] wr Z) => ((HR'.out.still HT.out).still hZ).six hlt)
      clear hp hp'
      obtain ⟨r, hr⟩ : ∃ r, r = recs[k] := ⟨_, rfl⟩
      rw [← hr] at HC HC'
      clear hr
      go_wp2
      refine wp_region_loose (Turn []) (by kernel_rfl) (by kernel_rfl) (by kernel_rfl) (by kernel_rfl) rfl (Turn.refl _) (fun _ _ _ h k => h.same k) ?_
      apply Lo.runx 1 rfl rfl [] (by kernel_rfl) (Turn.refl _)
      apply Exists.intro; apply And.intro
      · intro u w1 hR hF
        clear hF
        refine ⟨rfl, fun a ha K hK => ?_⟩
        have e0 := ha 0
        conv at e0 => rhs; whnf
        clear ha
        go_simp
        refine hK _ ?_; rfl
      apply Lo.runx 2 rfl rfl [] (by kernel_rfl) (Turn.refl _)
      apply Exists.intro; apply And.intro
      · intro u w1 hR hF
        clear hF
        refine ⟨rfl, fun a ha K hK => ?_⟩
        have e5 := ha 5
        conv at e5 => rhs; whnf
        clear ha
        go_simp
        refine hK _ ?_; rfl
      apply Lo.runx 3 rfl rfl [0, 1] (by kernel_rfl) (Turn.refl _)
      apply Exists.intro; apply And.intro
      · intro u w1 hR hF
        obtain ⟨h0, h1, -⟩ := hF
        refine ⟨rfl, fun a ha K hK => ?_⟩
        have e16 := (ha 16).trans h0
        have e17 := (ha 17).trans h1
        clear ha h0 h1
        go_simp
        refine hK _ ?_; rfl
      apply Lo.runx 4 rfl rfl [2] (by kernel_rfl) (Turn.refl _)
      apply Exists.intro; apply And.intro
      · intro u w1 hR hF
        obtain ⟨h2, -⟩ := hF
        refine ⟨rfl, fun a ha K hK => ?_⟩
        have e18 := (ha 18).trans h2
        clear ha h2
        obtain ⟨g0, g1, g2, g3, g4, g5⟩ := HC.out w1 ((Turn.refl [] _).drew.same hR)
        go_simp
        refine hK _ ?_; rfl
      apply Lo.runx 5 rfl rfl [] (by kernel_rfl) (Turn.refl _)
      apply Exists.intro; apply And.intro
      · intro u w1 hR hF
        clear hF
        refine ⟨rfl, fun a ha K hK => ?_⟩
        have e1 := ha 1
        conv at e1 => rhs; whnf
        clear ha
        go_simp
        refine hK _ ?_; rfl
      apply Lo.runx 6 rfl rfl [] (by kernel_rfl) (Turn.refl _)
      apply Exists.intro; apply And.intro
      · intro u w1 hR hF
        clear hF
        refine ⟨rfl, fun a ha K hK => ?_⟩
        have e5 := ha 5
        conv at e5 => rhs; whnf
        clear ha
        go_simp
        refine hK _ ?_; rfl
      apply Lo.runx 7 rfl rfl [4, 5] (by kernel_rfl) (Turn.refl _)
      apply Exists.intro; apply And.intro
      · intro u w1 hR hF
        obtain ⟨h4, h5, -⟩ := hF
        refine ⟨rfl, fun a ha K hK => ?_⟩
        have e20 := (ha 20).trans h4
        have e21 := (ha 21).trans h5
        clear ha h4 h5
        go_simp
        refine hK _ ?_; rfl
      apply Lo.runx 8 rfl rfl [6] (by kernel_rfl) (Turn.refl _)
      apply Exists.intro; apply And.intro
      · intro u w1 hR hF
        obtain ⟨h6, -⟩ := hF
        refine ⟨rfl, fun a ha K hK => ?_⟩
        have e22 := (ha 22).trans h6
        clear ha h6
        obtain ⟨g0, g1, g2, g3, g4, g5⟩ := HC'.out w1 ((Turn.refl [] _).drew.same hR)
        go_simp
        refine hK _ ?_; rfl
      refine Lo.runv 9 rfl rfl [3, 7] (.bool (false)) (by kernel_rfl) (fun u w1 hR hF => ?_) (Turn.refl _) ?_
      · obtain ⟨h3, h7, -⟩ := hF
        refine ⟨rfl, fun a ha K hK => ?_⟩
        have e19 := (ha 19).trans h3
        have e23 := (ha 23).trans h7
        clear ha h3 h7
        go_simp
        refine hK _ ?_
        simp
      refine Lo.done [8] (fun u w1 hRd hSd hF => ?_)
      clear hSd
      obtain ⟨f8, -⟩ := hF
      have d8 : u 8 = _ := f8
      clear f8
      simp only [putFrom, Act.put, List.setIfInBounds_toArray, List.set_cons_succ, List.set_cons_zero, Nat.zero_add, Nat.reduceAdd, d8]
      have HT1 := hide (HT.out.same ((Turn.refl [] wr).drew.same hRd))
      clear hRd
      go_wp2
      refine ⟨⟨k + 1, by omega, by go_num, HT1.out⟩, ?_⟩
      simp only [intOf]; omega
    · obtain rfl : k = recs.length := by omega
      go_wp2
      go_ret
      exact ⟨rfl, HT.out⟩
end Go.Proofs.YtodadoaindfecaaDoor
