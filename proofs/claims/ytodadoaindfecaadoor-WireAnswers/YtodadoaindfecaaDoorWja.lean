/- How many bytes a frame takes. -/
import Derived.Test.YtodadoaindfecaaDoorWiz
import Derived.Test.YtodadoaindfecaaDoorFr
import Derived.Test.YtodadoaindfecaaDoorErr
namespace Go.Proofs.YtodadoaindfecaaDoor.Wi
open Go.RowKit Go.Maps
set_option maxRecDepth 100000
set_option linter.unusedSimpArgs false
set_option linter.unusedVariables false


set_option maxHeartbeats 4000000 in
theorem wwhole_any (w : World) (v : Value) (bs : List UInt8) (hx : BytesAt w v bs) (hl : bs.length ≤ 1000000) :
    Calls Tryd.prog 55 #[v] w fun e w' => e = .returned (.tuple #[.int .i64 (whole bs).1, As.errN (whole bs).2]) ∧ Turn [] w w' := by
  by_cases h4 : bs.length < 4
  · obtain ⟨a, c, rfl, hlc, hcm, hc⟩ := hx.form
    have hw : whole bs = (0, 12) := by unfold whole; rw [if_pos h4]
    have HW := hide hw
    have h4' : (bs.length : Int) < 4 := by omega
    have HT := hide (Turn.refl [] w)
    clear hx hc hw
    go_enter Tryd.func55, Tryd.ntmps55
    go_wp2
    go_ret2
    rw [HW.out]
    exact ⟨by simp [As.errN], HT.out⟩
  obtain ⟨p, c, rfl, hlc, hcm, c0, c1, c2, c3⟩ := hx.four (by omega)
  obtain ⟨b0, e0⟩ : ∃ b : Nat, (bs.getD 0 0).toNat = b := ⟨_, rfl⟩
  obtain ⟨b1, e1⟩ : ∃ b : Nat, (bs.getD 1 0).toNat = b := ⟨_, rfl⟩
  obtain ⟨b2, e2⟩ : ∃ b : Nat, (bs.getD 2 0).toNat = b := ⟨_, rfl⟩
  obtain ⟨b3, e3⟩ : ∃ b : Nat, (bs.getD 3 0).toNat = b := ⟨_, rfl⟩
  have l0 : b0 < 256 := by rw [← e0]; exact UInt8.toNat_lt _
  have l1 : b1 < 256 := by rw [← e1]; exact UInt8.toNat_lt _
  have l2 : b2 < 256 := by rw [← e2]; exact UInt8.toNat_lt _
  have l3 : b3 < 256 := by rw [← e3]; exact UInt8.toNat_lt _
  obtain ⟨n, hn⟩ : ∃ n, n = Bt.fourV bs := ⟨_, rfl⟩
  have hv : n = b0 * 16777216 + b1 * 65536 + b2 * 256 + b3 := by rw [hn]; unfold Bt.fourV; rw [e0, e1, e2, e3]
  have hw : whole bs = if n < 1 ∨ 10000 < n then (0, 4) else if bs.length < n + 4 then (0, 12) else (n + 4, 0) := by unfold whole; rw [if_neg h4, ← hn]
  rw [e0] at c0
  rw [e1] at c1
  rw [e2] at c2
  rw [e3] at c3
  have HWH := hide hw
  have h4' : ¬ (bs.length : Int) < 4 := by omega
  have i0 : 0 < bs.length := by omega
  have i1 : (1 : Int) < (bs.length : Int) := by omega
  have i2 : (2 : Int) < (bs.length : Int) := by omega
  have i3 : (3 : Int) < (bs.length : Int) := by omega
  have hv' : (b0 : Int) * 16777216 + (b1 : Int) * 65536 + (b2 : Int) * 256 + (b3 : Int) = (n : Int) := by omega
  have HV := hide hv'
  clear hx e0 e1 e2 e3 hw hn hv hv'
  go_enter Tryd.func55, Tryd.ntmps55
  go_wp2
  refine wp_region_loose (fun a b => a = b) (by kernel_rfl) (by kernel_rfl) (by kernel_rfl) (by kernel_rfl) rfl (fun _ => rfl) (fun _ _ _ h k => h.trans k) ?_
  apply Lo.runx 1 rfl rfl [] (by kernel_rfl) (fun _ => rfl)
  apply Exists.intro; apply And.intro
  · intro u w1 hR hF
    clear hF
    subst hR
    refine ⟨rfl, fun a ha K hK => ?_⟩
    have e0 := ha 0
    conv at e0 => rhs; whnf
    clear ha
    go_simp
    refine hK _ ?_; rfl
  apply Lo.runx 2 rfl rfl [0] (by kernel_rfl) (fun _ => rfl)
  apply Exists.intro; apply And.intro
  · intro u w1 hR hF
    obtain ⟨h0, -⟩ := hF
    subst hR
    refine ⟨rfl, fun a ha K hK => ?_⟩
    have e9 := (ha 9).trans h0
    clear ha h0
    go_simp
    refine hK _ ?_; rfl
  apply Lo.runx 3 rfl rfl [1] (by kernel_rfl) (fun _ => rfl)
  apply Exists.intro; apply And.intro
  · intro u w1 hR hF
    obtain ⟨h1, -⟩ := hF
    subst hR
    refine ⟨rfl, fun a ha K hK => ?_⟩
    have e10 := (ha 10).trans h1
    clear ha h1
    go_simp
    refine hK _ ?_; rfl
  apply Lo.runx 4 rfl rfl [2] (by kernel_rfl) (fun _ => rfl)
  apply Exists.intro; apply And.intro
  · intro u w1 hR hF
    obtain ⟨h2, -⟩ := hF
    subst hR
    refine ⟨rfl, fun a ha K hK => ?_⟩
    have e11 := (ha 11).trans h2
    clear ha h2
    go_simp
    refine hK _ ?_; rfl
  refine Lo.runv 5 rfl rfl [3] (.int .i64 ((b0 * 16777216 : Nat) : Int)) (by kernel_rfl) (fun u w1 hR hF => ?_) (fun _ => rfl) ?_
  · obtain ⟨h3, -⟩ := hF
    subst hR
    refine ⟨rfl, fun a ha K hK => ?_⟩
    have e12 := (ha 12).trans h3
    clear ha h3
    go_simp
    refine hK _ ?_
    rw [IntWalk.i64_left, IntWalk.i64_left, IntWalk.wrap64_in (b0 : Int) (by omega), IntWalk.wrap64_in _ (by omega)]; simp
  apply Lo.runx 6 rfl rfl [] (by kernel_rfl) (fun _ => rfl)
  apply Exists.intro; apply And.intro
  · intro u w1 hR hF
    clear hF
    subst hR
    refine ⟨rfl, fun a ha K hK => ?_⟩
    have e0 := ha 0
    conv at e0 => rhs; whnf
    clear ha
    go_simp
    refine hK _ ?_; rfl
  apply Lo.runx 7 rfl rfl [5] (by kernel_rfl) (fun _ => rfl)
  apply Exists.intro; apply And.intro
  · intro u w1 hR hF
    obtain ⟨h5, -⟩ := hF
    subst hR
    refine ⟨rfl, fun a ha K hK => ?_⟩
    have e14 := (ha 14).trans h5
    clear ha h5
    go_simp
    refine hK _ ?_; rfl
  apply Lo.runx 8 rfl rfl [6] (by kernel_rfl) (fun _ => rfl)
  apply Exists.intro; apply And.intro
  · intro u w1 hR hF
    obtain ⟨h6, -⟩ := hF
    subst hR
    refine ⟨rfl, fun a ha K hK => ?_⟩
    have e15 := (ha 15).trans h6
    clear ha h6
    go_simp
    refine hK _ ?_; rfl
  apply Lo.runx 9 rfl rfl [7] (by kernel_rfl) (fun _ => rfl)
  apply Exists.intro; apply And.intro
  · intro u w1 hR hF
    obtain ⟨h7, -⟩ := hF
    subst hR
    refine ⟨rfl, fun a ha K hK => ?_⟩
    have e16 := (ha 16).trans h7
    clear ha h7
    go_simp
    refine hK _ ?_; rfl
  refine Lo.runv 10 rfl rfl [8] (.int .i64 ((b1 * 65536 : Nat) : Int)) (by kernel_rfl) (fun u w1 hR hF => ?_) (fun _ => rfl) ?_
  · obtain ⟨h8, -⟩ := hF
    subst hR
    refine ⟨rfl, fun a ha K hK => ?_⟩
    have e17 := (ha 17).trans h8
    clear ha h8
    go_simp
    refine hK _ ?_
    rw [IntWalk.i64_left, IntWalk.i64_left, IntWalk.wrap64_in (b1 : Int) (by omega), IntWalk.wrap64_in _ (by omega)]; simp
  refine Lo.runv 11 rfl rfl [4, 9] (.int .i64 ((b0 * 16777216 + b1 * 65536 : Nat) : Int)) (by kernel_rfl) (fun u w1 hR hF => ?_) (fun _ => rfl) ?_
  · obtain ⟨h4, h9, -⟩ := hF
    subst hR
    refine ⟨rfl, fun a ha K hK => ?_⟩
    have e13 := (ha 13).trans h4
    have e18 := (ha 18).trans h9
    clear ha h4 h9
    go_simp
    refine hK _ ?_
    have hor := or_add (b0 * 16777216) (b1 * 65536) 24 (by omega) (by omega) (by omega)
    try rw [IntWalk.i64_left (n := (b3 : Int)), IntWalk.wrap64_in (b3 : Int) (by omega)]
    simpa using hor
  apply Lo.runx 12 rfl rfl [] (by kernel_rfl) (fun _ => rfl)
  apply Exists.intro; apply And.intro
  · intro u w1 hR hF
    clear hF
    subst hR
    refine ⟨rfl, fun a ha K hK => ?_⟩
    have e0 := ha 0
    conv at e0 => rhs; whnf
    clear ha
    go_simp
    refine hK _ ?_; rfl
  apply Lo.runx 13 rfl rfl [11] (by kernel_rfl) (fun _ => rfl)
  apply Exists.intro; apply And.intro
  · intro u w1 hR hF
    obtain ⟨h11, -⟩ := hF
    subst hR
    refine ⟨rfl, fun a ha K hK => ?_⟩
    have e20 := (ha 20).trans h11
    clear ha h11
    go_simp
    refine hK _ ?_; rfl
  apply Lo.runx 14 rfl rfl [12] (by kernel_rfl) (fun _ => rfl)
  apply Exists.intro; apply And.intro
  · intro u w1 hR hF
    obtain ⟨h12, -⟩ := hF
    subst hR
    refine ⟨rfl, fun a ha K hK => ?_⟩
    have e21 := (ha 21).trans h12
    clear ha h12
    go_simp
    refine hK _ ?_; rfl
  apply Lo.runx 15 rfl rfl [13] (by kernel_rfl) (fun _ => rfl)
  apply Exists.intro; apply And.intro
  · intro u w1 hR hF
    obtain ⟨h13, -⟩ := hF
    subst hR
    refine ⟨rfl, fun a ha K hK => ?_⟩
    have e22 := (ha 22).trans h13
    clear ha h13
    go_simp
    refine hK _ ?_; rfl
  refine Lo.runv 16 rfl rfl [14] (.int .i64 ((b2 * 256 : Nat) : Int)) (by kernel_rfl) (fun u w1 hR hF => ?_) (fun _ => rfl) ?_
  · obtain ⟨h14, -⟩ := hF
    subst hR
    refine ⟨rfl, fun a ha K hK => ?_⟩
    have e23 := (ha 23).trans h14
    clear ha h14
    go_simp
    refine hK _ ?_
    rw [IntWalk.i64_left, IntWalk.i64_left, IntWalk.wrap64_in (b2 : Int) (by omega), IntWalk.wrap64_in _ (by omega)]; simp
  refine Lo.runv 17 rfl rfl [10, 15] (.int .i64 ((b0 * 16777216 + b1 * 65536 + b2 * 256 : Nat) : Int)) (by kernel_rfl) (fun u w1 hR hF => ?_) (fun _ => rfl) ?_
  · obtain ⟨h10, h15, -⟩ := hF
    subst hR
    refine ⟨rfl, fun a ha K hK => ?_⟩
    have e19 := (ha 19).trans h10
    have e24 := (ha 24).trans h15
    clear ha h10 h15
    go_simp
    refine hK _ ?_
    have hor := or_add (b0 * 16777216 + b1 * 65536) (b2 * 256) 16 (by omega) (by omega) (by omega)
    try rw [IntWalk.i64_left (n := (b3 : Int)), IntWalk.wrap64_in (b3 : Int) (by omega)]
    simpa using hor
  apply Lo.runx 18 rfl rfl [] (by kernel_rfl) (fun _ => rfl)
  apply Exists.intro; apply And.intro
  · intro u w1 hR hF
    clear hF
    subst hR
    refine ⟨rfl, fun a ha K hK => ?_⟩
    have e0 := ha 0
    conv at e0 => rhs; whnf
    clear ha
    go_simp
    refine hK _ ?_; rfl
  apply Lo.runx 19 rfl rfl [17] (by kernel_rfl) (fun _ => rfl)
  apply Exists.intro; apply And.intro
  · intro u w1 hR hF
    obtain ⟨h17, -⟩ := hF
    subst hR
    refine ⟨rfl, fun a ha K hK => ?_⟩
    have e26 := (ha 26).trans h17
    clear ha h17
    go_simp
    refine hK _ ?_; rfl
  apply Lo.runx 20 rfl rfl [18] (by kernel_rfl) (fun _ => rfl)
  apply Exists.intro; apply And.intro
  · intro u w1 hR hF
    obtain ⟨h18, -⟩ := hF
    subst hR
    refine ⟨rfl, fun a ha K hK => ?_⟩
    have e27 := (ha 27).trans h18
    clear ha h18
    go_simp
    refine hK _ ?_; rfl
  apply Lo.runx 21 rfl rfl [19] (by kernel_rfl) (fun _ => rfl)
  apply Exists.intro; apply And.intro
  · intro u w1 hR hF
    obtain ⟨h19, -⟩ := hF
    subst hR
    refine ⟨rfl, fun a ha K hK => ?_⟩
    have e28 := (ha 28).trans h19
    clear ha h19
    go_simp
    refine hK _ ?_; rfl
  refine Lo.runv 22 rfl rfl [16, 20] (.int .i64 ((b0 * 16777216 + b1 * 65536 + b2 * 256 + b3 : Nat) : Int)) (by kernel_rfl) (fun u w1 hR hF => ?_) (fun _ => rfl) ?_
  · obtain ⟨h16, h20, -⟩ := hF
    subst hR
    refine ⟨rfl, fun a ha K hK => ?_⟩
    have e25 := (ha 25).trans h16
    have e29 := (ha 29).trans h20
    clear ha h16 h20
    go_simp
    refine hK _ ?_
    have hor := or_add (b0 * 16777216 + b1 * 65536 + b2 * 256) (b3) 8 (by omega) (by omega) (by omega)
    try rw [IntWalk.i64_left (n := (b3 : Int)), IntWalk.wrap64_in (b3 : Int) (by omega)]
    simpa using hor
  apply Lo.runx 23 rfl rfl [21] (by kernel_rfl) (fun _ => rfl)
  apply Exists.intro; apply And.intro
  · intro u w1 hR hF
    obtain ⟨h21, -⟩ := hF
    subst hR
    refine ⟨rfl, fun a ha K hK => ?_⟩
    have e30 := (ha 30).trans h21
    clear ha h21
    go_simp
    refine hK _ ?_; rfl
  refine Lo.done [22] (fun u w1 hRd hSd hF => ?_)
  clear hSd
  obtain ⟨f22, -⟩ := hF
  subst hRd
  have d22 : u 22 = _ := f22
  clear f22
  simp only [putFrom, Act.put, List.setIfInBounds_toArray, List.set_cons_succ, List.set_cons_zero, Nat.zero_add, Nat.reduceAdd, d22]
  clear d22 c0 c1 c2 c3 i0 i1 i2 i3
  have hvv := HV.out
  try simp only [Nat.cast_add, Nat.cast_mul, Nat.cast_ofNat] at hvv ⊢
  rw [hvv]
  clear hvv l0 l1 l2 l3
  have HT := hide ((Turn.refl [] w).drew)
  by_cases hs : n < 1
  · have hs1 : (n : Int) < 1 := by omega
    have hw : whole bs = (0, 4) := by rw [HWH.out, if_pos (.inl hs)]
    have HW := hide hw
    clear hw hs
    go_wp2
    go_ret2
    rw [HW.out]
    exact ⟨by simp [As.errN], HT.out⟩
  have hs1 : ¬ (n : Int) < 1 := by omega
  by_cases hg : 10000 < n
  · have hg1 : (n : Int) > 10000 := by omega
    have hw : whole bs = (0, 4) := by rw [HWH.out, if_pos (.inr hg)]
    have HW := hide hw
    clear hw hg hs
    go_wp2
    go_ret2
    rw [HW.out]
    exact ⟨by simp [As.errN], HT.out⟩
  have hg1 : ¬ (n : Int) > 10000 := by omega
  by_cases hsh : bs.length < n + 4
  · have hsh1 : (bs.length : Int) < 4 + (n : Int) := by omega
    have hw : whole bs = (0, 12) := by rw [HWH.out, if_neg (by omega), if_pos hsh]
    have HW := hide hw
    clear hw hsh hs hg
    go_wp2
    go_ret2
    rw [HW.out]
    exact ⟨by simp [As.errN], HT.out⟩
  · have hsh1 : ¬ (bs.length : Int) < 4 + (n : Int) := by omega
    have hw : whole bs = (n + 4, 0) := by rw [HWH.out, if_neg (by omega), if_neg hsh]
    have HW := hide hw
    clear hw hsh hs hg
    go_wp2
    go_ret2
    rw [HW.out]
    refine ⟨?_, HT.out⟩
    simp [As.errN, Int.add_comm]

set_option maxHeartbeats 4000000 in
theorem rwhole_any (w : World) (v : Value) (bs : List UInt8) (hx : BytesAt w v bs) (hl : bs.length ≤ 1000000) :
    Calls Tryd.prog 50 #[v] w fun e w' => e = .returned (.tuple #[.int .i64 (whole bs).1, .int .i64 (whole bs).2]) ∧ Turn [] w w' := by
  by_cases h4 : bs.length < 4
  · obtain ⟨a, c, rfl, hlc, hcm, hc⟩ := hx.form
    have hw : whole bs = (0, 12) := by unfold whole; rw [if_pos h4]
    have HW := hide hw
    have h4' : (bs.length : Int) < 4 := by omega
    have HT := hide (Turn.refl [] w)
    clear hx hc hw
    go_enter Tryd.func50, Tryd.ntmps50
    go_wp2
    go_ret2
    rw [HW.out]
    exact ⟨rfl, HT.out⟩
  obtain ⟨p, c, rfl, hlc, hcm, c0, c1, c2, c3⟩ := hx.four (by omega)
  obtain ⟨b0, e0⟩ : ∃ b : Nat, (bs.getD 0 0).toNat = b := ⟨_, rfl⟩
  obtain ⟨b1, e1⟩ : ∃ b : Nat, (bs.getD 1 0).toNat = b := ⟨_, rfl⟩
  obtain ⟨b2, e2⟩ : ∃ b : Nat, (bs.getD 2 0).toNat = b := ⟨_, rfl⟩
  obtain ⟨b3, e3⟩ : ∃ b : Nat, (bs.getD 3 0).toNat = b := ⟨_, rfl⟩
  have l0 : b0 < 256 := by rw [← e0]; exact UInt8.toNat_lt _
  have l1 : b1 < 256 := by rw [← e1]; exact UInt8.toNat_lt _
  have l2 : b2 < 256 := by rw [← e2]; exact UInt8.toNat_lt _
  have l3 : b3 < 256 := by rw [← e3]; exact UInt8.toNat_lt _
  obtain ⟨n, hn⟩ : ∃ n, n = Bt.fourV bs := ⟨_, rfl⟩
  have hv : n = b0 * 16777216 + b1 * 65536 + b2 * 256 + b3 := by rw [hn]; unfold Bt.fourV; rw [e0, e1, e2, e3]
  have hw : whole bs = if n < 1 ∨ 10000 < n then (0, 4) else if bs.length < n + 4 then (0, 12) else (n + 4, 0) := by unfold whole; rw [if_neg h4, ← hn]
  rw [e0] at c0
  rw [e1] at c1
  rw [e2] at c2
  rw [e3] at c3
  have HWH := hide hw
  have h4' : ¬ (bs.length : Int) < 4 := by omega
  have i0 : 0 < bs.length := by omega
  have i1 : (1 : Int) < (bs.length : Int) := by omega
  have i2 : (2 : Int) < (bs.length : Int) := by omega
  have i3 : (3 : Int) < (bs.length : Int) := by omega
  have hv' : (b0 : Int) * 16777216 + (b1 : Int) * 65536 + (b2 : Int) * 256 + (b3 : Int) = (n : Int) := by omega
  have HV := hide hv'
  clear hx e0 e1 e2 e3 hw hn hv hv'
  go_enter Tryd.func50, Tryd.ntmps50
  go_wp2
  refine wp_region_loose (fun a b => a = b) (by kernel_rfl) (by kernel_rfl) (by kernel_rfl) (by kernel_rfl) rfl (fun _ => rfl) (fun _ _ _ h k => h.trans k) ?_
  apply Lo.runx 1 rfl rfl [] (by kernel_rfl) (fun _ => rfl)
  apply Exists.intro; apply And.intro
  · intro u w1 hR hF
    clear hF
    subst hR
    refine ⟨rfl, fun a ha K hK => ?_⟩
    have e0 := ha 0
    conv at e0 => rhs; whnf
    clear ha
    go_simp
    refine hK _ ?_; rfl
  apply Lo.runx 2 rfl rfl [0] (by kernel_rfl) (fun _ => rfl)
  apply Exists.intro; apply And.intro
  · intro u w1 hR hF
    obtain ⟨h0, -⟩ := hF
    subst hR
    refine ⟨rfl, fun a ha K hK => ?_⟩
    have e8 := (ha 8).trans h0
    clear ha h0
    go_simp
    refine hK _ ?_; rfl
  apply Lo.runx 3 rfl rfl [1] (by kernel_rfl) (fun _ => rfl)
  apply Exists.intro; apply And.intro
  · intro u w1 hR hF
    obtain ⟨h1, -⟩ := hF
    subst hR
    refine ⟨rfl, fun a ha K hK => ?_⟩
    have e9 := (ha 9).trans h1
    clear ha h1
    go_simp
    refine hK _ ?_; rfl
  apply Lo.runx 4 rfl rfl [2] (by kernel_rfl) (fun _ => rfl)
  apply Exists.intro; apply And.intro
  · intro u w1 hR hF
    obtain ⟨h2, -⟩ := hF
    subst hR
    refine ⟨rfl, fun a ha K hK => ?_⟩
    have e10 := (ha 10).trans h2
    clear ha h2
    go_simp
    refine hK _ ?_; rfl
  refine Lo.runv 5 rfl rfl [3] (.int .i64 ((b0 * 16777216 : Nat) : Int)) (by kernel_rfl) (fun u w1 hR hF => ?_) (fun _ => rfl) ?_
  · obtain ⟨h3, -⟩ := hF
    subst hR
    refine ⟨rfl, fun a ha K hK => ?_⟩
    have e11 := (ha 11).trans h3
    clear ha h3
    go_simp
    refine hK _ ?_
    rw [IntWalk.i64_left, IntWalk.i64_left, IntWalk.wrap64_in (b0 : Int) (by omega), IntWalk.wrap64_in _ (by omega)]; simp
  apply Lo.runx 6 rfl rfl [] (by kernel_rfl) (fun _ => rfl)
  apply Exists.intro; apply And.intro
  · intro u w1 hR hF
    clear hF
    subst hR
    refine ⟨rfl, fun a ha K hK => ?_⟩
    have e0 := ha 0
    conv at e0 => rhs; whnf
    clear ha
    go_simp
    refine hK _ ?_; rfl
  apply Lo.runx 7 rfl rfl [5] (by kernel_rfl) (fun _ => rfl)
  apply Exists.intro; apply And.intro
  · intro u w1 hR hF
    obtain ⟨h5, -⟩ := hF
    subst hR
    refine ⟨rfl, fun a ha K hK => ?_⟩
    have e13 := (ha 13).trans h5
    clear ha h5
    go_simp
    refine hK _ ?_; rfl
  apply Lo.runx 8 rfl rfl [6] (by kernel_rfl) (fun _ => rfl)
  apply Exists.intro; apply And.intro
  · intro u w1 hR hF
    obtain ⟨h6, -⟩ := hF
    subst hR
    refine ⟨rfl, fun a ha K hK => ?_⟩
    have e14 := (ha 14).trans h6
    clear ha h6
    go_simp
    refine hK _ ?_; rfl
  apply Lo.runx 9 rfl rfl [7] (by kernel_rfl) (fun _ => rfl)
  apply Exists.intro; apply And.intro
  · intro u w1 hR hF
    obtain ⟨h7, -⟩ := hF
    subst hR
    refine ⟨rfl, fun a ha K hK => ?_⟩
    have e15 := (ha 15).trans h7
    clear ha h7
    go_simp
    refine hK _ ?_; rfl
  refine Lo.runv 10 rfl rfl [8] (.int .i64 ((b1 * 65536 : Nat) : Int)) (by kernel_rfl) (fun u w1 hR hF => ?_) (fun _ => rfl) ?_
  · obtain ⟨h8, -⟩ := hF
    subst hR
    refine ⟨rfl, fun a ha K hK => ?_⟩
    have e16 := (ha 16).trans h8
    clear ha h8
    go_simp
    refine hK _ ?_
    rw [IntWalk.i64_left, IntWalk.i64_left, IntWalk.wrap64_in (b1 : Int) (by omega), IntWalk.wrap64_in _ (by omega)]; simp
  refine Lo.runv 11 rfl rfl [4, 9] (.int .i64 ((b0 * 16777216 + b1 * 65536 : Nat) : Int)) (by kernel_rfl) (fun u w1 hR hF => ?_) (fun _ => rfl) ?_
  · obtain ⟨h4, h9, -⟩ := hF
    subst hR
    refine ⟨rfl, fun a ha K hK => ?_⟩
    have e12 := (ha 12).trans h4
    have e17 := (ha 17).trans h9
    clear ha h4 h9
    go_simp
    refine hK _ ?_
    have hor := IntWalk.wrap64_in ((b0 * 16777216 + b1 * 65536 : Nat) : Int) (by omega)
    have h3 := IntWalk.wrap64_in (b3 : Int) (by omega)
    simpa [IntWalk.i64_left, h3] using hor
  apply Lo.runx 12 rfl rfl [] (by kernel_rfl) (fun _ => rfl)
  apply Exists.intro; apply And.intro
  · intro u w1 hR hF
    clear hF
    subst hR
    refine ⟨rfl, fun a ha K hK => ?_⟩
    have e0 := ha 0
    conv at e0 => rhs; whnf
    clear ha
    go_simp
    refine hK _ ?_; rfl
  apply Lo.runx 13 rfl rfl [11] (by kernel_rfl) (fun _ => rfl)
  apply Exists.intro; apply And.intro
  · intro u w1 hR hF
    obtain ⟨h11, -⟩ := hF
    subst hR
    refine ⟨rfl, fun a ha K hK => ?_⟩
    have e19 := (ha 19).trans h11
    clear ha h11
    go_simp
    refine hK _ ?_; rfl
  apply Lo.runx 14 rfl rfl [12] (by kernel_rfl) (fun _ => rfl)
  apply Exists.intro; apply And.intro
  · intro u w1 hR hF
    obtain ⟨h12, -⟩ := hF
    subst hR
    refine ⟨rfl, fun a ha K hK => ?_⟩
    have e20 := (ha 20).trans h12
    clear ha h12
    go_simp
    refine hK _ ?_; rfl
  apply Lo.runx 15 rfl rfl [13] (by kernel_rfl) (fun _ => rfl)
  apply Exists.intro; apply And.intro
  · intro u w1 hR hF
    obtain ⟨h13, -⟩ := hF
    subst hR
    refine ⟨rfl, fun a ha K hK => ?_⟩
    have e21 := (ha 21).trans h13
    clear ha h13
    go_simp
    refine hK _ ?_; rfl
  refine Lo.runv 16 rfl rfl [14] (.int .i64 ((b2 * 256 : Nat) : Int)) (by kernel_rfl) (fun u w1 hR hF => ?_) (fun _ => rfl) ?_
  · obtain ⟨h14, -⟩ := hF
    subst hR
    refine ⟨rfl, fun a ha K hK => ?_⟩
    have e22 := (ha 22).trans h14
    clear ha h14
    go_simp
    refine hK _ ?_
    rw [IntWalk.i64_left, IntWalk.i64_left, IntWalk.wrap64_in (b2 : Int) (by omega), IntWalk.wrap64_in _ (by omega)]; simp
  refine Lo.runv 17 rfl rfl [10, 15] (.int .i64 ((b0 * 16777216 + b1 * 65536 + b2 * 256 : Nat) : Int)) (by kernel_rfl) (fun u w1 hR hF => ?_) (fun _ => rfl) ?_
  · obtain ⟨h10, h15, -⟩ := hF
    subst hR
    refine ⟨rfl, fun a ha K hK => ?_⟩
    have e18 := (ha 18).trans h10
    have e23 := (ha 23).trans h15
    clear ha h10 h15
    go_simp
    refine hK _ ?_
    have hor := IntWalk.wrap64_in ((b0 * 16777216 + b1 * 65536 + b2 * 256 : Nat) : Int) (by omega)
    have h3 := IntWalk.wrap64_in (b3 : Int) (by omega)
    simpa [IntWalk.i64_left, h3] using hor
  apply Lo.runx 18 rfl rfl [] (by kernel_rfl) (fun _ => rfl)
  apply Exists.intro; apply And.intro
  · intro u w1 hR hF
    clear hF
    subst hR
    refine ⟨rfl, fun a ha K hK => ?_⟩
    have e0 := ha 0
    conv at e0 => rhs; whnf
    clear ha
    go_simp
    refine hK _ ?_; rfl
  apply Lo.runx 19 rfl rfl [17] (by kernel_rfl) (fun _ => rfl)
  apply Exists.intro; apply And.intro
  · intro u w1 hR hF
    obtain ⟨h17, -⟩ := hF
    subst hR
    refine ⟨rfl, fun a ha K hK => ?_⟩
    have e25 := (ha 25).trans h17
    clear ha h17
    go_simp
    refine hK _ ?_; rfl
  apply Lo.runx 20 rfl rfl [18] (by kernel_rfl) (fun _ => rfl)
  apply Exists.intro; apply And.intro
  · intro u w1 hR hF
    obtain ⟨h18, -⟩ := hF
    subst hR
    refine ⟨rfl, fun a ha K hK => ?_⟩
    have e26 := (ha 26).trans h18
    clear ha h18
    go_simp
    refine hK _ ?_; rfl
  apply Lo.runx 21 rfl rfl [19] (by kernel_rfl) (fun _ => rfl)
  apply Exists.intro; apply And.intro
  · intro u w1 hR hF
    obtain ⟨h19, -⟩ := hF
    subst hR
    refine ⟨rfl, fun a ha K hK => ?_⟩
    have e27 := (ha 27).trans h19
    clear ha h19
    go_simp
    refine hK _ ?_; rfl
  refine Lo.runv 22 rfl rfl [16, 20] (.int .i64 ((b0 * 16777216 + b1 * 65536 + b2 * 256 + b3 : Nat) : Int)) (by kernel_rfl) (fun u w1 hR hF => ?_) (fun _ => rfl) ?_
  · obtain ⟨h16, h20, -⟩ := hF
    subst hR
    refine ⟨rfl, fun a ha K hK => ?_⟩
    have e24 := (ha 24).trans h16
    have e28 := (ha 28).trans h20
    clear ha h16 h20
    go_simp
    refine hK _ ?_
    have hor := IntWalk.wrap64_in ((b0 * 16777216 + b1 * 65536 + b2 * 256 + b3 : Nat) : Int) (by omega)
    have h3 := IntWalk.wrap64_in (b3 : Int) (by omega)
    simpa [IntWalk.i64_left, h3] using hor
  apply Lo.runx 23 rfl rfl [21] (by kernel_rfl) (fun _ => rfl)
  apply Exists.intro; apply And.intro
  · intro u w1 hR hF
    obtain ⟨h21, -⟩ := hF
    subst hR
    refine ⟨rfl, fun a ha K hK => ?_⟩
    have e29 := (ha 29).trans h21
    clear ha h21
    go_simp
    refine hK _ ?_; rfl
  refine Lo.done [22] (fun u w1 hRd hSd hF => ?_)
  clear hSd
  obtain ⟨f22, -⟩ := hF
  subst hRd
  have d22 : u 22 = _ := f22
  clear f22
  simp only [putFrom, Act.put, List.setIfInBounds_toArray, List.set_cons_succ, List.set_cons_zero, Nat.zero_add, Nat.reduceAdd, d22]
  clear d22 c0 c1 c2 c3 i0 i1 i2 i3
  have hvv := HV.out
  try simp only [Nat.cast_add, Nat.cast_mul, Nat.cast_ofNat] at hvv ⊢
  rw [hvv]
  clear hvv l0 l1 l2 l3
  have HT := hide ((Turn.refl [] w).drew)
  by_cases hs : n < 1
  · have hs1 : (n : Int) < 1 := by omega
    have hw : whole bs = (0, 4) := by rw [HWH.out, if_pos (.inl hs)]
    have HW := hide hw
    clear hw hs
    go_wp2
    go_ret2
    rw [HW.out]
    exact ⟨rfl, HT.out⟩
  have hs1 : ¬ (n : Int) < 1 := by omega
  by_cases hg : 10000 < n
  · have hg1 : (n : Int) > 10000 := by omega
    have hw : whole bs = (0, 4) := by rw [HWH.out, if_pos (.inr hg)]
    have HW := hide hw
    clear hw hg hs
    go_wp2
    go_ret2
    rw [HW.out]
    exact ⟨rfl, HT.out⟩
  have hg1 : ¬ (n : Int) > 10000 := by omega
  by_cases hsh : bs.length < n + 4
  · have hsh1 : (n : Int) + 4 > (bs.length : Int) := by omega
    have hw : whole bs = (0, 12) := by rw [HWH.out, if_neg (by omega), if_pos hsh]
    have HW := hide hw
    clear hw hsh hs hg
    go_wp2
    go_ret2
    rw [HW.out]
    exact ⟨rfl, HT.out⟩
  · have hsh1 : ¬ (n : Int) + 4 > (bs.length : Int) := by omega
    have hw : whole bs = (n + 4, 0) := by rw [HWH.out, if_neg (by omega), if_neg hsh]
    have HW := hide hw
    clear hw hsh hs hg
    go_wp2
    go_ret2
    rw [HW.out]
    refine ⟨?_, HT.out⟩
    rfl
end Go.Proofs.YtodadoaindfecaaDoor.Wi
