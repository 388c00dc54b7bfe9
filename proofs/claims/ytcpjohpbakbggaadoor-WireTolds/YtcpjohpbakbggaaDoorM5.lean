/- Wja, PutT, Wie, PutB, Clo, Wif, ChkP, SumP, EncP, ChkR, SumR, EncR, Win, Wio, Wig: texts merged. -/
import Derived.Test.YtcpjohpbakbggaaDoorM4
import Derived.Test.YtcpjohpbakbggaaDoorM1
import Derived.Test.YtcpjohpbakbggaaDoorM2
import Derived.Deep.AppendSrc
import Derived.Laws.EntriesVeiled
import Derived.Test.YtcpjohpbakbggaaDoorProg
import Derived.WalkKit
import Derived.WalkLawsBesides
import Derived.Laws.BitsAllLaws
import Derived.Deep.CutBlock
import Derived.Deep.DeepCutAuto
/- How many bytes a frame takes. -/
namespace Go.Proofs.YtcpjohpbakbggaaDoor.Wi
open Go.RowKit Go.Maps
set_option maxRecDepth 100000
set_option linter.unusedSimpArgs false
set_option linter.unusedVariables false


set_option maxHeartbeats 4000000 in
theorem wwhole_any (w : World) (v : Value) (bs : List UInt8) (hx : BytesAt w v bs) (hl : bs.length ≤ 1000000) :
    Calls Tryd.prog 18 #[v] w fun e w' => e = .returned (.tuple #[.int .i64 (whole bs).1, As.errN (whole bs).2]) ∧ Turn [] w w' := by
  by_cases h4 : bs.length < 4
  · obtain ⟨a, c, rfl, hlc, hcm, hc⟩ := hx.form
    have hw : whole bs = (0, 12) := by unfold whole; rw [if_pos h4]
    have HW := hide hw
    have h4' : (bs.length : Int) < 4 := by omega
    have HT := hide (Turn.refl [] w)
    clear hx hc hw
    go_enter Tryd.func18, Tryd.ntmps18
    go_wp2
    go_ret2
    rw [HW.out]
    exact ⟨by simp [As.errN], HT.out⟩
  obtain ⟨p, c, rfl, hlc, hcm, c0, c1, c2, c3⟩ := hx.four (by omega)
  obtain ⟨b0, e0⟩ : ∃ b : Nat, (bs.getD 0 0).toNat = b := ⟨_, rfl⟩
  obtain ⟨b1, e1⟩ : ∃ b : Nat, (bs.getD 1 0).toNat = b := ⟨_, rfl⟩
  obtain ⟨b2, e2⟩ : ∃ b : Nat, (bs.getD 2 0).toNat = b := ⟨_, rfl⟩
  obtain ⟨b3, e3⟩ : ∃ b : Nat, (bs.getD 3 0).toNat = b := ⟨_, rfl⟩
  have l0 : b0 < 256 := by rw [← e0]; exact UInt8.toNat_lt _
  have l1 : b1 < 256 := by rw [← e1]; exact UInt8.toNat_lt _
  have l2 : b2 < 256 := by rw [← e2]; exact UInt8.toNat_lt _
  have l3 : b3 < 256 := by rw [← e3]; exact UInt8.toNat_lt _
  obtain ⟨n, hn⟩ : ∃ n, n = Bt.fourV bs := ⟨_, rfl⟩
  have hv : n = b0 * 16777216 + b1 * 65536 + b2 * 256 + b3 := by rw [hn]; unfold Bt.fourV; rw [e0, e1, e2, e3]
  have hw : whole bs = if n < 1 ∨ 10000 < n then (0, 4) else if bs.length < n + 4 then (0, 12) else (n + 4, 0) := by unfold whole; rw [if_neg h4, ← hn]
  rw [e0] at c0
  rw [e1] at c1
  rw [e2] at c2
  rw [e3] at c3
  have HWH := hide hw
  have h4' : ¬ (bs.length : Int) < 4 := by omega
  have i0 : 0 < bs.length := by omega
  have i1 : (1 : Int) < (bs.length : Int) := by omega
  have i2 : (2 : Int) < (bs.length : Int) := by omega
  have i3 : (3 : Int) < (bs.length : Int) := by omega
  have hv' : (b0 : Int) * 16777216 + (b1 : Int) * 65536 + (b2 : Int) * 256 + (b3 : Int) = (n : Int) := by omega
  have HV := hide hv'
  clear hx e0 e1 e2 e3 hw hn hv hv'
  go_enter Tryd.func18, Tryd.ntmps18
  go_wp2
  refine wp_region_loose (fun a b => a = b) (by kernel_rfl) (by kernel_rfl) (by kernel_rfl) (by kernel_rfl) rfl (fun _ => rfl) (fun _ _ _ h k => h.trans k) ?_
  apply Lo.runx 1 rfl rfl [] (by kernel_rfl) (fun _ => rfl)
  apply Exists.intro; apply And.intro
  · intro u w1 hR hF
    clear hF
    subst hR
    refine ⟨rfl, fun a ha K hK => ?_⟩
    have e0 := ha 0
    conv at e0 => rhs; whnf
    clear ha
    go_simp
    refine hK _ ?_; rfl
  apply Lo.runx 2 rfl rfl [0] (by kernel_rfl) (fun _ => rfl)
  apply Exists.intro; apply And.intro
  · intro u w1 hR hF
    obtain ⟨h0, -⟩ := hF
    subst hR
    refine ⟨rfl, fun a ha K hK => ?_⟩
    have e9 := (ha 9).trans h0
    clear ha h0
    go_simp
    refine hK _ ?_; rfl
  apply Lo.runx 3 rfl rfl [1] (by kernel_rfl) (fun _ => rfl)
  apply Exists.intro; apply And.intro
  · intro u w1 hR hF
    obtain ⟨h1, -⟩ := hF
    subst hR
    refine ⟨rfl, fun a ha K hK => ?_⟩
    have e10 := (ha 10).trans h1
    clear ha h1
    go_simp
    refine hK _ ?_; rfl
  apply Lo.runx 4 rfl rfl [2] (by kernel_rfl) (fun _ => rfl)
  apply Exists.intro; apply And.intro
  · intro u w1 hR hF
    obtain ⟨h2, -⟩ := hF
    subst hR
    refine ⟨rfl, fun a ha K hK => ?_⟩
    have e11 := (ha 11).trans h2
    clear ha h2
    go_simp
    refine hK _ ?_; rfl
  refine Lo.runv 5 rfl rfl [3] (.int .i64 ((b0 * 16777216 : Nat) : Int)) (by kernel_rfl) (fun u w1 hR hF => ?_) (fun _ => rfl) ?_
  · obtain ⟨h3, -⟩ := hF
    subst hR
    refine ⟨rfl, fun a ha K hK => ?_⟩
    have e12 := (ha 12).trans h3
    clear ha h3
    go_simp
    refine hK _ ?_
    rw [IntWalk.i64_left, IntWalk.i64_left, IntWalk.wrap64_in (b0 : Int) (by omega), IntWalk.wrap64_in _ (by omega)]; simp
  apply Lo.runx 6 rfl rfl [] (by kernel_rfl) (fun _ => rfl)
  apply Exists.intro; apply And.intro
  · intro u w1 hR hF
    clear hF
    subst hR
    refine ⟨rfl, fun a ha K hK => ?_⟩
    have e0 := ha 0
    conv at e0 => rhs; whnf
    clear ha
    go_simp
    refine hK _ ?_; rfl
  apply Lo.runx 7 rfl rfl [5] (by kernel_rfl) (fun _ => rfl)
  apply Exists.intro; apply And.intro
  · intro u w1 hR hF
    obtain ⟨h5, -⟩ := hF
    subst hR
    refine ⟨rfl, fun a ha K hK => ?_⟩
    have e14 := (ha 14).trans h5
    clear ha h5
    go_simp
    refine hK _ ?_; rfl
  apply Lo.runx 8 rfl rfl [6] (by kernel_rfl) (fun _ => rfl)
  apply Exists.intro; apply And.intro
  · intro u w1 hR hF
    obtain ⟨h6, -⟩ := hF
    subst hR
    refine ⟨rfl, fun a ha K hK => ?_⟩
    have e15 := (ha 15).trans h6
    clear ha h6
    go_simp
    refine hK _ ?_; rfl
  apply Lo.runx 9 rfl rfl [7] (by kernel_rfl) (fun _ => rfl)
  apply Exists.intro; apply And.intro
  · intro u w1 hR hF
    obtain ⟨h7, -⟩ := hF
    subst hR
    refine ⟨rfl, fun a ha K hK => ?_⟩
    have e16 := (ha 16).trans h7
    clear ha h7
    go_simp
    refine hK _ ?_; rfl
  refine Lo.runv 10 rfl rfl [8] (.int .i64 ((b1 * 65536 : Nat) : Int)) (by kernel_rfl) (fun u w1 hR hF => ?_) (fun _ => rfl) ?_
  · obtain ⟨h8, -⟩ := hF
    subst hR
    refine ⟨rfl, fun a ha K hK => ?_⟩
    have e17 := (ha 17).trans h8
    clear ha h8
    go_simp
    refine hK _ ?_
    rw [IntWalk.i64_left, IntWalk.i64_left, IntWalk.wrap64_in (b1 : Int) (by omega), IntWalk.wrap64_in _ (by omega)]; simp
  refine Lo.runv 11 rfl rfl [4, 9] (.int .i64 ((b0 * 16777216 + b1 * 65536 : Nat) : Int)) (by kernel_rfl) (fun u w1 hR hF => ?_) (fun _ => rfl) ?_
  · obtain ⟨h4, h9, -⟩ := hF
    subst hR
    refine ⟨rfl, fun a ha K hK => ?_⟩
    have e13 := (ha 13).trans h4
    have e18 := (ha 18).trans h9
    clear ha h4 h9
    go_simp
    refine hK _ ?_
    have hor := or_add (b0 * 16777216) (b1 * 65536) 24 (by omega) (by omega) (by omega)
    try rw [IntWalk.i64_left (n := (b3 : Int)), IntWalk.wrap64_in (b3 : Int) (by omega)]
    simpa using hor
  apply Lo.runx 12 rfl rfl [] (by kernel_rfl) (fun _ => rfl)
  apply Exists.intro; apply And.intro
  · intro u w1 hR hF
    clear hF
    subst hR
    refine ⟨rfl, fun a ha K hK => ?_⟩
    have e0 := ha 0
    conv at e0 => rhs; whnf
    clear ha
    go_simp
    refine hK _ ?_; rfl
  apply Lo.runx 13 rfl rfl [11] (by kernel_rfl) (fun _ => rfl)
  apply Exists.intro; apply And.intro
  · intro u w1 hR hF
    obtain ⟨h11, -⟩ := hF
    subst hR
    refine ⟨rfl, fun a ha K hK => ?_⟩
    have e20 := (ha 20).trans h11
    clear ha h11
    go_simp
    refine hK _ ?_; rfl
  apply Lo.runx 14 rfl rfl [12] (by kernel_rfl) (fun _ => rfl)
  apply Exists.intro; apply And.intro
  · intro u w1 hR hF
    obtain ⟨h12, -⟩ := hF
    subst hR
    refine ⟨rfl, fun a ha K hK => ?_⟩
    have e21 := (ha 21).trans h12
    clear ha h12
    go_simp
    refine hK _ ?_; rfl
  apply Lo.runx 15 rfl rfl [13] (by kernel_rfl) (fun _ => rfl)
  apply Exists.intro; apply And.intro
  · intro u w1 hR hF
    obtain ⟨h13, -⟩ := hF
    subst hR
    refine ⟨rfl, fun a ha K hK => ?_⟩
    have e22 := (ha 22).trans h13
    clear ha h13
    go_simp
    refine hK _ ?_; rfl
  refine Lo.runv 16 rfl rfl [14] (.int .i64 ((b2 * 256 : Nat) : Int)) (by kernel_rfl) (fun u w1 hR hF => ?_) (fun _ => rfl) ?_
  · obtain ⟨h14, -⟩ := hF
    subst hR
    refine ⟨rfl, fun a ha K hK => ?_⟩
    have e23 := (ha 23).trans h14
    clear ha h14
    go_simp
    refine hK _ ?_
    rw [IntWalk.i64_left, IntWalk.i64_left, IntWalk.wrap64_in (b2 : Int) (by omega), IntWalk.wrap64_in _ (by omega)]; simp
  refine Lo.runv 17 rfl rfl [10, 15] (.int .i64 ((b0 * 16777216 + b1 * 65536 + b2 * 256 : Nat) : Int)) (by kernel_rfl) (fun u w1 hR hF => ?_) (fun _ => rfl) ?_
  · obtain ⟨h10, h15, -⟩ := hF
    subst hR
    refine ⟨rfl, fun a ha K hK => ?_⟩
    have e19 := (ha 19).trans h10
    have e24 := (ha 24).trans h15
    clear ha h10 h15
    go_simp
    refine hK _ ?_
    have hor := or_add (b0 * 16777216 + b1 * 65536) (b2 * 256) 16 (by omega) (by omega) (by omega)
    try rw [IntWalk.i64_left (n := (b3 : Int)), IntWalk.wrap64_in (b3 : Int) (by omega)]
    simpa using hor
  apply Lo.runx 18 rfl rfl [] (by kernel_rfl) (fun _ => rfl)
  apply Exists.intro; apply And.intro
  · intro u w1 hR hF
    clear hF
    subst hR
    refine ⟨rfl, fun a ha K hK => ?_⟩
    have e0 := ha 0
    conv at e0 => rhs; whnf
    clear ha
    go_simp
    refine hK _ ?_; rfl
  apply Lo.runx 19 rfl rfl [17] (by kernel_rfl) (fun _ => rfl)
  apply Exists.intro; apply And.intro
  · intro u w1 hR hF
    obtain ⟨h17, -⟩ := hF
    subst hR
    refine ⟨rfl, fun a ha K hK => ?_⟩
    have e26 := (ha 26).trans h17
    clear ha h17
    go_simp
    refine hK _ ?_; rfl
  apply Lo.runx 20 rfl rfl [18] (by kernel_rfl) (fun _ => rfl)
  apply Exists.intro; apply And.intro
  · intro u w1 hR hF
    obtain ⟨h18, -⟩ := hF
    subst hR
    refine ⟨rfl, fun a ha K hK => ?_⟩
    have e27 := (ha 27).trans h18
    clear ha h18
    go_simp
    refine hK _ ?_; rfl
  apply Lo.runx 21 rfl rfl [19] (by kernel_rfl) (fun _ => rfl)
  apply Exists.intro; apply And.intro
  · intro u w1 hR hF
    obtain ⟨h19, -⟩ := hF
    subst hR
    refine ⟨rfl, fun a ha K hK => ?_⟩
    have e28 := (ha 28).trans h19
    clear ha h19
    go_simp
    refine hK _ ?_; rfl
  refine Lo.runv 22 rfl rfl [16, 20] (.int .i64 ((b0 * 16777216 + b1 * 65536 + b2 * 256 + b3 : Nat) : Int)) (by kernel_rfl) (fun u w1 hR hF => ?_) (fun _ => rfl) ?_
  · obtain ⟨h16, h20, -⟩ := hF
    subst hR
    refine ⟨rfl, fun a ha K hK => ?_⟩
    have e25 := (ha 25).trans h16
    have e29 := (ha 29).trans h20
    clear ha h16 h20
    go_simp
    refine hK _ ?_
    have hor := or_add (b0 * 16777216 + b1 * 65536 + b2 * 256) (b3) 8 (by omega) (by omega) (by omega)
    try rw [IntWalk.i64_left (n := (b3 : Int)), IntWalk.wrap64_in (b3 : Int) (by omega)]
    simpa using hor
  apply Lo.runx 23 rfl rfl [21] (by kernel_rfl) (fun _ => rfl)
  apply Exists.intro; apply And.intro
  · intro u w1 hR hF
    obtain ⟨h21, -⟩ := hF
    subst hR
    refine ⟨rfl, fun a ha K hK => ?_⟩
    have e30 := (ha 30).trans h21
    clear ha h21
    go_simp
    refine hK _ ?_; rfl
  refine Lo.done [22] (fun u w1 hRd hSd hF => ?_)
  clear hSd
  obtain ⟨f22, -⟩ := hF
  subst hRd
  have d22 : u 22 = _ := f22
  clear f22
  simp only [putFrom, Act.put, List.setIfInBounds_toArray, List.set_cons_succ, List.set_cons_zero, Nat.zero_add, Nat.reduceAdd, d22]
  clear d22 c0 c1 c2 c3 i0 i1 i2 i3
  have hvv := HV.out
  try simp only [Nat.cast_add, Nat.cast_mul, Nat.cast_ofNat] at hvv ⊢
  rw [hvv]
  clear hvv l0 l1 l2 l3
  have HT := hide ((Turn.refl [] w).drew)
  by_cases hs : n < 1
  · have hs1 : (n : Int) < 1 := by omega
    have hw : whole bs = (0, 4) := by rw [HWH.out, if_pos (.inl hs)]
    have HW := hide hw
    clear hw hs
    go_wp2
    go_ret2
    rw [HW.out]
    exact ⟨by simp [As.errN], HT.out⟩
  have hs1 : ¬ (n : Int) < 1 := by omega
  by_cases hg : 10000 < n
  · have hg1 : (n : Int) > 10000 := by omega
    have hw : whole bs = (0, 4) := by rw [HWH.out, if_pos (.inr hg)]
    have HW := hide hw
    clear hw hg hs
    go_wp2
    go_ret2
    rw [HW.out]
    exact ⟨by simp [As.errN], HT.out⟩
  have hg1 : ¬ (n : Int) > 10000 := by omega
  by_cases hsh : bs.length < n + 4
  · have hsh1 : (bs.length : Int) < 4 + (n : Int) := by omega
    have hw : whole bs = (0, 12) := by rw [HWH.out, if_neg (by omega), if_pos hsh]
    have HW := hide hw
    clear hw hsh hs hg
    go_wp2
    go_ret2
    rw [HW.out]
    exact ⟨by simp [As.errN], HT.out⟩
  · have hsh1 : ¬ (bs.length : Int) < 4 + (n : Int) := by omega
    have hw : whole bs = (n + 4, 0) := by rw [HWH.out, if_neg (by omega), if_neg hsh]
    have HW := hide hw
    clear hw hsh hs hg
    go_wp2
    go_ret2
    rw [HW.out]
    refine ⟨?_, HT.out⟩
    simp [As.errN, Int.add_comm]

set_option maxHeartbeats 4000000 in
theorem rwhole_any (w : World) (v : Value) (bs : List UInt8) (hx : BytesAt w v bs) (hl : bs.length ≤ 1000000) :
    Calls Tryd.prog 12 #[v] w fun e w' => e = .returned (.tuple #[.int .i64 (whole bs).1, .int .i64 (whole bs).2]) ∧ Turn [] w w' := by
  by_cases h4 : bs.length < 4
  · obtain ⟨a, c, rfl, hlc, hcm, hc⟩ := hx.form
    have hw : whole bs = (0, 12) := by unfold whole; rw [if_pos h4]
    have HW := hide hw
    have h4' : (bs.length : Int) < 4 := by omega
    have HT := hide (Turn.refl [] w)
    clear hx hc hw
    go_enter Tryd.func12, Tryd.ntmps12
    go_wp2
    go_ret2
    rw [HW.out]
    exact ⟨rfl, HT.out⟩
  obtain ⟨p, c, rfl, hlc, hcm, c0, c1, c2, c3⟩ := hx.four (by omega)
  obtain ⟨b0, e0⟩ : ∃ b : Nat, (bs.getD 0 0).toNat = b := ⟨_, rfl⟩
  obtain ⟨b1, e1⟩ : ∃ b : Nat, (bs.getD 1 0).toNat = b := ⟨_, rfl⟩
  obtain ⟨b2, e2⟩ : ∃ b : Nat, (bs.getD 2 0).toNat = b := ⟨_, rfl⟩
  obtain ⟨b3, e3⟩ : ∃ b : Nat, (bs.getD 3 0).toNat = b := ⟨_, rfl⟩
  have l0 : b0 < 256 := by rw [← e0]; exact UInt8.toNat_lt _
  have l1 : b1 < 256 := by rw [← e1]; exact UInt8.toNat_lt _
  have l2 : b2 < 256 := by rw [← e2]; exact UInt8.toNat_lt _
  have l3 : b3 < 256 := by rw [← e3]; exact UInt8.toNat_lt _
  obtain ⟨n, hn⟩ : ∃ n, n = Bt.fourV bs := ⟨_, rfl⟩
  have hv : n = b0 * 16777216 + b1 * 65536 + b2 * 256 + b3 := by rw [hn]; unfold Bt.fourV; rw [e0, e1, e2, e3]
  have hw : whole bs = if n < 1 ∨ 10000 < n then (0, 4) else if bs.length < n + 4 then (0, 12) else (n + 4, 0) := by unfold whole; rw [if_neg h4, ← hn]
  rw [e0] at c0
  rw [e1] at c1
  rw [e2] at c2
  rw [e3] at c3
  have HWH := hide hw
  have h4' : ¬ (bs.length : Int) < 4 := by omega
  have i0 : 0 < bs.length := by omega
  have i1 : (1 : Int) < (bs.length : Int) := by omega
  have i2 : (2 : Int) < (bs.length : Int) := by omega
  have i3 : (3 : Int) < (bs.length : Int) := by omega
  have hv' : (b0 : Int) * 16777216 + (b1 : Int) * 65536 + (b2 : Int) * 256 + (b3 : Int) = (n : Int) := by omega
  have HV := hide hv'
  clear hx e0 e1 e2 e3 hw hn hv hv'
  go_enter Tryd.func12, Tryd.ntmps12
  go_wp2
  refine wp_region_loose (fun a b => a = b) (by kernel_rfl) (by kernel_rfl) (by kernel_rfl) (by kernel_rfl) rfl (fun _ => rfl) (fun _ _ _ h k => h.trans k) ?_
  apply Lo.runx 1 rfl rfl [] (by kernel_rfl) (fun _ => rfl)
  apply Exists.intro; apply And.intro
  · intro u w1 hR hF
    clear hF
    subst hR
    refine ⟨rfl, fun a ha K hK => ?_⟩
    have e0 := ha 0
    conv at e0 => rhs; whnf
    clear ha
    go_simp
    refine hK _ ?_; rfl
  apply Lo.runx 2 rfl rfl [0] (by kernel_rfl) (fun _ => rfl)
  apply Exists.intro; apply And.intro
  · intro u w1 hR hF
    obtain ⟨h0, -⟩ := hF
    subst hR
    refine ⟨rfl, fun a ha K hK => ?_⟩
    have e8 := (ha 8).trans h0
    clear ha h0
    go_simp
    refine hK _ ?_; rfl
  apply Lo.runx 3 rfl rfl [1] (by kernel_rfl) (fun _ => rfl)
  apply Exists.intro; apply And.intro
  · intro u w1 hR hF
    obtain ⟨h1, -⟩ := hF
    subst hR
    refine ⟨rfl, fun a ha K hK => ?_⟩
    have e9 := (ha 9).trans h1
    clear ha h1
    go_simp
    refine hK _ ?_; rfl
  apply Lo.runx 4 rfl rfl [2] (by kernel_rfl) (fun _ => rfl)
  apply Exists.intro; apply And.intro
  · intro u w1 hR hF
    obtain ⟨h2, -⟩ := hF
    subst hR
    refine ⟨rfl, fun a ha K hK => ?_⟩
    have e10 := (ha 10).trans h2
    clear ha h2
    go_simp
    refine hK _ ?_; rfl
  refine Lo.runv 5 rfl rfl [3] (.int .i64 ((b0 * 16777216 : Nat) : Int)) (by kernel_rfl) (fun u w1 hR hF => ?_) (fun _ => rfl) ?_
  · obtain ⟨h3, -⟩ := hF
    subst hR
    refine ⟨rfl, fun a ha K hK => ?_⟩
    have e11 := (ha 11).trans h3
    clear ha h3
    go_simp
    refine hK _ ?_
    rw [IntWalk.i64_left, IntWalk.i64_left, IntWalk.wrap64_in (b0 : Int) (by omega), IntWalk.wrap64_in _ (by omega)]; simp
  apply Lo.runx 6 rfl rfl [] (by kernel_rfl) (fun _ => rfl)
  apply Exists.intro; apply And.intro
  · intro u w1 hR hF
    clear hF
    subst hR
    refine ⟨rfl, fun a ha K hK => ?_⟩
    have e0 := ha 0
    conv at e0 => rhs; whnf
    clear ha
    go_simp
    refine hK _ ?_; rfl
  apply Lo.runx 7 rfl rfl [5] (by kernel_rfl) (fun _ => rfl)
  apply Exists.intro; apply And.intro
  · intro u w1 hR hF
    obtain ⟨h5, -⟩ := hF
    subst hR
    refine ⟨rfl, fun a ha K hK => ?_⟩
    have e13 := (ha 13).trans h5
    clear ha h5
    go_simp
    refine hK _ ?_; rfl
  apply Lo.runx 8 rfl rfl [6] (by kernel_rfl) (fun _ => rfl)
  apply Exists.intro; apply And.intro
  · intro u w1 hR hF
    obtain ⟨h6, -⟩ := hF
    subst hR
    refine ⟨rfl, fun a ha K hK => ?_⟩
    have e14 := (ha 14).trans h6
    clear ha h6
    go_simp
    refine hK _ ?_; rfl
  apply Lo.runx 9 rfl rfl [7] (by kernel_rfl) (fun _ => rfl)
  apply Exists.intro; apply And.intro
  · intro u w1 hR hF
    obtain ⟨h7, -⟩ := hF
    subst hR
    refine ⟨rfl, fun a ha K hK => ?_⟩
    have e15 := (ha 15).trans h7
    clear ha h7
    go_simp
    refine hK _ ?_; rfl
  refine Lo.runv 10 rfl rfl [8] (.int .i64 ((b1 * 65536 : Nat) : Int)) (by kernel_rfl) (fun u w1 hR hF => ?_) (fun _ => rfl) ?_
  · obtain ⟨h8, -⟩ := hF
    subst hR
    refine ⟨rfl, fun a ha K hK => ?_⟩
    have e16 := (ha 16).trans h8
    clear ha h8
    go_simp
    refine hK _ ?_
    rw [IntWalk.i64_left, IntWalk.i64_left, IntWalk.wrap64_in (b1 : Int) (by omega), IntWalk.wrap64_in _ (by omega)]; simp
  refine Lo.runv 11 rfl rfl [4, 9] (.int .i64 ((b0 * 16777216 + b1 * 65536 : Nat) : Int)) (by kernel_rfl) (fun u w1 hR hF => ?_) (fun _ => rfl) ?_
  · obtain ⟨h4, h9, -⟩ := hF
    subst hR
    refine ⟨rfl, fun a ha K hK => ?_⟩
    have e12 := (ha 12).trans h4
    have e17 := (ha 17).trans h9
    clear ha h4 h9
    go_simp
    refine hK _ ?_
    have hor := IntWalk.wrap64_in ((b0 * 16777216 + b1 * 65536 : Nat) : Int) (by omega)
    have h3 := IntWalk.wrap64_in (b3 : Int) (by omega)
    simpa [IntWalk.i64_left, h3] using hor
  apply Lo.runx 12 rfl rfl [] (by kernel_rfl) (fun _ => rfl)
  apply Exists.intro; apply And.intro
  · intro u w1 hR hF
    clear hF
    subst hR
    refine ⟨rfl, fun a ha K hK => ?_⟩
    have e0 := ha 0
    conv at e0 => rhs; whnf
    clear ha
    go_simp
    refine hK _ ?_; rfl
  apply Lo.runx 13 rfl rfl [11] (by kernel_rfl) (fun _ => rfl)
  apply Exists.intro; apply And.intro
  · intro u w1 hR hF
    obtain ⟨h11, -⟩ := hF
    subst hR
    refine ⟨rfl, fun a ha K hK => ?_⟩
    have e19 := (ha 19).trans h11
    clear ha h11
    go_simp
    refine hK _ ?_; rfl
  apply Lo.runx 14 rfl rfl [12] (by kernel_rfl) (fun _ => rfl)
  apply Exists.intro; apply And.intro
  · intro u w1 hR hF
    obtain ⟨h12, -⟩ := hF
    subst hR
    refine ⟨rfl, fun a ha K hK => ?_⟩
    have e20 := (ha 20).trans h12
    clear ha h12
    go_simp
    refine hK _ ?_; rfl
  apply Lo.runx 15 rfl rfl [13] (by kernel_rfl) (fun _ => rfl)
  apply Exists.intro; apply And.intro
  · intro u w1 hR hF
    obtain ⟨h13, -⟩ := hF
    subst hR
    refine ⟨rfl, fun a ha K hK => ?_⟩
    have e21 := (ha 21).trans h13
    clear ha h13
    go_simp
    refine hK _ ?_; rfl
  refine Lo.runv 16 rfl rfl [14] (.int .i64 ((b2 * 256 : Nat) : Int)) (by kernel_rfl) (fun u w1 hR hF => ?_) (fun _ => rfl) ?_
  · obtain ⟨h14, -⟩ := hF
    subst hR
    refine ⟨rfl, fun a ha K hK => ?_⟩
    have e22 := (ha 22).trans h14
    clear ha h14
    go_simp
    refine hK _ ?_
    rw [IntWalk.i64_left, IntWalk.i64_left, IntWalk.wrap64_in (b2 : Int) (by omega), IntWalk.wrap64_in _ (by omega)]; simp
  refine Lo.runv 17 rfl rfl [10, 15] (.int .i64 ((b0 * 16777216 + b1 * 65536 + b2 * 256 : Nat) : Int)) (by kernel_rfl) (fun u w1 hR hF => ?_) (fun _ => rfl) ?_
  · obtain ⟨h10, h15, -⟩ := hF
    subst hR
    refine ⟨rfl, fun a ha K hK => ?_⟩
    have e18 := (ha 18).trans h10
    have e23 := (ha 23).trans h15
    clear ha h10 h15
    go_simp
    refine hK _ ?_
    have hor := IntWalk.wrap64_in ((b0 * 16777216 + b1 * 65536 + b2 * 256 : Nat) : Int) (by omega)
    have h3 := IntWalk.wrap64_in (b3 : Int) (by omega)
    simpa [IntWalk.i64_left, h3] using hor
  apply Lo.runx 18 rfl rfl [] (by kernel_rfl) (fun _ => rfl)
  apply Exists.intro; apply And.intro
  · intro u w1 hR hF
    clear hF
    subst hR
    refine ⟨rfl, fun a ha K hK => ?_⟩
    have e0 := ha 0
    conv at e0 => rhs; whnf
    clear ha
    go_simp
    refine hK _ ?_; rfl
  apply Lo.runx 19 rfl rfl [17] (by kernel_rfl) (fun _ => rfl)
  apply Exists.intro; apply And.intro
  · intro u w1 hR hF
    obtain ⟨h17, -⟩ := hF
    subst hR
    refine ⟨rfl, fun a ha K hK => ?_⟩
    have e25 := (ha 25).trans h17
    clear ha h17
    go_simp
    refine hK _ ?_; rfl
  apply Lo.runx 20 rfl rfl [18] (by kernel_rfl) (fun _ => rfl)
  apply Exists.intro; apply And.intro
  · intro u w1 hR hF
    obtain ⟨h18, -⟩ := hF
    subst hR
    refine ⟨rfl, fun a ha K hK => ?_⟩
    have e26 := (ha 26).trans h18
    clear ha h18
    go_simp
    refine hK _ ?_; rfl
  apply Lo.runx 21 rfl rfl [19] (by kernel_rfl) (fun _ => rfl)
  apply Exists.intro; apply And.intro
  · intro u w1 hR hF
    obtain ⟨h19, -⟩ := hF
    subst hR
    refine ⟨rfl, fun a ha K hK => ?_⟩
    have e27 := (ha 27).trans h19
    clear ha h19
    go_simp
    refine hK _ ?_; rfl
  refine Lo.runv 22 rfl rfl [16, 20] (.int .i64 ((b0 * 16777216 + b1 * 65536 + b2 * 256 + b3 : Nat) : Int)) (by kernel_rfl) (fun u w1 hR hF => ?_) (fun _ => rfl) ?_
  · obtain ⟨h16, h20, -⟩ := hF
    subst hR
    refine ⟨rfl, fun a ha K hK => ?_⟩
    have e24 := (ha 24).trans h16
    have e28 := (ha 28).trans h20
    clear ha h16 h20
    go_simp
    refine hK _ ?_
    have hor := IntWalk.wrap64_in ((b0 * 16777216 + b1 * 65536 + b2 * 256 + b3 : Nat) : Int) (by omega)
    have h3 := IntWalk.wrap64_in (b3 : Int) (by omega)
    simpa [IntWalk.i64_left, h3] using hor
  apply Lo.runx 23 rfl rfl [21] (by kernel_rfl) (fun _ => rfl)
  apply Exists.intro; apply And.intro
  · intro u w1 hR hF
    obtain ⟨h21, -⟩ := hF
    subst hR
    refine ⟨rfl, fun a ha K hK => ?_⟩
    have e29 := (ha 29).trans h21
    clear ha h21
    go_simp
    refine hK _ ?_; rfl
  refine Lo.done [22] (fun u w1 hRd hSd hF => ?_)
  clear hSd
  obtain ⟨f22, -⟩ := hF
  subst hRd
  have d22 : u 22 = _ := f22
  clear f22
  simp only [putFrom, Act.put, List.setIfInBounds_toArray, List.set_cons_succ, List.set_cons_zero, Nat.zero_add, Nat.reduceAdd, d22]
  clear d22 c0 c1 c2 c3 i0 i1 i2 i3
  have hvv := HV.out
  try simp only [Nat.cast_add, Nat.cast_mul, Nat.cast_ofNat] at hvv ⊢
  rw [hvv]
  clear hvv l0 l1 l2 l3
  have HT := hide ((Turn.refl [] w).drew)
  by_cases hs : n < 1
  · have hs1 : (n : Int) < 1 := by omega
    have hw : whole bs = (0, 4) := by rw [HWH.out, if_pos (.inl hs)]
    have HW := hide hw
    clear hw hs
    go_wp2
    go_ret2
    rw [HW.out]
    exact ⟨rfl, HT.out⟩
  have hs1 : ¬ (n : Int) < 1 := by omega
  by_cases hg : 10000 < n
  · have hg1 : (n : Int) > 10000 := by omega
    have hw : whole bs = (0, 4) := by rw [HWH.out, if_pos (.inr hg)]
    have HW := hide hw
    clear hw hg hs
    go_wp2
    go_ret2
    rw [HW.out]
    exact ⟨rfl, HT.out⟩
  have hg1 : ¬ (n : Int) > 10000 := by omega
  by_cases hsh : bs.length < n + 4
  · have hsh1 : (n : Int) + 4 > (bs.length : Int) := by omega
    have hw : whole bs = (0, 12) := by rw [HWH.out, if_neg (by omega), if_pos hsh]
    have HW := hide hw
    clear hw hsh hs hg
    go_wp2
    go_ret2
    rw [HW.out]
    exact ⟨rfl, HT.out⟩
  · have hsh1 : ¬ (n : Int) + 4 > (bs.length : Int) := by omega
    have hw : whole bs = (n + 4, 0) := by rw [HWH.out, if_neg (by omega), if_neg hsh]
    have HW := hide hw
    clear hw hsh hs hg
    go_wp2
    go_ret2
    rw [HW.out]
    refine ⟨?_, HT.out⟩
    rfl
end Go.Proofs.YtcpjohpbakbggaaDoor.Wi

/- A text's bytes appended onto a row; record.putText, marks, putRecord. -/
namespace Go.Proofs.YtcpjohpbakbggaaDoor
open Go.RowKit Go.Maps
set_option maxRecDepth 100000
set_option linter.unusedSimpArgs false
set_option linter.unusedVariables false

section
variable {P : Program} (w : World)
theorem cells_str (s : List UInt8) : byteCells ⟨s.toArray⟩ = s.map encB := rfl
theorem run_append_room_str (t tx ty e : TypeId) (i : TypeInfo) (ht : P.underlying t = some (.slice e)) (hx : P.underlying tx = some .string) (hi : P.info? e = some i) (hz1 : i.size = 1)
    (g sLen sCap : Nat) (cur : Array Value) (hg : w.heap[g]? = some (.cells cur e (0, 0))) (s : ByteArray) (hroom : sLen + s.size ≤ sCap) (hfit : sLen + s.size ≤ cur.size) :
    (Builtin.append_ #[t, tx] ty #[.slice (some ⟨g, 0, none⟩) sLen sCap, .string s]).run P w =
      .ok (.slice (some ⟨g, 0, none⟩) (sLen + s.size) sCap) (w.setRow g (cur.toList.take sLen ++ byteCells s ++ cur.toList.drop (sLen + s.size)).toArray) := by
  have hf := firstCells_string (P := P) s w
  have hst := run_storeCells_at P g sLen e (byteCells s) 0 cur w hg (by rw [byteCells_length]; exact hfit) (fun u hu => by
    obtain ⟨_, _, rfl⟩ := List.mem_map.1 hu
    rfl)
  simp only [Nat.add_zero, byteCells_length] at hst
  simp [Builtin.append_, run_underlying ht, run_underlying hx, sizeOf, typeInfo, hi, hz1, Builtin.lenOf, hroom, hf, Addr.add_lit, hst]

/-- APPEND of a text's bytes onto a row. -/
theorem run_append_row_str (t tx ty e base : Nat) (i : TypeInfo) (ht : P.underlying t = some (.slice e)) (hx : P.underlying tx = some .string) (hi : P.info? e = some i) (hz : i.zero = some (.int .u8 0)) (hsize : i.size = 1) (hby : i.bytes = 1)
    (v : Value) (bs cs : List UInt8) (hrow : RowAt w e base v bs) (hlen : bs.length + cs.length ≤ 1099511627776) (hbase : base ≤ w.heap.size) :
    ∃ v' w', (Builtin.append_ #[t, tx] ty #[v, .string ⟨cs.toArray⟩]).run P w = .ok v' w' ∧ RowAt w' e base v' (bs ++ cs) ∧ Turn v.ownBlock.toList w w' ∧ (∀ k ∈ v'.ownBlock, k ∈ v.ownBlock ∨ w.heap.size ≤ k) := by
  have hmax : maxLen = 9223372036854775807 := by simp [maxLen]
  have hsz : (ByteArray.mk cs.toArray).size = cs.length := by simp [ByteArray.size]
  have hsrc : Src P i.size tx (.string ⟨cs.toArray⟩) cs.length (cs.map encB) w := by
    have := Src.ofString (P := P) w hx ⟨cs.toArray⟩
    rw [hsz, cells_str] at this
    rw [hsize]; exact this
  have new : ∀ old : Nat, old < bs.length + cs.length → RowAt (w.drew.alloc (.cells ((bs.map encB ++ cs.map encB).toArray ++ Builtin.zeroCells (Value.cells (.int .u8 0)) (grownCap w (bs.length + cs.length) old e - (bs.length + cs.length))) e)) e base
      (.slice (some ⟨w.heap.size, 0, none⟩) (bs.length + cs.length) (grownCap w (bs.length + cs.length) old e)) (bs ++ cs) ∧
      Turn v.ownBlock.toList w (w.drew.alloc (.cells ((bs.map encB ++ cs.map encB).toArray ++ Builtin.zeroCells (Value.cells (.int .u8 0)) (grownCap w (bs.length + cs.length) old e - (bs.length + cs.length))) e)) := by
    intro old ho
    have hge := grownCap_ge w (bs.length + cs.length) old e
    have hcm := grownCap_le_maxLen w (bs.length + cs.length) old e (by rw [hmax]; omega)
    refine ⟨.inr ⟨w.heap.size, _, _, by simp, hbase, heap_new w.drew _, by simpa using hge, ?_, hcm, ?_⟩, ((Turn.refl _ _).drew).alloc _⟩
    · simp only [Array.size_append, List.size_toArray, List.length_map, List.length_append, size_zeroCells, Value.cells]
      simp; omega
    · simp only [Array.toList_append]
      rw [List.take_append_of_le_length (by simp)]
      rw [List.take_of_length_le (by simp)]
      simp
  rcases hrow with ⟨rfl, rfl⟩ | ⟨g, cap, cur, rfl, hb, hg, h1, h2, h3, h4⟩
  · by_cases h0 : cs.length = 0
    · have : cs = [] := List.eq_nil_of_length_eq_zero h0
      subst this
      have e0 : (ByteArray.mk #[]) = ByteArray.empty := rfl
      exact ⟨.slice none 0 0, w, by simp [Builtin.append_, run_underlying ht, run_underlying hx, sizeOf, typeInfo, hi, Builtin.lenOf, Builtin.firstCells, storeCells, e0], .inl ⟨rfl, rfl⟩, Turn.refl _ _, by simp [Value.ownBlock]⟩
    · have hr := run_append_grow_src (P := P) w t tx ty e i _ ht hi hz none 0 0 [] (run_firstCells_none w.drew i.size 0 0 0) _ cs.length (cs.map encB) hsrc (by omega) (by simp at hlen; omega) (growslice_fits (by omega) (by rw [hby]; simp at hlen; omega))
      have hn := new 0 (by simp; omega)
      simp only [List.length_nil, Nat.zero_add, List.map_nil, List.nil_append] at hn hr
      exact ⟨_, _, hr, by simpa using hn.1, by simpa using hn.2, by simp [Value.ownBlock]⟩
  · by_cases hroom : bs.length + cs.length ≤ cap
    · have hr := run_append_room_str (P := P) w t tx ty e i ht hx hi hsize g bs.length cap cur hg ⟨cs.toArray⟩ (by rw [hsz]; exact hroom) (by rw [hsz]; omega)
      rw [hsz, cells_str] at hr
      refine ⟨_, _, hr, .inr ⟨g, cap, _, by simp, hb, setRow_heap w g cur _ e _ hg, by simpa using hroom, ?_, h3, ?_⟩, ⟨rfl, rfl, rfl, by simp, fun k _ hk => setRow_other w g k _ (fun e => hk (by simp [Value.ownBlock, e]))⟩, by simp [Value.ownBlock]⟩
      · simp; omega
      · simp only [h4, List.append_assoc]
        rw [← List.append_assoc, List.take_append_of_le_length (by simp), List.take_of_length_le (by simp)]
        simp
    · have holds : ∀ j u, (bs.map encB)[j]? = some u → w.drew.cell? ((⟨g, 0, none⟩ : Addr).add j) = some u := by
        intro j u hu
        rw [addr_add]
        show w.cell? ⟨g, j, none⟩ = some u
        rw [cell_of hg]
        rw [← h4, List.getElem?_take] at hu
        split at hu
        · simpa using hu
        · cases hu
      have hr := run_append_grow_src (P := P) w t tx ty e i _ ht hi hz (some ⟨g, 0, none⟩) bs.length cap (bs.map encB) (run_firstCells_some w.drew i.size bs.length ⟨g, 0, none⟩ bs.length cap (bs.map encB) (by simp [hsize]) holds) _ cs.length (cs.map encB) hsrc (by omega) (by omega) (growslice_fits (by omega) (by rw [hby]; omega))
      have hn := new cap (by omega)
      exact ⟨_, _, hr, hn.1, hn.2, by simp [Value.ownBlock]⟩
end
theorem wpList_append_str {P : Program} {ops : Array Oper} {rest : List Oper} {o : Oper} {a : Act} {Q : Exit → Act → World → Prop} {w : World} (hgd : o.guard = none) (s x : Operand) (t tx : TypeId)
    (ho : o.op = .call { callee := .builtin .append, args := #[s, x], argTypes := #[t, tx] })
    (e base : Nat) (i : TypeInfo) (ht : P.underlying t = some (.slice e)) (hx : P.underlying tx = some .string) (hi : P.info? e = some i) (hz : i.zero = some (.int .u8 0)) (hsize : i.size = 1) (hby : i.bytes = 1)
    (v : Value) (bs cs : List UInt8) (hs : a.eval s = v) (hxe : a.eval x = .string ⟨cs.toArray⟩) (hrow : RowAt w e base v bs) (hlen : bs.length + cs.length ≤ 1099511627776) (hbase : base ≤ w.heap.size)
    (h : ∀ v' w', RowAt w' e base v' (bs ++ cs) → Turn v.ownBlock.toList w w' → (∀ k ∈ v'.ownBlock, k ∈ v.ownBlock ∨ w.heap.size ≤ k) → wpList P ops Q rest (a.put o.dst v') w') : wpList P ops Q (o :: rest) a w := by
  refine wpList_plain hgd fun _ hK => ?_
  obtain ⟨v', w', hr, h2, h3, h4⟩ := run_append_row_str (P := P) w t tx o.type e base i ht hx hi hz hsize hby v bs cs hrow hlen hbase
  unfold Oper.wp execOp
  simp only [ho, resolve, invoke, builtin, Sem.run_bind, Sem.run_pure, Result.andThen_ok, List.map_toArray, List.map_cons, List.map_nil, hs, hxe, hr]
  exact hK _ _ (h v' w' h2 h3 h4)

/-- What a call that grows a row leaves. -/
def Grew (w w' : World) (base : Nat) (v v' : Value) (bs : List UInt8) : Prop :=
  RowAt w' 5 base v' bs ∧ Turn v.ownBlock.toList w w' ∧ (∀ k ∈ v'.ownBlock, k ∈ v.ownBlock ∨ w.heap.size ≤ k)
theorem Grew.trans {w w1 w2 : World} {base : Nat} {v v1 v2 : Value} {b1 b2 : List UInt8} (h : Grew w w1 base v v1 b1) (k : Grew w1 w2 base v1 v2 b2) : Grew w w2 base v v2 b2 := by
  obtain ⟨h1, h2, h3⟩ := h
  obtain ⟨k1, k2, k3⟩ := k
  refine ⟨k1, h2.trans k2 (fun x hx => ?_), fun x hx => ?_⟩
  · rcases h3 x (by simpa using hx) with h | h
    · exact .inl (by simpa using h)
    · exact .inr h
  · rcases k3 x hx with h | h
    · exact h3 x h
    · have := h2.size; exact .inr (by omega)
theorem Grew.pre {w w1 w2 : World} {base : Nat} {v v2 : Value} {b : List UInt8} (h : Turn [] w w1) (k : Grew w1 w2 base v v2 b) : Grew w w2 base v v2 b := by
  obtain ⟨k1, k2, k3⟩ := k
  refine ⟨k1, h.mono (by simp) |>.trans k2 (fun x hx => .inl hx), fun x hx => ?_⟩
  rcases k3 x hx with h' | h'
  · exact .inl h'
  · have := h.size; exact .inr (by omega)

end Go.Proofs.YtcpjohpbakbggaaDoor

/- wire's writer: numbers, text. -/
namespace Go.Proofs.YtcpjohpbakbggaaDoor.Wi
open Go.RowKit Go.Maps
set_option maxRecDepth 100000
set_option linter.unusedSimpArgs false
set_option linter.unusedVariables false

/-- A writer in a box: its bytes, and what is wrong. -/
def MkAt (T : TypeId) (ee : Int → Value) (w : World) (wb base : Nat) (sv : Value) (s : WS) : Prop :=
  w.heap[wb]? = some (.cells #[sv, ee s.2] T (0, 0)) ∧ RowAt w 5 base sv s.1 ∧ (∀ k ∈ sv.ownBlock, k ≠ wb)
/-- What turns where a writer goes on. -/
def MkTo (T : TypeId) (ee : Int → Value) (w w' : World) (wb base : Nat) (sv sv' : Value) (s' : WS) : Prop :=
  MkAt T ee w' wb base sv' s' ∧ Turn (wb :: sv.ownBlock.toList) w w' ∧ (∀ k ∈ sv'.ownBlock, k ∈ sv.ownBlock ∨ w.heap.size ≤ k)
section
variable {T : TypeId} {ee : Int → Value} {wb base : Nat}
theorem MkAt.still {w w' : World} {sv : Value} {s : WS} (h : MkAt T ee w wb base sv s) (ht : Turn [] w w') : MkAt T ee w' wb base sv s := ⟨ht.heap h.1 (by simp), h.2.1.kept ht (by simp), h.2.2⟩
theorem MkAt.self {w : World} {sv : Value} {s : WS} (h : MkAt T ee w wb base sv s) : MkTo T ee w w wb base sv sv s := ⟨h, Turn.refl _ _, fun k hk => .inl hk⟩
theorem MkTo.trans {w w1 w2 : World} {sv s1 s2 : Value} {b1 b2 : WS} (h : MkTo T ee w w1 wb base sv s1 b1) (k : MkTo T ee w1 w2 wb base s1 s2 b2) : MkTo T ee w w2 wb base sv s2 b2 := by
  obtain ⟨h1, h2, h3⟩ := h
  obtain ⟨k1, k2, k3⟩ := k
  refine ⟨k1, h2.trans k2 (fun x hx => ?_), fun x hx => ?_⟩
  · rcases List.mem_cons.1 hx with rfl | hx
    · exact .inl (by simp)
    · rcases h3 x (by simpa using hx) with h | h
      · exact .inl (by simp at h ⊢; exact .inr h)
      · exact .inr h
  · rcases k3 x hx with h | h
    · exact h3 x h
    · have := h2.size; exact .inr (by omega)
theorem MkTo.still {w w1 w2 : World} {sv s1 : Value} {b1 : WS} (h : MkTo T ee w w1 wb base sv s1 b1) (k : Turn [] w1 w2) : MkTo T ee w w2 wb base sv s1 b1 := ⟨h.1.still k, h.2.1.trans k (by simp), h.2.2⟩
theorem MkTo.pre {w w1 w2 : World} {sv s2 : Value} {b : WS} (h : Turn [] w w1) (k : MkTo T ee w1 w2 wb base sv s2 b) : MkTo T ee w w2 wb base sv s2 b := by
  obtain ⟨k1, k2, k3⟩ := k
  refine ⟨k1, (h.mono (by simp)).trans k2 (fun x hx => .inl hx), fun x hx => ?_⟩
  rcases k3 x hx with h' | h'
  · exact .inl h'
  · have := h.size; exact .inr (by omega)
theorem MkTo.box {w w' : World} {sv sv' : Value} {s' : WS} (h : MkTo T ee w w' wb base sv sv' s') {k : Nat} {o : Obj} (hk : w.heap[k]? = some o) (hb : k ≠ wb) (hn : ∀ x ∈ sv.ownBlock, x ≠ k) : w'.heap[k]? = some o :=
  h.2.1.heap hk (fun hm => by
    rcases List.mem_cons.1 hm with e | hm
    · exact hb e
    · exact hn k (by simpa using hm) rfl)
/-- A block of another type lies apart. -/
theorem MkAt.ne {w : World} {sv : Value} {s : WS} (h : MkAt T ee w wb base sv s) {k : Nat} {cs : Array Value} {t : TypeId} {fr : Nat × Nat} (hk : w.heap[k]? = some (.cells cs t fr)) (h1 : t ≠ T) (h2 : t ≠ 5) : k ≠ wb ∧ ∀ x ∈ sv.ownBlock, x ≠ k := by
  obtain ⟨a1, a2, a3⟩ := h
  constructor
  · rintro rfl
    rw [hk] at a1
    simp at a1
    exact h1 a1.2.1
  · rintro x hx rfl
    rcases a2 with ⟨rfl, -⟩ | ⟨g, cap, cur, rfl, -, hg, -⟩
    · simp [Value.ownBlock] at hx
    · simp [Value.ownBlock] at hx
      subst hx
      rw [hk] at hg
      simp at hg
      exact h2 hg.2.1
theorem MkAt.lt {w : World} {sv : Value} {s : WS} (h : MkAt T ee w wb base sv s) : wb < w.heap.size ∧ ∀ k ∈ sv.ownBlock, base ≤ k ∧ k < w.heap.size := ⟨lt_of_heap h.1, h.2.1.lt⟩
theorem MkAt.cells {w : World} {sv : Value} {s : WS} (h : MkAt T ee w wb base sv s) : (w.cell? ⟨wb, 0, none⟩ = some sv ∧ w.cell? ⟨wb, 1, none⟩ = some (ee s.2)) ∧ w.frozen? ⟨wb, 0, none⟩ = false ∧ w.frozen? ⟨wb, 1, none⟩ = false :=
  ⟨⟨by simpa using cell_of h.1 0, by simpa using cell_of h.1 1⟩, frozen_of h.1 0, frozen_of h.1 1⟩
/-- A grown row, stored. -/
theorem MkAt.put {w w2 : World} {sv s2 : Value} {s : WS} {b2 : List UInt8} (h : MkAt T ee w wb base sv s) (hg : Grew w w2 base sv s2 b2) : MkTo T ee w (w2.setCell ⟨wb, 0, none⟩ s2) wb base sv s2 (b2, s.2) := by
  have hbb := h.lt.1
  obtain ⟨h1, h2, h3⟩ := h
  obtain ⟨g1, g2, g3⟩ := hg
  have hne : ∀ k ∈ s2.ownBlock, k ≠ wb := by
    intro k hk
    rcases g3 k hk with h | h
    · exact h3 k h
    · omega
  have hb2 : w2.heap[wb]? = some (.cells #[sv, ee s.2] T (0, 0)) := g2.heap h1 (fun hm => h3 wb (by simpa using hm) rfl)
  have ht : Turn [wb] w2 (w2.setCell ⟨wb, 0, none⟩ s2) := (Turn.refl _ _).setCell (.inl (by simp)) _
  refine ⟨⟨by simpa using heap_set hb2 0 s2, g1.kept ht (fun k hk => by simpa using hne k hk), hne⟩, ?_, g3⟩
  exact (g2.mono (T := wb :: sv.ownBlock.toList) (fun x hx => .inl (by simp at hx ⊢; exact .inr hx))).trans ht (fun x hx => .inl (by simp at hx ⊢; exact .inl hx))
/-- What is wrong, stored. -/
theorem MkAt.bad {w : World} {sv : Value} {s : WS} (h : MkAt T ee w wb base sv s) (e : Int) : MkTo T ee w (w.setCell ⟨wb, 1, none⟩ (ee e)) wb base sv sv (s.1, e) := by
  obtain ⟨h1, h2, h3⟩ := h
  have ht : Turn [wb] w (w.setCell ⟨wb, 1, none⟩ (ee e)) := (Turn.refl _ _).setCell (.inl (by simp)) _
  exact ⟨⟨by simpa using heap_set h1 1 (ee e), h2.kept ht (fun k hk => by simpa using h3 k hk), h3⟩, ht.mono (fun x hx => .inl (by simp at hx ⊢; exact .inl hx)), fun k hk => .inl hk⟩
theorem rowTake {w : World} {e : Nat} {a : Option Addr} {n c m : Nat} {bs : List UInt8} (h : RowAt w e base (.slice a n c) bs) (hm : m ≤ n) : RowAt w e base (.slice a m c) (bs.take m) := by
  rcases h with ⟨h1, rfl⟩ | ⟨g, cap, cur, h1, hb, hg, h2, h3, h4, h5⟩
  · simp only [Value.slice.injEq] at h1
    obtain ⟨rfl, rfl, rfl⟩ := h1
    obtain rfl : m = 0 := by omega
    exact .inl ⟨rfl, by simp⟩
  · simp only [Value.slice.injEq] at h1
    obtain ⟨rfl, rfl, rfl⟩ := h1
    have hl : (bs.take m).length = m := by rw [List.length_take]; omega
    refine .inr ⟨g, c, cur, by rw [hl], hb, hg, by omega, h3, h4, ?_⟩
    rw [hl, List.map_take, ← h5, List.take_take, Nat.min_eq_left hm]
/-- Cut in place. -/
theorem MkAt.cut {w : World} {a : Option Addr} {n c m : Nat} {s : WS} (h : MkAt T ee w wb base (.slice a n c) s) (hm : m ≤ n) : MkTo T ee w (w.setCell ⟨wb, 0, none⟩ (.slice a m c)) wb base (.slice a n c) (.slice a m c) (s.1.take m, s.2) := by
  obtain ⟨h1, h2, h3⟩ := h
  have ht : Turn [wb] w (w.setCell ⟨wb, 0, none⟩ (.slice a m c)) := (Turn.refl _ _).setCell (.inl (by simp)) _
  have ho : (Value.slice a m c).ownBlock = (Value.slice a n c).ownBlock := by cases a <;> rfl
  exact ⟨⟨by simpa using heap_set h1 0 (.slice a m c), (rowTake h2 hm).kept ht (fun k hk => by rw [ho] at hk; simpa using h3 k hk), fun k hk => by rw [ho] at hk; exact h3 k hk⟩, ht.mono (fun x hx => .inl (by simp at hx ⊢; exact .inl hx)), fun k hk => .inl (by rw [ho] at hk; exact hk)⟩
end
def intsZ (l : List Int) : Array Value := (l.map fun n => Value.int .i64 n).toArray
abbrev wT : TypeId := 106
theorem nums_len (s : WS) : ∀ l, (nums s l).1.length ≤ s.1.length + 6 * l.length
  | [] => by simp [nums]
  | n :: l => by
    have h1 := nums_len (pN s n) l
    rw [nums_cons]
    have h2 : (pN s n).1.length ≤ s.1.length + 6 := by
      unfold pN
      split
      · rename_i h
        have := Nu.put_len6 (show n.toNat ≤ 1099511627776 by have := h.2; omega)
        simp; omega
      · have := Nu.put_len6 (show 0 ≤ 1099511627776 by omega)
        simp only [List.length_append]; omega
    simp only [List.length_cons]; omega
theorem nums_snoc (s : WS) {l : List Int} {j : Nat} (hj : j < l.length) : nums s (l.take (j + 1)) = pN (nums s (l.take j)) l[j] := by
  rw [List.take_succ_eq_append_getElem hj, nums_app]
  rfl

set_option maxHeartbeats 2000000 in
theorem numbers_any (w : World) (wb base : Nat) (sv : Value) (s : WS) (h : MkAt wT As.errN w wb base sv s) (hbase : base ≤ w.heap.size) (k : Nat) (l : List Int) (hk : w.heap[k]? = some (.cells (intsZ l) 3 (0, 0))) (hl : l.length ≤ 9) (hsl : s.1.length ≤ 1000000) :
    Calls Tryd.prog 51 #[.pointer (some ⟨wb, 0, none⟩), .slice (some ⟨k, 0, none⟩) l.length l.length] w fun e w' => e = .returned (.tuple #[]) ∧ ∃ sv', MkTo wT As.errN w w' wb base sv sv' (nums (cut s) l) := by
  have hkn := h.ne hk (by decide) (by decide)
  obtain ⟨a, c, rfl, hlc, hcm⟩ := h.2.1.form
  obtain ⟨m, hm⟩ : ∃ m, m = min s.1.length 10005 := ⟨_, rfl⟩
  have hmin : ∀ ts t w, (Builtin.min_ ts t #[.int .i64 (s.1.length : Int), .int .i64 10005]).run Tryd.prog w = .ok (.int .i64 (m : Int)) w := by
    intro ts t w
    by_cases h6 : 10005 < s.1.length
    · have : (10005 : Int) < (s.1.length : Int) := by omega
      simp [Builtin.min_, Builtin.min2, this]; omega
    · have : ¬ (10005 : Int) < (s.1.length : Int) := by omega
      simp [Builtin.min_, Builtin.min2, this]; omega
  have hml : m ≤ s.1.length := by omega
  have hsll := fun w => @run_to a s.1.length c m (by omega) w
  have hcut : (s.1.take m, s.2) = cut s := by
    unfold cut
    by_cases h6 : 10005 < s.1.length
    · rw [show m = 10005 by omega]
    · rw [List.take_of_length_le (show s.1.length ≤ m by omega), List.take_of_length_le (show s.1.length ≤ 10005 by omega)]
  have hcl : ∀ Z, Turn [] w Z → Z.cell? ⟨wb, 0, none⟩ = some (.slice a s.1.length c) := fun Z hZ => ((h.still hZ).cells).1.1
  have HC := hide hcl
  have HMK := hide h
  have HK := hide hk
  have HKN := hide hkn
  have HCUT := hide hcut
  have hm1 : m ≤ 10005 := by omega
  clear h hk hkn hcut hcl hm
  go_enter Tryd.func51, Tryd.ntmps51
  go_wp2
  refine wp_region_tail 14 (Turn []) (by kernel_rfl) (by kernel_rfl) (by kernel_rfl) (by kernel_rfl) (by kernel_rfl) (Nat.le_of_ble_eq_true rfl) rfl (Turn.refl _) (fun _ _ _ h k => h.same k) ?_
  apply Lo.runx 1 rfl rfl [] (by kernel_rfl) (Turn.refl _)
  apply Exists.intro; apply And.intro
  · intro u w1 hR hF
    clear hF
    refine ⟨rfl, fun a ha K hK => ?_⟩
    have e0 := ha 0
    conv at e0 => rhs; whnf
    clear ha
    go_simp
    refine hK _ ?_; rfl
  apply Lo.runx 2 rfl rfl [] (by kernel_rfl) (Turn.refl _)
  apply Exists.intro; apply And.intro
  · intro u w1 hR hF
    clear hF
    refine ⟨rfl, fun a ha K hK => ?_⟩
    have e0 := ha 0
    conv at e0 => rhs; whnf
    clear ha
    go_simp
    refine hK _ ?_; rfl
  apply Lo.runx 3 rfl rfl [1] (by kernel_rfl) (Turn.refl _)
  apply Exists.intro; apply And.intro
  · intro u w1 hR hF
    obtain ⟨h1, -⟩ := hF
    refine ⟨rfl, fun a ha K hK => ?_⟩
    have e7 := (ha 7).trans h1
    clear ha h1
    go_simp
    refine hK _ ?_; rfl
  apply Lo.runx 4 rfl rfl [2] (by kernel_rfl) (Turn.refl _)
  apply Exists.intro; apply And.intro
  · intro u w1 hR hF
    obtain ⟨h2, -⟩ := hF
    refine ⟨rfl, fun a ha K hK => ?_⟩
    have e8 := (ha 8).trans h2
    clear ha h2
    go_simp
    refine hK _ ?_; rfl
  apply Lo.runx 5 rfl rfl [3] (by kernel_rfl) (Turn.refl _)
  apply Exists.intro; apply And.intro
  · intro u w1 hR hF
    obtain ⟨h3, -⟩ := hF
    refine ⟨rfl, fun a ha K hK => ?_⟩
    have e9 := (ha 9).trans h3
    clear ha h3
    have c0 := HC.out w1 (((Turn.refl [] _).drew).same hR)
    go_simp
    refine hK _ ?_; rfl
  apply Lo.runx 6 rfl rfl [] (by kernel_rfl) (Turn.refl _)
  apply Exists.intro; apply And.intro
  · intro u w1 hR hF
    clear hF
    refine ⟨rfl, fun a ha K hK => ?_⟩
    have e0 := ha 0
    conv at e0 => rhs; whnf
    clear ha
    go_simp
    refine hK _ ?_; rfl
  apply Lo.runx 7 rfl rfl [5] (by kernel_rfl) (Turn.refl _)
  apply Exists.intro; apply And.intro
  · intro u w1 hR hF
    obtain ⟨h5, -⟩ := hF
    refine ⟨rfl, fun a ha K hK => ?_⟩
    have e11 := (ha 11).trans h5
    clear ha h5
    go_simp
    refine hK _ ?_; rfl
  apply Lo.runx 8 rfl rfl [6] (by kernel_rfl) (Turn.refl _)
  apply Exists.intro; apply And.intro
  · intro u w1 hR hF
    obtain ⟨h6, -⟩ := hF
    refine ⟨rfl, fun a ha K hK => ?_⟩
    have e12 := (ha 12).trans h6
    clear ha h6
    go_simp
    refine hK _ ?_; rfl
  apply Lo.runx 9 rfl rfl [7] (by kernel_rfl) (Turn.refl _)
  apply Exists.intro; apply And.intro
  · intro u w1 hR hF
    obtain ⟨h7, -⟩ := hF
    refine ⟨rfl, fun a ha K hK => ?_⟩
    have e13 := (ha 13).trans h7
    clear ha h7
    have c0 := HC.out w1 (((Turn.refl [] _).drew).same hR)
    go_simp
    refine hK _ ?_; rfl
  apply Lo.runx 10 rfl rfl [8] (by kernel_rfl) (Turn.refl _)
  apply Exists.intro; apply And.intro
  · intro u w1 hR hF
    obtain ⟨h8, -⟩ := hF
    refine ⟨rfl, fun a ha K hK => ?_⟩
    have e14 := (ha 14).trans h8
    clear ha h8
    go_simp
    refine hK _ ?_; rfl
  apply Lo.runx 11 rfl rfl [9] (by kernel_rfl) (Turn.refl _)
  apply Exists.intro; apply And.intro
  · intro u w1 hR hF
    obtain ⟨h9, -⟩ := hF
    refine ⟨rfl, fun a ha K hK => ?_⟩
    have e15 := (ha 15).trans h9
    clear ha h9
    go_simp
    refine hK _ ?_; rfl
  refine Lo.runv 12 rfl rfl [4, 10] (.slice a m c) (by kernel_rfl) (fun u w1 hR hF => ?_) (Turn.refl _) ?_
  · obtain ⟨h4, h10, -⟩ := hF
    refine ⟨rfl, fun a ha K hK => ?_⟩
    have e10 := (ha 10).trans h4
    have e16 := (ha 16).trans h10
    clear ha h4 h10
    go_simp
    refine hK _ ?_
    rfl
  apply Lo.runx 13 rfl rfl [0] (by kernel_rfl) (Turn.refl _)
  apply Exists.intro; apply And.intro
  · intro u w1 hR hF
    obtain ⟨h0, -⟩ := hF
    refine ⟨rfl, fun a ha K hK => ?_⟩
    have e6 := (ha 6).trans h0
    clear ha h0
    go_simp
    refine hK _ ?_; rfl
  apply Lo.runx 14 rfl rfl [12] (by kernel_rfl) (Turn.refl _)
  apply Exists.intro; apply And.intro
  · intro u w1 hR hF
    obtain ⟨h12, -⟩ := hF
    refine ⟨rfl, fun a ha K hK => ?_⟩
    have e18 := (ha 18).trans h12
    clear ha h12
    go_simp
    refine hK _ ?_; rfl
  refine Lo.done [11, 13] (fun u w1 hRd hSd hF => ?_)
  clear hSd
  obtain ⟨f11, f13, -⟩ := hF
  have d11 : u 11 = _ := f11
  have d13 : u 13 = _ := f13
  clear f11 f13
  simp only [List.take_succ_cons, List.take_zero, List.drop_succ_cons, List.drop_zero, putFrom, Act.put, List.setIfInBounds_toArray, List.set_cons_succ, List.set_cons_zero, Nat.zero_add, Nat.reduceAdd, d11, d13]
  have ht1 : Turn [] w w1 := ((Turn.refl [] w).drew).same hRd
  have hmk1 := HMK.out.still ht1
  have hc1 := hmk1.cells
  have f0 := hc1.2.1
  have c0 := hc1.1.1
  have HM2 := hide (MkTo.pre ht1 (hmk1.cut hml))
  have HK2 : Hid (∀ wi si bi, MkTo wT As.errN w wi wb base (.slice a s.1.length c) si bi → wi.heap[k]? = some (.cells (intsZ l) 3 (0, 0))) := fun wi si bi hh => hh.box HK.out HKN.out.1 HKN.out.2
  have HWS := hide (ht1.size)
  rw [HCUT.out] at HM2
  clear ht1 hmk1 hc1 hRd d11 hmin hsll
  have e2 : (Value.iface 26 (.int .i64 2)) = As.errN 2 := by simp [As.errN]
  have HE2 := hide e2
  clear e2
  go_wp2
  go_loopw [22] (fun iv wr => ∃ (j : Nat) (sr : Value), j ≤ l.length ∧ iv = .int .i64 (j : Int) ∧ MkTo wT As.errN w wr wb base (.slice a s.1.length c) sr (nums (cut s) (l.take j))) (fun iv _ => l.length - (intOf iv).toNat)
  case atStart => exact ⟨0, _, Nat.zero_le _, rfl, HM2.out⟩
  case round =>
    obtain ⟨j, sr, hj, rfl, hr⟩ := hrel
    have HR := hide hr
    have hbk := HK2.out _ _ _ hr
    have hws := hr.2.1.size
    clear hr c0 f0
    by_cases hlt : j < l.length
    · have hlt1 : (j : Int) < l.length := by omega
      obtain ⟨n, hn⟩ : ∃ n, n = l[j] := ⟨_, rfl⟩
      have hcell : wr.cell? ⟨k, j, none⟩ = some (.int .i64 n) := by
        rw [cell_of hbk, hn]; simp [intsZ, hlt]
      have hcell2 : wr.cell? ⟨k, 0 + j, none⟩ = some (.int .i64 n) := by rw [Nat.zero_add]; exact hcell
      have hsn := nums_snoc (cut s) hlt
      rw [← hn] at hsn
      have hnl := nums_len (cut s) (l.take j)
      have hcl : (cut s).1.length ≤ 10005 := by unfold cut; simp only [List.length_take]; omega
      have htl : (l.take j).length ≤ 9 := by rw [List.length_take]; omega
      obtain ⟨t, ht⟩ : ∃ t, t = nums (cut s) (l.take j) := ⟨_, rfl⟩
      rw [← ht] at hsn hnl HR
      have HSN := hide hsn
      obtain ⟨⟨c0, c1⟩, f0, f1⟩ := HR.out.1.cells
      have htl2 : t.1.length ≤ 10059 := by omega
      clear hn hbk hsn hnl hcl htl ht
      by_cases hok : okN n
      · have hpn := ok_pN (s := t) hok
        obtain ⟨hok1, hok2⟩ := hok
        obtain ⟨q, rfl⟩ : ∃ q : Nat, n = (q : Int) := ⟨n.toNat, by omega⟩
        rw [Int.toNat_natCast] at hpn
        have HPN := hide hpn
        have hq0 : ¬ (q : Int) < 0 := by omega
        have hq1 : ¬ (q : Int) > 1099511627776 := by omega
        clear hpn hok1 hok2
        go_wp2_with fail
        refine (put_any _ base sr t.1 HR.out.1.2.1 (by omega) q (by omega) (by omega)).mono ?_
        rintro e w2 ⟨v2, rfl, hr2, ht2, ho2⟩
        obtain ⟨a2, cp2, rfl, -, -⟩ := hr2.form
        rw [List.length_append] at hr2 ho2
        have hg := (⟨hr2, ht2, ho2⟩ : Grew wr w2 base sr _ (t.1 ++ Nu.put q))
        have HP := hide (HR.out.trans (HR.out.1.put hg))
        have hb2 : w2.heap[wb]? = some (.cells #[sr, As.errN t.2] wT (0, 0)) := ht2.heap HR.out.1.1 (fun hm => HR.out.1.2.2 wb (by simpa using hm) rfl)
        clear c0 c1 f0 f1
        have c0 : w2.cell? ⟨wb, 0, none⟩ = some sr := by simpa using cell_of hb2 0
        have f0 : w2.frozen? ⟨wb, 0, none⟩ = false := frozen_of hb2 0
        clear hr2 ht2 ho2 hg hb2 hcell hcell2
        go_wp2
        refine ⟨⟨j + 1, _, by omega, by go_num, by rw [HSN.out, HPN.out]; exact HP.out⟩, ?_⟩
        simp only [intOf]; omega
      · have hpn : pN t n = (t.1 ++ Nu.put 0, 2) := by unfold pN; rw [if_neg hok]
        have HPN := hide hpn
        have HOK : Hid (¬ okN n) := hok
        clear hpn hok
        by_cases hn0 : n < 0
        · go_wp2_with fail
          have hb := HR.out.1.bad 2
          rw [← HE2.out] at hb
          refine (put_any _ base sr t.1 hb.1.2.1 (by simpa using (by omega : base ≤ wr.heap.size)) 0 (by omega) (by omega)).mono ?_
          rintro e w2 ⟨v2, rfl, hr2, ht2, ho2⟩
          obtain ⟨a2, cp2, rfl, -, -⟩ := hr2.form
          rw [List.length_append] at hr2 ho2
          have hg := (⟨hr2, ht2, ho2⟩ : Grew _ w2 base sr _ (t.1 ++ Nu.put 0))
          have HP := hide (HR.out.trans (hb.trans (hb.1.put hg)))
          have hb2 : w2.heap[wb]? = some (.cells #[sr, As.errN 2] wT (0, 0)) := ht2.heap hb.1.1 (fun hm => hb.1.2.2 wb (by simpa using hm) rfl)
          clear c0 c1 f0 f1
          have c0 : w2.cell? ⟨wb, 0, none⟩ = some sr := by simpa using cell_of hb2 0
          have f0 : w2.frozen? ⟨wb, 0, none⟩ = false := frozen_of hb2 0
          clear hr2 ht2 ho2 hg hb2 hcell hcell2 hb
          go_wp2
          refine ⟨⟨j + 1, _, by omega, by go_num, by rw [HSN.out, HPN.out]; exact HP.out⟩, ?_⟩
          simp only [intOf]; omega
        · have hn1 : n > 1099511627776 := by
            have := HOK.out
            unfold okN at this
            omega
          go_wp2_with fail
          have hb := HR.out.1.bad 2
          rw [← HE2.out] at hb
          refine (put_any _ base sr t.1 hb.1.2.1 (by simpa using (by omega : base ≤ wr.heap.size)) 0 (by omega) (by omega)).mono ?_
          rintro e w2 ⟨v2, rfl, hr2, ht2, ho2⟩
          obtain ⟨a2, cp2, rfl, -, -⟩ := hr2.form
          rw [List.length_append] at hr2 ho2
          have hg := (⟨hr2, ht2, ho2⟩ : Grew _ w2 base sr _ (t.1 ++ Nu.put 0))
          have HP := hide (HR.out.trans (hb.trans (hb.1.put hg)))
          have hb2 : w2.heap[wb]? = some (.cells #[sr, As.errN 2] wT (0, 0)) := ht2.heap hb.1.1 (fun hm => hb.1.2.2 wb (by simpa using hm) rfl)
          clear c0 c1 f0 f1
          have c0 : w2.cell? ⟨wb, 0, none⟩ = some sr := by simpa using cell_of hb2 0
          have f0 : w2.frozen? ⟨wb, 0, none⟩ = false := frozen_of hb2 0
          clear hr2 ht2 ho2 hg hb2 hcell hcell2 hb
          go_wp2
          refine ⟨⟨j + 1, _, by omega, by go_num, by rw [HSN.out, HPN.out]; exact HP.out⟩, ?_⟩
          simp only [intOf]; omega
    · obtain rfl : j = l.length := by omega
      have hlast : l.take l.length = l := List.take_of_length_le (Nat.le_refl _)
      have HL := hide hlast
      clear hlast
      go_wp2
      go_end0
      refine ⟨rfl, sr, ?_⟩
      have := HR.out
      rwa [HL.out] at this
end Go.Proofs.YtcpjohpbakbggaaDoor.Wi

/- record.putRecord, putBody. -/
namespace Go.Proofs.YtcpjohpbakbggaaDoor
open Go.RowKit Go.Maps
set_option maxRecDepth 100000
set_option linter.unusedSimpArgs false
set_option linter.unusedVariables false

theorem Grew.box {W w : World} {base : Nat} {v v' : Value} {b : List UInt8} (h : Grew W w base v v' b) {k : Nat} {cs : Array Value} {t : TypeId} (hk : W.heap[k]? = some (.cells cs t (0, 0))) (hn : ∀ x ∈ v.ownBlock, x ≠ k) : w.heap[k]? = some (.cells cs t (0, 0)) :=
  h.2.1.heap hk (fun hm => hn k (by simpa using hm) rfl)
theorem Grew.still {W w w2 : World} {base : Nat} {v v' : Value} {b : List UInt8} (h : Grew W w base v v' b) (k : Turn [] w w2) : Grew W w2 base v v' b :=
  ⟨h.1.kept k (by simp), h.2.1.trans k (by simp), h.2.2⟩
theorem Grew.refl {W : World} {base : Nat} {v : Value} {b : List UInt8} (h : RowAt W 5 base v b) : Grew W W base v v b := ⟨h, Turn.refl _ _, fun k hk => .inl hk⟩
/-- A record's cells in a box of the call's own. -/
theorem box_cells {w : World} {k : Nat} {r : Bt.Rec} (h : w.heap[k]? = some (.cells #[.int .i64 r.off, .int .i64 r.time, .bool r.keyed, .string ⟨r.key.toArray⟩, .bool r.gone, .string ⟨r.value.toArray⟩] 76 (0, 0))) :
    w.cell? ⟨k, 0, none⟩ = some (.int .i64 r.off) ∧ w.cell? ⟨k, 1, none⟩ = some (.int .i64 r.time) ∧ w.cell? ⟨k, 2, none⟩ = some (.bool r.keyed) ∧ w.cell? ⟨k, 3, none⟩ = some (.string ⟨r.key.toArray⟩) ∧ w.cell? ⟨k, 4, none⟩ = some (.bool r.gone) ∧ w.cell? ⟨k, 5, none⟩ = some (.string ⟨r.value.toArray⟩) :=
  ⟨by simpa using cell_of h 0, by simpa using cell_of h 1, by simpa using cell_of h 2, by simpa using cell_of h 3, by simpa using cell_of h 4, by simpa using cell_of h 5⟩
theorem put_len_le {n : Nat} (h : n ≤ 1099511627776) : (Nu.put n).length ≤ 6 := Nu.put_len6 h
theorem textB_len {s : List UInt8} (h : s.length ≤ 600) : (Bt.textB s).length ≤ s.length + 6 := by
  unfold Bt.textB
  have := Nu.put_len6 (show s.length ≤ 1099511627776 by omega)
  simp; omega
theorem mark_le (r : Bt.Rec) : Bt.mark r ≤ 3 := by unfold Bt.mark; split <;> split <;> omega
/-- What a record asks that is written. -/
structure RecFit (r : Bt.Rec) (b : Int) : Prop where
  lo : b ≤ r.off
  hi : r.off - b ≤ 1099511627776
  b0 : 0 ≤ b
  bT : b ≤ 1099511627776
  t0 : 0 ≤ r.time
  tT : r.time ≤ 1099511627776
  key : r.key.length ≤ 60
  value : r.value.length ≤ 500
theorem recB_len {r : Bt.Rec} {b : Int} (h : RecFit r b) : (Bt.recB b r).length ≤ 600 := by
  obtain ⟨h1, h2, h3, h4, h5, h6, h7, h8⟩ := h
  have a1 := Nu.put_len6 (show (r.off - b).toNat ≤ 1099511627776 by omega)
  have a2 := Nu.put_len6 (show r.time.toNat ≤ 1099511627776 by omega)
  have a3 := Nu.put_len6 (show Bt.mark r ≤ 1099511627776 by have := mark_le r; omega)
  have a4 := textB_len (show r.key.length ≤ 600 by omega)
  have a5 := textB_len (show r.value.length ≤ 600 by omega)
  unfold Bt.recB
  simp only [List.length_append]
  split <;> split <;> simp <;> omega

/-! ### the whole body -/
theorem recs_fit {hi base : Int} : ∀ (rs : List Bt.Rec) (lo : Int), base ≤ lo → Bt.recsErr rs lo hi = 0 → ∀ r ∈ rs, base ≤ r.off ∧ r.off < hi ∧ r.key.length ≤ 60 ∧ r.value.length ≤ 500 ∧ 0 ≤ r.time ∧ r.time ≤ 1099511627776
  | [], _, _, _, r, hr => by simp at hr
  | x :: rs, lo, hb, h, r, hr => by
    have h1 : Bt.recErr x lo hi = 0 := by
      unfold Bt.recsErr at h
      split at h
      · assumption
      · exact h
    have h2 : Bt.recsErr rs (x.off + 1) hi = 0 := by
      unfold Bt.recsErr at h
      rwa [if_pos h1] at h
    have hk := Bt.recErr_ok h1
    rcases List.mem_cons.1 hr with rfl | hr
    · exact ⟨by omega, hk.2.1, hk.2.2.2.2.1, hk.2.2.2.2.2.1, hk.2.2.2.2.2.2.1, hk.2.2.2.2.2.2.2⟩
    · exact recs_fit rs (x.off + 1) (by omega) h2 r hr
theorem bat_fit {x : Bt.Bat} (h : Bt.chk x = 0) : ∀ r ∈ x.recs, RecFit r x.base := by
  intro r hr
  obtain ⟨h1, h2, h3, h4, h5, h6⟩ := Bt.chk_ok h
  obtain ⟨a, b, c, d, e, f⟩ := recs_fit x.recs x.base (Int.le_refl _) h6 r hr
  exact ⟨a, by omega, h1, by omega, e, f, c, d⟩
theorem recsB_take {b : Int} {rs : List Bt.Rec} {k : Nat} (hk : k < rs.length) : Bt.recsB b (rs.take (k + 1)) = Bt.recsB b (rs.take k) ++ Bt.recB b rs[k] := by
  unfold Bt.recsB
  rw [List.take_succ_eq_append_getElem hk]
  simp only [List.flatMap_append, List.flatMap_cons, List.flatMap_nil, List.append_nil]
theorem recsB_len {b : Int} : ∀ (rs : List Bt.Rec), (∀ r ∈ rs, RecFit r b) → (Bt.recsB b rs).length ≤ 600 * rs.length
  | [], _ => by simp [Bt.recsB]
  | r :: rs, h => by
    have h1 := recB_len (h r (by simp))
    have h2 := recsB_len rs (fun x hx => h x (by simp [hx]))
    simp only [Bt.recsB, List.flatMap_cons, List.length_append, List.length_cons] at h2 ⊢
    omega

end Go.Proofs.YtcpjohpbakbggaaDoor

/- The document's Encode: its two closures. -/
namespace Go.Proofs.YtcpjohpbakbggaaDoor
open Go.RowKit Go.Maps
set_option maxRecDepth 100000
set_option linter.unusedSimpArgs false
set_option linter.unusedVariables false

/-- A variable of bytes in a box of its own. -/
def BufAt (w : World) (bb base : Nat) (s : Value) (bs : List UInt8) : Prop :=
  w.heap[bb]? = some (.cells #[s] 22 (0, 0)) ∧ RowAt w 5 base s bs ∧ (∀ k ∈ s.ownBlock, k ≠ bb)
/-- What turns where bytes are put behind it. -/
def BufTo (w w' : World) (bb base : Nat) (s s' : Value) (bs : List UInt8) : Prop :=
  BufAt w' bb base s' bs ∧ Turn (bb :: s.ownBlock.toList) w w' ∧ (∀ k ∈ s'.ownBlock, k ∈ s.ownBlock ∨ w.heap.size ≤ k)
theorem BufTo.refl {w : World} {bb base : Nat} {s : Value} {bs : List UInt8} (h : BufAt w bb base s bs) : BufTo w w bb base s s bs := ⟨h, Turn.refl _ _, fun k hk => .inl hk⟩
theorem BufTo.trans {w w1 w2 : World} {bb base : Nat} {s s1 s2 : Value} {b1 b2 : List UInt8} (h : BufTo w w1 bb base s s1 b1) (k : BufTo w1 w2 bb base s1 s2 b2) : BufTo w w2 bb base s s2 b2 := by
  obtain ⟨h1, h2, h3⟩ := h
  obtain ⟨k1, k2, k3⟩ := k
  refine ⟨k1, h2.trans k2 (fun x hx => ?_), fun x hx => ?_⟩
  · rcases List.mem_cons.1 hx with rfl | hx
    · exact .inl (by simp)
    · rcases h3 x (by simpa using hx) with h | h
      · exact .inl (by simp at h ⊢; exact .inr h)
      · exact .inr h
  · rcases k3 x hx with h | h
    · exact h3 x h
    · have := h2.size; exact .inr (by omega)
theorem BufAt.still {w w' : World} {bb base : Nat} {s : Value} {bs : List UInt8} (h : BufAt w bb base s bs) (ht : Turn [] w w') : BufAt w' bb base s bs := ⟨ht.heap h.1 (by simp), h.2.1.kept ht (by simp), h.2.2⟩
theorem BufTo.still {w w1 w2 : World} {bb base : Nat} {s s1 : Value} {b1 : List UInt8} (h : BufTo w w1 bb base s s1 b1) (k : Turn [] w1 w2) : BufTo w w2 bb base s s1 b1 := ⟨h.1.still k, h.2.1.trans k (by simp), h.2.2⟩
theorem BufTo.pre {w w1 w2 : World} {bb base : Nat} {s s2 : Value} {b : List UInt8} (h : Turn [] w w1) (k : BufTo w1 w2 bb base s s2 b) : BufTo w w2 bb base s s2 b := by
  obtain ⟨k1, k2, k3⟩ := k
  refine ⟨k1, (h.mono (by simp)).trans k2 (fun x hx => .inl hx), fun x hx => ?_⟩
  rcases k3 x hx with h' | h'
  · exact .inl h'
  · have := h.size; exact .inr (by omega)
theorem BufTo.box {w w' : World} {bb base : Nat} {s s' : Value} {bs : List UInt8} (h : BufTo w w' bb base s s' bs) {k : Nat} {o : Obj} (hk : w.heap[k]? = some o) (hb : k ≠ bb) (hn : ∀ x ∈ s.ownBlock, x ≠ k) : w'.heap[k]? = some o :=
  h.2.1.heap hk (fun hm => by
    rcases List.mem_cons.1 hm with e | hm
    · exact hb e
    · exact hn k (by simpa using hm) rfl)
/-- A grown row, stored. -/
theorem BufAt.put {w w2 : World} {bb base : Nat} {s s2 : Value} {bs b2 : List UInt8} (h : BufAt w bb base s bs) (hbb : bb < w.heap.size) (hg : Grew w w2 base s s2 b2) : BufTo w (w2.setCell ⟨bb, 0, none⟩ s2) bb base s s2 b2 := by
  obtain ⟨h1, h2, h3⟩ := h
  obtain ⟨g1, g2, g3⟩ := hg
  have hne : ∀ k ∈ s2.ownBlock, k ≠ bb := by
    intro k hk
    rcases g3 k hk with h | h
    · exact h3 k h
    · omega
  have hb2 : w2.heap[bb]? = some (.cells #[s] 22 (0, 0)) := g2.heap h1 (fun hm => h3 bb (by simpa using hm) rfl)
  have ht : Turn [bb] w2 (w2.setCell ⟨bb, 0, none⟩ s2) := (Turn.refl _ _).setCell (.inl (by simp)) _
  refine ⟨⟨by simpa using heap_set hb2 0 s2, g1.kept ht (fun k hk => by simpa using hne k hk), hne⟩, ?_, g3⟩
  exact (g2.mono (T := bb :: s.ownBlock.toList) (fun x hx => .inl (by simp at hx ⊢; exact .inr hx))).trans ht (fun x hx => .inl (by simp at hx ⊢; exact .inl hx))

theorem RowAt.some_slice {w : World} {e base : Nat} {sl : Value} {bs : List UInt8} (h : RowAt w e base sl bs) : ∃ a n c, sl = .slice a n c := by
  obtain ⟨a, c, rfl, -, -⟩ := h.form
  exact ⟨_, _, _, rfl⟩
def intsV (ns : List Nat) : Array Value := (ns.map fun (n : Nat) => Value.int .i64 (n : Int)).toArray
def putsB (ns : List Nat) : List UInt8 := ns.flatMap Nu.put
theorem putsB_take {ns : List Nat} {k : Nat} (hk : k < ns.length) : putsB (ns.take (k + 1)) = putsB (ns.take k) ++ Nu.put ns[k] := by
  unfold putsB
  rw [List.take_succ_eq_append_getElem hk]
  simp only [List.flatMap_append, List.flatMap_cons, List.flatMap_nil, List.append_nil]
theorem putsB_len : ∀ (ns : List Nat), (∀ n ∈ ns, n ≤ 1099511627776) → (putsB ns).length ≤ 6 * ns.length
  | [], _ => by simp [putsB]
  | n :: ns, h => by
    have h1 := Nu.put_len6 (h n (by simp))
    have h2 := putsB_len ns (fun x hx => h x (by simp [hx]))
    simp only [putsB, List.flatMap_cons, List.length_append, List.length_cons] at h2 ⊢
    omega

end Go.Proofs.YtcpjohpbakbggaaDoor

/- wire's writer: a text, a record. -/
namespace Go.Proofs.YtcpjohpbakbggaaDoor.Wi
open Go.RowKit Go.Maps
set_option maxRecDepth 100000
set_option linter.unusedSimpArgs false
set_option linter.unusedVariables false

theorem truth_any (w : World) (b : Bool) : Calls Tryd.prog 53 #[.bool b] w fun e w' => e = .returned (.int .i64 (tr b)) ∧ w' = w := by
  cases b
  all_goals
    go_enter Tryd.func53, Tryd.ntmps53
    go_wp2
    go_ret
    exact ⟨rfl, rfl⟩
theorem numbers_new (w : World) (wb base : Nat) (sv : Value) (s : WS) (h : MkAt wT As.errN w wb base sv s) (hbase : base ≤ w.heap.size) (l : List Int) {cs : Array Value} {n K : Nat} (hcs : cs = intsZ l) (hn : n = l.length) (hK : K = w.heap.size) (hl : l.length ≤ 9) (hsl : s.1.length ≤ 1000000) :
    Calls Tryd.prog 51 #[.pointer (some ⟨wb, 0, none⟩), .slice (some ⟨K, 0, none⟩) n n] (w.alloc (.cells cs 3)) fun e w' => e = .returned (.tuple #[]) ∧ ∃ sv', MkTo wT As.errN w w' wb base sv sv' (nums (cut s) l) := by
  subst hcs; subst hn; subst hK
  exact (numbers_any (w.alloc (.cells (intsZ l) 3)) wb base sv s (h.still ((Turn.refl [] w).alloc _)) (by simp; omega) w.heap.size l (heap_new w _) hl hsl).mono fun e w' ⟨h1, sv', h2⟩ => ⟨h1, sv', MkTo.pre ((Turn.refl [] w).alloc _) h2⟩
/-- A text's bytes behind a row, stored. -/
theorem MkAt.putS {T : TypeId} {ee : Int → Value} {w w2 : World} {wb base : Nat} {sv s2 : Value} {s : WS} {t : List UInt8} (h : MkAt T ee w wb base sv s) (h1 : RowAt w2 5 base s2 (s.1 ++ t)) (h2 : Turn sv.ownBlock.toList w w2) (h3 : ∀ k ∈ s2.ownBlock, k ∈ sv.ownBlock ∨ w.heap.size ≤ k) :
    MkTo T ee w (w2.setCell ⟨wb, 0, none⟩ s2) wb base sv s2 (s.1 ++ t, s.2) ∧ w2.heap[wb]? = some (.cells #[sv, ee s.2] T (0, 0)) :=
  ⟨h.put ⟨h1, h2, h3⟩, h2.heap h.1 (fun hm => h.2.2 wb (by simpa using hm) rfl)⟩
theorem cut_len (s : WS) : (cut s).1.length ≤ 10005 := by unfold cut; simp only [List.length_take]; omega

set_option maxHeartbeats 2000000 in
theorem text_any (w : World) (wb base : Nat) (sv : Value) (s : WS) (h : MkAt wT As.errN w wb base sv s) (hbase : base ≤ w.heap.size) (t : List UInt8) (most : Nat) (hm : most ≤ 1000) (ht : t.length ≤ 9223372036854775807) (hsl : s.1.length ≤ 1000000) :
    Calls Tryd.prog 52 #[.pointer (some ⟨wb, 0, none⟩), .string ⟨t.toArray⟩, .int .i64 most] w fun e w' => e = .returned (.tuple #[]) ∧ ∃ sv', MkTo wT As.errN w w' wb base sv sv' (pStep s (.tx t most)) := by
  obtain ⟨i0, hi, hz, hz1, hz2⟩ := infoB_parts
  have HM := hide h
  obtain ⟨⟨c0, c1⟩, f0, f1⟩ := h.cells
  have e2 : (Value.iface 26 (.int .i64 4)) = As.errN 4 := by simp [As.errN]
  have HE2 := hide e2
  clear h e2
  by_cases hb : most < t.length
  · have hb1 : (t.length : Int) > (most : Int) := by omega
    have hp : pStep s (.tx t most) = nums (cut (s.1, 4)) [0] := by rw [pStep_tx, if_pos hb]
    have HP := hide hp
    have hbad := HM.out.bad 4
    rw [← HE2.out] at hbad
    have HBAD := hide hbad
    have HSZ : Hid (base ≤ (w.setCell ⟨wb, 1, none⟩ (.iface 26 (.int .i64 4))).heap.size) := by show _ ≤ _; simpa using hbase
    have hnl := nums_len (cut (s.1, 4)) [0]
    have hcl := cut_len (s.1, 4)
    obtain ⟨q, hq⟩ : ∃ q, q = nums (cut (s.1, 4)) [0] := ⟨_, rfl⟩
    rw [← hq] at HP hnl
    have HQ := hide hq
    have hql : q.1.length ≤ 10100 := by simp at hnl; omega
    clear hp hb hbad hnl hcl hq
    go_enter Tryd.func52, Tryd.ntmps52
    go_wp2_with fail
    refine (numbers_new _ wb base sv (s.1, 4) HBAD.out.1 HSZ.out [0] (by rfl) (by rfl) (by simp) (by simp) hsl).mono ?_
    rintro e w1 ⟨rfl, sv1, hto⟩
    rw [← HQ.out] at hto
    have HTO := hide (HBAD.out.trans hto)
    have hszw := hto.2.1.size
    clear hto c0 c1 f0 f1
    obtain ⟨⟨c0, c1⟩, f0, f1⟩ := HTO.out.1.cells
    have hs1 := HTO.out.2.1.size
    go_wp2_with (at_builtin; go_must (refine wpList_append_str rfl _ _ 22 9 rfl 5 base i0 Tryd.underlying22 Tryd.underlying9 hi hz hz1 hz2 sv1 q.1 [] rfl rfl HTO.out.1.2.1 (by simp; omega) (by omega) ?_; intro v2 w2 hr2 ht2 ho2; obtain ⟨a3, n3, cp3, hv3⟩ := hr2.some_slice; subst hv3; have HG := hide (HTO.out.1.putS hr2 ht2 ho2); have c3 : w2.cell? ⟨wb, 0, none⟩ = some sv1 := (by simpa using cell_of HG.out.2 0); have f3 : w2.frozen? ⟨wb, 0, none⟩ = false := frozen_of HG.out.2 0; clear hr2 ht2 ho2))
    go_end0
    refine ⟨rfl, .slice a3 n3 cp3, ?_⟩
    have := HTO.out.trans HG.out.1
    rw [List.append_nil] at this
    rw [HP.out]
    exact this
  · have hb1 : ¬ (t.length : Int) > (most : Int) := by omega
    have hp : pStep s (.tx t most) = ((nums (cut s) [(t.length : Int)]).1 ++ t, (nums (cut s) [(t.length : Int)]).2) := by rw [pStep_tx, if_neg hb]
    have HP := hide hp
    have hnl := nums_len (cut s) [(t.length : Int)]
    have hcl := cut_len s
    have htm : t.length ≤ 1000 := by omega
    obtain ⟨q, hq⟩ : ∃ q, q = nums (cut s) [(t.length : Int)] := ⟨_, rfl⟩
    rw [← hq] at HP hnl
    have HQ := hide hq
    have hql : q.1.length ≤ 10100 := by simp at hnl; omega
    clear hp hb hnl hcl hq
    go_enter Tryd.func52, Tryd.ntmps52
    go_wp2_with fail
    refine (numbers_new _ wb base sv s HM.out hbase [(t.length : Int)] (by rfl) (by rfl) (by rfl) (by simp) hsl).mono ?_
    rintro e w1 ⟨rfl, sv1, hto⟩
    rw [← HQ.out] at hto
    have HTO := hide hto
    have hs1 := hto.2.1.size
    clear hto c0 c1 f0 f1
    obtain ⟨⟨c0, c1⟩, f0, f1⟩ := HTO.out.1.cells
    go_wp2_with (at_builtin; go_must (refine wpList_append_str rfl _ _ 22 9 rfl 5 base i0 Tryd.underlying22 Tryd.underlying9 hi hz hz1 hz2 sv1 q.1 t rfl rfl HTO.out.1.2.1 (by omega) (by omega) ?_; intro v2 w2 hr2 ht2 ho2; obtain ⟨a3, n3, cp3, hv3⟩ := hr2.some_slice; subst hv3; have HG := hide (HTO.out.1.putS hr2 ht2 ho2); have c3 : w2.cell? ⟨wb, 0, none⟩ = some sv1 := (by simpa using cell_of HG.out.2 0); have f3 : w2.frozen? ⟨wb, 0, none⟩ = false := frozen_of HG.out.2 0; clear hr2 ht2 ho2))
    go_end0
    refine ⟨rfl, .slice a3 n3 cp3, ?_⟩
    rw [HP.out]
    exact HTO.out.trans HG.out.1
theorem pStep_len (s : WS) : ∀ c : Cl, (match c with | .ns l => l.length ≤ 9 | .tx t m => m ≤ 1000) → (pStep s c).1.length ≤ 12000
  | .ns l, h => by
    have h1 := nums_len (cut s) l
    have h2 := cut_len s
    show (nums (cut s) l).1.length ≤ _
    simp only at h
    omega
  | .tx t m, h => by
    simp only at h
    rw [pStep_tx]
    have h1 := nums_len (cut s) [(t.length : Int)]
    have h2 := cut_len s
    have h3 := nums_len (cut (s.1, 4)) [0]
    have h4 := cut_len (s.1, 4)
    simp only [List.length_cons, List.length_nil] at h1 h3
    split
    · omega
    · simp only [List.length_append]; omega
end Go.Proofs.YtcpjohpbakbggaaDoor.Wi

/- record.Check. -/
namespace Go.Proofs.YtcpjohpbakbggaaDoor
open Go.RowKit Go.Maps
set_option maxRecDepth 100000
set_option linter.unusedSimpArgs false
set_option linter.unusedVariables false

/-- How the check of records goes on behind some that were right. -/
theorem recsErr_step {rs : List Bt.Rec} {k : Nat} (hk : k < rs.length) (lo hi : Int) : Bt.recsErr (rs.drop k) lo hi = if Bt.recErr rs[k] lo hi = 0 then Bt.recsErr (rs.drop (k + 1)) (rs[k].off + 1) hi else Bt.recErr rs[k] lo hi := by
  rw [List.drop_eq_getElem_cons hk]
  rfl

end Go.Proofs.YtcpjohpbakbggaaDoor

/- record.Sum: the walk. -/
namespace Go.Proofs.YtcpjohpbakbggaaDoor
open Go.RowKit Go.Maps
set_option maxRecDepth 100000
set_option linter.unusedSimpArgs false
set_option linter.unusedVariables false

theorem not_u32 (s : Nat) (h : s < 4294967296) : bits .xor .u32 IntKind.u32.max (s : Int) = ((4294967295 - s : Nat) : Int) := by
  rw [show IntKind.u32.max = ((4294967295 : Nat) : Int) by decide, u32_xor_nat _ _ (by omega) h]
  congr 1
  apply Nat.eq_of_testBit_eq
  intro i
  have h1 := Nat.testBit_two_pow_sub_one 32 i
  have h2 := Nat.testBit_two_pow_sub_succ (n := 32) (x := s) (by simpa using h) i
  rw [show 2 ^ 32 - (s + 1) = 4294967295 - s by omega] at h2
  rw [show (2 ^ 32 - 1 : Nat) = 4294967295 by decide] at h1
  rw [Nat.testBit_xor, h1, h2]
  by_cases hi : i < 32
  · simp [hi]
  · simp [hi, Cr.tb_high h (by omega : 32 ≤ i)]

theorem step_u32 (s : Nat) (h : s < 4294967296) : bits .xor .u32 ((s : Int) / 2) (3988292384 * bits .and .u32 (s : Int) 1 % 4294967296) = ((Cr.step s : Nat) : Int) := by
  have h1 := u32_and_nat s 1 h (by omega)
  rw [nat_mask1] at h1
  simp only [Int.natCast_one] at h1
  rw [h1, show (s : Int) / 2 = ((s / 2 : Nat) : Int) by omega, show (3988292384 * ((s % 2 : Nat) : Int) % 4294967296) = ((3988292384 * (s % 2) : Nat) : Int) by omega, u32_xor_nat _ _ (by omega) (by omega)]
  rfl

end Go.Proofs.YtcpjohpbakbggaaDoor

/- record.setFour, record.Encode. -/
namespace Go.Proofs.YtcpjohpbakbggaaDoor
open Go.RowKit Go.Maps
set_option maxRecDepth 100000
set_option linter.unusedSimpArgs false
set_option linter.unusedVariables false

/-- Four cells told anew. -/
def set4 (cur : Array Value) (o n : Nat) : Array Value :=
  (((cur.setIfInBounds o (.int .u8 (n / 16777216 % 256 : Nat))).setIfInBounds (o + 1) (.int .u8 (n / 65536 % 256 : Nat))).setIfInBounds (o + 2) (.int .u8 (n / 256 % 256 : Nat))).setIfInBounds (o + 3) (.int .u8 (n % 256 : Nat))
theorem four_enc {n : Nat} : (Bt.four n).map encB = [.int .u8 (n / 16777216 % 256 : Nat), .int .u8 (n / 65536 % 256 : Nat), .int .u8 (n / 256 % 256 : Nat), .int .u8 (n % 256 : Nat)] := by
  simp only [Bt.four, List.map_cons, List.map_nil, encB]
  have a0 : (UInt8.ofNat (n / 16777216 % 256)).toNat = n / 16777216 % 256 := by simp
  have a1 : (UInt8.ofNat (n / 65536 % 256)).toNat = n / 65536 % 256 := by simp
  have a2 : (UInt8.ofNat (n / 256 % 256)).toNat = n / 256 % 256 := by simp
  have a3 : (UInt8.ofNat (n % 256)).toNat = n % 256 := by simp
  rw [a0, a1, a2, a3]
theorem set4_size (cur : Array Value) (o n : Nat) : (set4 cur o n).size = cur.size := by simp [set4]
theorem set4_0 {cur : Array Value} {n L : Nat} {a b c d : UInt8} {post : List UInt8} (hL : L = post.length + 4) (h : cur.toList.take L = (a :: b :: c :: d :: post).map encB) : (set4 cur 0 n).toList.take L = (Bt.four n ++ post).map encB := by
  rw [List.map_append, four_enc]
  have e := List.take_append_drop L cur.toList
  rw [h] at e
  unfold set4
  simp only [Array.toList_setIfInBounds]
  rw [← e]
  simp only [List.map_cons, List.cons_append, List.set_cons_zero, List.set_cons_succ, Nat.zero_add]
  subst hL
  simp
theorem set4_4 {cur : Array Value} {n L : Nat} {p q r s a b c d : UInt8} {post : List UInt8} (hL : L = post.length + 8) (h : cur.toList.take L = (p :: q :: r :: s :: a :: b :: c :: d :: post).map encB) : (set4 cur 4 n).toList.take L = (p :: q :: r :: s :: (Bt.four n ++ post)).map encB := by
  rw [List.map_cons, List.map_cons, List.map_cons, List.map_cons, List.map_append, four_enc]
  have e := List.take_append_drop L cur.toList
  rw [h] at e
  unfold set4
  simp only [Array.toList_setIfInBounds]
  rw [← e]
  simp only [List.map_cons, List.cons_append, List.set_cons_zero, List.set_cons_succ, Nat.zero_add]
  subst hL
  simp

theorem mk8 (w : World) : (Instr.makeSlice 22 (.int .i64 8) (.int .i64 8)).run Tryd.prog w = .ok (.slice (some ⟨w.heap.size, 0, none⟩) 8 8) (w.alloc (.cells #[.int .u8 0, .int .u8 0, .int .u8 0, .int .u8 0, .int .u8 0, .int .u8 0, .int .u8 0, .int .u8 0] 5)) := by kernel_rfl

theorem body_len {x : Bt.Bat} (h : Bt.chk x = 0) : (Bt.body x).length ≤ 30018 := by
  have hf := bat_fit h
  obtain ⟨h1, h2, h3, h4, h5, h6⟩ := Bt.chk_ok h
  have a0 := Nu.put_len6 (show x.base.toNat ≤ 1099511627776 by omega)
  have a1 := Nu.put_len6 (show (x.fin - x.base).toNat ≤ 1099511627776 by omega)
  have a2 := Nu.put_len6 (show x.recs.length ≤ 1099511627776 by omega)
  have a3 := recsB_len x.recs hf
  unfold Bt.body
  simp only [List.length_append]
  omega
theorem body_pos (x : Bt.Bat) : 3 ≤ (Bt.body x).length := by
  have a0 := Nu.put_pos x.base.toNat
  have a1 := Nu.put_pos (x.fin - x.base).toNat
  have a2 := Nu.put_pos x.recs.length
  unfold Bt.body
  simp only [List.length_append]
  omega
/-- The end of a row's bytes. -/
theorem row_drop {w : World} {g : Nat} {cur : Array Value} {t : TypeId} {bs : List UInt8} (hg : w.heap[g]? = some (.cells cur t (0, 0))) (ht : cur.toList.take bs.length = bs.map encB) (o c : Nat) : SliceAt w (.slice (some ⟨g, o, none⟩) (bs.length - o) c) ((bs.drop o).map encB) := by
  refine .inr ⟨⟨g, o, none⟩, c, by simp, fun j u hu => ?_⟩
  have e : (⟨g, o, none⟩ : Addr).add j = ⟨g, o + j, none⟩ := by
    rw [← addr_add g o, add_add, addr_add]
  rw [e, cell_of hg]
  have hj : o + j < bs.length := by
    have := (List.getElem?_eq_some_iff.1 hu).1
    simp at this; omega
  have h1 : (bs.map encB)[o + j]? = some u := by
    rw [← hu]; simp
  rw [← ht, List.getElem?_take_of_lt hj] at h1
  simpa using h1
/-- What Encode answers: the bytes, or none. -/
def encR (x : Bt.Bat) : List UInt8 := if Bt.encErr x = 0 then Bt.encB x else []
end Go.Proofs.YtcpjohpbakbggaaDoor

/- The document's Check. -/
namespace Go.Proofs.YtcpjohpbakbggaaDoor
open Go.RowKit Go.Maps
set_option maxRecDepth 100000
set_option linter.unusedSimpArgs false
set_option linter.unusedVariables false

/-- What the document's first test of a record answers. -/
def badB (r : Bt.Rec) (base fin lo : Int) (k : Nat) : Bool :=
  ((((decide (r.off < base) || decide (fin ≤ r.off)) || (decide (0 < k) && decide (r.off ≤ lo - 1))) || ((!r.keyed) && (!r.key.isEmpty))) || (r.gone && (!r.value.isEmpty)))
theorem badB_iff (r : Bt.Rec) (base fin lo : Int) (k : Nat) (h : (k = 0 ∧ lo = base) ∨ (0 < k ∧ base ≤ lo)) : badB r base fin lo k = true ↔ (r.off < lo ∨ fin ≤ r.off ∨ (r.keyed = false ∧ r.key ≠ []) ∨ (r.gone = true ∧ r.value ≠ [])) := by
  unfold badB
  simp only [Bool.or_eq_true, Bool.and_eq_true, decide_eq_true_eq, Bool.not_eq_true', List.isEmpty_eq_false_iff]
  constructor
  · rintro ((((h1 | h1) | ⟨h1, h2⟩) | h1) | h1)
    · exact .inl (by omega)
    · exact .inr (.inl h1)
    · exact .inl (by omega)
    · exact .inr (.inr (.inl h1))
    · exact .inr (.inr (.inr h1))
  · rintro (h1 | h1 | h1 | h1)
    · rcases h with ⟨h2, h3⟩ | ⟨h2, h3⟩
      · exact .inl (.inl (.inl (.inl (by omega))))
      · exact .inl (.inl (.inr ⟨by omega, by omega⟩))
    · exact .inl (.inl (.inl (.inr h1)))
    · exact .inl (.inr h1)
    · exact .inr h1
theorem recErr_bad {r : Bt.Rec} {base fin lo : Int} {k : Nat} (h : (k = 0 ∧ lo = base) ∨ (0 < k ∧ base ≤ lo)) (hb : badB r base fin lo k = true) : Bt.recErr r lo fin = 1 := by
  unfold Bt.recErr
  rw [if_pos ((badB_iff r base fin lo k h).1 hb)]
theorem recErr_good {r : Bt.Rec} {base fin lo : Int} {k : Nat} (h : (k = 0 ∧ lo = base) ∨ (0 < k ∧ base ≤ lo)) (hb : badB r base fin lo k = false) : Bt.recErr r lo fin = if 60 < r.key.length ∨ 500 < r.value.length then 4 else if r.time < 0 ∨ 1099511627776 < r.time then 2 else 0 := by
  unfold Bt.recErr
  rw [if_neg (fun h2 => by rw [(badB_iff r base fin lo k h).2 h2] at hb; cases hb)]
theorem good_lo {r : Bt.Rec} {base fin lo : Int} {k : Nat} (h : (k = 0 ∧ lo = base) ∨ (0 < k ∧ base ≤ lo)) (hb : badB r base fin lo k = false) : lo ≤ r.off ∧ r.off < fin := by
  have : ¬ (r.off < lo ∨ fin ≤ r.off ∨ (r.keyed = false ∧ r.key ≠ []) ∨ (r.gone = true ∧ r.value ≠ [])) := fun h2 => by rw [(badB_iff r base fin lo k h).2 h2] at hb; cases hb
  constructor <;> omega

end Go.Proofs.YtcpjohpbakbggaaDoor

/- The document's Sum: the walk; the two sums are one. -/
namespace Go.Proofs.YtcpjohpbakbggaaDoor
open Go.RowKit Go.Maps
set_option maxRecDepth 100000
set_option linter.unusedSimpArgs false
set_option linter.unusedVariables false

theorem and_one (x : Nat) (h : x < 18446744073709551616) : bits .and .u64 (x : Int) 1 = ((x % 2 : Nat) : Int) := by
  have h1 := u64_and_nat x 1 h (by omega)
  rw [nat_mask1] at h1
  simpa using h1
theorem in_bit (c j : Nat) (hc : c < 256) : bits .and .u64 (IntKind.u64.wrap ((c : Int) / 2 ^ j)) 1 = ((c / 2 ^ j % 2 : Nat) : Int) := by
  have hd : c / 2 ^ j ≤ c := Nat.div_le_self _ _
  rw [show ((c : Int) / 2 ^ j) = ((c / 2 ^ j : Nat) : Int) by simp]
  generalize c / 2 ^ j = q at *
  rw [IntKind.wrap_u64, Int.emod_eq_of_lt (by omega) (by omega), and_one _ (by omega)]
theorem top_bit (v : Nat) (h : v < 4294967296) : bits .and .u64 ((v : Int) / 2147483648) 1 = ((v / 2147483648 % 2 : Nat) : Int) := by
  rw [show ((v : Int) / 2147483648) = ((v / 2147483648 : Nat) : Int) by omega, and_one _ (by omega)]
theorem at_bit (v j : Nat) (h : v < 4294967296) : bits .and .u64 ((v : Int) / 2 ^ j) 1 = ((v / 2 ^ j % 2 : Nat) : Int) := by
  have hd : v / 2 ^ j ≤ v := Nat.div_le_self _ _
  rw [show ((v : Int) / 2 ^ j) = ((v / 2 ^ j : Nat) : Int) by simp, and_one _ (by omega)]
theorem low_bits (v : Nat) (h : v < 4294967296) : bits .and .u64 ((v : Int) * 2) 4294967295 = ((v * 2 % 4294967296 : Nat) : Int) := by
  have h1 := u64_and_nat (v * 2) 4294967295 (by omega) (by omega)
  rw [nat_mask32] at h1
  rw [← h1]; simp
theorem ne_bits (a b : Nat) (p q : Bool) (ha : (a % 2 = 1) ↔ p = true) (hb : (b % 2 = 1) ↔ q = true) : ((((a % 2 : Nat) : Int)) != ((b % 2 : Nat) : Int)) = (p != q) := by
  have h1 : a % 2 = 0 ∨ a % 2 = 1 := by omega
  have h2 : b % 2 = 0 ∨ b % 2 = 1 := by omega
  rcases h1 with e | e <;> rcases h2 with f | f <;> simp [e] at ha <;> simp [f] at hb <;> simp [e, f, ha, hb]
theorem test_up (c j v : Nat) (hc : c < 256) (hv : v < 4294967296) : (bits .and .u64 (IntKind.u64.wrap ((c : Int) / 2 ^ j)) 1 != bits .and .u64 ((v : Int) / 2147483648) 1) = (c.testBit j != v.testBit 31) := by
  rw [in_bit c j hc, top_bit v hv]
  refine ne_bits _ _ _ _ ?_ ?_
  · rw [Nat.testBit_eq_decide_div_mod_eq]; simp
  · rw [Nat.testBit_eq_decide_div_mod_eq]; simp
theorem up_yes (c j v : Nat) (hc : c < 256) (hv : v < 4294967296) (h : (bits .and .u64 (IntKind.u64.wrap ((c : Int) / 2 ^ j)) 1 != bits .and .u64 ((v : Int) / 2147483648) 1) = true) :
    bits .xor .u64 (bits .and .u64 ((v : Int) * 2) 4294967295) 79764919 = ((Cr.up v (c.testBit j) : Nat) : Int) := by
  rw [test_up c j v hc hv] at h
  have hx := u64_xor_nat (v * 2 % 4294967296) 79764919 (by omega) (by omega)
  rw [low_bits v hv]
  unfold Cr.up
  rw [h, Nat.xor_comm]
  simpa using hx
theorem up_no (c j v : Nat) (hc : c < 256) (hv : v < 4294967296) (h : (bits .and .u64 (IntKind.u64.wrap ((c : Int) / 2 ^ j)) 1 != bits .and .u64 ((v : Int) / 2147483648) 1) = false) :
    bits .and .u64 ((v : Int) * 2) 4294967295 = ((Cr.up v (c.testBit j) : Nat) : Int) := by
  rw [test_up c j v hc hv] at h
  rw [low_bits v hv]
  unfold Cr.up
  rw [h]; simp
theorem part_yes (bs : List UInt8) (j : Nat) (hj : j < 32) (h : (bits .and .u64 ((Cr.rcrc bs : Int) / 2 ^ j) 1 == 0) = true) :
    wrap64 ((Cr.part (Cr.sum bs) j : Int) + wrap64 (2 ^ (31 - j))) = ((Cr.part (Cr.sum bs) (j + 1) : Nat) : Int) := by
  rw [at_bit _ _ (Cr.rcrc_lt bs)] at h
  have hz : Cr.rcrc bs / 2 ^ j % 2 = 0 := by have := beq_iff_eq.1 h; omega
  have hs := Cr.part_succ (Cr.crc_lt bs) hj (Cr.rev_crc bs)
  rw [if_pos hz] at hs
  have hp : (2 : Nat) ^ (31 - j) ≤ 2 ^ 31 := Nat.pow_le_pow_right (by omega) (by omega)
  have hl : Cr.part (Cr.sum bs) j ≤ Cr.sum bs := Nat.div_mul_le_self _ _
  have hb := Cr.crc_lt bs
  have hsum : Cr.sum bs = 4294967295 - Cr.crc bs := rfl
  rw [show ((2 : Int) ^ (31 - j)) = ((2 ^ (31 - j) : Nat) : Int) by simp]
  rw [← hsum] at hs
  generalize (2 : Nat) ^ (31 - j) = q at *
  have hp' : q ≤ 2147483648 := hp
  rw [IntWalk.wrap64_in (q : Int) (by omega), IntWalk.wrap64_in _ (by omega), hs]; simp
theorem part_no (bs : List UInt8) (j : Nat) (hj : j < 32) (h : (bits .and .u64 ((Cr.rcrc bs : Int) / 2 ^ j) 1 == 0) = false) :
    Cr.part (Cr.sum bs) j = Cr.part (Cr.sum bs) (j + 1) := by
  rw [at_bit _ _ (Cr.rcrc_lt bs)] at h
  have hz : ¬ Cr.rcrc bs / 2 ^ j % 2 = 0 := by have := beq_eq_false_iff_ne.1 h; omega
  have hs := Cr.part_succ (Cr.crc_lt bs) hj (Cr.rev_crc bs)
  rw [if_neg hz] at hs
  exact hs.symm

end Go.Proofs.YtcpjohpbakbggaaDoor

/- The document's Encode. -/
namespace Go.Proofs.YtcpjohpbakbggaaDoor
open Go.RowKit Go.Maps
set_option maxRecDepth 100000
set_option linter.unusedSimpArgs false
set_option linter.unusedVariables false

theorem RowAt.low {w : World} {e b b' : Nat} {v : Value} {bs : List UInt8} (h : RowAt w e b v bs) (hb : b' ≤ b) : RowAt w e b' v bs := by
  rcases h with h | ⟨g, cap, cur, h1, h2, r⟩
  · exact .inl h
  · exact .inr ⟨g, cap, cur, h1, by omega, r⟩
theorem SliceAt.still {w w' : World} {v : Value} {xs : List Value} (h : SliceAt w v xs) (ht : Turn [] w w') : SliceAt w' v xs := h.kept ht (by simp)
theorem refFour_any (w : World) (n : Nat) (hn : n < 4294967296) :
    Calls Tryd.prog 49 #[.int .i64 n] w fun e w' => ∃ v', e = .returned v' ∧ (∃ p, v' = .slice (some p) 4 4) ∧ SliceAt w' v' ((Bt.four n).map encB) ∧ Turn [] w w' := by
  have e0 : (n : Int) / 16777216 = ((n / 16777216 % 256 : Nat) : Int) := by omega
  have e1 : (n : Int) / 65536 % 256 = ((n / 65536 % 256 : Nat) : Int) := by omega
  have e2 : (n : Int) / 256 % 256 = ((n / 256 % 256 : Nat) : Int) := by omega
  have e3 : (n : Int) % 256 = ((n % 256 : Nat) : Int) := by omega
  have E0 := hide e0
  have E1 := hide e1
  have E2 := hide e2
  have E3 := hide e3
  clear e0 e1 e2 e3
  go_enter Tryd.func49, Tryd.ntmps49
  go_wp2
  go_ret
  refine ⟨_, rfl, ⟨_, rfl⟩, ?_, (Turn.refl _ _).alloc _⟩
  refine fresh_row _ (Bt.four n) w.heap.size _ (heap_new w _) ?_ 4
  rw [four_enc, E0.out, E1.out, E2.out, E3.out]

end Go.Proofs.YtcpjohpbakbggaaDoor

/- The document's maker: numbers, truths, texts. -/
namespace Go.Proofs.YtcpjohpbakbggaaDoor.Wi
open Go.RowKit Go.Maps
set_option maxRecDepth 100000
set_option linter.unusedSimpArgs false
set_option linter.unusedVariables false

abbrev mT : TypeId := 79
def eI (n : Int) : Value := .int .i64 n
theorem BytesAt.keptO {w w' : World} {v : Value} {bs : List UInt8} {S : List Nat} {B : Nat} (h : BytesAt w v bs) (ht : Turn S w w') (hb : ∀ k ∈ v.ownBlock, B ≤ k) (hS : ∀ k ∈ S, k < B) : BytesAt w' v bs :=
  h.kept ht (fun k hk _ hm => by have := hb k hk; have := hS k hm; omega)

set_option maxHeartbeats 4000000 in
theorem mnum_any (w : World) (wb base : Nat) (sv : Value) (s : WS) (h : MkAt mT eI w wb base sv s) (hbase : base ≤ w.heap.size) (k : Nat) (l : List Int) (hk : w.heap[k]? = some (.cells (intsZ l) 3 (0, 0))) (hl : l.length ≤ 9) (hsl : s.1.length ≤ 900000000000) :
    Calls Tryd.prog 29 #[.pointer (some ⟨wb, 0, none⟩), .slice (some ⟨k, 0, none⟩) l.length l.length] w fun e w' => e = .returned (.tuple #[]) ∧ ∃ sv', MkTo mT eI w w' wb base sv sv' (nums s l) := by
  obtain ⟨i0, hi, hz, hz1, hz2⟩ := infoB_parts
  have hkn := h.ne hk (by decide) (by decide)
  have HMK := hide h
  have HK := hide hk
  have HKN := hide hkn
  have HK2 : Hid (∀ wi si bi, MkTo mT eI w wi wb base sv si bi → wi.heap[k]? = some (.cells (intsZ l) 3 (0, 0))) := fun wi si bi hh => hh.box HK.out HKN.out.1 HKN.out.2
  clear h hk hkn
  go_enter Tryd.func29, Tryd.ntmps29
  go_wp2
  go_loopw [8] (fun iv wr => ∃ (j : Nat) (sr : Value), j ≤ l.length ∧ iv = .int .i64 (j : Int) ∧ MkTo mT eI w wr wb base sv sr (nums s (l.take j))) (fun iv _ => l.length - (intOf iv).toNat)
  case atStart => exact ⟨0, _, Nat.zero_le _, rfl, HMK.out.self⟩
  case round =>
    obtain ⟨j, sr, hj, rfl, hr⟩ := hrel
    have HR := hide hr
    have hbk := HK2.out _ _ _ hr
    have hws := hr.2.1.size
    clear hr
    by_cases hlt : j < l.length
    · have hlt1 : (j : Int) < l.length := by omega
      obtain ⟨n, hn⟩ : ∃ n, n = l[j] := ⟨_, rfl⟩
      have hcell : wr.cell? ⟨k, j, none⟩ = some (.int .i64 n) := by
        rw [cell_of hbk, hn]; simp [intsZ, hlt]
      have hcell2 : wr.cell? ⟨k, 0 + j, none⟩ = some (.int .i64 n) := by rw [Nat.zero_add]; exact hcell
      have hsn := nums_snoc s hlt
      rw [← hn] at hsn
      have hnl := nums_len s (l.take j)
      have htl : (l.take j).length ≤ 9 := by rw [List.length_take]; omega
      obtain ⟨t, ht⟩ : ∃ t, t = nums s (l.take j) := ⟨_, rfl⟩
      rw [← ht] at hsn hnl HR
      have HSN := hide hsn
      obtain ⟨⟨c0, c1⟩, f0, f1⟩ := HR.out.1.cells
      have htl2 : t.1.length ≤ 900000000054 := by omega
      have HTL := hide htl2
      clear hn hbk hsn hnl htl ht htl2
      have go : ∀ (wv : World) (tv : WS) (q : Nat), q ≤ 1099511627776 → tv.1 = t.1 → MkTo mT eI wr wv wb base sr sr tv → True := fun _ _ _ _ _ _ => trivial
      clear go
      by_cases hok : okN n
      · have hpn := ok_pN (s := t) hok
        obtain ⟨hok1, hok2⟩ := hok
        obtain ⟨q, rfl⟩ : ∃ q : Nat, n = (q : Int) := ⟨n.toNat, by omega⟩
        rw [Int.toNat_natCast] at hpn
        have HPN := hide hpn
        have hq0 : ¬ (q : Int) < 0 := by omega
        have hq1 : ¬ (q : Int) > 1099511627776 := by omega
        have hq2 : q ≤ 1099511627776 := by omega
        have hlq := Nu.put_len6 hq2
        clear hpn hok1 hok2
        obtain ⟨wv, rfl⟩ : ∃ wv, wv = wr := ⟨_, rfl⟩
        have HM := hide HR.out.1
        have HBV : Hid (base ≤ wv.heap.size) := by show _ ≤ _; omega
        go_wp2
        refine wp_region_loud 10 (Turn sr.ownBlock.toList) (Turn []) (fun k w => match k with | 0 => (fun w => RowAt w 5 base sr t.1) w | _ => (fun w => 0 ≤ w.heap.size) w) [7] (by kernel_rfl) (by kernel_rfl) (by kernel_rfl) (by kernel_rfl) (by kernel_rfl) (by kernel_rfl) (Nat.le_of_ble_eq_true rfl) (by decide) rfl (Turn.refl _) (fun _ _ _ h k => h.same k) (fun _ _ h => h.mono (by simp)) ?_ ?_ ?_
        · intro k a b hk hR
          match k, hk with
          | 0, hk =>
            have hk := (show (fun w => RowAt w 5 base sr t.1) a from hk)
            dsimp only at hk
            show (fun w => RowAt w 5 base sr t.1) b
            dsimp only
            first | exact Nat.zero_le _ | exact hk.kept hR (by simp)
          | _ + 1, hk =>
            have hk := (show (fun w => 0 ≤ w.heap.size) a from hk)
            dsimp only at hk
            show (fun w => 0 ≤ w.heap.size) b
            dsimp only
            first | exact Nat.zero_le _ | exact hk.kept hR (by simp)
        · show (fun w => RowAt w 5 base sr t.1) _
          dsimp only
          exact HM.out.2.1.kept ((Turn.refl [] _).drew) (by simp)
        apply Lo.runx 1 rfl rfl [] (by kernel_rfl) (Turn.refl _)
        apply Exists.intro; apply And.intro
        · intro u w1 hR hF
          clear hF
          refine ⟨rfl, fun a ha K hK => ?_⟩
          have e0 := ha 0
          conv at e0 => rhs; whnf
          clear ha
          go_simp
          refine hK _ ?_; rfl
        apply Lo.runx 2 rfl rfl [] (by kernel_rfl) (Turn.refl _)
        apply Exists.intro; apply And.intro
        · intro u w1 hR hF
          clear hF
          refine ⟨rfl, fun a ha K hK => ?_⟩
          have e0 := ha 0
          conv at e0 => rhs; whnf
          clear ha
          go_simp
          refine hK _ ?_; rfl
        apply Lo.runx 3 rfl rfl [1] (by kernel_rfl) (Turn.refl _)
        apply Exists.intro; apply And.intro
        · intro u w1 hR hF
          obtain ⟨h1, -⟩ := hF
          refine ⟨rfl, fun a ha K hK => ?_⟩
          have e22 := (ha 22).trans h1
          clear ha h1
          go_simp
          refine hK _ ?_; rfl
        apply Lo.runx 4 rfl rfl [2] (by kernel_rfl) (Turn.refl _)
        apply Exists.intro; apply And.intro
        · intro u w1 hR hF
          obtain ⟨h2, -⟩ := hF
          refine ⟨rfl, fun a ha K hK => ?_⟩
          have e23 := (ha 23).trans h2
          clear ha h2
          go_simp
          refine hK _ ?_; rfl
        apply Lo.runx 5 rfl rfl [3] (by kernel_rfl) (Turn.refl _)
        apply Exists.intro; apply And.intro
        · intro u w1 hR hF
          obtain ⟨h3, -⟩ := hF
          refine ⟨rfl, fun a ha K hK => ?_⟩
          have e24 := (ha 24).trans h3
          clear ha h3
          have hb1 := hR.heap (((Turn.refl [] _).drew).heap HM.out.1 (by simp)) (fun hm => HM.out.2.2 wb (by simpa using hm) rfl)
          have c0 : w1.cell? ⟨wb, 0, none⟩ = some sr := by simpa using cell_of hb1 0
          go_simp
          refine hK _ ?_; rfl
        apply Lo.runx 6 rfl rfl [] (by kernel_rfl) (Turn.refl _)
        apply Exists.intro; apply And.intro
        · intro u w1 hR hF
          clear hF
          refine ⟨rfl, fun a ha K hK => ?_⟩
          have e5 := ha 5
          conv at e5 => rhs; whnf
          clear ha
          go_simp
          refine hK _ ?_; rfl
        refine Lo.run 7 rfl rfl [5] (fun y w' => BytesAt w' y (Nu.put q) ∧ ∀ k ∈ y.ownBlock, wv.heap.size ≤ k) (by kernel_rfl) (fun x w w' h hR => ?_) (fun _ _ h => h.mono (by simp)) (fun u w1 hR hF => ?_) ?_
        · exact ⟨BytesAt.keptO h.1 hR h.2 (fun k hk => (HM.out.lt.2 k (by simpa using hk)).2), h.2⟩
        · obtain ⟨h5, -⟩ := hF
          refine ⟨rfl, fun a ha K hK => ?_⟩
          have e26 := (ha 26).trans h5
          clear ha h5
          go_simp
          refine (refPut_any (q + 1) q (by omega) (by omega) _).mono ?_
          rintro e w2 ⟨v2, rfl, hr2, ht2⟩
          have hs1 := hR.size
          exact hK _ _ ⟨hr2.bytes, fun k hk => by have := (hr2.lt k hk).1; have : wv.heap.size ≤ w1.heap.size := by simpa using hs1
                                                  omega⟩ ht2
        refine Lo.noisy 8 rfl 0 rfl [4, 6] (fun y w' => RowAt w' 5 base y (t.1 ++ Nu.put q) ∧ ∀ k ∈ y.ownBlock, k ∈ sr.ownBlock ∨ wv.heap.size ≤ k) (by kernel_rfl) (fun x w w' h hR => ?_) (.inl (by kernel_rfl)) (fun u w1 hR hS hF => ?_) ?_
        · exact ⟨h.1.kept hR (by simp), h.2⟩
        · obtain ⟨h4, h6, -⟩ := hF
          have hS := (show (fun w => RowAt w 5 base sr t.1) w1 from hS)
          dsimp only at hS
          refine ⟨rfl, fun a ha K hK => ?_⟩
          have e25 := (ha 25).trans h4
          have e27 : a.tmps.getD 27 undef = u 6 := ha 27
          have h6 := (show (fun y w' => BytesAt w' y (Nu.put q) ∧ ∀ k ∈ y.ownBlock, wv.heap.size ≤ k) (u 6) w1 from h6)
          dsimp only at h6
          clear ha h4
          have hs1 := hR.size
          have hs2 : wv.heap.size ≤ w1.heap.size := by simpa using hs1
          obtain ⟨v7, w7, hr7, hrow7, ht7, hown7⟩ := run_append_row (P := Tryd.prog) w1 22 22 5 base i0 Tryd.underlying22 hi hz hz1 hz2 sr (u 6) t.1 (Nu.put q) hS h6.1.slice (by have := HTL.out; omega) (by have := HBV.out; omega)
          exact oper_append rfl e25 e27 hr7 (hK _ _ ⟨hrow7, fun k hk => (hown7 k hk).imp id (fun h => by omega)⟩ ht7 (Nat.zero_le _))
        apply Lo.runx 9 rfl rfl [0] (by kernel_rfl) (Turn.refl _)
        apply Exists.intro; apply And.intro
        · intro u w1 hR hF
          obtain ⟨h0, -⟩ := hF
          refine ⟨rfl, fun a ha K hK => ?_⟩
          have e21 := (ha 21).trans h0
          clear ha h0
          go_simp
          refine hK _ ?_; rfl
        apply Lo.runx 10 rfl rfl [8] (by kernel_rfl) (Turn.refl _)
        apply Exists.intro; apply And.intro
        · intro u w1 hR hF
          obtain ⟨h8, -⟩ := hF
          refine ⟨rfl, fun a ha K hK => ?_⟩
          have e29 := (ha 29).trans h8
          clear ha h8
          go_simp
          refine hK _ ?_; rfl
        refine Lo.done [7, 9] (fun u w1 hRd hSd hF => ?_)
        have hSd := (show (fun w => 0 ≤ w.heap.size) w1 from hSd)
        dsimp only at hSd
        obtain ⟨f7, f9, -⟩ := hF
        have d7 := (show (fun y w' => RowAt w' 5 base y (t.1 ++ Nu.put q) ∧ ∀ k ∈ y.ownBlock, k ∈ sr.ownBlock ∨ wv.heap.size ≤ k) (u 7) w1 from f7)
        dsimp only at d7
        have d9 : u 9 = _ := f9
        clear f7 f9
        simp only [List.take_succ_cons, List.take_zero, List.drop_succ_cons, List.drop_zero, putFrom, Act.put, List.setIfInBounds_toArray, List.set_cons_succ, List.set_cons_zero, Nat.zero_add, Nat.reduceAdd, d9]
        have ht1 : Turn sr.ownBlock.toList wv w1 := (((Turn.refl [] wv).drew).mono (by simp)).same hRd
        have hg : Grew wv w1 base sr (u 7) (t.1 ++ Nu.put q) := ⟨d7.1, ht1, d7.2⟩
        obtain ⟨a3, n3, cp3, hv3⟩ := d7.1.some_slice
        rw [hv3] at hg ⊢
        have hput := HM.out.put hg
        have HPUT := hide hput
        have hb1 := ht1.heap HM.out.1 (fun hm => HM.out.2.2 wb (by simpa using hm) rfl)
        have c0' : w1.cell? ⟨wb, 0, none⟩ = some sr := by simpa using cell_of hb1 0
        have f0' : w1.frozen? ⟨wb, 0, none⟩ = false := frozen_of hb1 0
        clear hg hput hb1 ht1 hRd hSd d7 c0 f0 c1 f1 hcell hcell2 hv3
        go_wp2
        refine ⟨⟨j + 1, _, by omega, by go_num, by rw [HSN.out, HPN.out]; exact HR.out.trans HPUT.out⟩, ?_⟩
        simp only [intOf]; omega
      · have hpn : pN t n = (t.1 ++ Nu.put 0, 2) := by unfold pN; rw [if_neg hok]
        have HPN := hide hpn
        have HOK : Hid (¬ okN n) := hok
        clear hpn hok
        obtain ⟨q, hq⟩ : ∃ q : Nat, q = 0 := ⟨0, rfl⟩
        have hlq := Nu.put_len6 (show 0 ≤ 1099511627776 by omega)
        have hbad := HR.out.1.bad 2
        obtain ⟨wv, hwv⟩ : ∃ wv, wv = wr.setCell ⟨wb, 1, none⟩ (.int .i64 2) := ⟨_, rfl⟩
        have hbad' : MkTo mT eI wr wv wb base sr sr (t.1, 2) := by rw [hwv]; exact hbad
        have HBAD := hide hbad'
        have HWV := hide hwv
        clear hbad hbad' hwv hq
        by_cases hn0 : n < 0
        · go_upto_region 5 with fail
          rw [show wr.setCell ⟨wb, 1, none⟩ (.int .i64 2) = wv from HWV.out.symm]
          have HM := hide HBAD.out.1
          have HBV : Hid (base ≤ wv.heap.size) := by show _ ≤ _; have := HBAD.out.2.1.size; omega
          refine wp_region_loud 10 (Turn sr.ownBlock.toList) (Turn []) (fun k w => match k with | 0 => (fun w => RowAt w 5 base sr t.1) w | _ => (fun w => 0 ≤ w.heap.size) w) [7] (by kernel_rfl) (by kernel_rfl) (by kernel_rfl) (by kernel_rfl) (by kernel_rfl) (by kernel_rfl) (Nat.le_of_ble_eq_true rfl) (by decide) rfl (Turn.refl _) (fun _ _ _ h k => h.same k) (fun _ _ h => h.mono (by simp)) ?_ ?_ ?_
          · intro k a b hk hR
            match k, hk with
            | 0, hk =>
              have hk := (show (fun w => RowAt w 5 base sr t.1) a from hk)
              dsimp only at hk
              show (fun w => RowAt w 5 base sr t.1) b
              dsimp only
              first | exact Nat.zero_le _ | exact hk.kept hR (by simp)
            | _ + 1, hk =>
              have hk := (show (fun w => 0 ≤ w.heap.size) a from hk)
              dsimp only at hk
              show (fun w => 0 ≤ w.heap.size) b
              dsimp only
              first | exact Nat.zero_le _ | exact hk.kept hR (by simp)
          · show (fun w => RowAt w 5 base sr t.1) _
            dsimp only
            exact HM.out.2.1.kept ((Turn.refl [] _).drew) (by simp)
          apply Lo.runx 1 rfl rfl [] (by kernel_rfl) (Turn.refl _)
          apply Exists.intro; apply And.intro
          · intro u w1 hR hF
            clear hF
            refine ⟨rfl, fun a ha K hK => ?_⟩
            have e0 := ha 0
            conv at e0 => rhs; whnf
            clear ha
            go_simp
            refine hK _ ?_; rfl
          apply Lo.runx 2 rfl rfl [] (by kernel_rfl) (Turn.refl _)
          apply Exists.intro; apply And.intro
          · intro u w1 hR hF
            clear hF
            refine ⟨rfl, fun a ha K hK => ?_⟩
            have e0 := ha 0
            conv at e0 => rhs; whnf
            clear ha
            go_simp
            refine hK _ ?_; rfl
          apply Lo.runx 3 rfl rfl [1] (by kernel_rfl) (Turn.refl _)
          apply Exists.intro; apply And.intro
          · intro u w1 hR hF
            obtain ⟨h1, -⟩ := hF
            refine ⟨rfl, fun a ha K hK => ?_⟩
            have e22 := (ha 22).trans h1
            clear ha h1
            go_simp
            refine hK _ ?_; rfl
          apply Lo.runx 4 rfl rfl [2] (by kernel_rfl) (Turn.refl _)
          apply Exists.intro; apply And.intro
          · intro u w1 hR hF
            obtain ⟨h2, -⟩ := hF
            refine ⟨rfl, fun a ha K hK => ?_⟩
            have e23 := (ha 23).trans h2
            clear ha h2
            go_simp
            refine hK _ ?_; rfl
          apply Lo.runx 5 rfl rfl [3] (by kernel_rfl) (Turn.refl _)
          apply Exists.intro; apply And.intro
          · intro u w1 hR hF
            obtain ⟨h3, -⟩ := hF
            refine ⟨rfl, fun a ha K hK => ?_⟩
            have e24 := (ha 24).trans h3
            clear ha h3
            have hb1 := hR.heap (((Turn.refl [] _).drew).heap HM.out.1 (by simp)) (fun hm => HM.out.2.2 wb (by simpa using hm) rfl)
            have c0 : w1.cell? ⟨wb, 0, none⟩ = some sr := by simpa using cell_of hb1 0
            go_simp
            refine hK _ ?_; rfl
          apply Lo.runx 6 rfl rfl [] (by kernel_rfl) (Turn.refl _)
          apply Exists.intro; apply And.intro
          · intro u w1 hR hF
            clear hF
            refine ⟨rfl, fun a ha K hK => ?_⟩
            have e5 := ha 5
            conv at e5 => rhs; whnf
            clear ha
            go_simp
            refine hK _ ?_; rfl
          refine Lo.run 7 rfl rfl [5] (fun y w' => BytesAt w' y (Nu.put 0) ∧ ∀ k ∈ y.ownBlock, wv.heap.size ≤ k) (by kernel_rfl) (fun x w w' h hR => ?_) (fun _ _ h => h.mono (by simp)) (fun u w1 hR hF => ?_) ?_
          · exact ⟨BytesAt.keptO h.1 hR h.2 (fun k hk => (HM.out.lt.2 k (by simpa using hk)).2), h.2⟩
          · obtain ⟨h5, -⟩ := hF
            refine ⟨rfl, fun a ha K hK => ?_⟩
            have e26 := (ha 26).trans h5
            clear ha h5
            go_simp
            refine (refPut_any (0 + 1) 0 (by omega) (by omega) _).mono ?_
            rintro e w2 ⟨v2, rfl, hr2, ht2⟩
            have hs1 := hR.size
            exact hK _ _ ⟨hr2.bytes, fun k hk => by have := (hr2.lt k hk).1; have : wv.heap.size ≤ w1.heap.size := by simpa using hs1
                                                    omega⟩ ht2
          refine Lo.noisy 8 rfl 0 rfl [4, 6] (fun y w' => RowAt w' 5 base y (t.1 ++ Nu.put 0) ∧ ∀ k ∈ y.ownBlock, k ∈ sr.ownBlock ∨ wv.heap.size ≤ k) (by kernel_rfl) (fun x w w' h hR => ?_) (.inl (by kernel_rfl)) (fun u w1 hR hS hF => ?_) ?_
          · exact ⟨h.1.kept hR (by simp), h.2⟩
          · obtain ⟨h4, h6, -⟩ := hF
            have hS := (show (fun w => RowAt w 5 base sr t.1) w1 from hS)
            dsimp only at hS
            refine ⟨rfl, fun a ha K hK => ?_⟩
            have e25 := (ha 25).trans h4
            have e27 : a.tmps.getD 27 undef = u 6 := ha 27
            have h6 := (show (fun y w' => BytesAt w' y (Nu.put 0) ∧ ∀ k ∈ y.ownBlock, wv.heap.size ≤ k) (u 6) w1 from h6)
            dsimp only at h6
            clear ha h4
            have hs1 := hR.size
            have hs2 : wv.heap.size ≤ w1.heap.size := by simpa using hs1
            obtain ⟨v7, w7, hr7, hrow7, ht7, hown7⟩ := run_append_row (P := Tryd.prog) w1 22 22 5 base i0 Tryd.underlying22 hi hz hz1 hz2 sr (u 6) t.1 (Nu.put 0) hS h6.1.slice (by have := HTL.out; omega) (by have := HBV.out; omega)
            exact oper_append rfl e25 e27 hr7 (hK _ _ ⟨hrow7, fun k hk => (hown7 k hk).imp id (fun h => by omega)⟩ ht7 (Nat.zero_le _))
          apply Lo.runx 9 rfl rfl [0] (by kernel_rfl) (Turn.refl _)
          apply Exists.intro; apply And.intro
          · intro u w1 hR hF
            obtain ⟨h0, -⟩ := hF
            refine ⟨rfl, fun a ha K hK => ?_⟩
            have e21 := (ha 21).trans h0
            clear ha h0
            go_simp
            refine hK _ ?_; rfl
          apply Lo.runx 10 rfl rfl [8] (by kernel_rfl) (Turn.refl _)
          apply Exists.intro; apply And.intro
          · intro u w1 hR hF
            obtain ⟨h8, -⟩ := hF
            refine ⟨rfl, fun a ha K hK => ?_⟩
            have e29 := (ha 29).trans h8
            clear ha h8
            go_simp
            refine hK _ ?_; rfl
          refine Lo.done [7, 9] (fun u w1 hRd hSd hF => ?_)
          have hSd := (show (fun w => 0 ≤ w.heap.size) w1 from hSd)
          dsimp only at hSd
          obtain ⟨f7, f9, -⟩ := hF
          have d7 := (show (fun y w' => RowAt w' 5 base y (t.1 ++ Nu.put 0) ∧ ∀ k ∈ y.ownBlock, k ∈ sr.ownBlock ∨ wv.heap.size ≤ k) (u 7) w1 from f7)
          dsimp only at d7
          have d9 : u 9 = _ := f9
          clear f7 f9
          simp only [List.take_succ_cons, List.take_zero, List.drop_succ_cons, List.drop_zero, putFrom, Act.put, List.setIfInBounds_toArray, List.set_cons_succ, List.set_cons_zero, Nat.zero_add, Nat.reduceAdd, d9]
          have ht1 : Turn sr.ownBlock.toList wv w1 := (((Turn.refl [] wv).drew).mono (by simp)).same hRd
          have hg : Grew wv w1 base sr (u 7) (t.1 ++ Nu.put 0) := ⟨d7.1, ht1, d7.2⟩
          obtain ⟨a3, n3, cp3, hv3⟩ := d7.1.some_slice
          rw [hv3] at hg ⊢
          have hput := HM.out.put hg
          have HPUT := hide hput
          have hb1 := ht1.heap HM.out.1 (fun hm => HM.out.2.2 wb (by simpa using hm) rfl)
          have c0' : w1.cell? ⟨wb, 0, none⟩ = some sr := by simpa using cell_of hb1 0
          have f0' : w1.frozen? ⟨wb, 0, none⟩ = false := frozen_of hb1 0
          clear hg hput hb1 ht1 hRd hSd d7 c0 f0 c1 f1 hcell hcell2 hv3
          go_wp2
          refine ⟨⟨j + 1, _, by omega, by go_num, by rw [HSN.out, HPN.out]; exact HR.out.trans (HBAD.out.trans HPUT.out)⟩, ?_⟩
          simp only [intOf]; omega
        · have hn1 : n > 1099511627776 := by
            have := HOK.out
            unfold okN at this
            omega
          go_upto_region 5 with fail
          rw [show wr.setCell ⟨wb, 1, none⟩ (.int .i64 2) = wv from HWV.out.symm]
          have HM := hide HBAD.out.1
          have HBV : Hid (base ≤ wv.heap.size) := by show _ ≤ _; have := HBAD.out.2.1.size; omega
          refine wp_region_loud 10 (Turn sr.ownBlock.toList) (Turn []) (fun k w => match k with | 0 => (fun w => RowAt w 5 base sr t.1) w | _ => (fun w => 0 ≤ w.heap.size) w) [7] (by kernel_rfl) (by kernel_rfl) (by kernel_rfl) (by kernel_rfl) (by kernel_rfl) (by kernel_rfl) (Nat.le_of_ble_eq_true rfl) (by decide) rfl (Turn.refl _) (fun _ _ _ h k => h.same k) (fun _ _ h => h.mono (by simp)) ?_ ?_ ?_
          · intro k a b hk hR
            match k, hk with
            | 0, hk =>
              have hk := (show (fun w => RowAt w 5 base sr t.1) a from hk)
              dsimp only at hk
              show (fun w => RowAt w 5 base sr t.1) b
              dsimp only
              first | exact Nat.zero_le _ | exact hk.kept hR (by simp)
            | _ + 1, hk =>
              have hk := (show (fun w => 0 ≤ w.heap.size) a from hk)
              dsimp only at hk
              show (fun w => 0 ≤ w.heap.size) b
              dsimp only
              first | exact Nat.zero_le _ | exact hk.kept hR (by simp)
          · show (fun w => RowAt w 5 base sr t.1) _
            dsimp only
            exact HM.out.2.1.kept ((Turn.refl [] _).drew) (by simp)
          apply Lo.runx 1 rfl rfl [] (by kernel_rfl) (Turn.refl _)
          apply Exists.intro; apply And.intro
          · intro u w1 hR hF
            clear hF
            refine ⟨rfl, fun a ha K hK => ?_⟩
            have e0 := ha 0
            conv at e0 => rhs; whnf
            clear ha
            go_simp
            refine hK _ ?_; rfl
          apply Lo.runx 2 rfl rfl [] (by kernel_rfl) (Turn.refl _)
          apply Exists.intro; apply And.intro
          · intro u w1 hR hF
            clear hF
            refine ⟨rfl, fun a ha K hK => ?_⟩
            have e0 := ha 0
            conv at e0 => rhs; whnf
            clear ha
            go_simp
            refine hK _ ?_; rfl
          apply Lo.runx 3 rfl rfl [1] (by kernel_rfl) (Turn.refl _)
          apply Exists.intro; apply And.intro
          · intro u w1 hR hF
            obtain ⟨h1, -⟩ := hF
            refine ⟨rfl, fun a ha K hK => ?_⟩
            have e22 := (ha 22).trans h1
            clear ha h1
            go_simp
            refine hK _ ?_; rfl
          apply Lo.runx 4 rfl rfl [2] (by kernel_rfl) (Turn.refl _)
          apply Exists.intro; apply And.intro
          · intro u w1 hR hF
            obtain ⟨h2, -⟩ := hF
            refine ⟨rfl, fun a ha K hK => ?_⟩
            have e23 := (ha 23).trans h2
            clear ha h2
            go_simp
            refine hK _ ?_; rfl
          apply Lo.runx 5 rfl rfl [3] (by kernel_rfl) (Turn.refl _)
          apply Exists.intro; apply And.intro
          · intro u w1 hR hF
            obtain ⟨h3, -⟩ := hF
            refine ⟨rfl, fun a ha K hK => ?_⟩
            have e24 := (ha 24).trans h3
            clear ha h3
            have hb1 := hR.heap (((Turn.refl [] _).drew).heap HM.out.1 (by simp)) (fun hm => HM.out.2.2 wb (by simpa using hm) rfl)
            have c0 : w1.cell? ⟨wb, 0, none⟩ = some sr := by simpa using cell_of hb1 0
            go_simp
            refine hK _ ?_; rfl
          apply Lo.runx 6 rfl rfl [] (by kernel_rfl) (Turn.refl _)
          apply Exists.intro; apply And.intro
          · intro u w1 hR hF
            clear hF
            refine ⟨rfl, fun a ha K hK => ?_⟩
            have e5 := ha 5
            conv at e5 => rhs; whnf
            clear ha
            go_simp
            refine hK _ ?_; rfl
          refine Lo.run 7 rfl rfl [5] (fun y w' => BytesAt w' y (Nu.put 0) ∧ ∀ k ∈ y.ownBlock, wv.heap.size ≤ k) (by kernel_rfl) (fun x w w' h hR => ?_) (fun _ _ h => h.mono (by simp)) (fun u w1 hR hF => ?_) ?_
          · exact ⟨BytesAt.keptO h.1 hR h.2 (fun k hk => (HM.out.lt.2 k (by simpa using hk)).2), h.2⟩
          · obtain ⟨h5, -⟩ := hF
            refine ⟨rfl, fun a ha K hK => ?_⟩
            have e26 := (ha 26).trans h5
            clear ha h5
            go_simp
            refine (refPut_any (0 + 1) 0 (by omega) (by omega) _).mono ?_
            rintro e w2 ⟨v2, rfl, hr2, ht2⟩
            have hs1 := hR.size
            exact hK _ _ ⟨hr2.bytes, fun k hk => by have := (hr2.lt k hk).1; have : wv.heap.size ≤ w1.heap.size := by simpa using hs1
                                                    omega⟩ ht2
          refine Lo.noisy 8 rfl 0 rfl [4, 6] (fun y w' => RowAt w' 5 base y (t.1 ++ Nu.put 0) ∧ ∀ k ∈ y.ownBlock, k ∈ sr.ownBlock ∨ wv.heap.size ≤ k) (by kernel_rfl) (fun x w w' h hR => ?_) (.inl (by kernel_rfl)) (fun u w1 hR hS hF => ?_) ?_
          · exact ⟨h.1.kept hR (by simp), h.2⟩
          · obtain ⟨h4, h6, -⟩ := hF
            have hS := (show (fun w => RowAt w 5 base sr t.1) w1 from hS)
            dsimp only at hS
            refine ⟨rfl, fun a ha K hK => ?_⟩
            have e25 := (ha 25).trans h4
            have e27 : a.tmps.getD 27 undef = u 6 := ha 27
            have h6 := (show (fun y w' => BytesAt w' y (Nu.put 0) ∧ ∀ k ∈ y.ownBlock, wv.heap.size ≤ k) (u 6) w1 from h6)
            dsimp only at h6
            clear ha h4
            have hs1 := hR.size
            have hs2 : wv.heap.size ≤ w1.heap.size := by simpa using hs1
            obtain ⟨v7, w7, hr7, hrow7, ht7, hown7⟩ := run_append_row (P := Tryd.prog) w1 22 22 5 base i0 Tryd.underlying22 hi hz hz1 hz2 sr (u 6) t.1 (Nu.put 0) hS h6.1.slice (by have := HTL.out; omega) (by have := HBV.out; omega)
            exact oper_append rfl e25 e27 hr7 (hK _ _ ⟨hrow7, fun k hk => (hown7 k hk).imp id (fun h => by omega)⟩ ht7 (Nat.zero_le _))
          apply Lo.runx 9 rfl rfl [0] (by kernel_rfl) (Turn.refl _)
          apply Exists.intro; apply And.intro
          · intro u w1 hR hF
            obtain ⟨h0, -⟩ := hF
            refine ⟨rfl, fun a ha K hK => ?_⟩
            have e21 := (ha 21).trans h0
            clear ha h0
            go_simp
            refine hK _ ?_; rfl
          apply Lo.runx 10 rfl rfl [8] (by kernel_rfl) (Turn.refl _)
          apply Exists.intro; apply And.intro
          · intro u w1 hR hF
            obtain ⟨h8, -⟩ := hF
            refine ⟨rfl, fun a ha K hK => ?_⟩
            have e29 := (ha 29).trans h8
            clear ha h8
            go_simp
            refine hK _ ?_; rfl
          refine Lo.done [7, 9] (fun u w1 hRd hSd hF => ?_)
          have hSd := (show (fun w => 0 ≤ w.heap.size) w1 from hSd)
          dsimp only at hSd
          obtain ⟨f7, f9, -⟩ := hF
          have d7 := (show (fun y w' => RowAt w' 5 base y (t.1 ++ Nu.put 0) ∧ ∀ k ∈ y.ownBlock, k ∈ sr.ownBlock ∨ wv.heap.size ≤ k) (u 7) w1 from f7)
          dsimp only at d7
          have d9 : u 9 = _ := f9
          clear f7 f9
          simp only [List.take_succ_cons, List.take_zero, List.drop_succ_cons, List.drop_zero, putFrom, Act.put, List.setIfInBounds_toArray, List.set_cons_succ, List.set_cons_zero, Nat.zero_add, Nat.reduceAdd, d9]
          have ht1 : Turn sr.ownBlock.toList wv w1 := (((Turn.refl [] wv).drew).mono (by simp)).same hRd
          have hg : Grew wv w1 base sr (u 7) (t.1 ++ Nu.put 0) := ⟨d7.1, ht1, d7.2⟩
          obtain ⟨a3, n3, cp3, hv3⟩ := d7.1.some_slice
          rw [hv3] at hg ⊢
          have hput := HM.out.put hg
          have HPUT := hide hput
          have hb1 := ht1.heap HM.out.1 (fun hm => HM.out.2.2 wb (by simpa using hm) rfl)
          have c0' : w1.cell? ⟨wb, 0, none⟩ = some sr := by simpa using cell_of hb1 0
          have f0' : w1.frozen? ⟨wb, 0, none⟩ = false := frozen_of hb1 0
          clear hg hput hb1 ht1 hRd hSd d7 c0 f0 c1 f1 hcell hcell2 hv3
          go_wp2
          refine ⟨⟨j + 1, _, by omega, by go_num, by rw [HSN.out, HPN.out]; exact HR.out.trans (HBAD.out.trans HPUT.out)⟩, ?_⟩
          simp only [intOf]; omega
    · obtain rfl : j = l.length := by omega
      have hlast : l.take l.length = l := List.take_of_length_le (Nat.le_refl _)
      have HL := hide hlast
      clear hlast
      go_wp2
      go_end0
      refine ⟨rfl, sr, ?_⟩
      have := HR.out
      rwa [HL.out] at this
end Go.Proofs.YtcpjohpbakbggaaDoor.Wi

/- The document's maker: truths, texts, frames. -/
namespace Go.Proofs.YtcpjohpbakbggaaDoor.Wi
open Go.RowKit Go.Maps
set_option maxRecDepth 100000
set_option linter.unusedSimpArgs false
set_option linter.unusedVariables false

theorem mnum_new (w : World) (wb base : Nat) (sv : Value) (s : WS) (h : MkAt mT eI w wb base sv s) (hbase : base ≤ w.heap.size) (l : List Int) {cs : Array Value} {n K : Nat} (hcs : cs = intsZ l) (hn : n = l.length) (hK : K = w.heap.size) (hl : l.length ≤ 9) (hsl : s.1.length ≤ 900000000000) :
    Calls Tryd.prog 29 #[.pointer (some ⟨wb, 0, none⟩), .slice (some ⟨K, 0, none⟩) n n] (w.alloc (.cells cs 3)) fun e w' => e = .returned (.tuple #[]) ∧ ∃ sv', MkTo mT eI w w' wb base sv sv' (nums s l) := by
  subst hcs; subst hn; subst hK
  exact (mnum_any (w.alloc (.cells (intsZ l) 3)) wb base sv s (h.still ((Turn.refl [] w).alloc _)) (by simp; omega) w.heap.size l (heap_new w _) hl hsl).mono fun e w' ⟨h1, sv', h2⟩ => ⟨h1, sv', MkTo.pre ((Turn.refl [] w).alloc _) h2⟩
theorem mtru_any (w : World) (wb base : Nat) (sv : Value) (s : WS) (h : MkAt mT eI w wb base sv s) (hbase : base ≤ w.heap.size) (b : Bool) (hsl : s.1.length ≤ 900000000000) :
    Calls Tryd.prog 31 #[.pointer (some ⟨wb, 0, none⟩), .bool b] w fun e w' => e = .returned (.tuple #[]) ∧ ∃ sv', MkTo mT eI w w' wb base sv sv' (nums s [tr b]) := by
  have HM := hide h
  clear h
  cases b
  · go_enter Tryd.func31, Tryd.ntmps31
    go_wp2_with fail
    refine (mnum_new _ wb base sv s HM.out hbase [tr false] (by rfl) (by rfl) (by rfl) (by simp) hsl).mono ?_
    rintro e w' ⟨rfl, s', h⟩
    have H := hide h
    clear h
    go_wp2
    first
      | (go_end0
         exact ⟨rfl, s', H.out⟩)
      | (refine bodyPost_ret (results_none rfl _ _ _) rfl ?_
         exact ⟨rfl, s', H.out⟩)
  · go_enter Tryd.func31, Tryd.ntmps31
    go_wp2_with fail
    refine (mnum_new _ wb base sv s HM.out hbase [tr true] (by rfl) (by rfl) (by rfl) (by simp) hsl).mono ?_
    rintro e w' ⟨rfl, s', h⟩
    have H := hide h
    clear h
    go_wp2
    first
      | (go_end0
         exact ⟨rfl, s', H.out⟩)
      | (refine bodyPost_ret (results_none rfl _ _ _) rfl ?_
         exact ⟨rfl, s', H.out⟩)
theorem pN_len (s : WS) (n : Int) : (pN s n).1.length ≤ s.1.length + 6 := by
  have := nums_len s [n]
  simpa [nums] using this

set_option maxHeartbeats 2000000 in
theorem mtext_any (w : World) (wb base : Nat) (sv : Value) (s : WS) (h : MkAt mT eI w wb base sv s) (hbase : base ≤ w.heap.size) (t : List UInt8) (most : Nat) (hm : most ≤ 1000) (ht : t.length ≤ 1048576) (hsl : s.1.length ≤ 800000000000) :
    Calls Tryd.prog 30 #[.pointer (some ⟨wb, 0, none⟩), .string ⟨t.toArray⟩, .int .i64 most] w fun e w' => e = .returned (.tuple #[]) ∧ ∃ sv', MkTo mT eI w w' wb base sv sv' (rStep s (.tx t most)) := by
  obtain ⟨i0, hi, hz, hz1, hz2⟩ := infoB_parts
  have HM := hide h
  obtain ⟨⟨c0, c1⟩, f0, f1⟩ := h.cells
  clear h
  by_cases hb : most < t.length
  · have hb1 : (t.length : Int) > (most : Int) := by omega
    have hp : rStep s (.tx t most) = ((pN (s.1, 4) t.length).1 ++ t, (pN (s.1, 4) t.length).2) := by rw [rStep_tx, if_pos hb]
    have HP := hide hp
    have hbad := HM.out.bad 4
    have HBAD := hide hbad
    have hnl := pN_len (s.1, 4) t.length
    obtain ⟨q, hq⟩ : ∃ q, q = pN (s.1, 4) (t.length : Int) := ⟨_, rfl⟩
    rw [← hq] at HP hnl
    have HQ : Hid (nums (s.1, 4) [(t.length : Int)] = q) := hq.symm
    have HSZ : Hid (base ≤ (w.setCell ⟨wb, 1, none⟩ (eI 4)).heap.size) := by show _ ≤ _; simpa using hbase
    simp only at hnl
    clear hp hb hbad hq
    go_enter Tryd.func30, Tryd.ntmps30
    go_wp2_with fail
    refine (mnum_new _ wb base sv (s.1, 4) HBAD.out.1 HSZ.out [(t.length : Int)] (by rfl) (by rfl) (by simp) (by simp) (by simp only; omega)).mono ?_
    rintro e w1 ⟨rfl, sv1, hto⟩
    rw [HQ.out] at hto
    have HTO := hide (HBAD.out.trans hto)
    have hszw := hto.2.1.size
    clear hto c0 c1 f0 f1
    obtain ⟨⟨c0, c1⟩, f0, f1⟩ := HTO.out.1.cells
    have hs1 := HTO.out.2.1.size
    go_wp2_with (at_builtin; go_must (refine wpList_append_str rfl _ _ 22 9 rfl 5 base i0 Tryd.underlying22 Tryd.underlying9 hi hz hz1 hz2 sv1 q.1 t rfl rfl HTO.out.1.2.1 (by omega) (by omega) ?_; intro v2 w2 hr2 ht2 ho2; obtain ⟨a3, n3, cp3, hv3⟩ := hr2.some_slice; subst hv3; have HG := hide (HTO.out.1.putS hr2 ht2 ho2); have c3 : w2.cell? ⟨wb, 0, none⟩ = some sv1 := (by simpa using cell_of HG.out.2 0); have f3 : w2.frozen? ⟨wb, 0, none⟩ = false := frozen_of HG.out.2 0; clear hr2 ht2 ho2))
    go_end0
    refine ⟨rfl, .slice a3 n3 cp3, ?_⟩
    rw [HP.out]
    exact HTO.out.trans HG.out.1
  · have hb1 : ¬ (t.length : Int) > (most : Int) := by omega
    have hp : rStep s (.tx t most) = ((pN s t.length).1 ++ t, (pN s t.length).2) := by rw [rStep_tx, if_neg hb]
    have HP := hide hp
    have hnl := pN_len s t.length
    obtain ⟨q, hq⟩ : ∃ q, q = pN s (t.length : Int) := ⟨_, rfl⟩
    rw [← hq] at HP hnl
    have HQ : Hid (nums s [(t.length : Int)] = q) := hq.symm
    clear hp hb hq
    go_enter Tryd.func30, Tryd.ntmps30
    go_wp2_with fail
    refine (mnum_new _ wb base sv s HM.out hbase [(t.length : Int)] (by rfl) (by rfl) (by rfl) (by simp) (by omega)).mono ?_
    rintro e w1 ⟨rfl, sv1, hto⟩
    rw [HQ.out] at hto
    have HTO := hide hto
    have hs1 := hto.2.1.size
    clear hto c0 c1 f0 f1
    obtain ⟨⟨c0, c1⟩, f0, f1⟩ := HTO.out.1.cells
    go_wp2_with (at_builtin; go_must (refine wpList_append_str rfl _ _ 22 9 rfl 5 base i0 Tryd.underlying22 Tryd.underlying9 hi hz hz1 hz2 sv1 q.1 t rfl rfl HTO.out.1.2.1 (by omega) (by omega) ?_; intro v2 w2 hr2 ht2 ho2; obtain ⟨a3, n3, cp3, hv3⟩ := hr2.some_slice; subst hv3; have HG := hide (HTO.out.1.putS hr2 ht2 ho2); have c3 : w2.cell? ⟨wb, 0, none⟩ = some sv1 := (by simpa using cell_of HG.out.2 0); have f3 : w2.frozen? ⟨wb, 0, none⟩ = false := frozen_of HG.out.2 0; clear hr2 ht2 ho2))
    go_end0
    refine ⟨rfl, .slice a3 n3 cp3, ?_⟩
    rw [HP.out]
    exact HTO.out.trans HG.out.1

set_option maxHeartbeats 4000000 in
theorem mframe_any (w : World) (wb base : Nat) (sv : Value) (s : WS) (h : MkAt mT eI w wb base sv s) (hbase : base ≤ w.heap.size) (hne : s.1 ≠ []) :
    Calls Tryd.prog 33 #[.pointer (some ⟨wb, 0, none⟩)] w fun e w' => ∃ v, e = .returned (.tuple #[v, .int .i64 (rF s).2]) ∧ RowAt w' 5 base v (rF s).1 ∧ Turn [] w w' := by
  obtain ⟨i0, hi, hz, hz1, hz2⟩ := infoB_parts
  have HM := hide h
  have HNE := hide hne
  clear hne
  obtain ⟨⟨c0, c1⟩, f0, f1⟩ := h.cells
  have hce : ∀ Z, Turn [] w Z → Z.cell? ⟨wb, 0, none⟩ = some sv ∧ Z.cell? ⟨wb, 1, none⟩ = some (.int .i64 s.2) := fun Z hZ => (h.still hZ).cells.1
  have HC := hide hce
  have c1' : w.cell? ⟨wb, 1, none⟩ = some (.int .i64 s.2) := c1
  obtain ⟨sa, sc, hsv, hsl, hsm⟩ := h.2.1.form
  obtain ⟨er, her⟩ : ∃ er, er = s.2 := ⟨_, rfl⟩
  rw [← her] at c1'
  have HER := hide her
  clear hce h c1
  by_cases he : er = 0
  · have hb1 : (er == 0) = true := by simpa using he
    have hb2 : (er != 0) = false := by simp [he]
    obtain ⟨n, hn⟩ : ∃ n, n = s.1.length := ⟨_, rfl⟩
    rw [← hn] at hsv hsl
    have hp : rF s = if 10000 < n then ([], 4) else (Bt.four n ++ s.1, 0) := by
      unfold rF
      rw [if_neg (by rw [← her]; simpa using he), ← hn]
    have HP := hide hp
    have HN := hide hn
    subst hsv
    clear hp hn he her
    by_cases hbig : 10000 < n
    · have hbi : (n : Int) > 10000 := by omega
      have hp : rF s = ([], 4) := by rw [HP.out, if_pos hbig]
      have HP2 := hide hp
      clear hp hbig
      go_enter Tryd.func33, Tryd.ntmps33
      go_wp2
      go_ret2
      exact ⟨.slice none 0 0, by rw [HP2.out]; rfl, .inl ⟨rfl, by rw [HP2.out]⟩, Turn.refl _ _⟩
    · have hbi : ¬ (n : Int) > 10000 := by omega
      have hp : rF s = (Bt.four n ++ s.1, 0) := by rw [HP.out, if_neg hbig]
      have HP2 := hide hp
      have hn4 : n < 4294967296 := by omega
      have hl1 : (Bt.four n).length + s.1.length ≤ 1099511627776 := by rw [Bt.four_len, ← HN.out]; omega
      have HL1 := hide hl1
      clear hp hbig hl1
      go_enter Tryd.func33, Tryd.ntmps33
      go_wp2
      refine wp_region_loose (Turn []) (by kernel_rfl) (by kernel_rfl) (by kernel_rfl) (by kernel_rfl) rfl (Turn.refl _) (fun _ _ _ h k => h.same k) ?_
      apply Lo.runx 1 rfl rfl [] (by kernel_rfl) (Turn.refl _)
      apply Exists.intro; apply And.intro
      · intro u w1 hR hF
        clear hF
        refine ⟨rfl, fun a ha K hK => ?_⟩
        have e0 := ha 0
        conv at e0 => rhs; whnf
        clear ha
        go_simp
        refine hK _ ?_; rfl
      apply Lo.runx 2 rfl rfl [0] (by kernel_rfl) (Turn.refl _)
      apply Exists.intro; apply And.intro
      · intro u w1 hR hF
        obtain ⟨h0, -⟩ := hF
        refine ⟨rfl, fun a ha K hK => ?_⟩
        have e19 := (ha 19).trans h0
        clear ha h0
        go_simp
        refine hK _ ?_; rfl
      apply Lo.runx 3 rfl rfl [1] (by kernel_rfl) (Turn.refl _)
      apply Exists.intro; apply And.intro
      · intro u w1 hR hF
        obtain ⟨h1, -⟩ := hF
        refine ⟨rfl, fun a ha K hK => ?_⟩
        have e20 := (ha 20).trans h1
        clear ha h1
        go_simp
        refine hK _ ?_; rfl
      apply Lo.runx 4 rfl rfl [2] (by kernel_rfl) (Turn.refl _)
      apply Exists.intro; apply And.intro
      · intro u w1 hR hF
        obtain ⟨h2, -⟩ := hF
        refine ⟨rfl, fun a ha K hK => ?_⟩
        have e21 := (ha 21).trans h2
        clear ha h2
        have c0 := (HC.out w1 (((Turn.refl [] _).drew).same hR)).1
        go_simp
        refine hK _ ?_; rfl
      apply Lo.runx 5 rfl rfl [3] (by kernel_rfl) (Turn.refl _)
      apply Exists.intro; apply And.intro
      · intro u w1 hR hF
        obtain ⟨h3, -⟩ := hF
        refine ⟨rfl, fun a ha K hK => ?_⟩
        have e22 := (ha 22).trans h3
        clear ha h3
        go_simp
        refine hK _ ?_; rfl
      refine Lo.run 6 rfl rfl [4] (fun y w' => (∃ p, y = .slice (some p) 4 4) ∧ SliceAt w' y ((Bt.four n).map encB)) (by kernel_rfl) (fun x w w' h hR => ?_) (fun _ _ h => h) (fun u w1 hR hF => ?_) ?_
      · exact ⟨h.1, h.2.still hR⟩
      · obtain ⟨h4, -⟩ := hF
        refine ⟨rfl, fun a ha K hK => ?_⟩
        have e23 := (ha 23).trans h4
        clear ha h4
        go_simp
        refine (refFour_any _ n hn4).mono ?_
        rintro e w2 ⟨v2, rfl, hp2, hs2, ht2⟩
        exact hK _ _ ⟨hp2, hs2⟩ ht2
      apply Lo.runx 7 rfl rfl [] (by kernel_rfl) (Turn.refl _)
      apply Exists.intro; apply And.intro
      · intro u w1 hR hF
        clear hF
        refine ⟨rfl, fun a ha K hK => ?_⟩
        have e0 := ha 0
        conv at e0 => rhs; whnf
        clear ha
        go_simp
        refine hK _ ?_; rfl
      apply Lo.runx 8 rfl rfl [6] (by kernel_rfl) (Turn.refl _)
      apply Exists.intro; apply And.intro
      · intro u w1 hR hF
        obtain ⟨h6, -⟩ := hF
        refine ⟨rfl, fun a ha K hK => ?_⟩
        have e25 := (ha 25).trans h6
        clear ha h6
        go_simp
        refine hK _ ?_; rfl
      apply Lo.runx 9 rfl rfl [7] (by kernel_rfl) (Turn.refl _)
      apply Exists.intro; apply And.intro
      · intro u w1 hR hF
        obtain ⟨h7, -⟩ := hF
        refine ⟨rfl, fun a ha K hK => ?_⟩
        have e26 := (ha 26).trans h7
        clear ha h7
        go_simp
        refine hK _ ?_; rfl
      apply Lo.runx 10 rfl rfl [8] (by kernel_rfl) (Turn.refl _)
      apply Exists.intro; apply And.intro
      · intro u w1 hR hF
        obtain ⟨h8, -⟩ := hF
        refine ⟨rfl, fun a ha K hK => ?_⟩
        have e27 := (ha 27).trans h8
        clear ha h8
        have c0 := (HC.out w1 (((Turn.refl [] _).drew).same hR)).1
        go_simp
        refine hK _ ?_; rfl
      refine Lo.run 11 rfl rfl [5, 9] (fun y w' => RowAt w' 5 w.heap.size y (Bt.four n ++ s.1)) (by kernel_rfl) (fun x w w' h hR => ?_) (fun _ _ h => h) (fun u w1 hR hF => ?_) ?_
      · exact h.kept hR (by simp)
      · obtain ⟨h5, h9, -⟩ := hF
        refine ⟨rfl, fun a ha K hK => ?_⟩
        have e24 : a.tmps.getD 24 undef = u 5 := ha 24
        have e28 := (ha 28).trans h9
        have h5 := (show (fun y w' => (∃ p, y = .slice (some p) 4 4) ∧ SliceAt w' y ((Bt.four n).map encB)) (u 5) w1 from h5)
        dsimp only at h5
        clear ha h9
        obtain ⟨p5, hp5⟩ := h5.1
        have hs5 := h5.2
        have hsl := (HM.out.2.1.kept (((Turn.refl [] _).drew).same hR) (by simp)).cells
        have hsz := (((Turn.refl [] w).drew).same hR).size
        have happ : ∃ v' w', (Builtin.append_ #[22, 22] 22 #[u 5, .slice sa n sc]).run Tryd.prog w1 = .ok v' w' ∧ RowAt w' 5 w.heap.size v' (Bt.four n ++ s.1) ∧ Turn [] w1 w' := by
          by_cases h0 : s.1 = []
          · exact absurd h0 HNE.out
          · obtain ⟨v7, w7, hr7, hrow7, ht7⟩ := run_append_fresh (P := Tryd.prog) 22 22 i0 Tryd.underlying22 hi hz hz1 hz2 w1 w1 (u 5) (.slice sa n sc) (Bt.four n) s.1 ⟨Turn.refl _ _, .inl ⟨p5, hp5, hs5⟩⟩ hsl h0 HL1.out
            exact ⟨v7, w7, hr7, hrow7.low hsz, ht7⟩
        obtain ⟨v7, w7, hr7, hrow7, ht7⟩ := happ
        exact oper_append rfl e24 e28 hr7 (hK _ _ hrow7 ht7)
      refine Lo.run 12 rfl rfl [10] (fun y w' => RowAt w' 5 w.heap.size y (Bt.four n ++ s.1)) (by kernel_rfl) (fun x w w' h hR => ?_) (fun _ _ h => h) (fun u w1 hR hF => ?_) ?_
      · exact h.kept hR (by simp)
      · obtain ⟨h10, -⟩ := hF
        refine ⟨rfl, fun a ha K hK => ?_⟩
        have e29 : a.tmps.getD 29 undef = u 10 := ha 29
        have h10 := (show (fun y w' => RowAt w' 5 w.heap.size y (Bt.four n ++ s.1)) (u 10) w1 from h10)
        dsimp only at h10
        clear ha
        go_simp
        refine hK _ _ ?_ (Turn.refl _ _)
        exact h10
      apply Lo.runx 13 rfl rfl [] (by kernel_rfl) (Turn.refl _)
      apply Exists.intro; apply And.intro
      · intro u w1 hR hF
        clear hF
        refine ⟨rfl, fun a ha K hK => ?_⟩
        clear ha
        go_simp
        refine hK _ ?_; rfl
      refine Lo.done [11, 12] (fun u w1 hRd hSd hF => ?_)
      clear hSd
      obtain ⟨f11, f12, -⟩ := hF
      have d11 := (show (fun y w' => RowAt w' 5 w.heap.size y (Bt.four n ++ s.1)) (u 11) w1 from f11)
      dsimp only at d11
      have d12 : u 12 = _ := f12
      clear f11 f12
      simp only [putFrom, Act.put, List.setIfInBounds_toArray, List.set_cons_succ, List.set_cons_zero, Nat.zero_add, Nat.reduceAdd, d12]
      have ht1 := ((Turn.refl [] w).drew).same hRd
      have HT1 := hide ht1
      have HD := hide d11
      clear ht1 hRd d11
      go_wp2
      go_ret2
      exact ⟨u 11, by rw [HP2.out]; rfl, by rw [HP2.out]; exact HD.out.low hbase, HT1.out⟩
  · have hb1 : (er == 0) = false := by simpa using he
    have hb2 : (er != 0) = true := by simp [he]
    have hp : rF s = ([], er) := by unfold rF; rw [if_pos (by rw [← her]; exact he), her]
    have HP := hide hp
    have hc1 : ∀ Z, Turn [] w Z → Z.cell? ⟨wb, 1, none⟩ = some (.int .i64 er) := fun Z hZ => by rw [(HC.out Z hZ).2, ← HER.out]
    have HC1 := hide hc1
    clear hp her hc1 he
    go_enter Tryd.func33, Tryd.ntmps33
    go_wp2
    refine wp_region_loose (Turn []) (by kernel_rfl) (by kernel_rfl) (by kernel_rfl) (by kernel_rfl) rfl (Turn.refl _) (fun _ _ _ h k => h.same k) ?_
    apply Lo.runx 1 rfl rfl [] (by kernel_rfl) (Turn.refl _)
    apply Exists.intro; apply And.intro
    · intro u w1 hR hF
      clear hF
      refine ⟨rfl, fun a ha K hK => ?_⟩
      have e0 := ha 0
      conv at e0 => rhs; whnf
      clear ha
      go_simp
      refine hK _ ?_; rfl
    apply Lo.runx 2 rfl rfl [0] (by kernel_rfl) (Turn.refl _)
    apply Exists.intro; apply And.intro
    · intro u w1 hR hF
      obtain ⟨h0, -⟩ := hF
      refine ⟨rfl, fun a ha K hK => ?_⟩
      have e9 := (ha 9).trans h0
      clear ha h0
      go_simp
      refine hK _ ?_; rfl
    apply Lo.runx 3 rfl rfl [1] (by kernel_rfl) (Turn.refl _)
    apply Exists.intro; apply And.intro
    · intro u w1 hR hF
      obtain ⟨h1, -⟩ := hF
      refine ⟨rfl, fun a ha K hK => ?_⟩
      have e10 := (ha 10).trans h1
      clear ha h1
      go_simp
      refine hK _ ?_; rfl
    apply Lo.runx 4 rfl rfl [2] (by kernel_rfl) (Turn.refl _)
    apply Exists.intro; apply And.intro
    · intro u w1 hR hF
      obtain ⟨h2, -⟩ := hF
      refine ⟨rfl, fun a ha K hK => ?_⟩
      have e11 := (ha 11).trans h2
      clear ha h2
      have c1 := HC1.out w1 (((Turn.refl [] _).drew).same hR)
      go_simp
      refine hK _ ?_; rfl
    apply Lo.runx 5 rfl rfl [] (by kernel_rfl) (Turn.refl _)
    apply Exists.intro; apply And.intro
    · intro u w1 hR hF
      clear hF
      refine ⟨rfl, fun a ha K hK => ?_⟩
      clear ha
      go_simp
      refine hK _ ?_; rfl
    apply Lo.runx 6 rfl rfl [3] (by kernel_rfl) (Turn.refl _)
    apply Exists.intro; apply And.intro
    · intro u w1 hR hF
      obtain ⟨h3, -⟩ := hF
      refine ⟨rfl, fun a ha K hK => ?_⟩
      have e12 := (ha 12).trans h3
      clear ha h3
      go_simp
      refine hK _ ?_; rfl
    refine Lo.done [4, 5] (fun u w1 hRd hSd hF => ?_)
    clear hSd
    obtain ⟨f4, f5, -⟩ := hF
    have d4 : u 4 = _ := f4
    have d5 : u 5 = _ := f5
    clear f4 f5
    simp only [putFrom, Act.put, List.setIfInBounds_toArray, List.set_cons_succ, List.set_cons_zero, Nat.zero_add, Nat.reduceAdd, d4, d5]
    have HT := hide (((Turn.refl [] w).drew).same hRd)
    clear hRd
    go_wp2
    go_ret2
    refine ⟨.slice none 0 0, ?_, .inl ⟨rfl, by rw [HP.out]⟩, HT.out⟩
    rw [HP.out]
    rfl
end Go.Proofs.YtcpjohpbakbggaaDoor.Wi

/- wire's writer: a record. -/
namespace Go.Proofs.YtcpjohpbakbggaaDoor.Wi
open Go.RowKit Go.Maps
set_option maxRecDepth 100000
set_option linter.unusedSimpArgs false
set_option linter.unusedVariables false

theorem pRun_len (s : WS) : ∀ (l : List Cl), s.1.length ≤ 12000 → (∀ c ∈ l, match c with | .ns l => l.length ≤ 9 | .tx t m => m ≤ 1000) → (pRun s l).1.length ≤ 12000
  | [], h, _ => h
  | c :: l, h, hl => by
    rw [pRun_cons]
    exact pRun_len (pStep s c) l (pStep_len s c (hl c (by simp))) (fun x hx => hl x (by simp [hx]))
theorem recCl_sz (r : Bt.Rec) : ∀ c ∈ recCl r, match c with | .ns l => l.length ≤ 9 | .tx t m => m ≤ 1000 := by
  obtain ⟨off, time, keyed, key, gone, value⟩ := r
  intro c hc
  cases keyed <;> cases gone <;> simp [recCl] at hc
  · rcases hc with rfl | rfl | rfl <;> simp
  · rcases hc with rfl | rfl <;> simp
  · rcases hc with rfl | rfl | rfl | rfl <;> simp
  · rcases hc with rfl | rfl | rfl <;> simp
set_option maxHeartbeats 4000000 in
theorem wrec_any (w : World) (wb base : Nat) (sv : Value) (s : WS) (h : MkAt wT As.errN w wb base sv s) (hbase : base ≤ w.heap.size) (r : Bt.Rec) (hr : RecOk r) (hsl : s.1.length ≤ 12000) :
    Calls Tryd.prog 54 #[.pointer (some ⟨wb, 0, none⟩), recV r] w fun e w' => e = .returned (.tuple #[]) ∧ ∃ sv', MkTo wT As.errN w w' wb base sv sv' (pRun s (recCl r)) := by
  obtain ⟨off, time, keyed, key, gone, value⟩ := r
  have hk := hr.key
  have hv := hr.value
  simp only at hk hv
  clear hr
  have hlt := h.lt
  obtain ⟨w0, hw0⟩ : ∃ w0, w0 = w.alloc (.cells #[.int .i64 off, .int .i64 time, .bool keyed, .string ⟨key.toArray⟩, .bool gone, .string ⟨value.toArray⟩] 76) := ⟨_, rfl⟩
  have hbox : w0.heap[w.heap.size]? = some (.cells #[.int .i64 off, .int .i64 time, .bool keyed, .string ⟨key.toArray⟩, .bool gone, .string ⟨value.toArray⟩] 76 (0, 0)) := by rw [hw0]; exact heap_new w _
  have hal : Turn [] w w0 := by rw [hw0]; exact (Turn.refl [] w).alloc _
  have hm0 := h.still hal
  have box : ∀ wi si bi, MkTo wT As.errN w0 wi wb base sv si bi → w.heap.size < wi.heap.size ∧ wi.cell? ⟨w.heap.size, 0, none⟩ = some (.int .i64 off) ∧ wi.cell? ⟨w.heap.size, 1, none⟩ = some (.int .i64 time) ∧ wi.cell? ⟨w.heap.size, 2, none⟩ = some (.bool keyed) ∧ wi.cell? ⟨w.heap.size, 3, none⟩ = some (.string ⟨key.toArray⟩) ∧ wi.cell? ⟨w.heap.size, 4, none⟩ = some (.bool gone) ∧ wi.cell? ⟨w.heap.size, 5, none⟩ = some (.string ⟨value.toArray⟩) :=
    fun wi si bi h2 => by
      have hb := h2.box hbox (by omega) (fun x hx => by have := (hlt.2 x hx).2; omega)
      exact ⟨lt_of_heap hb, box_cells (r := ⟨off, time, keyed, key, gone, value⟩) hb⟩
  have fin : ∀ wi si bi, MkTo wT As.errN w0 wi wb base sv si bi → bi = pRun s (recCl ⟨off, time, keyed, key, gone, value⟩) → ∃ sv', MkTo wT As.errN w wi wb base sv sv' (pRun s (recCl ⟨off, time, keyed, key, gone, value⟩)) :=
    fun wi si bi h2 e => ⟨si, e ▸ MkTo.pre hal h2⟩
  have hsz0 : base ≤ w0.heap.size := by have := hal.size; omega
  have BOX := hide box
  have FIN := hide fin
  have HM0 := hide hm0
  have HW0 := hide hw0
  clear h box fin hm0 hal hbox hw0 hlt
  go_enter Tryd.func54, Tryd.ntmps54
  go_wp2
  rw [show w.alloc (.cells #[.int .i64 off, .int .i64 time, .bool keyed, strV key, .bool gone, strV value] 76) = w0 from HW0.out.symm]
  refine wp_region_tail 7 (Turn []) (by kernel_rfl) (by kernel_rfl) (by kernel_rfl) (by kernel_rfl) (by kernel_rfl) (Nat.le_of_ble_eq_true rfl) rfl (Turn.refl _) (fun _ _ _ h k => h.same k) ?_
  apply Lo.runx 1 rfl rfl [] (by kernel_rfl) (Turn.refl _)
  apply Exists.intro; apply And.intro
  · intro u w1 hR hF
    clear hF
    refine ⟨rfl, fun a ha K hK => ?_⟩
    have e0 := ha 0
    conv at e0 => rhs; whnf
    clear ha
    go_simp
    refine hK _ ?_; rfl
  apply Lo.runx 2 rfl rfl [] (by kernel_rfl) (Turn.refl _)
  apply Exists.intro; apply And.intro
  · intro u w1 hR hF
    clear hF
    refine ⟨rfl, fun a ha K hK => ?_⟩
    have e3 := ha 3
    conv at e3 => rhs; whnf
    clear ha
    go_simp
    refine hK _ ?_; rfl
  apply Lo.runx 3 rfl rfl [1] (by kernel_rfl) (Turn.refl _)
  apply Exists.intro; apply And.intro
  · intro u w1 hR hF
    obtain ⟨h1, -⟩ := hF
    refine ⟨rfl, fun a ha K hK => ?_⟩
    have e5 := (ha 5).trans h1
    clear ha h1
    obtain ⟨z0, q0, q1, q2, q3, q4, q5⟩ := BOX.out w1 _ _ (HM0.out.self.still (((Turn.refl [] _).drew).same hR))
    go_simp
    refine hK _ ?_; rfl
  apply Lo.runx 4 rfl rfl [] (by kernel_rfl) (Turn.refl _)
  apply Exists.intro; apply And.intro
  · intro u w1 hR hF
    clear hF
    refine ⟨rfl, fun a ha K hK => ?_⟩
    have e3 := ha 3
    conv at e3 => rhs; whnf
    clear ha
    go_simp
    refine hK _ ?_; rfl
  apply Lo.runx 5 rfl rfl [3] (by kernel_rfl) (Turn.refl _)
  apply Exists.intro; apply And.intro
  · intro u w1 hR hF
    obtain ⟨h3, -⟩ := hF
    refine ⟨rfl, fun a ha K hK => ?_⟩
    have e7 := (ha 7).trans h3
    clear ha h3
    obtain ⟨z0, q0, q1, q2, q3, q4, q5⟩ := BOX.out w1 _ _ (HM0.out.self.still (((Turn.refl [] _).drew).same hR))
    go_simp
    refine hK _ ?_; rfl
  refine Lo.run 6 rfl rfl [4] (fun y _ => y = .int .i64 (tr keyed)) (by kernel_rfl) (fun x w w' h hR => ?_) (fun _ _ h => h) (fun u w1 hR hF => ?_) ?_
  · exact h
  · obtain ⟨h4, -⟩ := hF
    refine ⟨rfl, fun a ha K hK => ?_⟩
    have e8 := (ha 8).trans h4
    clear ha h4
    go_simp
    refine (truth_any _ keyed).mono ?_
    rintro e w2 ⟨rfl, rfl⟩
    exact hK _ _ rfl (Turn.refl _ _)
  refine Lo.run 7 rfl rfl [2, 5] (fun y w' => ∃ k, y = .slice (some ⟨k, 0, none⟩) 2 2 ∧ w'.heap[k]? = some (.cells (intsZ [time, tr keyed]) 3 (0, 0))) (by kernel_rfl) (fun x w w' h hR => ?_) (fun _ _ h => h) (fun u w1 hR hF => ?_) ?_
  · obtain ⟨k, h1, h2⟩ := h; exact ⟨k, h1, hR.heap h2 (by simp)⟩
  · obtain ⟨h2, h5, -⟩ := hF
    refine ⟨rfl, fun a ha K hK => ?_⟩
    have e6 := (ha 6).trans h2
    have e9 : a.tmps.getD 9 undef = u 5 := ha 9
    have h5 := (show (fun y _ => y = .int .i64 (tr keyed)) (u 5) w1 from h5)
    dsimp only at h5
    clear ha h2
    have e6' : a.tmps[6]?.getD undef = .int .i64 time := by rw [← Array.getD_eq_getD_getElem?, e6]
    have e9' : a.tmps[9]?.getD undef = .int .i64 (tr keyed) := by rw [← Array.getD_eq_getD_getElem?, e9]; exact h5
    go_simp
    exact hK _ _ ⟨w1.heap.size, rfl, heap_new w1 _⟩ ((Turn.refl _ _).alloc _)
  refine Lo.done [0, 6] (fun u w1 hRd hSd hF => ?_)
  clear hSd
  obtain ⟨f0, f6, -⟩ := hF
  have d0 : u 0 = _ := f0
  have d6 := (show (fun y w' => ∃ k, y = .slice (some ⟨k, 0, none⟩) 2 2 ∧ w'.heap[k]? = some (.cells (intsZ [time, tr keyed]) 3 (0, 0))) (u 6) w1 from f6)
  dsimp only at d6
  clear f0 f6
  simp only [List.take_succ_cons, List.take_zero, List.drop_succ_cons, List.drop_zero, putFrom, Act.put, List.setIfInBounds_toArray, List.set_cons_succ, List.set_cons_zero, Nat.zero_add, Nat.reduceAdd, d0]
  have ht1 : Turn [] w0 w1 := ((Turn.refl [] _).drew).same hRd
  have hm1 := HM0.out.self.still ht1
  obtain ⟨k, hk1, hk2⟩ := d6
  have HM1 := hide hm1
  have HK2 := hide hk2
  have hs1 := ht1.size
  rw [hk1]
  clear hRd ht1 hm1 hk1 hk2
  go_wp2_with fail
  refine (numbers_any w1 wb base sv s HM1.out.1 (by omega) k [time, tr keyed] HK2.out (by simp) (by omega)).mono ?_
  rintro e w2 ⟨rfl, s2, hto⟩
  have HT2 := hide (HM1.out.trans hto)
  clear hto
  have hl2 := pStep_len s (.ns [time, tr keyed]) (by simp)
  have e2 : nums (cut s) [time, tr keyed] = pStep s (.ns [time, tr keyed]) := rfl
  rw [e2] at HT2
  obtain ⟨b2, hb2⟩ : ∃ b, b = pStep s (.ns [time, tr keyed]) := ⟨_, rfl⟩
  rw [← hb2] at HT2 hl2
  have hsz2 := HT2.out.2.1.size
  obtain ⟨z0, q0, q1, q2, q3, q4, q5⟩ := BOX.out _ _ _ HT2.out
  have HB2 := hide hb2
  clear e2 hb2
  cases keyed with
  | true =>
    go_wp2_with fail
    refine (text_any w2 wb base s2 b2 HT2.out.1 (by omega) key 60 (by omega) hk (by omega)).mono ?_
    rintro e w3 ⟨rfl, s3, hto⟩
    have HT3 := hide (HT2.out.trans hto)
    clear hto
    have hl3 := pStep_len b2 (.tx key 60) (by simp)
    obtain ⟨b3, hb3⟩ : ∃ b, b = pStep b2 (.tx key 60) := ⟨_, rfl⟩
    rw [← hb3] at HT3 hl3
    have hsz3 := HT3.out.2.1.size
    clear z0 q0 q1 q2 q3 q4 q5
    obtain ⟨z0, q0, q1, q2, q3, q4, q5⟩ := BOX.out _ _ _ HT3.out
    have HB3 := hide hb3
    clear hb3
    go_wp2_with fail
    refine (truth_any _ gone).mono ?_
    rintro e w4 ⟨rfl, rfl⟩
    go_wp2_with fail
    refine (numbers_new _ wb base s3 b3 HT3.out.1 (by omega) [tr gone] (by rfl) (by rfl) (by rfl) (by simp) (by omega)).mono ?_
    rintro e w5 ⟨rfl, s4, hto⟩
    have HT4 := hide (HT3.out.trans hto)
    clear hto
    have hl4 := pStep_len b3 (.ns [tr gone]) (by simp)
    have e4 : nums (cut b3) [tr gone] = pStep b3 (.ns [tr gone]) := rfl
    rw [e4] at HT4
    obtain ⟨b4, hb4⟩ : ∃ b, b = pStep b3 (.ns [tr gone]) := ⟨_, rfl⟩
    rw [← hb4] at HT4 hl4
    have hsz4 := HT4.out.2.1.size
    clear z0 q0 q1 q2 q3 q4 q5
    obtain ⟨z0, q0, q1, q2, q3, q4, q5⟩ := BOX.out _ _ _ HT4.out
    have HB4 := hide hb4
    clear e4 hb4
    cases gone with
    | true =>
      go_wp2
      go_end0
      exact ⟨rfl, FIN.out _ _ _ HT4.out (by rw [HB4.out, HB3.out, HB2.out]; rfl)⟩
    | false =>
      go_wp2_with fail
      refine (text_any _ wb base s4 b4 HT4.out.1 (by omega) value 500 (by omega) hv (by omega)).mono ?_
      rintro e w6 ⟨rfl, s5, hto⟩
      have HT5 := hide (HT4.out.trans hto)
      clear hto
      go_wp2
      go_end0
      exact ⟨rfl, FIN.out _ _ _ HT5.out (by rw [HB4.out, HB3.out, HB2.out]; rfl)⟩
  | false =>
    go_wp2_with fail
    refine (truth_any _ gone).mono ?_
    rintro e w4 ⟨rfl, rfl⟩
    go_wp2_with fail
    refine (numbers_new _ wb base s2 b2 HT2.out.1 (by omega) [tr gone] (by rfl) (by rfl) (by rfl) (by simp) (by omega)).mono ?_
    rintro e w5 ⟨rfl, s4, hto⟩
    have HT4 := hide (HT2.out.trans hto)
    clear hto
    have hl4 := pStep_len b2 (.ns [tr gone]) (by simp)
    have e4 : nums (cut b2) [tr gone] = pStep b2 (.ns [tr gone]) := rfl
    rw [e4] at HT4
    obtain ⟨b4, hb4⟩ : ∃ b, b = pStep b2 (.ns [tr gone]) := ⟨_, rfl⟩
    rw [← hb4] at HT4 hl4
    have hsz4 := HT4.out.2.1.size
    clear z0 q0 q1 q2 q3 q4 q5
    obtain ⟨z0, q0, q1, q2, q3, q4, q5⟩ := BOX.out _ _ _ HT4.out
    have HB4 := hide hb4
    clear e4 hb4
    cases gone with
    | true =>
      go_wp2
      go_end0
      exact ⟨rfl, FIN.out _ _ _ HT4.out (by rw [HB4.out, HB2.out]; rfl)⟩
    | false =>
      go_wp2_with fail
      refine (text_any _ wb base s4 b4 HT4.out.1 (by omega) value 500 (by omega) hv (by omega)).mono ?_
      rintro e w6 ⟨rfl, s5, hto⟩
      have HT5 := hide (HT4.out.trans hto)
      clear hto
      go_wp2
      go_end0
      exact ⟨rfl, FIN.out _ _ _ HT5.out (by rw [HB4.out, HB2.out]; rfl)⟩
end Go.Proofs.YtcpjohpbakbggaaDoor.Wi
