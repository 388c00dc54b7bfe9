/- record.four: the number at the beginning of bytes. -/
import Derived.Test.YtlcgcckllecjpaaRdC
namespace Go.Proofs.Ytlcgcckllecjpaa
open Go.RowKit Go.Maps
set_option maxRecDepth 100000
set_option linter.unusedSimpArgs false
set_option linter.unusedVariables false

theorem or_add (a b k : Nat) (hb : b < 2 ^ k) (ha : a % 2 ^ k = 0) (h : a + b < 9223372036854775808) : bits .or .i64 (a : Int) (b : Int) = ((a + b : Nat) : Int) := by
  have hj : a ||| b = a + b := nat_join k a b ha hb
  rw [i64_or_nat _ _ (by omega) (by omega) (by rw [hj]; exact h), hj]
/-- The first four bytes. -/
theorem BytesAt.four {w : World} {v : Value} {bs : List UInt8} (h : BytesAt w v bs) (h4 : 4 ≤ bs.length) : ∃ p c, v = .slice (some p) bs.length c ∧ bs.length ≤ c ∧ c ≤ maxLen ∧
    w.cell? p = some (.int .u8 (bs.getD 0 0).toNat) ∧ w.cell? ⟨p.block, p.off + 1, none⟩ = some (.int .u8 (bs.getD 1 0).toNat) ∧ w.cell? ⟨p.block, p.off + 2, none⟩ = some (.int .u8 (bs.getD 2 0).toNat) ∧ w.cell? ⟨p.block, p.off + 3, none⟩ = some (.int .u8 (bs.getD 3 0).toNat) := by
  obtain ⟨a, c, rfl, h1, h2, -, hc⟩ := h
  obtain ⟨p, rfl, g0⟩ := hc 0 (by omega)
  refine ⟨p, c, rfl, h1, h2, ?_, ?_, ?_, ?_⟩
  · rw [add_zero] at g0; simpa [encB, List.getD, show 0 < bs.length by omega] using g0
  · obtain ⟨q, hq, g⟩ := hc 1 (by omega); cases hq
    rw [show (⟨p.block, p.off + 1, none⟩ : Addr) = p.add 1 from rfl, g]; simp [encB, List.getD, show 1 < bs.length by omega]
  · obtain ⟨q, hq, g⟩ := hc 2 (by omega); cases hq
    rw [show (⟨p.block, p.off + 2, none⟩ : Addr) = p.add 2 from rfl, g]; simp [encB, List.getD, show 2 < bs.length by omega]
  · obtain ⟨q, hq, g⟩ := hc 3 (by omega); cases hq
    rw [show (⟨p.block, p.off + 3, none⟩ : Addr) = p.add 3 from rfl, g]; simp [encB, List.getD, show 3 < bs.length by omega]

set_option maxHeartbeats 2000000 in
theorem four_any (w : World) (v : Value) (bs : List UInt8) (hx : BytesAt w v bs) (h4 : 4 ≤ bs.length) :
    Calls Try.prog 42 #[v] w fun e w' => e = .returned (.int .i64 (Bt.fourV bs : Nat)) ∧ w' = w.drew := by
  obtain ⟨p, c, rfl, hlc, hcm, c0, c1, c2, c3⟩ := hx.four h4
  obtain ⟨b0, e0⟩ : ∃ b : Nat, (bs.getD 0 0).toNat = b := ⟨_, rfl⟩
  obtain ⟨b1, e1⟩ : ∃ b : Nat, (bs.getD 1 0).toNat = b := ⟨_, rfl⟩
  obtain ⟨b2, e2⟩ : ∃ b : Nat, (bs.getD 2 0).toNat = b := ⟨_, rfl⟩
  obtain ⟨b3, e3⟩ : ∃ b : Nat, (bs.getD 3 0).toNat = b := ⟨_, rfl⟩
  have l0 : b0 < 256 := by rw [← e0]; exact UInt8.toNat_lt _
  have l1 : b1 < 256 := by rw [← e1]; exact UInt8.toNat_lt _
  have l2 : b2 < 256 := by rw [← e2]; exact UInt8.toNat_lt _
  have l3 : b3 < 256 := by rw [← e3]; exact UInt8.toNat_lt _
  have hv : Bt.fourV bs = b0 * 16777216 + b1 * 65536 + b2 * 256 + b3 := by unfold Bt.fourV; rw [e0, e1, e2, e3]
  rw [e0] at c0
  rw [e1] at c1
  rw [e2] at c2
  rw [e3] at c3
  rw [hv]
  have i0 : 0 < bs.length := by omega
  have i1 : (1 : Int) < (bs.length : Int) := by omega
  have i2 : (2 : Int) < (bs.length : Int) := by omega
  have i3 : (3 : Int) < (bs.length : Int) := by omega
  clear hx hv e0 e1 e2 e3
  go_enter Try.func42, Try.ntmps42
  go_wp2
  refine wp_region_loose (fun a b => a = b) (by kernel_rfl) (by kernel_rfl) (by kernel_rfl) (by kernel_rfl) rfl (fun _ => rfl) (fun _ _ _ h k => h.trans k) ?_
  apply Lo.runx 1 rfl rfl [] (by kernel_rfl) (fun _ => rfl)
  apply Exists.intro; apply And.intro
  · intro u w1 hR hF
    clear hF
    subst hR
    refine ⟨rfl, fun a ha K hK => ?_⟩
    have e0 := ha 0
    conv at e0 => rhs; whnf
    clear ha
    go_simp
    refine hK _ ?_; rfl
  apply Lo.runx 2 rfl rfl [0] (by kernel_rfl) (fun _ => rfl)
  apply Exists.intro; apply And.intro
  · intro u w1 hR hF
    obtain ⟨h0, -⟩ := hF
    subst hR
    refine ⟨rfl, fun a ha K hK => ?_⟩
    have e3 := (ha 3).trans h0
    clear ha h0
    go_simp
    refine hK _ ?_; rfl
  apply Lo.runx 3 rfl rfl [1] (by kernel_rfl) (fun _ => rfl)
  apply Exists.intro; apply And.intro
  · intro u w1 hR hF
    obtain ⟨h1, -⟩ := hF
    subst hR
    refine ⟨rfl, fun a ha K hK => ?_⟩
    have e4 := (ha 4).trans h1
    clear ha h1
    go_simp
    refine hK _ ?_; rfl
  apply Lo.runx 4 rfl rfl [2] (by kernel_rfl) (fun _ => rfl)
  apply Exists.intro; apply And.intro
  · intro u w1 hR hF
    obtain ⟨h2, -⟩ := hF
    subst hR
    refine ⟨rfl, fun a ha K hK => ?_⟩
    have e5 := (ha 5).trans h2
    clear ha h2
    go_simp
    refine hK _ ?_; rfl
  refine Lo.runv 5 rfl rfl [3] (.int .i64 ((b0 * 16777216 : Nat) : Int)) (by kernel_rfl) (fun u w1 hR hF => ?_) (fun _ => rfl) ?_
  · obtain ⟨h3, -⟩ := hF
    subst hR
    refine ⟨rfl, fun a ha K hK => ?_⟩
    have e6 := (ha 6).trans h3
    clear ha h3
    go_simp
    refine hK _ ?_
    rw [IntWalk.i64_left, IntWalk.i64_left, IntWalk.wrap64_in (b0 : Int) (by omega), IntWalk.wrap64_in _ (by omega)]; simp
  apply Lo.runx 6 rfl rfl [] (by kernel_rfl) (fun _ => rfl)
  apply Exists.intro; apply And.intro
  · intro u w1 hR hF
    clear hF
    subst hR
    refine ⟨rfl, fun a ha K hK => ?_⟩
    have e0 := ha 0
    conv at e0 => rhs; whnf
    clear ha
    go_simp
    refine hK _ ?_; rfl
  apply Lo.runx 7 rfl rfl [5] (by kernel_rfl) (fun _ => rfl)
  apply Exists.intro; apply And.intro
  · intro u w1 hR hF
    obtain ⟨h5, -⟩ := hF
    subst hR
    refine ⟨rfl, fun a ha K hK => ?_⟩
    have e8 := (ha 8).trans h5
    clear ha h5
    go_simp
    refine hK _ ?_; rfl
  apply Lo.runx 8 rfl rfl [6] (by kernel_rfl) (fun _ => rfl)
  apply Exists.intro; apply And.intro
  · intro u w1 hR hF
    obtain ⟨h6, -⟩ := hF
    subst hR
    refine ⟨rfl, fun a ha K hK => ?_⟩
    have e9 := (ha 9).trans h6
    clear ha h6
    go_simp
    refine hK _ ?_; rfl
  apply Lo.runx 9 rfl rfl [7] (by kernel_rfl) (fun _ => rfl)
  apply Exists.intro; apply And.intro
  · intro u w1 hR hF
    obtain ⟨h7, -⟩ := hF
    subst hR
    refine ⟨rfl, fun a ha K hK => ?_⟩
    have e10 := (ha 10).trans h7
    clear ha h7
    go_simp
    refine hK _ ?_; rfl
  refine Lo.runv 10 rfl rfl [8] (.int .i64 ((b1 * 65536 : Nat) : Int)) (by kernel_rfl) (fun u w1 hR hF => ?_) (fun _ => rfl) ?_
  · obtain ⟨h8, -⟩ := hF
    subst hR
    refine ⟨rfl, fun a ha K hK => ?_⟩
    have e11 := (ha 11).trans h8
    clear ha h8
    go_simp
    refine hK _ ?_
    rw [IntWalk.i64_left, IntWalk.i64_left, IntWalk.wrap64_in (b1 : Int) (by omega), IntWalk.wrap64_in _ (by omega)]; simp
  refine Lo.runv 11 rfl rfl [4, 9] (.int .i64 ((b0 * 16777216 + b1 * 65536 : Nat) : Int)) (by kernel_rfl) (fun u w1 hR hF => ?_) (fun _ => rfl) ?_
  · obtain ⟨h4, h9, -⟩ := hF
    subst hR
    refine ⟨rfl, fun a ha K hK => ?_⟩
    have e7 := (ha 7).trans h4
    have e12 := (ha 12).trans h9
    clear ha h4 h9
    go_simp
    refine hK _ ?_
    have hor := or_add (b0 * 16777216) (b1 * 65536) 24 (by omega) (by omega) (by omega)
    try rw [IntWalk.i64_left (n := (b3 : Int)), IntWalk.wrap64_in (b3 : Int) (by omega)]
    simpa using hor
  apply Lo.runx 12 rfl rfl [] (by kernel_rfl) (fun _ => rfl)
  apply Exists.intro; apply And.intro
  · intro u w1 hR hF
    clear hF
    subst hR
    refine ⟨rfl, fun a ha K hK => ?_⟩
    have e0 := ha 0
    conv at e0 => rhs; whnf
    clear ha
    go_simp
    refine hK _ ?_; rfl
  apply Lo.runx 13 rfl rfl [11] (by kernel_rfl) (fun _ => rfl)
  apply Exists.intro; apply And.intro
  · intro u w1 hR hF
    obtain ⟨h11, -⟩ := hF
    subst hR
    refine ⟨rfl, fun a ha K hK => ?_⟩
    have e14 := (ha 14).trans h11
    clear ha h11
    go_simp
    refine hK _ ?_; rfl
  apply Lo.runx 14 rfl rfl [12] (by kernel_rfl) (fun _ => rfl)
  apply Exists.intro; apply And.intro
  · intro u w1 hR hF
    obtain ⟨h12, -⟩ := hF
    subst hR
    refine ⟨rfl, fun a ha K hK => ?_⟩
    have e15 := (ha 15).trans h12
    clear ha h12
    go_simp
    refine hK _ ?_; rfl
  apply Lo.runx 15 rfl rfl [13] (by kernel_rfl) (fun _ => rfl)
  apply Exists.intro; apply And.intro
  · intro u w1 hR hF
    obtain ⟨h13, -⟩ := hF
    subst hR
    refine ⟨rfl, fun a ha K hK => ?_⟩
    have e16 := (ha 16).trans h13
    clear ha h13
    go_simp
    refine hK _ ?_; rfl
  refine Lo.runv 16 rfl rfl [14] (.int .i64 ((b2 * 256 : Nat) : Int)) (by kernel_rfl) (fun u w1 hR hF => ?_) (fun _ => rfl) ?_
  · obtain ⟨h14, -⟩ := hF
    subst hR
    refine ⟨rfl, fun a ha K hK => ?_⟩
    have e17 := (ha 17).trans h14
    clear ha h14
    go_simp
    refine hK _ ?_
    rw [IntWalk.i64_left, IntWalk.i64_left, IntWalk.wrap64_in (b2 : Int) (by omega), IntWalk.wrap64_in _ (by omega)]; simp
  refine Lo.runv 17 rfl rfl [10, 15] (.int .i64 ((b0 * 16777216 + b1 * 65536 + b2 * 256 : Nat) : Int)) (by kernel_rfl) (fun u w1 hR hF => ?_) (fun _ => rfl) ?_
  · obtain ⟨h10, h15, -⟩ := hF
    subst hR
    refine ⟨rfl, fun a ha K hK => ?_⟩
    have e13 := (ha 13).trans h10
    have e18 := (ha 18).trans h15
    clear ha h10 h15
    go_simp
    refine hK _ ?_
    have hor := or_add (b0 * 16777216 + b1 * 65536) (b2 * 256) 16 (by omega) (by omega) (by omega)
    try rw [IntWalk.i64_left (n := (b3 : Int)), IntWalk.wrap64_in (b3 : Int) (by omega)]
    simpa using hor
  apply Lo.runx 18 rfl rfl [] (by kernel_rfl) (fun _ => rfl)
  apply Exists.intro; apply And.intro
  · intro u w1 hR hF
    clear hF
    subst hR
    refine ⟨rfl, fun a ha K hK => ?_⟩
    have e0 := ha 0
    conv at e0 => rhs; whnf
    clear ha
    go_simp
    refine hK _ ?_; rfl
  apply Lo.runx 19 rfl rfl [17] (by kernel_rfl) (fun _ => rfl)
  apply Exists.intro; apply And.intro
  · intro u w1 hR hF
    obtain ⟨h17, -⟩ := hF
    subst hR
    refine ⟨rfl, fun a ha K hK => ?_⟩
    have e20 := (ha 20).trans h17
    clear ha h17
    go_simp
    refine hK _ ?_; rfl
  apply Lo.runx 20 rfl rfl [18] (by kernel_rfl) (fun _ => rfl)
  apply Exists.intro; apply And.intro
  · intro u w1 hR hF
    obtain ⟨h18, -⟩ := hF
    subst hR
    refine ⟨rfl, fun a ha K hK => ?_⟩
    have e21 := (ha 21).trans h18
    clear ha h18
    go_simp
    refine hK _ ?_; rfl
  apply Lo.runx 21 rfl rfl [19] (by kernel_rfl) (fun _ => rfl)
  apply Exists.intro; apply And.intro
  · intro u w1 hR hF
    obtain ⟨h19, -⟩ := hF
    subst hR
    refine ⟨rfl, fun a ha K hK => ?_⟩
    have e22 := (ha 22).trans h19
    clear ha h19
    go_simp
    refine hK _ ?_; rfl
  refine Lo.runv 22 rfl rfl [16, 20] (.int .i64 ((b0 * 16777216 + b1 * 65536 + b2 * 256 + b3 : Nat) : Int)) (by kernel_rfl) (fun u w1 hR hF => ?_) (fun _ => rfl) ?_
  · obtain ⟨h16, h20, -⟩ := hF
    subst hR
    refine ⟨rfl, fun a ha K hK => ?_⟩
    have e19 := (ha 19).trans h16
    have e23 := (ha 23).trans h20
    clear ha h16 h20
    go_simp
    refine hK _ ?_
    have hor := or_add (b0 * 16777216 + b1 * 65536 + b2 * 256) b3 8 (by omega) (by omega) (by omega)
    try rw [IntWalk.i64_left (n := (b3 : Int)), IntWalk.wrap64_in (b3 : Int) (by omega)]
    simpa using hor
  apply Lo.runx 23 rfl rfl [21] (by kernel_rfl) (fun _ => rfl)
  apply Exists.intro; apply And.intro
  · intro u w1 hR hF
    obtain ⟨h21, -⟩ := hF
    subst hR
    refine ⟨rfl, fun a ha K hK => ?_⟩
    have e24 := (ha 24).trans h21
    clear ha h21
    go_simp
    refine hK _ ?_; rfl
  refine Lo.done [22] (fun u w1 hRd hSd hF => ?_)
  clear hSd
  obtain ⟨f22, -⟩ := hF
  subst hRd
  have d22 : u 22 = _ := f22
  clear f22
  simp only [putFrom, Act.put, List.setIfInBounds_toArray, List.set_cons_succ, List.set_cons_zero, Nat.zero_add, Nat.reduceAdd, d22]
  clear d22
  go_wp2
  go_ret
  exact ⟨rfl, rfl⟩
end Go.Proofs.Ytlcgcckllecjpaa
