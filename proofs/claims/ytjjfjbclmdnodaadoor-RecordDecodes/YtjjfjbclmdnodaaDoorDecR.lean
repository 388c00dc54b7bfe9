/- The document's Decode. -/
import Derived.Test.YtjjfjbclmdnodaaDoorDm
import Derived.Test.YtjjfjbclmdnodaaDoorEncR
namespace Go.Proofs.YtjjfjbclmdnodaaDoor
open Go.RowKit Go.Maps
set_option maxRecDepth 100000
set_option linter.unusedSimpArgs false
set_option linter.unusedVariables false

set_option maxHeartbeats 40000000 in
theorem refDec_any (w : World) (v : Value) (b : List UInt8) (hx : BytesAt w v b) (hl : b.length ≤ 9223372036854775807) :
    Calls Tryd.prog 33 #[v] w fun e w' => ∃ sv, e = .returned (.tuple #[.agg #[.int .i64 (dec b).1.base, .int .i64 (dec b).1.fin, sv], .int .i64 (dec b).2.1, .int .i64 (dec b).2.2]) ∧ RecsAt w' sv (dec b).1.recs ∧ Turn [] w w' := by
  have HX := hide hx
  have hmx : maxLen = 9223372036854775807 := by simp [maxLen]
  have nil0 : ∀ Z, RecsAt Z (.slice none 0 0) [] := fun Z => ⟨none, 0, rfl, Nat.le_refl _, Nat.zero_le _, fun _ => rfl, fun j hj => absurd hj (Nat.not_lt_zero _)⟩
  have NIL := hide nil0
  clear nil0
  by_cases h8 : b.length < 8
  · have hd : dec b = (noBat, 0, 12) := by unfold dec; rw [if_pos h8]
    rw [hd]
    clear hd
    obtain ⟨a, c, rfl, hlc, hcm, hc⟩ := hx.form
    rw [hmx] at hcm
    clear hx hc
    go_enter Tryd.func33, Tryd.ntmps33
    go_wp2
    have hld := load_bat (w := (w.alloc (.cells #[.int .i64 0, .int .i64 0, .slice none 0 0] 53)).alloc (.cells #[.int .i64 0, .int .i64 0, .slice none 0 0] 53)) (((Turn.refl [] (w.alloc (.cells #[.int .i64 0, .int .i64 0, .slice none 0 0] 53))).alloc _).heap (heap_new w (.cells #[.int .i64 0, .int .i64 0, .slice none 0 0] 53)) (by simp))
    refine bodyPost_ret (v := .tuple #[.agg #[.int .i64 0, .int .i64 0, .slice none 0 0], .int .i64 0, .int .i64 12]) (by simp [results, Tryd.results33, asAddr, hld, Result.andThen]) rfl ?_
    exact ⟨_, rfl, NIL.out _, ((Turn.refl [] w).alloc _).alloc _⟩
  obtain ⟨n, hn⟩ : ∃ n, Bt.fourV b = n := ⟨_, rfl⟩
  have HN := hide hn
  have hx2 : BytesAt ((w.alloc (.cells #[.int .i64 0, .int .i64 0, .slice none 0 0] 53)).alloc (.cells #[.int .i64 0, .int .i64 0, .slice none 0 0] 53)) v b := hx.still (((Turn.refl [] w).alloc _).alloc _)
  obtain ⟨p, c, rfl, hlc, hcm, c0, c1, c2, c3⟩ := hx2.four (by omega)
  obtain ⟨b0, e0⟩ : ∃ x : Nat, (b.getD 0 0).toNat = x := ⟨_, rfl⟩
  obtain ⟨b1, e1⟩ : ∃ x : Nat, (b.getD 1 0).toNat = x := ⟨_, rfl⟩
  obtain ⟨b2, e2⟩ : ∃ x : Nat, (b.getD 2 0).toNat = x := ⟨_, rfl⟩
  obtain ⟨b3, e3⟩ : ∃ x : Nat, (b.getD 3 0).toNat = x := ⟨_, rfl⟩
  have l0 : b0 < 256 := by rw [← e0]; exact UInt8.toNat_lt _
  have l1 : b1 < 256 := by rw [← e1]; exact UInt8.toNat_lt _
  have l2 : b2 < 256 := by rw [← e2]; exact UInt8.toNat_lt _
  have l3 : b3 < 256 := by rw [← e3]; exact UInt8.toNat_lt _
  have hv : n = b0 * 16777216 + b1 * 65536 + b2 * 256 + b3 := by rw [← hn]; unfold Bt.fourV; rw [e0, e1, e2, e3]
  rw [e0] at c0
  rw [e1] at c1
  rw [e2] at c2
  rw [e3] at c3
  rw [hmx] at hcm
  have i0 : 0 < b.length := by omega
  have i1 : (1 : Int) < (b.length : Int) := by omega
  have i2 : (2 : Int) < (b.length : Int) := by omega
  have i3 : (3 : Int) < (b.length : Int) := by omega
  have i8 : ¬ ((b.length : Int) < 8) := by omega
  clear hx hx2 hn e0 e1 e2 e3
  go_enter Tryd.func33, Tryd.ntmps33
  go_wp2
  refine wp_region_loose (fun a b => a = b) (by kernel_rfl) (by kernel_rfl) (by kernel_rfl) (by kernel_rfl) rfl (fun _ => rfl) (fun _ _ _ h k => h.trans k) ?_
  apply Lo.runx 1 rfl rfl [] (by kernel_rfl) (fun _ => rfl)
  apply Exists.intro; apply And.intro
  · intro u w1 hR hF
    clear hF
    subst hR
    refine ⟨rfl, fun a ha K hK => ?_⟩
    have e0 := ha 0
    conv at e0 => rhs; whnf
    clear ha
    go_simp
    refine hK _ ?_; rfl
  apply Lo.runx 2 rfl rfl [0] (by kernel_rfl) (fun _ => rfl)
  apply Exists.intro; apply And.intro
  · intro u w1 hR hF
    obtain ⟨h0, -⟩ := hF
    subst hR
    refine ⟨rfl, fun a ha K hK => ?_⟩
    have e18 := (ha 18).trans h0
    clear ha h0
    go_simp
    refine hK _ ?_; rfl
  apply Lo.runx 3 rfl rfl [1] (by kernel_rfl) (fun _ => rfl)
  apply Exists.intro; apply And.intro
  · intro u w1 hR hF
    obtain ⟨h1, -⟩ := hF
    subst hR
    refine ⟨rfl, fun a ha K hK => ?_⟩
    have e19 := (ha 19).trans h1
    clear ha h1
    go_simp
    refine hK _ ?_; rfl
  apply Lo.runx 4 rfl rfl [2] (by kernel_rfl) (fun _ => rfl)
  apply Exists.intro; apply And.intro
  · intro u w1 hR hF
    obtain ⟨h2, -⟩ := hF
    subst hR
    refine ⟨rfl, fun a ha K hK => ?_⟩
    have e20 := (ha 20).trans h2
    clear ha h2
    go_simp
    refine hK _ ?_; rfl
  refine Lo.runv 5 rfl rfl [3] (.int .i64 ((b0 * 16777216 : Nat) : Int)) (by kernel_rfl) (fun u w1 hR hF => ?_) (fun _ => rfl) ?_
  · obtain ⟨h3, -⟩ := hF
    subst hR
    refine ⟨rfl, fun a ha K hK => ?_⟩
    have e21 := (ha 21).trans h3
    clear ha h3
    go_simp
    refine hK _ ?_
    rw [IntWalk.i64_left, IntWalk.i64_left, IntWalk.wrap64_in (b0 : Int) (by omega), IntWalk.wrap64_in _ (by omega)]; simp
  apply Lo.runx 6 rfl rfl [] (by kernel_rfl) (fun _ => rfl)
  apply Exists.intro; apply And.intro
  · intro u w1 hR hF
    clear hF
    subst hR
    refine ⟨rfl, fun a ha K hK => ?_⟩
    have e0 := ha 0
    conv at e0 => rhs; whnf
    clear ha
    go_simp
    refine hK _ ?_; rfl
  apply Lo.runx 7 rfl rfl [5] (by kernel_rfl) (fun _ => rfl)
  apply Exists.intro; apply And.intro
  · intro u w1 hR hF
    obtain ⟨h5, -⟩ := hF
    subst hR
    refine ⟨rfl, fun a ha K hK => ?_⟩
    have e23 := (ha 23).trans h5
    clear ha h5
    go_simp
    refine hK _ ?_; rfl
  apply Lo.runx 8 rfl rfl [6] (by kernel_rfl) (fun _ => rfl)
  apply Exists.intro; apply And.intro
  · intro u w1 hR hF
    obtain ⟨h6, -⟩ := hF
    subst hR
    refine ⟨rfl, fun a ha K hK => ?_⟩
    have e24 := (ha 24).trans h6
    clear ha h6
    go_simp
    refine hK _ ?_; rfl
  apply Lo.runx 9 rfl rfl [7] (by kernel_rfl) (fun _ => rfl)
  apply Exists.intro; apply And.intro
  · intro u w1 hR hF
    obtain ⟨h7, -⟩ := hF
    subst hR
    refine ⟨rfl, fun a ha K hK => ?_⟩
    have e25 := (ha 25).trans h7
    clear ha h7
    go_simp
    refine hK _ ?_; rfl
  refine Lo.runv 10 rfl rfl [8] (.int .i64 ((b1 * 65536 : Nat) : Int)) (by kernel_rfl) (fun u w1 hR hF => ?_) (fun _ => rfl) ?_
  · obtain ⟨h8, -⟩ := hF
    subst hR
    refine ⟨rfl, fun a ha K hK => ?_⟩
    have e26 := (ha 26).trans h8
    clear ha h8
    go_simp
    refine hK _ ?_
    rw [IntWalk.i64_left, IntWalk.i64_left, IntWalk.wrap64_in (b1 : Int) (by omega), IntWalk.wrap64_in _ (by omega)]; simp
  refine Lo.runv 11 rfl rfl [4, 9] (.int .i64 ((b0 * 16777216 + b1 * 65536 : Nat) : Int)) (by kernel_rfl) (fun u w1 hR hF => ?_) (fun _ => rfl) ?_
  · obtain ⟨h4, h9, -⟩ := hF
    subst hR
    refine ⟨rfl, fun a ha K hK => ?_⟩
    have e22 := (ha 22).trans h4
    have e27 := (ha 27).trans h9
    clear ha h4 h9
    go_simp
    refine hK _ ?_
    have hor := IntWalk.wrap64_in ((b0 * 16777216 + b1 * 65536 : Nat) : Int) (by omega)
    simpa [IntWalk.i64_left] using hor
  apply Lo.runx 12 rfl rfl [] (by kernel_rfl) (fun _ => rfl)
  apply Exists.intro; apply And.intro
  · intro u w1 hR hF
    clear hF
    subst hR
    refine ⟨rfl, fun a ha K hK => ?_⟩
    have e0 := ha 0
    conv at e0 => rhs; whnf
    clear ha
    go_simp
    refine hK _ ?_; rfl
  apply Lo.runx 13 rfl rfl [11] (by kernel_rfl) (fun _ => rfl)
  apply Exists.intro; apply And.intro
  · intro u w1 hR hF
    obtain ⟨h11, -⟩ := hF
    subst hR
    refine ⟨rfl, fun a ha K hK => ?_⟩
    have e29 := (ha 29).trans h11
    clear ha h11
    go_simp
    refine hK _ ?_; rfl
  apply Lo.runx 14 rfl rfl [12] (by kernel_rfl) (fun _ => rfl)
  apply Exists.intro; apply And.intro
  · intro u w1 hR hF
    obtain ⟨h12, -⟩ := hF
    subst hR
    refine ⟨rfl, fun a ha K hK => ?_⟩
    have e30 := (ha 30).trans h12
    clear ha h12
    go_simp
    refine hK _ ?_; rfl
  apply Lo.runx 15 rfl rfl [13] (by kernel_rfl) (fun _ => rfl)
  apply Exists.intro; apply And.intro
  · intro u w1 hR hF
    obtain ⟨h13, -⟩ := hF
    subst hR
    refine ⟨rfl, fun a ha K hK => ?_⟩
    have e31 := (ha 31).trans h13
    clear ha h13
    go_simp
    refine hK _ ?_; rfl
  refine Lo.runv 16 rfl rfl [14] (.int .i64 ((b2 * 256 : Nat) : Int)) (by kernel_rfl) (fun u w1 hR hF => ?_) (fun _ => rfl) ?_
  · obtain ⟨h14, -⟩ := hF
    subst hR
    refine ⟨rfl, fun a ha K hK => ?_⟩
    have e32 := (ha 32).trans h14
    clear ha h14
    go_simp
    refine hK _ ?_
    rw [IntWalk.i64_left, IntWalk.i64_left, IntWalk.wrap64_in (b2 : Int) (by omega), IntWalk.wrap64_in _ (by omega)]; simp
  refine Lo.runv 17 rfl rfl [10, 15] (.int .i64 ((b0 * 16777216 + b1 * 65536 + b2 * 256 : Nat) : Int)) (by kernel_rfl) (fun u w1 hR hF => ?_) (fun _ => rfl) ?_
  · obtain ⟨h10, h15, -⟩ := hF
    subst hR
    refine ⟨rfl, fun a ha K hK => ?_⟩
    have e28 := (ha 28).trans h10
    have e33 := (ha 33).trans h15
    clear ha h10 h15
    go_simp
    refine hK _ ?_
    have hor := IntWalk.wrap64_in ((b0 * 16777216 + b1 * 65536 + b2 * 256 : Nat) : Int) (by omega)
    simpa [IntWalk.i64_left] using hor
  apply Lo.runx 18 rfl rfl [] (by kernel_rfl) (fun _ => rfl)
  apply Exists.intro; apply And.intro
  · intro u w1 hR hF
    clear hF
    subst hR
    refine ⟨rfl, fun a ha K hK => ?_⟩
    have e0 := ha 0
    conv at e0 => rhs; whnf
    clear ha
    go_simp
    refine hK _ ?_; rfl
  apply Lo.runx 19 rfl rfl [17] (by kernel_rfl) (fun _ => rfl)
  apply Exists.intro; apply And.intro
  · intro u w1 hR hF
    obtain ⟨h17, -⟩ := hF
    subst hR
    refine ⟨rfl, fun a ha K hK => ?_⟩
    have e35 := (ha 35).trans h17
    clear ha h17
    go_simp
    refine hK _ ?_; rfl
  apply Lo.runx 20 rfl rfl [18] (by kernel_rfl) (fun _ => rfl)
  apply Exists.intro; apply And.intro
  · intro u w1 hR hF
    obtain ⟨h18, -⟩ := hF
    subst hR
    refine ⟨rfl, fun a ha K hK => ?_⟩
    have e36 := (ha 36).trans h18
    clear ha h18
    go_simp
    refine hK _ ?_; rfl
  apply Lo.runx 21 rfl rfl [19] (by kernel_rfl) (fun _ => rfl)
  apply Exists.intro; apply And.intro
  · intro u w1 hR hF
    obtain ⟨h19, -⟩ := hF
    subst hR
    refine ⟨rfl, fun a ha K hK => ?_⟩
    have e37 := (ha 37).trans h19
    clear ha h19
    go_simp
    refine hK _ ?_; rfl
  refine Lo.runv 22 rfl rfl [16, 20] (.int .i64 ((b0 * 16777216 + b1 * 65536 + b2 * 256 + b3 : Nat) : Int)) (by kernel_rfl) (fun u w1 hR hF => ?_) (fun _ => rfl) ?_
  · obtain ⟨h16, h20, -⟩ := hF
    subst hR
    refine ⟨rfl, fun a ha K hK => ?_⟩
    have e34 := (ha 34).trans h16
    have e38 := (ha 38).trans h20
    clear ha h16 h20
    go_simp
    refine hK _ ?_
    have hor := IntWalk.wrap64_in ((b0 * 16777216 + b1 * 65536 + b2 * 256 + b3 : Nat) : Int) (by omega)
    have h3 := IntWalk.wrap64_in (b3 : Int) (by omega)
    simpa [IntWalk.i64_left, h3] using hor
  apply Lo.runx 23 rfl rfl [21] (by kernel_rfl) (fun _ => rfl)
  apply Exists.intro; apply And.intro
  · intro u w1 hR hF
    obtain ⟨h21, -⟩ := hF
    subst hR
    refine ⟨rfl, fun a ha K hK => ?_⟩
    have e39 := (ha 39).trans h21
    clear ha h21
    go_simp
    refine hK _ ?_; rfl
  refine Lo.done [22] (fun u w1 hRd hSd hF => ?_)
  clear hSd
  obtain ⟨f22, -⟩ := hF
  subst hRd
  have d22 : u 22 = _ := f22
  clear f22
  simp only [putFrom, Act.put, List.setIfInBounds_toArray, List.set_cons_succ, List.set_cons_zero, Nat.zero_add, Nat.reduceAdd, d22]
  clear d22 c0 c1 c2 c3 i0 i1 i2 i3
  have hv' : (b0 : Int) * 16777216 + (b1 : Int) * 65536 + (b2 : Int) * 256 + (b3 : Int) = (n : Int) := by omega
  rw [hv']
  clear hv hv' l0 l1 l2 l3
  by_cases hs : n < 11
  · have hs' : (n : Int) < 11 := by omega
    have HDE : Hid (dec b = (noBat, 0, 3)) := by show _ = _; unfold dec; rw [if_neg h8, if_pos (.inl (by rw [HN.out]; omega))]
    go_wp2
    have hld := load_bat (w := ((w.alloc (.cells #[.int .i64 0, .int .i64 0, .slice none 0 0] 53)).alloc (.cells #[.int .i64 0, .int .i64 0, .slice none 0 0] 53)).drew) (((Turn.refl [] (w.alloc (.cells #[.int .i64 0, .int .i64 0, .slice none 0 0] 53))).alloc _).drew.heap (heap_new w (.cells #[.int .i64 0, .int .i64 0, .slice none 0 0] 53)) (by simp))
    refine bodyPost_ret (v := .tuple #[.agg #[.int .i64 0, .int .i64 0, .slice none 0 0], .int .i64 0, .int .i64 3]) (by simp [results, Tryd.results33, asAddr, hld, Result.andThen]) rfl ?_
    rw [HDE.out]
    exact ⟨_, rfl, NIL.out _, (((Turn.refl [] w).alloc _).alloc _).drew⟩
  by_cases hg : 6000 < n
  · have hs' : ¬ ((n : Int) < 11) := by omega
    have hg' : 6000 < (n : Int) := by omega
    have HDE : Hid (dec b = (noBat, 0, 3)) := by show _ = _; unfold dec; rw [if_neg h8, if_pos (.inr (by rw [HN.out]; omega))]
    go_wp2
    have hld := load_bat (w := ((w.alloc (.cells #[.int .i64 0, .int .i64 0, .slice none 0 0] 53)).alloc (.cells #[.int .i64 0, .int .i64 0, .slice none 0 0] 53)).drew) (((Turn.refl [] (w.alloc (.cells #[.int .i64 0, .int .i64 0, .slice none 0 0] 53))).alloc _).drew.heap (heap_new w (.cells #[.int .i64 0, .int .i64 0, .slice none 0 0] 53)) (by simp))
    refine bodyPost_ret (v := .tuple #[.agg #[.int .i64 0, .int .i64 0, .slice none 0 0], .int .i64 0, .int .i64 3]) (by simp [results, Tryd.results33, asAddr, hld, Result.andThen]) rfl ?_
    rw [HDE.out]
    exact ⟨_, rfl, NIL.out _, (((Turn.refl [] w).alloc _).alloc _).drew⟩
  by_cases hsh : b.length < n
  · have hs' : ¬ ((n : Int) < 11) := by omega
    have hg' : ¬ (6000 < (n : Int)) := by omega
    have hsh' : (b.length : Int) < (n : Int) := by omega
    have HDE : Hid (dec b = (noBat, 0, 12)) := by show _ = _; unfold dec; rw [if_neg h8, if_neg (by rw [HN.out]; omega), if_pos (by rw [HN.out]; omega)]
    go_wp2
    have hld := load_bat (w := ((w.alloc (.cells #[.int .i64 0, .int .i64 0, .slice none 0 0] 53)).alloc (.cells #[.int .i64 0, .int .i64 0, .slice none 0 0] 53)).drew) (((Turn.refl [] (w.alloc (.cells #[.int .i64 0, .int .i64 0, .slice none 0 0] 53))).alloc _).drew.heap (heap_new w (.cells #[.int .i64 0, .int .i64 0, .slice none 0 0] 53)) (by simp))
    refine bodyPost_ret (v := .tuple #[.agg #[.int .i64 0, .int .i64 0, .slice none 0 0], .int .i64 0, .int .i64 12]) (by simp [results, Tryd.results33, asAddr, hld, Result.andThen]) rfl ?_
    rw [HDE.out]
    exact ⟨_, rfl, NIL.out _, (((Turn.refl [] w).alloc _).alloc _).drew⟩
  have hmid : midB b = (b.take n).drop 8 := by unfold midB; rw [HN.out]
  have hml : ((b.take n).drop 8).length = n - 8 := by simp; omega
  have hsl : ∀ w, (Instr.slice 35 (.slice (some p) b.length c) (some (.int .i64 8)) (some (.int .i64 (n : Int))) none).run Tryd.prog w = .ok (.slice (advA (some p) 8 c) (n - 8) (c - 8)) w := fun w => by simpa using @run_from_to (some p) b.length c 8 n (by omega) (by omega) w
  have hst : ∀ w, (Instr.slice 35 (.slice (some p) b.length c) none (some (.int .i64 (n : Int))) none).run Tryd.prog w = .ok (.slice (some p) n c) w := fun w => @run_to (some p) b.length c n (by omega) w
  have htk : BytesAt w (.slice (some p) n c) (b.take n) := HX.out.take (by omega)
  have HTK := hide htk
  have hbm : ∀ Z, Turn [] w Z → BytesAt Z (.slice (advA (some p) 8 c) (n - 8) (c - 8)) ((b.take n).drop 8) := by
    intro Z hZ
    have h1 : (b.take n).length = n := by simp; omega
    have h2 := BytesAt.drop (n := 8) (by rw [h1]; exact htk) (by omega : 8 ≤ (b.take n).length)
    rw [h1] at h2
    exact h2.still hZ
  have HBM := hide hbm
  have hown : ∀ k ∈ (Value.slice (advA (some p) 8 c) (n - 8) (c - 8)).ownBlock, k < w.heap.size := fun k hk =>
    HX.out.lt (fun e => by rw [e] at h8; simp at h8) k (advA_own (l' := b.length) k hk)
  have HOWN := hide hown
  obtain ⟨l, hll⟩ : ∃ l, (b.take n).drop 8 = l := ⟨_, rfl⟩
  rw [hll] at HBM hml hmid
  obtain ⟨n0, t0, e0⟩ : ∃ n t, Bt.numR (l, false) = (n, t) := ⟨_, _, rfl⟩
  obtain ⟨n1, t1, e1⟩ : ∃ n t, Bt.numR t0 = (n, t) := ⟨_, _, rfl⟩
  obtain ⟨n2, t2, e2⟩ : ∃ n t, Bt.numR t1 = (n, t) := ⟨_, _, rfl⟩
  have g0 := numR_len (l, false)
  have g1 := numR_len t0
  have g2 := numR_len t1
  rw [e0] at g0
  rw [e1] at g1
  rw [e2] at g2
  simp only at g0 g1 g2
  have hb2 : Bt.bat2 l = (⟨n0, (n0 : Int) + n1, (Bt.recs2 n0 n2 t2).1⟩, (Bt.recs2 n0 n2 t2).2) := by
    unfold Bt.bat2
    simp only [e0, e1, e2]
  have HROK := hide (recs2_ok (n0 : Int) (by omega) (by omega) n2 t2 (by omega))
  have HD : Hid (dec b = if (Bt.recs2 n0 n2 t2).2 = false ∧ isB b ⟨n0, (n0 : Int) + n1, (Bt.recs2 n0 n2 t2).1⟩ then (⟨n0, (n0 : Int) + n1, (Bt.recs2 n0 n2 t2).1⟩, n, 0) else (noBat, 0, 3)) := by
    show _ = _
    rw [dec_two h8 (by rw [HN.out]; omega) (by rw [HN.out]; omega) (by rw [HN.out]; omega), hmid, hb2, HN.out]
  have E0 := hide e0
  have E1 := hide e1
  have E2 := hide e2
  clear hmid htk hbm hown hll hb2 e0 e1 e2
  obtain ⟨W0, hW0⟩ : ∃ W0, W0 = (((w.alloc (.cells #[.int .i64 0, .int .i64 0, .slice none 0 0] 53)).alloc (.cells #[.int .i64 0, .int .i64 0, .slice none 0 0] 53)).alloc (.cells #[.slice (advA (some p) 8 c) (n - 8) (c - 8), .bool false] 109)).drew := ⟨_, rfl⟩
  have ht0 : Turn [] w W0 := by rw [hW0]; exact ((((Turn.refl [] w).alloc _).alloc _).alloc _).drew
  have hs0 : w.heap.size + 2 < W0.heap.size := by rw [hW0]; simp
  have hr0 : W0.heap[w.heap.size]? = some (.cells #[.int .i64 0, .int .i64 0, .slice none 0 0] 53 (0, 0)) := by
    rw [hW0]; exact (((Turn.refl [] (w.alloc (.cells #[.int .i64 0, .int .i64 0, .slice none 0 0] 53))).alloc _).alloc _).drew.heap (heap_new w (.cells #[.int .i64 0, .int .i64 0, .slice none 0 0] 53)) (by simp)
  have hr1 : W0.heap[w.heap.size + 1]? = some (.cells #[.int .i64 0, .int .i64 0, .slice none 0 0] 53 (0, 0)) := by
    rw [hW0]
    have := heap_new (w.alloc (.cells #[.int .i64 0, .int .i64 0, .slice none 0 0] 53)) (.cells #[.int .i64 0, .int .i64 0, .slice none 0 0] 53)
    rw [World.size_alloc] at this
    exact ((Turn.refl [] ((w.alloc (.cells #[.int .i64 0, .int .i64 0, .slice none 0 0] 53)).alloc (.cells #[.int .i64 0, .int .i64 0, .slice none 0 0] 53))).alloc _).drew.heap this (by simp)
  have hk0 : TkAt W0 (w.heap.size + 2) (w.heap.size + 2) (l, false) := by
    refine ⟨_, ?_, HBM.out W0 ht0, fun _ k hk => by have := HOWN.out k hk; omega⟩
    rw [hW0]
    have := heap_new ((w.alloc (.cells #[.int .i64 0, .int .i64 0, .slice none 0 0] 53)).alloc (.cells #[.int .i64 0, .int .i64 0, .slice none 0 0] 53)) (.cells #[.slice (advA (some p) 8 c) (n - 8) (c - 8), .bool false] 109)
    exact (Turn.refl [] _).drew.heap (by simpa using this) (by simp)
  have HW0 := hide hW0
  have HT0 := hide ht0
  have HR0 := hide hr0
  have HR1 := hide hr1
  have HK0 := hide hk0
  clear hW0 ht0 hr0 hr1 hk0
  go_wp2_with fail
  rw [show ((((w.alloc (.cells #[.int .i64 0, .int .i64 0, .slice none 0 0] 53)).alloc (.cells #[.int .i64 0, .int .i64 0, .slice none 0 0] 53)).alloc (.cells #[.slice (advA (some p) 8 c) (n - 8) (c - 8), .bool false] 109)).drew) = W0 from HW0.out.symm, show w.heap.size + 1 + 1 = w.heap.size + 2 from rfl]
  refine (tnum_any W0 (w.heap.size + 2) (w.heap.size + 2) (l, false) HK0.out (Nat.le_refl _) (by simp only; omega)).mono ?_
  rintro e w1 ⟨rfl, hk1, ht1⟩
  rw [E0.out] at hk1 ⊢
  have hsz1 := ht1.size
  have hd1 : DSt W0 (w1.alloc (.cells #[.int .i64 (n0 : Int), .int .i64 0, .slice none 0 0] 53)) (w.heap.size + 2) w1.heap.size (n0 : Int) 0 (.slice none 0 0) [] t0 :=
    ⟨hs0, hsz1, heap_new w1 _, .inl ⟨rfl, rfl⟩, hk1.still ((Turn.refl [] w1).alloc _), ht1.trans (T := []) ((Turn.refl [] w1).alloc _) (by simp)⟩
  obtain ⟨X, hX⟩ : ∃ X, X = w1.heap.size := ⟨_, rfl⟩
  rw [← hX] at hd1 hsz1
  have HX1 := hide hX
  have HD1 := hide hd1
  clear hd1 ht1 hk1 hX
  obtain ⟨tb, htb⟩ : ∃ tb, w.heap.size + 2 = tb := ⟨_, rfl⟩
  rw [htb] at HD1
  have HTB := hide htb
  go_wp2
  rw [← HX1.out]
  obtain ⟨z1, z2⟩ := HD1.out.sz
  refine wp_region_loud 5 (Turn [tb]) (Turn []) (fun k w => match k with | 0 => (fun w => TkAt w tb tb t0) w | _ => (fun w => TkAt w tb tb t1) w) [3] (by kernel_rfl) (by kernel_rfl) (by kernel_rfl) (by kernel_rfl) (by kernel_rfl) (by kernel_rfl) (Nat.le_of_ble_eq_true rfl) (by decide) rfl (Turn.refl _) (fun _ _ _ h k => h.same k) (fun _ _ h => h.mono (by simp)) ?_ ?_ ?_
  · intro k a b hk hR
    match k, hk with
    | 0, hk =>
      have hk := (show (fun w => TkAt w tb tb t0) a from hk)
      dsimp only at hk
      show (fun w => TkAt w tb tb t0) b
      dsimp only
      exact hk.still hR
    | _ + 1, hk =>
      have hk := (show (fun w => TkAt w tb tb t1) a from hk)
      dsimp only at hk
      show (fun w => TkAt w tb tb t1) b
      dsimp only
      exact hk.still hR
  · show (fun w => TkAt w tb tb t0) _
    dsimp only
    exact HD1.out.rd.still ((Turn.refl [] _).drew)
  apply Lo.runx 1 rfl rfl [] (by kernel_rfl) (Turn.refl _)
  apply Exists.intro; apply And.intro
  · intro u w1 hR hF
    clear hF
    refine ⟨rfl, fun a ha K hK => ?_⟩
    have e8 := ha 8
    conv at e8 => rhs; whnf
    clear ha
    go_simp
    refine hK _ ?_; rfl
  apply Lo.runx 2 rfl rfl [0] (by kernel_rfl) (Turn.refl _)
  apply Exists.intro; apply And.intro
  · intro u w1 hR hF
    obtain ⟨h0, -⟩ := hF
    refine ⟨rfl, fun a ha K hK => ?_⟩
    have e60 := (ha 60).trans h0
    clear ha h0
    have c0 := cell_of (hR.heap (HD1.out.still (Turn.refl [] _).drew).x (by simp; omega)) 0
    simp at c0
    go_simp
    refine hK _ ?_; rfl
  apply Lo.runx 3 rfl rfl [] (by kernel_rfl) (Turn.refl _)
  apply Exists.intro; apply And.intro
  · intro u w1 hR hF
    clear hF
    refine ⟨rfl, fun a ha K hK => ?_⟩
    have e7 := ha 7
    conv at e7 => rhs; whnf
    clear ha
    go_simp
    refine hK _ ?_; rfl
  refine Lo.noisy 4 rfl 0 rfl [2] (fun x w' => x = .int .i64 n1) (by kernel_rfl) (fun x w w' h hR => ?_) (.inr (fun x w w' h hR => by exact h)) (fun u w1 hR hS hF => ?_) ?_
  · exact h
  · obtain ⟨h2, -⟩ := hF
    have hS := (show (fun w => TkAt w tb tb t0) w1 from hS)
    dsimp only at hS
    refine ⟨rfl, fun a ha K hK => ?_⟩
    have e62 := (ha 62).trans h2
    clear ha h2
    go_simp
    refine (tnum_any _ tb tb t0 hS (Nat.le_refl _) (by omega)).mono ?_
    rintro e w2 ⟨rfl, hr2, ht2⟩
    rw [E1.out] at hr2 ⊢
    exact hK _ _ rfl ht2 hr2
  refine Lo.runv 5 rfl rfl [1, 3] (.int .i64 ((n0 : Int) + n1)) (by kernel_rfl) (fun u w1 hR hF => ?_) (Turn.refl _) ?_
  · obtain ⟨h1, h3, -⟩ := hF
    refine ⟨rfl, fun a ha K hK => ?_⟩
    have e61 := (ha 61).trans h1
    have e63 : a.tmps.getD 63 undef = u 3 := ha 63
    have h3 := (show (fun x w' => x = .int .i64 n1) (u 3) w1 from h3)
    dsimp only at h3
    clear ha h1
    go_simp
    refine hK _ ?_
    rw [IntWalk.i64_left, IntWalk.wrap64_in _ (by omega)]
  refine Lo.done [4] (fun u w1 hRd hSd hF => ?_)
  have hSd := (show (fun w => TkAt w tb tb t1) w1 from hSd)
  dsimp only at hSd
  obtain ⟨f4, -⟩ := hF
  have d4 : u 4 = _ := f4
  clear f4
  simp only [List.take_succ_cons, List.take_zero, List.drop_succ_cons, List.drop_zero, putFrom, Act.put, List.setIfInBounds_toArray, List.set_cons_succ, List.set_cons_zero, Nat.zero_add, Nat.reduceAdd, d4]
  have HD2 := hide ((HD1.out.still (Turn.refl [] _).drew).num hRd hSd)
  clear hRd hSd d4 z1 z2
  obtain ⟨⟨c0, c1, c2⟩, f0, f1, f2⟩ := HD2.out.cells
  go_wp2_with fail
  have HD3 := hide (HD2.out.setF ((n0 : Int) + n1))
  refine (tnum_any _ tb tb t1 HD3.out.rd (Nat.le_refl _) (by omega)).mono ?_
  rintro e w2 ⟨rfl, hr2, ht2⟩
  rw [E2.out] at hr2 ⊢
  have HD4 := hide (HD3.out.num ht2 hr2)
  clear hr2 ht2 c0 c1 c2 f0 f1 f2
  go_wp2
  go_loopw [9] (fun nv wr => ∃ (q : Nat) (sv : Value) (rs : List Bt.Rec) (t : List UInt8 × Bool), nv = .int .i64 q ∧ q ≤ 1099511627776 ∧ DSt W0 wr tb X n0 ((n0 : Int) + n1) sv rs t ∧ Bt.recs2 n0 n2 t2 = (rs ++ (Bt.recs2 n0 q t).1, (Bt.recs2 n0 q t).2) ∧ rs.length + t.1.length ≤ l.length + (if t.2 then 1 else 0) ∧ t.1.length ≤ l.length) (fun nv _ => (intOf nv).toNat)
  case atStart => exact ⟨n2, _, [], t2, rfl, g2.2, HD4.out, rfl, by simp; omega, by omega⟩
  case round =>
    obtain ⟨q, sv, rs, t, rfl, hq40, hds, hrecs, hlen, htl⟩ := hrel
    have HDS := hide hds
    have HRC := hide hrecs
    have HLN := hide hlen
    obtain ⟨z1, z2⟩ := hds.sz
    obtain ⟨⟨c0, c1, c2⟩, f0, f1, f2⟩ := hds.cells
    obtain ⟨k1, y1⟩ := hds.rd.cells
    clear hds hrecs hlen
    by_cases hend : q = 0 ∨ t.2 = true
    · have HEND : Hid (Bt.recs2 n0 n2 t2 = (rs, t.2)) := by
        show _ = _
        rw [HRC.out]
        rcases hend with rfl | h
        · simp [Bt.recs2]
        · cases q <;> simp [Bt.recs2, h]
      have HCELLS : Hid (∀ Z, Turn [tb] W0 Z → (Z.cell? ⟨w.heap.size, 0, none⟩ = some (.int .i64 0) ∧ Z.cell? ⟨w.heap.size, 1, none⟩ = some (.int .i64 0) ∧ Z.cell? ⟨w.heap.size, 2, none⟩ = some (.slice none 0 0)) ∧ (Z.cell? ⟨w.heap.size + 1, 0, none⟩ = some (.int .i64 0) ∧ Z.cell? ⟨w.heap.size + 1, 1, none⟩ = some (.int .i64 0) ∧ Z.cell? ⟨w.heap.size + 1, 2, none⟩ = some (.slice none 0 0)) ∧ (Z.frozen? ⟨w.heap.size, 0, none⟩ = false ∧ Z.frozen? ⟨w.heap.size, 1, none⟩ = false ∧ Z.frozen? ⟨w.heap.size, 2, none⟩ = false)) := hide (fun Z hZ => by
        have g := hZ.heap HR0.out (by simp; omega)
        have g' := hZ.heap HR1.out (by simp; omega)
        exact ⟨⟨by simpa using cell_of g 0, by simpa using cell_of g 1, by simpa using cell_of g 2⟩, ⟨by simpa using cell_of g' 0, by simpa using cell_of g' 1, by simpa using cell_of g' 2⟩, frozen_of g 0, frozen_of g 1, frozen_of g 2⟩)
      have HFIN : Hid (∀ Z, Turn [tb] W0 Z → ∀ (p' q' : Int) (s' : Value), Turn [] w (((Z.setCell ⟨w.heap.size, 0, none⟩ (.int .i64 p')).setCell ⟨w.heap.size, 1, none⟩ (.int .i64 q')).setCell ⟨w.heap.size, 2, none⟩ s') ∧ Turn [w.heap.size] Z (((Z.setCell ⟨w.heap.size, 0, none⟩ (.int .i64 p')).setCell ⟨w.heap.size, 1, none⟩ (.int .i64 q')).setCell ⟨w.heap.size, 2, none⟩ s') ∧
          (((Z.setCell ⟨w.heap.size, 0, none⟩ (.int .i64 p')).setCell ⟨w.heap.size, 1, none⟩ (.int .i64 q')).setCell ⟨w.heap.size, 2, none⟩ s').heap[w.heap.size]? = some (.cells #[.int .i64 p', .int .i64 q', s'] 53 (0, 0))) := hide (fun Z hZ p' q' s' => by
        have ht : Turn [w.heap.size] Z (((Z.setCell ⟨w.heap.size, 0, none⟩ (.int .i64 p')).setCell ⟨w.heap.size, 1, none⟩ (.int .i64 q')).setCell ⟨w.heap.size, 2, none⟩ s') := (((Turn.refl _ _).setCell (.inl (by simp)) _).setCell (.inl (by simp)) _).setCell (.inl (by simp)) _
        have g := hZ.heap HR0.out (by simp; omega)
        exact ⟨(HT0.out.trans hZ (fun k hk => .inr (by simp at hk; omega))).trans ht (fun k hk => .inr (by simp at hk; omega)), ht, by simpa using heap_set (heap_set (heap_set g 0 (.int .i64 p')) 1 (.int .i64 q')) 2 s'⟩)
      have HTKW : Hid (∀ Z, Turn [tb] W0 Z → BytesAt Z (.slice (some p) n c) (b.take n)) := hide (fun Z hZ => HTK.out.still (HT0.out.trans hZ (fun k hk => .inr (by simp at hk; omega))))
      obtain ⟨tl, bd⟩ := t
      simp only at k1 HEND hend
      by_cases hq : q = 0
      · subst hq
        clear hend
        cases bd
        · obtain ⟨sa, sn, sc, hsv⟩ := HDS.out.row.some_slice
          subst hsv
          have hrs := HDS.out.row.recs (fun r hr => HROK.out r (by rw [HEND.out]; exact hr))
          have hbat : BatAt wr (.agg #[.int .i64 n0, .int .i64 ((n0 : Int) + n1), .slice sa sn sc]) ⟨(n0 : Int), (n0 : Int) + n1, rs⟩ := ⟨_, rfl, hrs, by simp only; omega, by simp only; omega, by simp only; omega, by simp only; omega⟩
          have HBAT := hide hbat
          have HRS0 := hide hrs
          have HOWNR := hide (fun k hk => (HDS.out.row.lt k hk).1)
          clear hbat hrs
          go_wp2_with fail
          refine (refEnc_any _ _ ⟨(n0 : Int), (n0 : Int) + n1, rs⟩ HBAT.out).mono ?_
          rintro e w4 ⟨v4, rfl, ht4, hr4⟩
          have HRS := hide (HRS0.out.still ht4)
          have HR4 := hide hr4.bytes
          have HTW4 := hide (HDS.out.turn.same (ht4.mono (T := [tb]) (by simp)))
          have HRDB : Hid (∀ Z, Turn [] w4 Z → TkAt Z tb tb (tl, false)) := hide (fun Z hZ => (HDS.out.rd.still ht4).still hZ)
          have HXC : Hid (∀ Z, Turn [] w4 Z → Z.cell? ⟨X, 0, none⟩ = some (.int .i64 n0) ∧ Z.cell? ⟨X, 1, none⟩ = some (.int .i64 ((n0 : Int) + n1)) ∧ Z.cell? ⟨X, 2, none⟩ = some (.slice sa sn sc)) := hide (fun Z hZ => ((HDS.out.still ht4).still hZ).cells.1)
          have HTKZ : Hid (∀ Z, Turn [] w4 Z → BytesAt Z (.slice (some p) n c) (b.take n)) := hide (fun Z hZ => HTKW.out Z ((HDS.out.turn.same (ht4.mono (T := [tb]) (by simp))).same (hZ.mono (T := [tb]) (by simp))))
          clear hr4 ht4 c0 c1 c2 f0 f1 f2 k1 y1
          obtain ⟨er, her⟩ : ∃ er, Bt.encErr ⟨(n0 : Int), (n0 : Int) + n1, rs⟩ = er := ⟨_, rfl⟩
          rw [her]
          have HER := hide her
          clear her
          by_cases h0 : er = 0
          · subst h0
            have hrb : encR ⟨(n0 : Int), (n0 : Int) + n1, rs⟩ = Bt.encB ⟨(n0 : Int), (n0 : Int) + n1, rs⟩ := by unfold encR; rw [if_pos HER.out]
            have h4 := HR4.out
            rw [hrb] at h4
            have H4 := hide h4
            clear hrb h4
            by_cases heq : Bt.encB ⟨(n0 : Int), (n0 : Int) + n1, rs⟩ = b.take n
            · have HEQ := hide heq
              clear heq
              go_wp2
              refine wp_region_loose (Turn []) (by kernel_rfl) (by kernel_rfl) (by kernel_rfl) (by kernel_rfl) rfl (Turn.refl _) (fun _ _ _ h k => h.same k) ?_
              apply Lo.runx 1 rfl rfl [] (by kernel_rfl) (Turn.refl _)
              apply Exists.intro; apply And.intro
              · intro u w1 hR hF
                clear hF
                refine ⟨rfl, fun a ha K hK => ?_⟩
                have e7 := ha 7
                conv at e7 => rhs; whnf
                clear ha
                go_simp
                refine hK _ ?_; rfl
              apply Lo.runx 2 rfl rfl [0] (by kernel_rfl) (Turn.refl _)
              apply Exists.intro; apply And.intro
              · intro u w1 hR hF
                obtain ⟨h0, -⟩ := hF
                refine ⟨rfl, fun a ha K hK => ?_⟩
                have e130 := (ha 130).trans h0
                clear ha h0
                go_simp
                refine hK _ ?_; rfl
              apply Lo.runx 3 rfl rfl [1] (by kernel_rfl) (Turn.refl _)
              apply Exists.intro; apply And.intro
              · intro u w1 hR hF
                obtain ⟨h1, -⟩ := hF
                refine ⟨rfl, fun a ha K hK => ?_⟩
                have e131 := (ha 131).trans h1
                clear ha h1
                go_simp
                refine hK _ ?_; rfl
              apply Lo.runx 4 rfl rfl [2] (by kernel_rfl) (Turn.refl _)
              apply Exists.intro; apply And.intro
              · intro u w1 hR hF
                obtain ⟨h2, -⟩ := hF
                refine ⟨rfl, fun a ha K hK => ?_⟩
                have e132 := (ha 132).trans h2
                clear ha h2
                have kb := (HRDB.out w1 ((Turn.refl [] _).drew.same hR)).cells.1
                go_simp
                refine hK _ ?_; rfl
              apply Lo.runx 5 rfl rfl [3] (by kernel_rfl) (Turn.refl _)
              apply Exists.intro; apply And.intro
              · intro u w1 hR hF
                obtain ⟨h3, -⟩ := hF
                refine ⟨rfl, fun a ha K hK => ?_⟩
                have e133 := (ha 133).trans h3
                clear ha h3
                go_simp
                refine hK _ ?_; rfl
              apply Lo.runx 6 rfl rfl [4] (by kernel_rfl) (Turn.refl _)
              apply Exists.intro; apply And.intro
              · intro u w1 hR hF
                obtain ⟨h4, -⟩ := hF
                refine ⟨.inl ⟨false, h4, rfl⟩, fun a ha K hK => ?_⟩
                have e13 := ha 13
                conv at e13 => rhs; whnf
                clear ha h4
                go_simp
                refine hK _ ?_; rfl
              apply Lo.runx 7 rfl rfl [4, 5] (by kernel_rfl) (Turn.refl _)
              apply Exists.intro; apply And.intro
              · intro u w1 hR hF
                obtain ⟨h4, h5, -⟩ := hF
                refine ⟨.inl ⟨false, h4, rfl⟩, fun a ha K hK => ?_⟩
                have e135 := (ha 135).trans h5
                clear ha h4 h5
                go_simp
                refine hK _ ?_; rfl
              apply Lo.runx 8 rfl rfl [4, 6] (by kernel_rfl) (Turn.refl _)
              apply Exists.intro; apply And.intro
              · intro u w1 hR hF
                obtain ⟨h4, h6, -⟩ := hF
                refine ⟨rfl, fun a ha K hK => ?_⟩
                have e134 := (ha 134).trans h4
                have e136 := (ha 136).trans h6
                clear ha h4 h6
                go_simp
                refine hK _ ?_; rfl
              apply Lo.runx 9 rfl rfl [7] (by kernel_rfl) (Turn.refl _)
              apply Exists.intro; apply And.intro
              · intro u w1 hR hF
                obtain ⟨h7, -⟩ := hF
                refine ⟨rfl, fun a ha K hK => ?_⟩
                have e137 := (ha 137).trans h7
                clear ha h7
                go_simp
                refine hK _ ?_; rfl
              apply Lo.runx 10 rfl rfl [8] (by kernel_rfl) (Turn.refl _)
              apply Exists.intro; apply And.intro
              · intro u w1 hR hF
                obtain ⟨h8, -⟩ := hF
                refine ⟨.inl ⟨false, h8, rfl⟩, fun a ha K hK => ?_⟩
                have e12 := ha 12
                conv at e12 => rhs; whnf
                clear ha h8
                go_simp
                refine hK _ ?_; rfl
              apply Lo.runx 11 rfl rfl [8, 9] (by kernel_rfl) (Turn.refl _)
              apply Exists.intro; apply And.intro
              · intro u w1 hR hF
                obtain ⟨h8, h9, -⟩ := hF
                refine ⟨.inl ⟨false, h8, rfl⟩, fun a ha K hK => ?_⟩
                have e139 := (ha 139).trans h9
                clear ha h8 h9
                have hcv := (H4.out.still ((Turn.refl [] _).drew.same hR)).conv
                go_simp
                refine hK _ ?_; rfl
              apply Lo.runx 12 rfl rfl [8] (by kernel_rfl) (Turn.refl _)
              apply Exists.intro; apply And.intro
              · intro u w1 hR hF
                obtain ⟨h8, -⟩ := hF
                refine ⟨.inl ⟨false, h8, rfl⟩, fun a ha K hK => ?_⟩
                have e0 := ha 0
                conv at e0 => rhs; whnf
                clear ha h8
                go_simp
                refine hK _ ?_; rfl
              apply Lo.runx 13 rfl rfl [8] (by kernel_rfl) (Turn.refl _)
              apply Exists.intro; apply And.intro
              · intro u w1 hR hF
                obtain ⟨h8, -⟩ := hF
                refine ⟨.inl ⟨false, h8, rfl⟩, fun a ha K hK => ?_⟩
                have e6 := ha 6
                conv at e6 => rhs; whnf
                clear ha h8
                go_simp
                refine hK _ ?_; rfl
              apply Lo.runx 14 rfl rfl [8, 11, 12] (by kernel_rfl) (Turn.refl _)
              apply Exists.intro; apply And.intro
              · intro u w1 hR hF
                obtain ⟨h8, h11, h12, -⟩ := hF
                refine ⟨.inl ⟨false, h8, rfl⟩, fun a ha K hK => ?_⟩
                have e141 := (ha 141).trans h11
                have e142 := (ha 142).trans h12
                clear ha h8 h11 h12
                go_simp
                refine hK _ ?_; rfl
              apply Lo.runx 15 rfl rfl [8, 13] (by kernel_rfl) (Turn.refl _)
              apply Exists.intro; apply And.intro
              · intro u w1 hR hF
                obtain ⟨h8, h13, -⟩ := hF
                refine ⟨.inl ⟨false, h8, rfl⟩, fun a ha K hK => ?_⟩
                have e143 := (ha 143).trans h13
                clear ha h8 h13
                have hcv := (HTKZ.out w1 ((Turn.refl [] _).drew.same hR)).conv
                go_simp
                refine hK _ ?_; rfl
              refine Lo.runv 16 rfl rfl [8, 10, 14] (.bool (false)) (by kernel_rfl) (fun u w1 hR hF => ?_) (Turn.refl _) ?_
              · obtain ⟨h8, h10, h14, -⟩ := hF
                refine ⟨.inl ⟨false, h8, rfl⟩, fun a ha K hK => ?_⟩
                have e140 := (ha 140).trans h10
                have e144 := (ha 144).trans h14
                clear ha h8 h10 h14
                go_simp
                refine hK _ ?_
                have hq0 := HEQ.out
                simp [hq0]
              apply Lo.runx 17 rfl rfl [8, 15] (by kernel_rfl) (Turn.refl _)
              apply Exists.intro; apply And.intro
              · intro u w1 hR hF
                obtain ⟨h8, h15, -⟩ := hF
                refine ⟨rfl, fun a ha K hK => ?_⟩
                have e138 := (ha 138).trans h8
                have e145 := (ha 145).trans h15
                clear ha h8 h15
                go_simp
                refine hK _ ?_; rfl
              refine Lo.done [16] (fun u w1 hRd hSd hF => ?_)
              clear hSd
              obtain ⟨f16, -⟩ := hF
              have d16 : u 16 = _ := f16
              clear f16
              simp only [putFrom, Act.put, List.setIfInBounds_toArray, List.set_cons_succ, List.set_cons_zero, Nat.zero_add, Nat.reduceAdd, d16]
              have htw4 : Turn [] w4 w1 := (Turn.refl [] w4).drew.same hRd
              have htw := HTW4.out.trans htw4 (fun k hk => .inl (by simp at hk))
              clear hRd
              obtain ⟨⟨r0, r1, r2⟩, ⟨v0, v1, v2⟩, ⟨q0, q1, q2⟩⟩ := HCELLS.out _ htw
              obtain ⟨x0, x1, x2⟩ := HXC.out _ htw4
              go_wp2
              have hf := HFIN.out _ htw (n0 : Int) ((n0 : Int) + n1) (.slice sa sn sc)
              have hld := load_bat hf.2.2
              refine bodyPost_ret (v := .tuple #[.agg #[.int .i64 n0, .int .i64 ((n0 : Int) + n1), .slice sa sn sc], .int .i64 n, .int .i64 0]) (by simp [results, Tryd.results33, asAddr, hld, Result.andThen]) rfl ?_
              have HDD : Hid (dec b = (⟨(n0 : Int), (n0 : Int) + n1, rs⟩, n, 0)) := by show _ = _; rw [HD.out, HEND.out, if_pos ⟨rfl, HER.out, by rw [HN.out]; exact HEQ.out⟩]
              rw [HDD.out]
              exact ⟨_, rfl, (HRS.out.still htw4).kept hf.2.1 (fun k hk _ => by have := (HOWNR.out k hk); simp; omega), hf.1⟩
            · have HEQ := hide heq
              clear heq
              go_wp2
              refine wp_region_loose (Turn []) (by kernel_rfl) (by kernel_rfl) (by kernel_rfl) (by kernel_rfl) rfl (Turn.refl _) (fun _ _ _ h k => h.same k) ?_
              apply Lo.runx 1 rfl rfl [] (by kernel_rfl) (Turn.refl _)
              apply Exists.intro; apply And.intro
              · intro u w1 hR hF
                clear hF
                refine ⟨rfl, fun a ha K hK => ?_⟩
                have e7 := ha 7
                conv at e7 => rhs; whnf
                clear ha
                go_simp
                refine hK _ ?_; rfl
              apply Lo.runx 2 rfl rfl [0] (by kernel_rfl) (Turn.refl _)
              apply Exists.intro; apply And.intro
              · intro u w1 hR hF
                obtain ⟨h0, -⟩ := hF
                refine ⟨rfl, fun a ha K hK => ?_⟩
                have e130 := (ha 130).trans h0
                clear ha h0
                go_simp
                refine hK _ ?_; rfl
              apply Lo.runx 3 rfl rfl [1] (by kernel_rfl) (Turn.refl _)
              apply Exists.intro; apply And.intro
              · intro u w1 hR hF
                obtain ⟨h1, -⟩ := hF
                refine ⟨rfl, fun a ha K hK => ?_⟩
                have e131 := (ha 131).trans h1
                clear ha h1
                go_simp
                refine hK _ ?_; rfl
              apply Lo.runx 4 rfl rfl [2] (by kernel_rfl) (Turn.refl _)
              apply Exists.intro; apply And.intro
              · intro u w1 hR hF
                obtain ⟨h2, -⟩ := hF
                refine ⟨rfl, fun a ha K hK => ?_⟩
                have e132 := (ha 132).trans h2
                clear ha h2
                have kb := (HRDB.out w1 ((Turn.refl [] _).drew.same hR)).cells.1
                go_simp
                refine hK _ ?_; rfl
              apply Lo.runx 5 rfl rfl [3] (by kernel_rfl) (Turn.refl _)
              apply Exists.intro; apply And.intro
              · intro u w1 hR hF
                obtain ⟨h3, -⟩ := hF
                refine ⟨rfl, fun a ha K hK => ?_⟩
                have e133 := (ha 133).trans h3
                clear ha h3
                go_simp
                refine hK _ ?_; rfl
              apply Lo.runx 6 rfl rfl [4] (by kernel_rfl) (Turn.refl _)
              apply Exists.intro; apply And.intro
              · intro u w1 hR hF
                obtain ⟨h4, -⟩ := hF
                refine ⟨.inl ⟨false, h4, rfl⟩, fun a ha K hK => ?_⟩
                have e13 := ha 13
                conv at e13 => rhs; whnf
                clear ha h4
                go_simp
                refine hK _ ?_; rfl
              apply Lo.runx 7 rfl rfl [4, 5] (by kernel_rfl) (Turn.refl _)
              apply Exists.intro; apply And.intro
              · intro u w1 hR hF
                obtain ⟨h4, h5, -⟩ := hF
                refine ⟨.inl ⟨false, h4, rfl⟩, fun a ha K hK => ?_⟩
                have e135 := (ha 135).trans h5
                clear ha h4 h5
                go_simp
                refine hK _ ?_; rfl
              apply Lo.runx 8 rfl rfl [4, 6] (by kernel_rfl) (Turn.refl _)
              apply Exists.intro; apply And.intro
              · intro u w1 hR hF
                obtain ⟨h4, h6, -⟩ := hF
                refine ⟨rfl, fun a ha K hK => ?_⟩
                have e134 := (ha 134).trans h4
                have e136 := (ha 136).trans h6
                clear ha h4 h6
                go_simp
                refine hK _ ?_; rfl
              apply Lo.runx 9 rfl rfl [7] (by kernel_rfl) (Turn.refl _)
              apply Exists.intro; apply And.intro
              · intro u w1 hR hF
                obtain ⟨h7, -⟩ := hF
                refine ⟨rfl, fun a ha K hK => ?_⟩
                have e137 := (ha 137).trans h7
                clear ha h7
                go_simp
                refine hK _ ?_; rfl
              apply Lo.runx 10 rfl rfl [8] (by kernel_rfl) (Turn.refl _)
              apply Exists.intro; apply And.intro
              · intro u w1 hR hF
                obtain ⟨h8, -⟩ := hF
                refine ⟨.inl ⟨false, h8, rfl⟩, fun a ha K hK => ?_⟩
                have e12 := ha 12
                conv at e12 => rhs; whnf
                clear ha h8
                go_simp
                refine hK _ ?_; rfl
              apply Lo.runx 11 rfl rfl [8, 9] (by kernel_rfl) (Turn.refl _)
              apply Exists.intro; apply And.intro
              · intro u w1 hR hF
                obtain ⟨h8, h9, -⟩ := hF
                refine ⟨.inl ⟨false, h8, rfl⟩, fun a ha K hK => ?_⟩
                have e139 := (ha 139).trans h9
                clear ha h8 h9
                have hcv := (H4.out.still ((Turn.refl [] _).drew.same hR)).conv
                go_simp
                refine hK _ ?_; rfl
              apply Lo.runx 12 rfl rfl [8] (by kernel_rfl) (Turn.refl _)
              apply Exists.intro; apply And.intro
              · intro u w1 hR hF
                obtain ⟨h8, -⟩ := hF
                refine ⟨.inl ⟨false, h8, rfl⟩, fun a ha K hK => ?_⟩
                have e0 := ha 0
                conv at e0 => rhs; whnf
                clear ha h8
                go_simp
                refine hK _ ?_; rfl
              apply Lo.runx 13 rfl rfl [8] (by kernel_rfl) (Turn.refl _)
              apply Exists.intro; apply And.intro
              · intro u w1 hR hF
                obtain ⟨h8, -⟩ := hF
                refine ⟨.inl ⟨false, h8, rfl⟩, fun a ha K hK => ?_⟩
                have e6 := ha 6
                conv at e6 => rhs; whnf
                clear ha h8
                go_simp
                refine hK _ ?_; rfl
              apply Lo.runx 14 rfl rfl [8, 11, 12] (by kernel_rfl) (Turn.refl _)
              apply Exists.intro; apply And.intro
              · intro u w1 hR hF
                obtain ⟨h8, h11, h12, -⟩ := hF
                refine ⟨.inl ⟨false, h8, rfl⟩, fun a ha K hK => ?_⟩
                have e141 := (ha 141).trans h11
                have e142 := (ha 142).trans h12
                clear ha h8 h11 h12
                go_simp
                refine hK _ ?_; rfl
              apply Lo.runx 15 rfl rfl [8, 13] (by kernel_rfl) (Turn.refl _)
              apply Exists.intro; apply And.intro
              · intro u w1 hR hF
                obtain ⟨h8, h13, -⟩ := hF
                refine ⟨.inl ⟨false, h8, rfl⟩, fun a ha K hK => ?_⟩
                have e143 := (ha 143).trans h13
                clear ha h8 h13
                have hcv := (HTKZ.out w1 ((Turn.refl [] _).drew.same hR)).conv
                go_simp
                refine hK _ ?_; rfl
              refine Lo.runv 16 rfl rfl [8, 10, 14] (.bool (true)) (by kernel_rfl) (fun u w1 hR hF => ?_) (Turn.refl _) ?_
              · obtain ⟨h8, h10, h14, -⟩ := hF
                refine ⟨.inl ⟨false, h8, rfl⟩, fun a ha K hK => ?_⟩
                have e140 := (ha 140).trans h10
                have e144 := (ha 144).trans h14
                clear ha h8 h10 h14
                go_simp
                refine hK _ ?_
                have hq0 := HEQ.out
                simp [hq0]
              apply Lo.runx 17 rfl rfl [8, 15] (by kernel_rfl) (Turn.refl _)
              apply Exists.intro; apply And.intro
              · intro u w1 hR hF
                obtain ⟨h8, h15, -⟩ := hF
                refine ⟨rfl, fun a ha K hK => ?_⟩
                have e138 := (ha 138).trans h8
                have e145 := (ha 145).trans h15
                clear ha h8 h15
                go_simp
                refine hK _ ?_; rfl
              refine Lo.done [16] (fun u w1 hRd hSd hF => ?_)
              clear hSd
              obtain ⟨f16, -⟩ := hF
              have d16 : u 16 = _ := f16
              clear f16
              simp only [putFrom, Act.put, List.setIfInBounds_toArray, List.set_cons_succ, List.set_cons_zero, Nat.zero_add, Nat.reduceAdd, d16]
              have htw4 : Turn [] w4 w1 := (Turn.refl [] w4).drew.same hRd
              have htw := HTW4.out.trans htw4 (fun k hk => .inl (by simp at hk))
              clear hRd
              obtain ⟨⟨r0, r1, r2⟩, ⟨v0, v1, v2⟩, ⟨q0, q1, q2⟩⟩ := HCELLS.out _ htw
              obtain ⟨x0, x1, x2⟩ := HXC.out _ htw4
              go_wp2
              have hf := HFIN.out _ htw 0 0 (.slice none 0 0)
              have hld := load_bat hf.2.2
              refine bodyPost_ret (v := .tuple #[.agg #[.int .i64 0, .int .i64 0, .slice none 0 0], .int .i64 0, .int .i64 3]) (by simp [results, Tryd.results33, asAddr, hld, Result.andThen]) rfl ?_
              have HDD : Hid (dec b = (noBat, 0, 3)) := by show _ = _; rw [HD.out, if_neg (fun h => HEQ.out (by have := h.2.2; rw [HEND.out, HN.out] at this; exact this))]
              rw [HDD.out]
              exact ⟨_, rfl, NIL.out _, hf.1⟩
          · have hnz : (er == 0) = false := by simpa using h0
            have HNZ := hide h0
            clear h0
            go_wp2
            refine wp_region_loose (Turn []) (by kernel_rfl) (by kernel_rfl) (by kernel_rfl) (by kernel_rfl) rfl (Turn.refl _) (fun _ _ _ h k => h.same k) ?_
            apply Lo.runx 1 rfl rfl [] (by kernel_rfl) (Turn.refl _)
            apply Exists.intro; apply And.intro
            · intro u w1 hR hF
              clear hF
              refine ⟨rfl, fun a ha K hK => ?_⟩
              have e7 := ha 7
              conv at e7 => rhs; whnf
              clear ha
              go_simp
              refine hK _ ?_; rfl
            apply Lo.runx 2 rfl rfl [0] (by kernel_rfl) (Turn.refl _)
            apply Exists.intro; apply And.intro
            · intro u w1 hR hF
              obtain ⟨h0, -⟩ := hF
              refine ⟨rfl, fun a ha K hK => ?_⟩
              have e130 := (ha 130).trans h0
              clear ha h0
              go_simp
              refine hK _ ?_; rfl
            apply Lo.runx 3 rfl rfl [1] (by kernel_rfl) (Turn.refl _)
            apply Exists.intro; apply And.intro
            · intro u w1 hR hF
              obtain ⟨h1, -⟩ := hF
              refine ⟨rfl, fun a ha K hK => ?_⟩
              have e131 := (ha 131).trans h1
              clear ha h1
              go_simp
              refine hK _ ?_; rfl
            apply Lo.runx 4 rfl rfl [2] (by kernel_rfl) (Turn.refl _)
            apply Exists.intro; apply And.intro
            · intro u w1 hR hF
              obtain ⟨h2, -⟩ := hF
              refine ⟨rfl, fun a ha K hK => ?_⟩
              have e132 := (ha 132).trans h2
              clear ha h2
              have kb := (HRDB.out w1 ((Turn.refl [] _).drew.same hR)).cells.1
              go_simp
              refine hK _ ?_; rfl
            apply Lo.runx 5 rfl rfl [3] (by kernel_rfl) (Turn.refl _)
            apply Exists.intro; apply And.intro
            · intro u w1 hR hF
              obtain ⟨h3, -⟩ := hF
              refine ⟨rfl, fun a ha K hK => ?_⟩
              have e133 := (ha 133).trans h3
              clear ha h3
              go_simp
              refine hK _ ?_; rfl
            apply Lo.runx 6 rfl rfl [4] (by kernel_rfl) (Turn.refl _)
            apply Exists.intro; apply And.intro
            · intro u w1 hR hF
              obtain ⟨h4, -⟩ := hF
              refine ⟨.inl ⟨false, h4, rfl⟩, fun a ha K hK => ?_⟩
              have e13 := ha 13
              conv at e13 => rhs; whnf
              clear ha h4
              go_simp
              refine hK _ ?_; rfl
            refine Lo.runv 7 rfl rfl [4, 5] (.bool (true)) (by kernel_rfl) (fun u w1 hR hF => ?_) (Turn.refl _) ?_
            · obtain ⟨h4, h5, -⟩ := hF
              refine ⟨.inl ⟨false, h4, rfl⟩, fun a ha K hK => ?_⟩
              have e135 := (ha 135).trans h5
              clear ha h4 h5
              go_simp
              refine hK _ ?_
              have hq0 := HNZ.out
              simp [hq0]
            apply Lo.runx 8 rfl rfl [4, 6] (by kernel_rfl) (Turn.refl _)
            apply Exists.intro; apply And.intro
            · intro u w1 hR hF
              obtain ⟨h4, h6, -⟩ := hF
              refine ⟨rfl, fun a ha K hK => ?_⟩
              have e134 := (ha 134).trans h4
              have e136 := (ha 136).trans h6
              clear ha h4 h6
              go_simp
              refine hK _ ?_; rfl
            apply Lo.runx 9 rfl rfl [7] (by kernel_rfl) (Turn.refl _)
            apply Exists.intro; apply And.intro
            · intro u w1 hR hF
              obtain ⟨h7, -⟩ := hF
              refine ⟨rfl, fun a ha K hK => ?_⟩
              have e137 := (ha 137).trans h7
              clear ha h7
              go_simp
              refine hK _ ?_; rfl
            refine Lo.pass 10 rfl rfl [8] (by kernel_rfl) (Turn.refl _) (fun u w1 hR hF => ?_) ?_
            · exact .inl ⟨true, hF.1, rfl⟩
            refine Lo.pass 11 rfl rfl [8] (by kernel_rfl) (Turn.refl _) (fun u w1 hR hF => ?_) ?_
            · exact .inl ⟨true, hF.1, rfl⟩
            refine Lo.pass 12 rfl rfl [8] (by kernel_rfl) (Turn.refl _) (fun u w1 hR hF => ?_) ?_
            · exact .inl ⟨true, hF.1, rfl⟩
            refine Lo.pass 13 rfl rfl [8] (by kernel_rfl) (Turn.refl _) (fun u w1 hR hF => ?_) ?_
            · exact .inl ⟨true, hF.1, rfl⟩
            refine Lo.pass 14 rfl rfl [8] (by kernel_rfl) (Turn.refl _) (fun u w1 hR hF => ?_) ?_
            · exact .inl ⟨true, hF.1, rfl⟩
            refine Lo.pass 15 rfl rfl [8] (by kernel_rfl) (Turn.refl _) (fun u w1 hR hF => ?_) ?_
            · exact .inl ⟨true, hF.1, rfl⟩
            refine Lo.pass 16 rfl rfl [8] (by kernel_rfl) (Turn.refl _) (fun u w1 hR hF => ?_) ?_
            · exact .inl ⟨true, hF.1, rfl⟩
            apply Lo.runx 17 rfl rfl [8, 15] (by kernel_rfl) (Turn.refl _)
            apply Exists.intro; apply And.intro
            · intro u w1 hR hF
              obtain ⟨h8, h15, -⟩ := hF
              refine ⟨rfl, fun a ha K hK => ?_⟩
              have e138 := (ha 138).trans h8
              have e145 := (ha 145).trans h15
              clear ha h8 h15
              go_simp
              refine hK _ ?_; rfl
            refine Lo.done [16] (fun u w1 hRd hSd hF => ?_)
            clear hSd
            obtain ⟨f16, -⟩ := hF
            have d16 : u 16 = _ := f16
            clear f16
            simp only [putFrom, Act.put, List.setIfInBounds_toArray, List.set_cons_succ, List.set_cons_zero, Nat.zero_add, Nat.reduceAdd, d16]
            have htw4 : Turn [] w4 w1 := (Turn.refl [] w4).drew.same hRd
            have htw := HTW4.out.trans htw4 (fun k hk => .inl (by simp at hk))
            clear hRd
            obtain ⟨⟨r0, r1, r2⟩, ⟨v0, v1, v2⟩, ⟨q0, q1, q2⟩⟩ := HCELLS.out _ htw
            obtain ⟨x0, x1, x2⟩ := HXC.out _ htw4
            go_wp2
            have hf := HFIN.out _ htw 0 0 (.slice none 0 0)
            have hld := load_bat hf.2.2
            refine bodyPost_ret (v := .tuple #[.agg #[.int .i64 0, .int .i64 0, .slice none 0 0], .int .i64 0, .int .i64 3]) (by simp [results, Tryd.results33, asAddr, hld, Result.andThen]) rfl ?_
            have HDD : Hid (dec b = (noBat, 0, 3)) := by show _ = _; rw [HD.out, if_neg (fun h => HNZ.out (by have := h.2.1; rw [HEND.out] at this; exact HER.out.symm.trans this))]
            rw [HDD.out]
            exact ⟨_, rfl, NIL.out _, hf.1⟩
        · obtain ⟨sa, sn, sc, hsv⟩ := HDS.out.row.some_slice
          subst hsv
          have hrs := HDS.out.row.recs (fun r hr => HROK.out r (by rw [HEND.out]; exact hr))
          have hbat : BatAt wr (.agg #[.int .i64 n0, .int .i64 ((n0 : Int) + n1), .slice sa sn sc]) ⟨(n0 : Int), (n0 : Int) + n1, rs⟩ := ⟨_, rfl, hrs, by simp only; omega, by simp only; omega, by simp only; omega, by simp only; omega⟩
          have HBAT := hide hbat
          have HRS0 := hide hrs
          have HOWNR := hide (fun k hk => (HDS.out.row.lt k hk).1)
          clear hbat hrs
          go_wp2_with fail
          refine (refEnc_any _ _ ⟨(n0 : Int), (n0 : Int) + n1, rs⟩ HBAT.out).mono ?_
          rintro e w4 ⟨v4, rfl, ht4, hr4⟩
          have HRS := hide (HRS0.out.still ht4)
          have HR4 := hide hr4.bytes
          have HTW4 := hide (HDS.out.turn.same (ht4.mono (T := [tb]) (by simp)))
          have HRDB : Hid (∀ Z, Turn [] w4 Z → TkAt Z tb tb (tl, true)) := hide (fun Z hZ => (HDS.out.rd.still ht4).still hZ)
          have HXC : Hid (∀ Z, Turn [] w4 Z → Z.cell? ⟨X, 0, none⟩ = some (.int .i64 n0) ∧ Z.cell? ⟨X, 1, none⟩ = some (.int .i64 ((n0 : Int) + n1)) ∧ Z.cell? ⟨X, 2, none⟩ = some (.slice sa sn sc)) := hide (fun Z hZ => ((HDS.out.still ht4).still hZ).cells.1)
          have HTKZ : Hid (∀ Z, Turn [] w4 Z → BytesAt Z (.slice (some p) n c) (b.take n)) := hide (fun Z hZ => HTKW.out Z ((HDS.out.turn.same (ht4.mono (T := [tb]) (by simp))).same (hZ.mono (T := [tb]) (by simp))))
          clear hr4 ht4 c0 c1 c2 f0 f1 f2 k1 y1
          obtain ⟨er, her⟩ : ∃ er, Bt.encErr ⟨(n0 : Int), (n0 : Int) + n1, rs⟩ = er := ⟨_, rfl⟩
          rw [her]
          have HER := hide her
          clear her
          go_wp2
          refine wp_region_loose (Turn []) (by kernel_rfl) (by kernel_rfl) (by kernel_rfl) (by kernel_rfl) rfl (Turn.refl _) (fun _ _ _ h k => h.same k) ?_
          apply Lo.runx 1 rfl rfl [] (by kernel_rfl) (Turn.refl _)
          apply Exists.intro; apply And.intro
          · intro u w1 hR hF
            clear hF
            refine ⟨rfl, fun a ha K hK => ?_⟩
            have e7 := ha 7
            conv at e7 => rhs; whnf
            clear ha
            go_simp
            refine hK _ ?_; rfl
          apply Lo.runx 2 rfl rfl [0] (by kernel_rfl) (Turn.refl _)
          apply Exists.intro; apply And.intro
          · intro u w1 hR hF
            obtain ⟨h0, -⟩ := hF
            refine ⟨rfl, fun a ha K hK => ?_⟩
            have e130 := (ha 130).trans h0
            clear ha h0
            go_simp
            refine hK _ ?_; rfl
          apply Lo.runx 3 rfl rfl [1] (by kernel_rfl) (Turn.refl _)
          apply Exists.intro; apply And.intro
          · intro u w1 hR hF
            obtain ⟨h1, -⟩ := hF
            refine ⟨rfl, fun a ha K hK => ?_⟩
            have e131 := (ha 131).trans h1
            clear ha h1
            go_simp
            refine hK _ ?_; rfl
          apply Lo.runx 4 rfl rfl [2] (by kernel_rfl) (Turn.refl _)
          apply Exists.intro; apply And.intro
          · intro u w1 hR hF
            obtain ⟨h2, -⟩ := hF
            refine ⟨rfl, fun a ha K hK => ?_⟩
            have e132 := (ha 132).trans h2
            clear ha h2
            have kb := (HRDB.out w1 ((Turn.refl [] _).drew.same hR)).cells.1
            go_simp
            refine hK _ ?_; rfl
          apply Lo.runx 5 rfl rfl [3] (by kernel_rfl) (Turn.refl _)
          apply Exists.intro; apply And.intro
          · intro u w1 hR hF
            obtain ⟨h3, -⟩ := hF
            refine ⟨rfl, fun a ha K hK => ?_⟩
            have e133 := (ha 133).trans h3
            clear ha h3
            go_simp
            refine hK _ ?_; rfl
          refine Lo.pass 6 rfl rfl [4] (by kernel_rfl) (Turn.refl _) (fun u w1 hR hF => ?_) ?_
          · exact .inl ⟨true, hF.1, rfl⟩
          refine Lo.pass 7 rfl rfl [4] (by kernel_rfl) (Turn.refl _) (fun u w1 hR hF => ?_) ?_
          · exact .inl ⟨true, hF.1, rfl⟩
          apply Lo.runx 8 rfl rfl [4, 6] (by kernel_rfl) (Turn.refl _)
          apply Exists.intro; apply And.intro
          · intro u w1 hR hF
            obtain ⟨h4, h6, -⟩ := hF
            refine ⟨rfl, fun a ha K hK => ?_⟩
            have e134 := (ha 134).trans h4
            have e136 := (ha 136).trans h6
            clear ha h4 h6
            go_simp
            refine hK _ ?_; rfl
          apply Lo.runx 9 rfl rfl [7] (by kernel_rfl) (Turn.refl _)
          apply Exists.intro; apply And.intro
          · intro u w1 hR hF
            obtain ⟨h7, -⟩ := hF
            refine ⟨rfl, fun a ha K hK => ?_⟩
            have e137 := (ha 137).trans h7
            clear ha h7
            go_simp
            refine hK _ ?_; rfl
          refine Lo.pass 10 rfl rfl [8] (by kernel_rfl) (Turn.refl _) (fun u w1 hR hF => ?_) ?_
          · exact .inl ⟨true, hF.1, rfl⟩
          refine Lo.pass 11 rfl rfl [8] (by kernel_rfl) (Turn.refl _) (fun u w1 hR hF => ?_) ?_
          · exact .inl ⟨true, hF.1, rfl⟩
          refine Lo.pass 12 rfl rfl [8] (by kernel_rfl) (Turn.refl _) (fun u w1 hR hF => ?_) ?_
          · exact .inl ⟨true, hF.1, rfl⟩
          refine Lo.pass 13 rfl rfl [8] (by kernel_rfl) (Turn.refl _) (fun u w1 hR hF => ?_) ?_
          · exact .inl ⟨true, hF.1, rfl⟩
          refine Lo.pass 14 rfl rfl [8] (by kernel_rfl) (Turn.refl _) (fun u w1 hR hF => ?_) ?_
          · exact .inl ⟨true, hF.1, rfl⟩
          refine Lo.pass 15 rfl rfl [8] (by kernel_rfl) (Turn.refl _) (fun u w1 hR hF => ?_) ?_
          · exact .inl ⟨true, hF.1, rfl⟩
          refine Lo.pass 16 rfl rfl [8] (by kernel_rfl) (Turn.refl _) (fun u w1 hR hF => ?_) ?_
          · exact .inl ⟨true, hF.1, rfl⟩
          apply Lo.runx 17 rfl rfl [8, 15] (by kernel_rfl) (Turn.refl _)
          apply Exists.intro; apply And.intro
          · intro u w1 hR hF
            obtain ⟨h8, h15, -⟩ := hF
            refine ⟨rfl, fun a ha K hK => ?_⟩
            have e138 := (ha 138).trans h8
            have e145 := (ha 145).trans h15
            clear ha h8 h15
            go_simp
            refine hK _ ?_; rfl
          refine Lo.done [16] (fun u w1 hRd hSd hF => ?_)
          clear hSd
          obtain ⟨f16, -⟩ := hF
          have d16 : u 16 = _ := f16
          clear f16
          simp only [putFrom, Act.put, List.setIfInBounds_toArray, List.set_cons_succ, List.set_cons_zero, Nat.zero_add, Nat.reduceAdd, d16]
          have htw4 : Turn [] w4 w1 := (Turn.refl [] w4).drew.same hRd
          have htw := HTW4.out.trans htw4 (fun k hk => .inl (by simp at hk))
          clear hRd
          obtain ⟨⟨r0, r1, r2⟩, ⟨v0, v1, v2⟩, ⟨q0, q1, q2⟩⟩ := HCELLS.out _ htw
          obtain ⟨x0, x1, x2⟩ := HXC.out _ htw4
          go_wp2
          have hf := HFIN.out _ htw 0 0 (.slice none 0 0)
          have hld := load_bat hf.2.2
          refine bodyPost_ret (v := .tuple #[.agg #[.int .i64 0, .int .i64 0, .slice none 0 0], .int .i64 0, .int .i64 3]) (by simp [results, Tryd.results33, asAddr, hld, Result.andThen]) rfl ?_
          have HDD : Hid (dec b = (noBat, 0, 3)) := by show _ = _; rw [HD.out, if_neg (fun h => by rw [HEND.out] at h; exact absurd h.1 (by simp))]
          rw [HDD.out]
          exact ⟨_, rfl, NIL.out _, hf.1⟩
      · have hbd : bd = true := by rcases hend with h | h; exact absurd h hq; exact h
        subst hbd
        have hqp : (0 : Int) < (q : Int) := by omega
        clear hend hq
        obtain ⟨sa, sn, sc, hsv⟩ := HDS.out.row.some_slice
        subst hsv
        have hrs := HDS.out.row.recs (fun r hr => HROK.out r (by rw [HEND.out]; exact hr))
        have hbat : BatAt wr (.agg #[.int .i64 n0, .int .i64 ((n0 : Int) + n1), .slice sa sn sc]) ⟨(n0 : Int), (n0 : Int) + n1, rs⟩ := ⟨_, rfl, hrs, by simp only; omega, by simp only; omega, by simp only; omega, by simp only; omega⟩
        have HBAT := hide hbat
        have HRS0 := hide hrs
        have HOWNR := hide (fun k hk => (HDS.out.row.lt k hk).1)
        clear hbat hrs
        go_wp2_with fail
        refine (refEnc_any _ _ ⟨(n0 : Int), (n0 : Int) + n1, rs⟩ HBAT.out).mono ?_
        rintro e w4 ⟨v4, rfl, ht4, hr4⟩
        have HRS := hide (HRS0.out.still ht4)
        have HR4 := hide hr4.bytes
        have HTW4 := hide (HDS.out.turn.same (ht4.mono (T := [tb]) (by simp)))
        have HRDB : Hid (∀ Z, Turn [] w4 Z → TkAt Z tb tb (tl, true)) := hide (fun Z hZ => (HDS.out.rd.still ht4).still hZ)
        have HXC : Hid (∀ Z, Turn [] w4 Z → Z.cell? ⟨X, 0, none⟩ = some (.int .i64 n0) ∧ Z.cell? ⟨X, 1, none⟩ = some (.int .i64 ((n0 : Int) + n1)) ∧ Z.cell? ⟨X, 2, none⟩ = some (.slice sa sn sc)) := hide (fun Z hZ => ((HDS.out.still ht4).still hZ).cells.1)
        have HTKZ : Hid (∀ Z, Turn [] w4 Z → BytesAt Z (.slice (some p) n c) (b.take n)) := hide (fun Z hZ => HTKW.out Z ((HDS.out.turn.same (ht4.mono (T := [tb]) (by simp))).same (hZ.mono (T := [tb]) (by simp))))
        clear hr4 ht4 c0 c1 c2 f0 f1 f2 k1 y1
        obtain ⟨er, her⟩ : ∃ er, Bt.encErr ⟨(n0 : Int), (n0 : Int) + n1, rs⟩ = er := ⟨_, rfl⟩
        rw [her]
        have HER := hide her
        clear her
        go_wp2
        refine wp_region_loose (Turn []) (by kernel_rfl) (by kernel_rfl) (by kernel_rfl) (by kernel_rfl) rfl (Turn.refl _) (fun _ _ _ h k => h.same k) ?_
        apply Lo.runx 1 rfl rfl [] (by kernel_rfl) (Turn.refl _)
        apply Exists.intro; apply And.intro
        · intro u w1 hR hF
          clear hF
          refine ⟨rfl, fun a ha K hK => ?_⟩
          have e7 := ha 7
          conv at e7 => rhs; whnf
          clear ha
          go_simp
          refine hK _ ?_; rfl
        apply Lo.runx 2 rfl rfl [0] (by kernel_rfl) (Turn.refl _)
        apply Exists.intro; apply And.intro
        · intro u w1 hR hF
          obtain ⟨h0, -⟩ := hF
          refine ⟨rfl, fun a ha K hK => ?_⟩
          have e130 := (ha 130).trans h0
          clear ha h0
          go_simp
          refine hK _ ?_; rfl
        apply Lo.runx 3 rfl rfl [1] (by kernel_rfl) (Turn.refl _)
        apply Exists.intro; apply And.intro
        · intro u w1 hR hF
          obtain ⟨h1, -⟩ := hF
          refine ⟨rfl, fun a ha K hK => ?_⟩
          have e131 := (ha 131).trans h1
          clear ha h1
          go_simp
          refine hK _ ?_; rfl
        apply Lo.runx 4 rfl rfl [2] (by kernel_rfl) (Turn.refl _)
        apply Exists.intro; apply And.intro
        · intro u w1 hR hF
          obtain ⟨h2, -⟩ := hF
          refine ⟨rfl, fun a ha K hK => ?_⟩
          have e132 := (ha 132).trans h2
          clear ha h2
          have kb := (HRDB.out w1 ((Turn.refl [] _).drew.same hR)).cells.1
          go_simp
          refine hK _ ?_; rfl
        apply Lo.runx 5 rfl rfl [3] (by kernel_rfl) (Turn.refl _)
        apply Exists.intro; apply And.intro
        · intro u w1 hR hF
          obtain ⟨h3, -⟩ := hF
          refine ⟨rfl, fun a ha K hK => ?_⟩
          have e133 := (ha 133).trans h3
          clear ha h3
          go_simp
          refine hK _ ?_; rfl
        refine Lo.pass 6 rfl rfl [4] (by kernel_rfl) (Turn.refl _) (fun u w1 hR hF => ?_) ?_
        · exact .inl ⟨true, hF.1, rfl⟩
        refine Lo.pass 7 rfl rfl [4] (by kernel_rfl) (Turn.refl _) (fun u w1 hR hF => ?_) ?_
        · exact .inl ⟨true, hF.1, rfl⟩
        apply Lo.runx 8 rfl rfl [4, 6] (by kernel_rfl) (Turn.refl _)
        apply Exists.intro; apply And.intro
        · intro u w1 hR hF
          obtain ⟨h4, h6, -⟩ := hF
          refine ⟨rfl, fun a ha K hK => ?_⟩
          have e134 := (ha 134).trans h4
          have e136 := (ha 136).trans h6
          clear ha h4 h6
          go_simp
          refine hK _ ?_; rfl
        apply Lo.runx 9 rfl rfl [7] (by kernel_rfl) (Turn.refl _)
        apply Exists.intro; apply And.intro
        · intro u w1 hR hF
          obtain ⟨h7, -⟩ := hF
          refine ⟨rfl, fun a ha K hK => ?_⟩
          have e137 := (ha 137).trans h7
          clear ha h7
          go_simp
          refine hK _ ?_; rfl
        refine Lo.pass 10 rfl rfl [8] (by kernel_rfl) (Turn.refl _) (fun u w1 hR hF => ?_) ?_
        · exact .inl ⟨true, hF.1, rfl⟩
        refine Lo.pass 11 rfl rfl [8] (by kernel_rfl) (Turn.refl _) (fun u w1 hR hF => ?_) ?_
        · exact .inl ⟨true, hF.1, rfl⟩
        refine Lo.pass 12 rfl rfl [8] (by kernel_rfl) (Turn.refl _) (fun u w1 hR hF => ?_) ?_
        · exact .inl ⟨true, hF.1, rfl⟩
        refine Lo.pass 13 rfl rfl [8] (by kernel_rfl) (Turn.refl _) (fun u w1 hR hF => ?_) ?_
        · exact .inl ⟨true, hF.1, rfl⟩
        refine Lo.pass 14 rfl rfl [8] (by kernel_rfl) (Turn.refl _) (fun u w1 hR hF => ?_) ?_
        · exact .inl ⟨true, hF.1, rfl⟩
        refine Lo.pass 15 rfl rfl [8] (by kernel_rfl) (Turn.refl _) (fun u w1 hR hF => ?_) ?_
        · exact .inl ⟨true, hF.1, rfl⟩
        refine Lo.pass 16 rfl rfl [8] (by kernel_rfl) (Turn.refl _) (fun u w1 hR hF => ?_) ?_
        · exact .inl ⟨true, hF.1, rfl⟩
        apply Lo.runx 17 rfl rfl [8, 15] (by kernel_rfl) (Turn.refl _)
        apply Exists.intro; apply And.intro
        · intro u w1 hR hF
          obtain ⟨h8, h15, -⟩ := hF
          refine ⟨rfl, fun a ha K hK => ?_⟩
          have e138 := (ha 138).trans h8
          have e145 := (ha 145).trans h15
          clear ha h8 h15
          go_simp
          refine hK _ ?_; rfl
        refine Lo.done [16] (fun u w1 hRd hSd hF => ?_)
        clear hSd
        obtain ⟨f16, -⟩ := hF
        have d16 : u 16 = _ := f16
        clear f16
        simp only [putFrom, Act.put, List.setIfInBounds_toArray, List.set_cons_succ, List.set_cons_zero, Nat.zero_add, Nat.reduceAdd, d16]
        have htw4 : Turn [] w4 w1 := (Turn.refl [] w4).drew.same hRd
        have htw := HTW4.out.trans htw4 (fun k hk => .inl (by simp at hk))
        clear hRd
        obtain ⟨⟨r0, r1, r2⟩, ⟨v0, v1, v2⟩, ⟨q0, q1, q2⟩⟩ := HCELLS.out _ htw
        obtain ⟨x0, x1, x2⟩ := HXC.out _ htw4
        go_wp2
        have hf := HFIN.out _ htw 0 0 (.slice none 0 0)
        have hld := load_bat hf.2.2
        refine bodyPost_ret (v := .tuple #[.agg #[.int .i64 0, .int .i64 0, .slice none 0 0], .int .i64 0, .int .i64 3]) (by simp [results, Tryd.results33, asAddr, hld, Result.andThen]) rfl ?_
        have HDD : Hid (dec b = (noBat, 0, 3)) := by show _ = _; rw [HD.out, if_neg (fun h => by rw [HEND.out] at h; exact absurd h.1 (by simp))]
        rw [HDD.out]
        exact ⟨_, rfl, NIL.out _, hf.1⟩
    · obtain ⟨q', rfl⟩ : ∃ q', q = q' + 1 := ⟨q - 1, by omega⟩
      have ht2 : t.2 = false := by simpa using fun h => hend (.inr h)
      rw [ht2] at k1
      have hqp : (0 : Int) < ((q' + 1 : Nat) : Int) := by omega
      clear hend
      obtain ⟨m0, s0, a0⟩ : ∃ n t', Bt.numR t = (n, t') := ⟨_, _, rfl⟩
      obtain ⟨m1, s1, a1⟩ : ∃ n t', Bt.numR s0 = (n, t') := ⟨_, _, rfl⟩
      obtain ⟨m2, s2, a2⟩ : ∃ n t', Bt.numR s1 = (n, t') := ⟨_, _, rfl⟩
      have j0 := numR_len t
      have j1 := numR_len s0
      have j2 := numR_len s1
      rw [a0] at j0
      rw [a1] at j1
      rw [a2] at j2
      simp only at j0 j1 j2
      have A0 := hide a0
      have A1 := hide a1
      have A2 := hide a2
      clear a0 a1 a2
      go_wp2_with fail
      refine wp_region_loud 9 (Turn [tb]) (Turn []) (fun k w => match k with | 0 => (fun w => TkAt w tb tb t) w | 1 => (fun w => TkAt w tb tb s0) w | _ => (fun w => TkAt w tb tb s1) w) [3, 6] (by kernel_rfl) (by kernel_rfl) (by kernel_rfl) (by kernel_rfl) (by kernel_rfl) (by kernel_rfl) (Nat.le_of_ble_eq_true rfl) (by decide) rfl (Turn.refl _) (fun _ _ _ h k => h.same k) (fun _ _ h => h.mono (by simp)) ?_ ?_ ?_
      · intro k a b hk hR
        match k, hk with
        | 0, hk =>
          have hk := (show (fun w => TkAt w tb tb t) a from hk)
          dsimp only at hk
          show (fun w => TkAt w tb tb t) b
          dsimp only
          exact hk.still hR
        | 1, hk =>
          have hk := (show (fun w => TkAt w tb tb s0) a from hk)
          dsimp only at hk
          show (fun w => TkAt w tb tb s0) b
          dsimp only
          exact hk.still hR
        | _ + 2, hk =>
          have hk := (show (fun w => TkAt w tb tb s1) a from hk)
          dsimp only at hk
          show (fun w => TkAt w tb tb s1) b
          dsimp only
          exact hk.still hR
      · show (fun w => TkAt w tb tb t) _
        dsimp only
        exact HDS.out.rd.still ((Turn.refl [] _).drew)
      apply Lo.runx 1 rfl rfl [] (by kernel_rfl) (Turn.refl _)
      apply Exists.intro; apply And.intro
      · intro u w1 hR hF
        clear hF
        refine ⟨rfl, fun a ha K hK => ?_⟩
        have e8 := ha 8
        conv at e8 => rhs; whnf
        clear ha
        go_simp
        refine hK _ ?_; rfl
      apply Lo.runx 2 rfl rfl [0] (by kernel_rfl) (Turn.refl _)
      apply Exists.intro; apply And.intro
      · intro u w1 hR hF
        obtain ⟨h0, -⟩ := hF
        refine ⟨rfl, fun a ha K hK => ?_⟩
        have e79 := (ha 79).trans h0
        clear ha h0
        have c0 := cell_of (hR.heap (HDS.out.still (Turn.refl [] _).drew).x (by simp; omega)) 0
        simp at c0
        go_simp
        refine hK _ ?_; rfl
      apply Lo.runx 3 rfl rfl [] (by kernel_rfl) (Turn.refl _)
      apply Exists.intro; apply And.intro
      · intro u w1 hR hF
        clear hF
        refine ⟨rfl, fun a ha K hK => ?_⟩
        have e7 := ha 7
        conv at e7 => rhs; whnf
        clear ha
        go_simp
        refine hK _ ?_; rfl
      refine Lo.noisy 4 rfl 0 rfl [2] (fun x w' => x = .int .i64 m0) (by kernel_rfl) (fun x w w' h hR => ?_) (.inr (fun x w w' h hR => by exact h)) (fun u w1 hR hS hF => ?_) ?_
      · exact h
      · obtain ⟨h2, -⟩ := hF
        have hS := (show (fun w => TkAt w tb tb t) w1 from hS)
        dsimp only at hS
        refine ⟨rfl, fun a ha K hK => ?_⟩
        have e81 := (ha 81).trans h2
        clear ha h2
        go_simp
        refine (tnum_any _ tb tb t hS (Nat.le_refl _) (by omega)).mono ?_
        rintro e w2 ⟨rfl, hr2, ht2⟩
        rw [A0.out] at hr2 ⊢
        exact hK _ _ rfl ht2 hr2
      refine Lo.runv 5 rfl rfl [1, 3] (.int .i64 ((n0 : Int) + m0)) (by kernel_rfl) (fun u w1 hR hF => ?_) (Turn.refl _) ?_
      · obtain ⟨h1, h3, -⟩ := hF
        refine ⟨rfl, fun a ha K hK => ?_⟩
        have e80 := (ha 80).trans h1
        have e82 : a.tmps.getD 82 undef = u 3 := ha 82
        have h3 := (show (fun x w' => x = .int .i64 m0) (u 3) w1 from h3)
        dsimp only at h3
        clear ha h1
        go_simp
        refine hK _ ?_
        rw [IntWalk.i64_left, IntWalk.wrap64_in _ (by omega)]
      apply Lo.runx 6 rfl rfl [] (by kernel_rfl) (Turn.refl _)
      apply Exists.intro; apply And.intro
      · intro u w1 hR hF
        clear hF
        refine ⟨rfl, fun a ha K hK => ?_⟩
        have e7 := ha 7
        conv at e7 => rhs; whnf
        clear ha
        go_simp
        refine hK _ ?_; rfl
      refine Lo.noisy 7 rfl 1 rfl [5] (fun x w' => x = .int .i64 m1) (by kernel_rfl) (fun x w w' h hR => ?_) (.inr (fun x w w' h hR => by exact h)) (fun u w1 hR hS hF => ?_) ?_
      · exact h
      · obtain ⟨h5, -⟩ := hF
        have hS := (show (fun w => TkAt w tb tb s0) w1 from hS)
        dsimp only at hS
        refine ⟨rfl, fun a ha K hK => ?_⟩
        have e84 := (ha 84).trans h5
        clear ha h5
        go_simp
        refine (tnum_any _ tb tb s0 hS (Nat.le_refl _) (by omega)).mono ?_
        rintro e w2 ⟨rfl, hr2, ht2⟩
        rw [A1.out] at hr2 ⊢
        exact hK _ _ rfl ht2 hr2
      refine Lo.runv 8 rfl rfl [4, 6] (.agg #[.int .i64 ((n0 : Int) + m0), .int .i64 m1, .bool false, .string ⟨#[]⟩, .bool false, .string ⟨#[]⟩]) (by kernel_rfl) (fun u w1 hR hF => ?_) (Turn.refl _) ?_
      · obtain ⟨h4, h6, -⟩ := hF
        refine ⟨rfl, fun a ha K hK => ?_⟩
        have e83 := (ha 83).trans h4
        have e85 : a.tmps.getD 85 undef = u 6 := ha 85
        have h6 := (show (fun x w' => x = .int .i64 m1) (u 6) w1 from h6)
        dsimp only at h6
        clear ha h4
        have e83' : a.tmps[83]?.getD undef = .int .i64 ((n0 : Int) + m0) := by rw [← Array.getD_eq_getD_getElem?, e83]
        have e85' : a.tmps[85]?.getD undef = .int .i64 m1 := by rw [← Array.getD_eq_getD_getElem?, e85]; exact h6
        go_simp
        refine hK _ ?_
        rfl
      refine Lo.run 9 rfl rfl [] (fun x w' => ∃ k, x = .pointer (some ⟨k, 0, none⟩) ∧ w'.heap[k]? = some (.cells (recC ⟨0, 0, false, [], false, []⟩).toArray 98 (0, 0)) ∧ wr.heap.size ≤ k) (by kernel_rfl) (fun x w w' h hR => ?_) (fun _ _ h => h.mono (by simp)) (fun u w1 hR hF => ?_) ?_
      · obtain ⟨k, h1, h2, h3⟩ := h; exact ⟨k, h1, hR.heap h2 (by simp; omega), h3⟩
      · clear hF
        refine ⟨rfl, fun a ha K hK => ?_⟩
        clear ha
        go_simp
        have hs6 := ((Turn.refl [] wr).drew.mono (T := [tb]) (by simp)).same hR |>.size
        exact hK _ _ ⟨w1.heap.size, rfl, heap_new w1 _, hs6⟩ ((Turn.refl [] _).alloc _)
      refine Lo.done [7, 8] (fun u w1 hRd hSd hF => ?_)
      have hSd := (show (fun w => TkAt w tb tb s1) w1 from hSd)
      dsimp only at hSd
      obtain ⟨f7, f8, -⟩ := hF
      have d7 : u 7 = _ := f7
      have d8 := (show (fun x w' => ∃ k, x = .pointer (some ⟨k, 0, none⟩) ∧ w'.heap[k]? = some (.cells (recC ⟨0, 0, false, [], false, []⟩).toArray 98 (0, 0)) ∧ wr.heap.size ≤ k) (u 8) w1 from f8)
      dsimp only at d8
      clear f7 f8
      simp only [List.take_succ_cons, List.take_zero, List.drop_succ_cons, List.drop_zero, putFrom, Act.put, List.setIfInBounds_toArray, List.set_cons_succ, List.set_cons_zero, Nat.zero_add, Nat.reduceAdd, d7]
      obtain ⟨k, hk1, hk2, hk3⟩ := d8
      rw [hk1]
      have HK1 : Hid (KSt W0 w1 tb X n0 ((n0 : Int) + n1) sv rs s1 k ⟨0, 0, false, [], false, []⟩) := hide ⟨(HDS.out.still (Turn.refl [] _).drew).num hRd hSd, by omega, fun j hj => by have := (HDS.out.row.lt j hj).2; omega, hk2⟩
      clear hk1 hk2 d7 hRd hSd c0 c1 c2 f0 f1 f2 k1 y1
      obtain ⟨⟨c0, c1, c2, c3, c4, c5⟩, f0, f1, f2, f3, f4, f5⟩ := HK1.out.cells
      go_wp2_with fail
      have HK2 : Hid (KSt W0 ((((((w1.setCell ⟨k, 0, none⟩ (.int .i64 ((n0 : Int) + m0))).setCell ⟨k, 1, none⟩ (.int .i64 m1)).setCell ⟨k, 2, none⟩ (.bool false)).setCell ⟨k, 3, none⟩ (.string ⟨#[]⟩)).setCell ⟨k, 4, none⟩ (.bool false)).setCell ⟨k, 5, none⟩ (.string ⟨#[]⟩)) tb X n0 ((n0 : Int) + n1) sv rs s1 k ⟨(n0 : Int) + m0, m1, false, [], false, []⟩) :=
        hide ((((((HK1.out.set 0 (.int .i64 ((n0 : Int) + m0)) ⟨(n0 : Int) + m0, 0, false, [], false, []⟩ rfl).set 1 (.int .i64 m1) ⟨(n0 : Int) + m0, m1, false, [], false, []⟩ rfl).set 2 (.bool false) ⟨(n0 : Int) + m0, m1, false, [], false, []⟩ rfl).set 3 (.string ⟨#[]⟩) ⟨(n0 : Int) + m0, m1, false, [], false, []⟩ rfl).set 4 (.bool false) ⟨(n0 : Int) + m0, m1, false, [], false, []⟩ rfl).set 5 (.string ⟨#[]⟩) ⟨(n0 : Int) + m0, m1, false, [], false, []⟩ rfl)
      refine (tnum_any _ tb tb s1 HK2.out.d.rd (Nat.le_refl _) (by omega)).mono ?_
      rintro e w2 ⟨rfl, hr2, ht2⟩
      rw [A2.out] at hr2 ⊢
      have HK3 := hide (HK2.out.num ht2 hr2)
      clear hr2 ht2 c0 c1 c2 c3 c4 c5 f0 f1 f2 f3 f4 f5
      obtain ⟨⟨c0, c1, c2, c3, c4, c5⟩, f0, f1, f2, f3, f4, f5⟩ := HK3.out.cells
      obtain ⟨k1, y1⟩ := HK3.out.d.rd.cells
      have HD5 := hide (HROK.out)
      obtain ⟨l2, bd⟩ := s2
      simp only at k1 j2
      obtain ⟨m3, hm3⟩ : ∃ m3, decide (3 < (m2 : Int)) = m3 := ⟨_, rfl⟩
      have HM3 : Hid (decide (3 < m2) = m3) := by show _ = _; rw [← hm3]; congr 1; apply propext; omega
      have HT2 := hide ht2
      have hrl := rec2_len (n0 : Int) t
      have HRL := hide hrl
      clear hrl ht2
      by_cases q1 : m2 % 2 = 1 <;> by_cases q2 : m2 / 2 = 1 <;> (have Q1 := hide q1; have Q2 := hide q2)
      · have hkd : ((m2 : Int) % 2 == 1) = true := by simp; omega
        have hgd : ((m2 : Int) / 2 == 1) = true := by simp; omega
        clear q1 q2
        cases bd
        · have HK4 : Hid (KSt W0 (((w2.setCell ⟨k, 2, none⟩ (.bool true)).setCell ⟨k, 4, none⟩ (.bool true)).setCell ⟨tb, 1, none⟩ (.bool m3)) tb X n0 ((n0 : Int) + n1) sv rs (l2, m3) k ⟨(n0 : Int) + m0, m1, true, [], true, []⟩) :=
            hide (((HK3.out.set 2 (.bool true) ⟨(n0 : Int) + m0, m1, true, [], false, []⟩ rfl).set 4 (.bool true) ⟨(n0 : Int) + m0, m1, true, [], true, []⟩ rfl).bad m3)
          have hl4 : ((l2, m3) : List UInt8 × Bool).1.length ≤ 1000000 := by simp only; omega
          obtain ⟨ky, t4, hky⟩ : ∃ a b, Bt.textR 10000 (l2, m3) = (a, b) := ⟨_, _, rfl⟩
          have htx := ttext_any _ tb tb (l2, m3) HK4.out.d.rd (Nat.le_refl _) hl4 10000 (by omega)
          have hl5 := (textR_len 10000 (l2, m3)).1
          rw [hky] at htx hl5
          have HKY := hide hky
          have HTX := hide htx
          clear hky htx
          go_wp2_with fail
          refine HTX.out.mono ?_
          rintro e w4 ⟨rfl, hr2, ht2⟩
          unfold strV
          have HK5 := hide (HK4.out.num ht2 hr2)
          have HK6 := hide (HK5.out.set 3 (.string ⟨ky.toArray⟩) ⟨(n0 : Int) + m0, m1, true, ky, true, []⟩ rfl)
          clear hr2 ht2 c0 c1 c2 c3 c4 c5 f0 f1 f2 f3 f4 f5 k1 y1 HTX
          obtain ⟨⟨c0, c1, c2, c3, c4, c5⟩, f0, f1, f2, f3, f4, f5⟩ := HK5.out.cells
          obtain ⟨⟨x0, x1, x2⟩, g0', g1', g2'⟩ := HK5.out.d.cells
          have hl6 : t4.1.length ≤ 1000000 := Nat.le_trans hl5 hl4
          have HE : Hid (Bt.rec2 n0 t = (⟨(n0 : Int) + m0, m1, true, ky, true, []⟩, t4)) := by
            show _ = _
            have hm := HM3.out
            have hHKY := HKY.out
            unfold Bt.rec2
            simp [A0.out, A1.out, A2.out, Q1.out, Q2.out, hm, hHKY]
          have HREC : Hid (Bt.recs2 n0 n2 t2 = ((rs ++ [⟨(n0 : Int) + m0, m1, true, ky, true, []⟩]) ++ (Bt.recs2 n0 q' t4).1, (Bt.recs2 n0 q' t4).2)) := by
            show _ = _
            rw [HRC.out, Bt.recs2, if_neg (by rw [HT2.out]; simp), HE.out]; simp
          have hln := HLN.out
          rw [HT2.out] at hln
          simp only [Bool.false_eq_true, if_false] at hln
          obtain ⟨a7, n7, p7, w7, hr7, c7, f7, hd7⟩ := HK6.out.append (by omega)
          simp only [World.size_setCell, recC, strV] at hr7
          have HR7 := hide hr7
          have HD7 := hide hd7
          clear hr7 hd7 hln
          go_wp2_with (at_builtin; go_must (refine wpList_append_told rfl rfl rfl rfl HR7.out ?_))
          have hln := HLN.out
          rw [HT2.out] at hln
          simp only [Bool.false_eq_true, if_false] at hln
          have hrl := HRL.out
          rw [HE.out] at hrl
          refine ⟨⟨q', _, _, _, by go_num, by omega, HD7.out, HREC.out, len_step hln hrl, Nat.le_trans hrl.1 htl⟩, ?_⟩
          simp only [intOf]; omega
        · have HK4 : Hid (KSt W0 (((w2.setCell ⟨k, 2, none⟩ (.bool true)).setCell ⟨k, 4, none⟩ (.bool true)).setCell ⟨tb, 1, none⟩ (.bool true)) tb X n0 ((n0 : Int) + n1) sv rs (l2, true) k ⟨(n0 : Int) + m0, m1, true, [], true, []⟩) :=
            hide (((HK3.out.set 2 (.bool true) ⟨(n0 : Int) + m0, m1, true, [], false, []⟩ rfl).set 4 (.bool true) ⟨(n0 : Int) + m0, m1, true, [], true, []⟩ rfl).bad true)
          have hl4 : ((l2, true) : List UInt8 × Bool).1.length ≤ 1000000 := by simp only; omega
          obtain ⟨ky, t4, hky⟩ : ∃ a b, Bt.textR 10000 (l2, true) = (a, b) := ⟨_, _, rfl⟩
          have htx := ttext_any _ tb tb (l2, true) HK4.out.d.rd (Nat.le_refl _) hl4 10000 (by omega)
          have hl5 := (textR_len 10000 (l2, true)).1
          rw [hky] at htx hl5
          have HKY := hide hky
          have HTX := hide htx
          clear hky htx
          go_wp2_with fail
          refine HTX.out.mono ?_
          rintro e w4 ⟨rfl, hr2, ht2⟩
          unfold strV
          have HK5 := hide (HK4.out.num ht2 hr2)
          have HK6 := hide (HK5.out.set 3 (.string ⟨ky.toArray⟩) ⟨(n0 : Int) + m0, m1, true, ky, true, []⟩ rfl)
          clear hr2 ht2 c0 c1 c2 c3 c4 c5 f0 f1 f2 f3 f4 f5 k1 y1 HTX
          obtain ⟨⟨c0, c1, c2, c3, c4, c5⟩, f0, f1, f2, f3, f4, f5⟩ := HK5.out.cells
          obtain ⟨⟨x0, x1, x2⟩, g0', g1', g2'⟩ := HK5.out.d.cells
          have hl6 : t4.1.length ≤ 1000000 := Nat.le_trans hl5 hl4
          have HE : Hid (Bt.rec2 n0 t = (⟨(n0 : Int) + m0, m1, true, ky, true, []⟩, t4)) := by
            show _ = _
            have hm := HM3.out
            have hHKY := HKY.out
            unfold Bt.rec2
            simp [A0.out, A1.out, A2.out, Q1.out, Q2.out, hm, hHKY]
          have HREC : Hid (Bt.recs2 n0 n2 t2 = ((rs ++ [⟨(n0 : Int) + m0, m1, true, ky, true, []⟩]) ++ (Bt.recs2 n0 q' t4).1, (Bt.recs2 n0 q' t4).2)) := by
            show _ = _
            rw [HRC.out, Bt.recs2, if_neg (by rw [HT2.out]; simp), HE.out]; simp
          have hln := HLN.out
          rw [HT2.out] at hln
          simp only [Bool.false_eq_true, if_false] at hln
          obtain ⟨a7, n7, p7, w7, hr7, c7, f7, hd7⟩ := HK6.out.append (by omega)
          simp only [World.size_setCell, recC, strV] at hr7
          have HR7 := hide hr7
          have HD7 := hide hd7
          clear hr7 hd7 hln
          go_wp2_with (at_builtin; go_must (refine wpList_append_told rfl rfl rfl rfl HR7.out ?_))
          have hln := HLN.out
          rw [HT2.out] at hln
          simp only [Bool.false_eq_true, if_false] at hln
          have hrl := HRL.out
          rw [HE.out] at hrl
          refine ⟨⟨q', _, _, _, by go_num, by omega, HD7.out, HREC.out, len_step hln hrl, Nat.le_trans hrl.1 htl⟩, ?_⟩
          simp only [intOf]; omega
      · have hkd : ((m2 : Int) % 2 == 1) = true := by simp; omega
        have hgd : ((m2 : Int) / 2 == 1) = false := by simp; omega
        clear q1 q2
        cases bd
        · have HK4 : Hid (KSt W0 (((w2.setCell ⟨k, 2, none⟩ (.bool true)).setCell ⟨k, 4, none⟩ (.bool false)).setCell ⟨tb, 1, none⟩ (.bool m3)) tb X n0 ((n0 : Int) + n1) sv rs (l2, m3) k ⟨(n0 : Int) + m0, m1, true, [], false, []⟩) :=
            hide (((HK3.out.set 2 (.bool true) ⟨(n0 : Int) + m0, m1, true, [], false, []⟩ rfl).set 4 (.bool false) ⟨(n0 : Int) + m0, m1, true, [], false, []⟩ rfl).bad m3)
          have hl4 : ((l2, m3) : List UInt8 × Bool).1.length ≤ 1000000 := by simp only; omega
          obtain ⟨ky, t4, hky⟩ : ∃ a b, Bt.textR 10000 (l2, m3) = (a, b) := ⟨_, _, rfl⟩
          have htx := ttext_any _ tb tb (l2, m3) HK4.out.d.rd (Nat.le_refl _) hl4 10000 (by omega)
          have hl5 := (textR_len 10000 (l2, m3)).1
          rw [hky] at htx hl5
          have HKY := hide hky
          have HTX := hide htx
          clear hky htx
          go_wp2_with fail
          refine HTX.out.mono ?_
          rintro e w4 ⟨rfl, hr2, ht2⟩
          unfold strV
          have HK5 := hide (HK4.out.num ht2 hr2)
          have HK6 := hide (HK5.out.set 3 (.string ⟨ky.toArray⟩) ⟨(n0 : Int) + m0, m1, true, ky, false, []⟩ rfl)
          clear hr2 ht2 c0 c1 c2 c3 c4 c5 f0 f1 f2 f3 f4 f5 k1 y1 HTX
          obtain ⟨⟨c0, c1, c2, c3, c4, c5⟩, f0, f1, f2, f3, f4, f5⟩ := HK5.out.cells
          obtain ⟨⟨x0, x1, x2⟩, g0', g1', g2'⟩ := HK5.out.d.cells
          have hl6 : t4.1.length ≤ 1000000 := Nat.le_trans hl5 hl4
          obtain ⟨vl, t5, hvl⟩ : ∃ a b, Bt.textR 10000 t4 = (a, b) := ⟨_, _, rfl⟩
          have htx := ttext_any _ tb tb t4 HK6.out.d.rd (Nat.le_refl _) hl6 10000 (by omega)
          rw [hvl] at htx
          have HVL := hide hvl
          have HTX := hide htx
          clear hvl htx
          go_wp2_with fail
          refine HTX.out.mono ?_
          rintro e w5 ⟨rfl, hr2, ht2⟩
          unfold strV
          have HK7 := hide (HK6.out.num ht2 hr2)
          have HK8 := hide (HK7.out.set 5 (.string ⟨vl.toArray⟩) ⟨(n0 : Int) + m0, m1, true, ky, false, vl⟩ rfl)
          clear hr2 ht2 c0 c1 c2 c3 c4 c5 f0 f1 f2 f3 f4 f5 x0 x1 x2 g0' g1' g2' HTX
          obtain ⟨⟨c0, c1, c2, c3, c4, c5⟩, f0, f1, f2, f3, f4, f5⟩ := HK7.out.cells
          obtain ⟨⟨x0, x1, x2⟩, g0', g1', g2'⟩ := HK7.out.d.cells
          have HE : Hid (Bt.rec2 n0 t = (⟨(n0 : Int) + m0, m1, true, ky, false, vl⟩, t5)) := by
            show _ = _
            have hm := HM3.out
            have hHKY := HKY.out
            have hHVL := HVL.out
            unfold Bt.rec2
            simp [A0.out, A1.out, A2.out, Q1.out, Q2.out, hm, hHKY, hHVL]
          have HREC : Hid (Bt.recs2 n0 n2 t2 = ((rs ++ [⟨(n0 : Int) + m0, m1, true, ky, false, vl⟩]) ++ (Bt.recs2 n0 q' t5).1, (Bt.recs2 n0 q' t5).2)) := by
            show _ = _
            rw [HRC.out, Bt.recs2, if_neg (by rw [HT2.out]; simp), HE.out]; simp
          have hln := HLN.out
          rw [HT2.out] at hln
          simp only [Bool.false_eq_true, if_false] at hln
          obtain ⟨a7, n7, p7, w7, hr7, c7, f7, hd7⟩ := HK8.out.append (by omega)
          simp only [World.size_setCell, recC, strV] at hr7
          have HR7 := hide hr7
          have HD7 := hide hd7
          clear hr7 hd7 hln
          go_wp2_with (at_builtin; go_must (refine wpList_append_told rfl rfl rfl rfl HR7.out ?_))
          have hln := HLN.out
          rw [HT2.out] at hln
          simp only [Bool.false_eq_true, if_false] at hln
          have hrl := HRL.out
          rw [HE.out] at hrl
          refine ⟨⟨q', _, _, _, by go_num, by omega, HD7.out, HREC.out, len_step hln hrl, Nat.le_trans hrl.1 htl⟩, ?_⟩
          simp only [intOf]; omega
        · have HK4 : Hid (KSt W0 (((w2.setCell ⟨k, 2, none⟩ (.bool true)).setCell ⟨k, 4, none⟩ (.bool false)).setCell ⟨tb, 1, none⟩ (.bool true)) tb X n0 ((n0 : Int) + n1) sv rs (l2, true) k ⟨(n0 : Int) + m0, m1, true, [], false, []⟩) :=
            hide (((HK3.out.set 2 (.bool true) ⟨(n0 : Int) + m0, m1, true, [], false, []⟩ rfl).set 4 (.bool false) ⟨(n0 : Int) + m0, m1, true, [], false, []⟩ rfl).bad true)
          have hl4 : ((l2, true) : List UInt8 × Bool).1.length ≤ 1000000 := by simp only; omega
          obtain ⟨ky, t4, hky⟩ : ∃ a b, Bt.textR 10000 (l2, true) = (a, b) := ⟨_, _, rfl⟩
          have htx := ttext_any _ tb tb (l2, true) HK4.out.d.rd (Nat.le_refl _) hl4 10000 (by omega)
          have hl5 := (textR_len 10000 (l2, true)).1
          rw [hky] at htx hl5
          have HKY := hide hky
          have HTX := hide htx
          clear hky htx
          go_wp2_with fail
          refine HTX.out.mono ?_
          rintro e w4 ⟨rfl, hr2, ht2⟩
          unfold strV
          have HK5 := hide (HK4.out.num ht2 hr2)
          have HK6 := hide (HK5.out.set 3 (.string ⟨ky.toArray⟩) ⟨(n0 : Int) + m0, m1, true, ky, false, []⟩ rfl)
          clear hr2 ht2 c0 c1 c2 c3 c4 c5 f0 f1 f2 f3 f4 f5 k1 y1 HTX
          obtain ⟨⟨c0, c1, c2, c3, c4, c5⟩, f0, f1, f2, f3, f4, f5⟩ := HK5.out.cells
          obtain ⟨⟨x0, x1, x2⟩, g0', g1', g2'⟩ := HK5.out.d.cells
          have hl6 : t4.1.length ≤ 1000000 := Nat.le_trans hl5 hl4
          obtain ⟨vl, t5, hvl⟩ : ∃ a b, Bt.textR 10000 t4 = (a, b) := ⟨_, _, rfl⟩
          have htx := ttext_any _ tb tb t4 HK6.out.d.rd (Nat.le_refl _) hl6 10000 (by omega)
          rw [hvl] at htx
          have HVL := hide hvl
          have HTX := hide htx
          clear hvl htx
          go_wp2_with fail
          refine HTX.out.mono ?_
          rintro e w5 ⟨rfl, hr2, ht2⟩
          unfold strV
          have HK7 := hide (HK6.out.num ht2 hr2)
          have HK8 := hide (HK7.out.set 5 (.string ⟨vl.toArray⟩) ⟨(n0 : Int) + m0, m1, true, ky, false, vl⟩ rfl)
          clear hr2 ht2 c0 c1 c2 c3 c4 c5 f0 f1 f2 f3 f4 f5 x0 x1 x2 g0' g1' g2' HTX
          obtain ⟨⟨c0, c1, c2, c3, c4, c5⟩, f0, f1, f2, f3, f4, f5⟩ := HK7.out.cells
          obtain ⟨⟨x0, x1, x2⟩, g0', g1', g2'⟩ := HK7.out.d.cells
          have HE : Hid (Bt.rec2 n0 t = (⟨(n0 : Int) + m0, m1, true, ky, false, vl⟩, t5)) := by
            show _ = _
            have hm := HM3.out
            have hHKY := HKY.out
            have hHVL := HVL.out
            unfold Bt.rec2
            simp [A0.out, A1.out, A2.out, Q1.out, Q2.out, hm, hHKY, hHVL]
          have HREC : Hid (Bt.recs2 n0 n2 t2 = ((rs ++ [⟨(n0 : Int) + m0, m1, true, ky, false, vl⟩]) ++ (Bt.recs2 n0 q' t5).1, (Bt.recs2 n0 q' t5).2)) := by
            show _ = _
            rw [HRC.out, Bt.recs2, if_neg (by rw [HT2.out]; simp), HE.out]; simp
          have hln := HLN.out
          rw [HT2.out] at hln
          simp only [Bool.false_eq_true, if_false] at hln
          obtain ⟨a7, n7, p7, w7, hr7, c7, f7, hd7⟩ := HK8.out.append (by omega)
          simp only [World.size_setCell, recC, strV] at hr7
          have HR7 := hide hr7
          have HD7 := hide hd7
          clear hr7 hd7 hln
          go_wp2_with (at_builtin; go_must (refine wpList_append_told rfl rfl rfl rfl HR7.out ?_))
          have hln := HLN.out
          rw [HT2.out] at hln
          simp only [Bool.false_eq_true, if_false] at hln
          have hrl := HRL.out
          rw [HE.out] at hrl
          refine ⟨⟨q', _, _, _, by go_num, by omega, HD7.out, HREC.out, len_step hln hrl, Nat.le_trans hrl.1 htl⟩, ?_⟩
          simp only [intOf]; omega
      · have hkd : ((m2 : Int) % 2 == 1) = false := by simp; omega
        have hgd : ((m2 : Int) / 2 == 1) = true := by simp; omega
        clear q1 q2
        cases bd
        · have HK4 : Hid (KSt W0 (((w2.setCell ⟨k, 2, none⟩ (.bool false)).setCell ⟨k, 4, none⟩ (.bool true)).setCell ⟨tb, 1, none⟩ (.bool m3)) tb X n0 ((n0 : Int) + n1) sv rs (l2, m3) k ⟨(n0 : Int) + m0, m1, false, [], true, []⟩) :=
            hide (((HK3.out.set 2 (.bool false) ⟨(n0 : Int) + m0, m1, false, [], false, []⟩ rfl).set 4 (.bool true) ⟨(n0 : Int) + m0, m1, false, [], true, []⟩ rfl).bad m3)
          have hl4 : ((l2, m3) : List UInt8 × Bool).1.length ≤ 1000000 := by simp only; omega
          obtain ⟨⟨x0, x1, x2⟩, g0', g1', g2'⟩ := HK3.out.d.cells
          have HE : Hid (Bt.rec2 n0 t = (⟨(n0 : Int) + m0, m1, false, [], true, []⟩, (l2, m3))) := by
            show _ = _
            have hm := HM3.out
            unfold Bt.rec2
            simp [A0.out, A1.out, A2.out, Q1.out, Q2.out, hm]
          have HREC : Hid (Bt.recs2 n0 n2 t2 = ((rs ++ [⟨(n0 : Int) + m0, m1, false, [], true, []⟩]) ++ (Bt.recs2 n0 q' (l2, m3)).1, (Bt.recs2 n0 q' (l2, m3)).2)) := by
            show _ = _
            rw [HRC.out, Bt.recs2, if_neg (by rw [HT2.out]; simp), HE.out]; simp
          have hln := HLN.out
          rw [HT2.out] at hln
          simp only [Bool.false_eq_true, if_false] at hln
          obtain ⟨a7, n7, p7, w7, hr7, c7, f7, hd7⟩ := HK4.out.append (by omega)
          simp only [World.size_setCell, recC, strV] at hr7
          have HR7 := hide hr7
          have HD7 := hide hd7
          clear hr7 hd7 hln
          go_wp2_with (at_builtin; go_must (refine wpList_append_told rfl rfl rfl rfl HR7.out ?_))
          have hln := HLN.out
          rw [HT2.out] at hln
          simp only [Bool.false_eq_true, if_false] at hln
          have hrl := HRL.out
          rw [HE.out] at hrl
          refine ⟨⟨q', _, _, _, by go_num, by omega, HD7.out, HREC.out, len_step hln hrl, Nat.le_trans hrl.1 htl⟩, ?_⟩
          simp only [intOf]; omega
        · have HK4 : Hid (KSt W0 (((w2.setCell ⟨k, 2, none⟩ (.bool false)).setCell ⟨k, 4, none⟩ (.bool true)).setCell ⟨tb, 1, none⟩ (.bool true)) tb X n0 ((n0 : Int) + n1) sv rs (l2, true) k ⟨(n0 : Int) + m0, m1, false, [], true, []⟩) :=
            hide (((HK3.out.set 2 (.bool false) ⟨(n0 : Int) + m0, m1, false, [], false, []⟩ rfl).set 4 (.bool true) ⟨(n0 : Int) + m0, m1, false, [], true, []⟩ rfl).bad true)
          have hl4 : ((l2, true) : List UInt8 × Bool).1.length ≤ 1000000 := by simp only; omega
          obtain ⟨⟨x0, x1, x2⟩, g0', g1', g2'⟩ := HK3.out.d.cells
          have HE : Hid (Bt.rec2 n0 t = (⟨(n0 : Int) + m0, m1, false, [], true, []⟩, (l2, true))) := by
            show _ = _
            have hm := HM3.out
            unfold Bt.rec2
            simp [A0.out, A1.out, A2.out, Q1.out, Q2.out, hm]
          have HREC : Hid (Bt.recs2 n0 n2 t2 = ((rs ++ [⟨(n0 : Int) + m0, m1, false, [], true, []⟩]) ++ (Bt.recs2 n0 q' (l2, true)).1, (Bt.recs2 n0 q' (l2, true)).2)) := by
            show _ = _
            rw [HRC.out, Bt.recs2, if_neg (by rw [HT2.out]; simp), HE.out]; simp
          have hln := HLN.out
          rw [HT2.out] at hln
          simp only [Bool.false_eq_true, if_false] at hln
          obtain ⟨a7, n7, p7, w7, hr7, c7, f7, hd7⟩ := HK4.out.append (by omega)
          simp only [World.size_setCell, recC, strV] at hr7
          have HR7 := hide hr7
          have HD7 := hide hd7
          clear hr7 hd7 hln
          go_wp2_with (at_builtin; go_must (refine wpList_append_told rfl rfl rfl rfl HR7.out ?_))
          have hln := HLN.out
          rw [HT2.out] at hln
          simp only [Bool.false_eq_true, if_false] at hln
          have hrl := HRL.out
          rw [HE.out] at hrl
          refine ⟨⟨q', _, _, _, by go_num, by omega, HD7.out, HREC.out, len_step hln hrl, Nat.le_trans hrl.1 htl⟩, ?_⟩
          simp only [intOf]; omega
      · have hkd : ((m2 : Int) % 2 == 1) = false := by simp; omega
        have hgd : ((m2 : Int) / 2 == 1) = false := by simp; omega
        clear q1 q2
        cases bd
        · have HK4 : Hid (KSt W0 (((w2.setCell ⟨k, 2, none⟩ (.bool false)).setCell ⟨k, 4, none⟩ (.bool false)).setCell ⟨tb, 1, none⟩ (.bool m3)) tb X n0 ((n0 : Int) + n1) sv rs (l2, m3) k ⟨(n0 : Int) + m0, m1, false, [], false, []⟩) :=
            hide (((HK3.out.set 2 (.bool false) ⟨(n0 : Int) + m0, m1, false, [], false, []⟩ rfl).set 4 (.bool false) ⟨(n0 : Int) + m0, m1, false, [], false, []⟩ rfl).bad m3)
          have hl4 : ((l2, m3) : List UInt8 × Bool).1.length ≤ 1000000 := by simp only; omega
          obtain ⟨vl, t5, hvl⟩ : ∃ a b, Bt.textR 10000 (l2, m3) = (a, b) := ⟨_, _, rfl⟩
          have htx := ttext_any _ tb tb (l2, m3) HK4.out.d.rd (Nat.le_refl _) hl4 10000 (by omega)
          rw [hvl] at htx
          have HVL := hide hvl
          have HTX := hide htx
          clear hvl htx
          go_wp2_with fail
          refine HTX.out.mono ?_
          rintro e w5 ⟨rfl, hr2, ht2⟩
          unfold strV
          have HK7 := hide (HK4.out.num ht2 hr2)
          have HK8 := hide (HK7.out.set 5 (.string ⟨vl.toArray⟩) ⟨(n0 : Int) + m0, m1, false, [], false, vl⟩ rfl)
          clear hr2 ht2 c0 c1 c2 c3 c4 c5 f0 f1 f2 f3 f4 f5 k1 y1 HTX
          obtain ⟨⟨c0, c1, c2, c3, c4, c5⟩, f0, f1, f2, f3, f4, f5⟩ := HK7.out.cells
          obtain ⟨⟨x0, x1, x2⟩, g0', g1', g2'⟩ := HK7.out.d.cells
          have HE : Hid (Bt.rec2 n0 t = (⟨(n0 : Int) + m0, m1, false, [], false, vl⟩, t5)) := by
            show _ = _
            have hm := HM3.out
            have hHVL := HVL.out
            unfold Bt.rec2
            simp [A0.out, A1.out, A2.out, Q1.out, Q2.out, hm, hHVL]
          have HREC : Hid (Bt.recs2 n0 n2 t2 = ((rs ++ [⟨(n0 : Int) + m0, m1, false, [], false, vl⟩]) ++ (Bt.recs2 n0 q' t5).1, (Bt.recs2 n0 q' t5).2)) := by
            show _ = _
            rw [HRC.out, Bt.recs2, if_neg (by rw [HT2.out]; simp), HE.out]; simp
          have hln := HLN.out
          rw [HT2.out] at hln
          simp only [Bool.false_eq_true, if_false] at hln
          obtain ⟨a7, n7, p7, w7, hr7, c7, f7, hd7⟩ := HK8.out.append (by omega)
          simp only [World.size_setCell, recC, strV] at hr7
          have HR7 := hide hr7
          have HD7 := hide hd7
          clear hr7 hd7 hln
          go_wp2_with (at_builtin; go_must (refine wpList_append_told rfl rfl rfl rfl HR7.out ?_))
          have hln := HLN.out
          rw [HT2.out] at hln
          simp only [Bool.false_eq_true, if_false] at hln
          have hrl := HRL.out
          rw [HE.out] at hrl
          refine ⟨⟨q', _, _, _, by go_num, by omega, HD7.out, HREC.out, len_step hln hrl, Nat.le_trans hrl.1 htl⟩, ?_⟩
          simp only [intOf]; omega
        · have HK4 : Hid (KSt W0 (((w2.setCell ⟨k, 2, none⟩ (.bool false)).setCell ⟨k, 4, none⟩ (.bool false)).setCell ⟨tb, 1, none⟩ (.bool true)) tb X n0 ((n0 : Int) + n1) sv rs (l2, true) k ⟨(n0 : Int) + m0, m1, false, [], false, []⟩) :=
            hide (((HK3.out.set 2 (.bool false) ⟨(n0 : Int) + m0, m1, false, [], false, []⟩ rfl).set 4 (.bool false) ⟨(n0 : Int) + m0, m1, false, [], false, []⟩ rfl).bad true)
          have hl4 : ((l2, true) : List UInt8 × Bool).1.length ≤ 1000000 := by simp only; omega
          obtain ⟨vl, t5, hvl⟩ : ∃ a b, Bt.textR 10000 (l2, true) = (a, b) := ⟨_, _, rfl⟩
          have htx := ttext_any _ tb tb (l2, true) HK4.out.d.rd (Nat.le_refl _) hl4 10000 (by omega)
          rw [hvl] at htx
          have HVL := hide hvl
          have HTX := hide htx
          clear hvl htx
          go_wp2_with fail
          refine HTX.out.mono ?_
          rintro e w5 ⟨rfl, hr2, ht2⟩
          unfold strV
          have HK7 := hide (HK4.out.num ht2 hr2)
          have HK8 := hide (HK7.out.set 5 (.string ⟨vl.toArray⟩) ⟨(n0 : Int) + m0, m1, false, [], false, vl⟩ rfl)
          clear hr2 ht2 c0 c1 c2 c3 c4 c5 f0 f1 f2 f3 f4 f5 k1 y1 HTX
          obtain ⟨⟨c0, c1, c2, c3, c4, c5⟩, f0, f1, f2, f3, f4, f5⟩ := HK7.out.cells
          obtain ⟨⟨x0, x1, x2⟩, g0', g1', g2'⟩ := HK7.out.d.cells
          have HE : Hid (Bt.rec2 n0 t = (⟨(n0 : Int) + m0, m1, false, [], false, vl⟩, t5)) := by
            show _ = _
            have hm := HM3.out
            have hHVL := HVL.out
            unfold Bt.rec2
            simp [A0.out, A1.out, A2.out, Q1.out, Q2.out, hm, hHVL]
          have HREC : Hid (Bt.recs2 n0 n2 t2 = ((rs ++ [⟨(n0 : Int) + m0, m1, false, [], false, vl⟩]) ++ (Bt.recs2 n0 q' t5).1, (Bt.recs2 n0 q' t5).2)) := by
            show _ = _
            rw [HRC.out, Bt.recs2, if_neg (by rw [HT2.out]; simp), HE.out]; simp
          have hln := HLN.out
          rw [HT2.out] at hln
          simp only [Bool.false_eq_true, if_false] at hln
          obtain ⟨a7, n7, p7, w7, hr7, c7, f7, hd7⟩ := HK8.out.append (by omega)
          simp only [World.size_setCell, recC, strV] at hr7
          have HR7 := hide hr7
          have HD7 := hide hd7
          clear hr7 hd7 hln
          go_wp2_with (at_builtin; go_must (refine wpList_append_told rfl rfl rfl rfl HR7.out ?_))
          have hln := HLN.out
          rw [HT2.out] at hln
          simp only [Bool.false_eq_true, if_false] at hln
          have hrl := HRL.out
          rw [HE.out] at hrl
          refine ⟨⟨q', _, _, _, by go_num, by omega, HD7.out, HREC.out, len_step hln hrl, Nat.le_trans hrl.1 htl⟩, ?_⟩
          simp only [intOf]; omega
end Go.Proofs.YtjjfjbclmdnodaaDoor
