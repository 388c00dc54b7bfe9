/- The document's Check. -/
import Derived.Test.YtjjfjbclmdnodaaDoorChkP
import Derived.Test.YtjjfjbclmdnodaaDoorLoose
namespace Go.Proofs.YtjjfjbclmdnodaaDoor
open Go.RowKit Go.Maps
set_option maxRecDepth 100000
set_option linter.unusedSimpArgs false
set_option linter.unusedVariables false

/-- What the document's first test of a record answers. -/
def badB (r : Bt.Rec) (base fin lo : Int) (k : Nat) : Bool :=
  ((((decide (r.off < base) || decide (fin ≤ r.off)) || (decide (0 < k) && decide (r.off ≤ lo - 1))) || ((!r.keyed) && (!r.key.isEmpty))) || (r.gone && (!r.value.isEmpty)))
theorem badB_iff (r : Bt.Rec) (base fin lo : Int) (k : Nat) (h : (k = 0 ∧ lo = base) ∨ (0 < k ∧ base ≤ lo)) : badB r base fin lo k = true ↔ (r.off < lo ∨ fin ≤ r.off ∨ (r.keyed = false ∧ r.key ≠ []) ∨ (r.gone = true ∧ r.value ≠ [])) := by
  unfold badB
  simp only [Bool.or_eq_true, Bool.and_eq_true, decide_eq_true_eq, Bool.not_eq_true', List.isEmpty_eq_false_iff]
  constructor
  · rintro ((((h1 | h1) | ⟨h1, h2⟩) | h1) | h1)
    · exact .inl (by omega)
    · exact .inr (.inl h1)
    · exact .inl (by omega)
    · exact .inr (.inr (.inl h1))
    · exact .inr (.inr (.inr h1))
  · rintro (h1 | h1 | h1 | h1)
    · rcases h with ⟨h2, h3⟩ | ⟨h2, h3⟩
      · exact .inl (.inl (.inl (.inl (by omega))))
      · exact .inl (.inl (.inr ⟨by omega, by omega⟩))
    · exact .inl (.inl (.inl (.inr h1)))
    · exact .inl (.inr h1)
    · exact .inr h1
theorem recErr_bad {r : Bt.Rec} {base fin lo : Int} {k : Nat} (h : (k = 0 ∧ lo = base) ∨ (0 < k ∧ base ≤ lo)) (hb : badB r base fin lo k = true) : Bt.recErr r lo fin = 1 := by
  unfold Bt.recErr
  rw [if_pos ((badB_iff r base fin lo k h).1 hb)]
theorem recErr_good {r : Bt.Rec} {base fin lo : Int} {k : Nat} (h : (k = 0 ∧ lo = base) ∨ (0 < k ∧ base ≤ lo)) (hb : badB r base fin lo k = false) : Bt.recErr r lo fin = if 60 < r.key.length ∨ 500 < r.value.length then 4 else if r.time < 0 ∨ 1099511627776 < r.time then 2 else 0 := by
  unfold Bt.recErr
  rw [if_neg (fun h2 => by rw [(badB_iff r base fin lo k h).2 h2] at hb; cases hb)]
theorem good_lo {r : Bt.Rec} {base fin lo : Int} {k : Nat} (h : (k = 0 ∧ lo = base) ∨ (0 < k ∧ base ≤ lo)) (hb : badB r base fin lo k = false) : lo ≤ r.off ∧ r.off < fin := by
  have : ¬ (r.off < lo ∨ fin ≤ r.off ∨ (r.keyed = false ∧ r.key ≠ []) ∨ (r.gone = true ∧ r.value ≠ [])) := fun h2 => by rw [(badB_iff r base fin lo k h).2 h2] at hb; cases hb
  constructor <;> omega

set_option maxHeartbeats 2000000 in
theorem refChk_any (w : World) (v : Value) (x : Bt.Bat) (hx : BatAt w v x) :
    Calls Tryd.prog 30 #[v] w fun e w' => e = .returned (.int .i64 (Bt.chk x)) ∧ Turn [] w w' := by
  obtain ⟨sv, rfl, hr, b1, b2, f1, f2⟩ := hx
  obtain ⟨base, fin, recs⟩ := x
  simp only at hr b1 b2 f1 f2
  obtain ⟨a, c, rfl, hlc, hcm, hn0, hp⟩ := hr.form
  have hmx : maxLen = 9223372036854775807 := by simp [maxLen]
  rw [hmx] at hcm
  by_cases h1 : base < 0
  · have hz : Bt.chk ⟨base, fin, recs⟩ = 2 := by unfold Bt.chk; rw [if_pos (.inl h1)]
    rw [hz]
    clear hz hr
    go_enter Tryd.func30, Tryd.ntmps30
    go_wp2
    go_ret
    exact ⟨rfl, (Turn.refl _ _).alloc _⟩
  by_cases h2 : 1099511627776 < fin
  · have hz : Bt.chk ⟨base, fin, recs⟩ = 2 := by unfold Bt.chk; rw [if_pos (.inr h2)]
    rw [hz]
    clear hz hr
    go_enter Tryd.func30, Tryd.ntmps30
    go_wp2
    go_ret
    exact ⟨rfl, (Turn.refl _ _).alloc _⟩
  by_cases h3 : fin ≤ base
  · have hz : Bt.chk ⟨base, fin, recs⟩ = 1 := by unfold Bt.chk; rw [if_neg (by simp only; omega), if_pos h3]
    rw [hz]
    clear hz hr
    go_enter Tryd.func30, Tryd.ntmps30
    go_wp2
    go_ret
    exact ⟨rfl, (Turn.refl _ _).alloc _⟩
  by_cases h4 : 50 < recs.length
  · have hz : Bt.chk ⟨base, fin, recs⟩ = 4 := by unfold Bt.chk; rw [if_neg (by simp only; omega), if_neg h3, if_pos (.inl h4)]
    rw [hz]
    clear hz hr
    go_enter Tryd.func30, Tryd.ntmps30
    go_wp2
    go_ret
    exact ⟨rfl, (Turn.refl _ _).alloc _⟩
  by_cases h5 : 50 < fin - base
  · have hz : Bt.chk ⟨base, fin, recs⟩ = 4 := by unfold Bt.chk; rw [if_neg (by simp only; omega), if_neg h3, if_pos (.inr h5)]
    rw [hz]
    clear hz hr
    go_enter Tryd.func30, Tryd.ntmps30
    go_wp2
    go_ret
    exact ⟨rfl, (Turn.refl _ _).alloc _⟩
  have hz : Bt.chk ⟨base, fin, recs⟩ = Bt.recsErr recs base fin := by unfold Bt.chk; rw [if_neg (by simp only; omega), if_neg h3, if_neg (by simp only; omega)]
  have HZ := hide hz
  have HR : Hid (RecsAt w (.slice a recs.length c) recs) := hr
  clear hz hr
  go_enter Tryd.func30, Tryd.ntmps30
  go_wp2
  go_loopw [36] (fun i wr => ∃ (k : Nat) (lo : Int), k ≤ recs.length ∧ i = .int .i64 k ∧ ((k = 0 ∧ lo = base) ∨ (0 < k ∧ base ≤ lo)) ∧ (∀ h : k - 1 < recs.length, 0 < k → lo = recs[k - 1].off + 1) ∧ Bt.recsErr recs base fin = Bt.recsErr (recs.drop k) lo fin ∧ lo ≤ fin ∧ Turn [] (w.alloc (.cells #[.int .i64 base, .int .i64 fin, .slice a recs.length c] 53)) wr) (fun i _ => recs.length - (intOf i).toNat)
  case atStart => exact ⟨0, base, Nat.zero_le _, rfl, .inl ⟨rfl, rfl⟩, fun _ h => absurd h (by omega), rfl, by omega, Turn.refl _ _⟩
  case round =>
    obtain ⟨k, lo, hk, rfl, hlk, hprev, he, hlo, ht⟩ := hrel
    have HE := hide he
    have HT := hide ht
    have HLK := hide hlk
    clear he ht hlk
    have ht1 : w.heap.size < wr.heap.size := by have := HT.out.size; simp at this; omega
    have hb0 : wr.heap[w.heap.size]? = some (.cells #[.int .i64 base, .int .i64 fin, .slice a recs.length c] 53 (0, 0)) := HT.out.heap (heap_new w _) (by simp)
    have c0 := cell_of hb0 0
    have c1 := cell_of hb0 1
    have c2 := cell_of hb0 2
    simp at c0 c1 c2
    by_cases hlt : k < recs.length
    · obtain ⟨p, rfl⟩ := hp k hlt
      have ok := HR.out.ok hlt
      obtain ⟨g0, g1, g2, g3, g4, g5⟩ := ((HR.out.still ((Turn.refl [] w).alloc _)).still HT.out).six hlt
      have hpc : 0 < k → ∀ Z, Turn [] wr Z → Z.cell? (p.add ((k - 1) * 6)) = some (.int .i64 (lo - 1)) := by
        intro h0 Z hZ
        have h1 : k - 1 < recs.length := by omega
        have := ((((HR.out.still ((Turn.refl [] w).alloc _)).still HT.out).still hZ).six h1).1
        rw [this, hprev h1 h0]
        simp
      have HPC := hide hpc
      have HS := hide (recsErr_step hlt lo fin)
      have HO := hide ok
      clear hp hn0 ok hpc hprev
      obtain ⟨r, hr⟩ : ∃ r, r = recs[k] := ⟨_, rfl⟩
      rw [← hr] at g0 g1 g2 g3 g4 g5 HS HO
      have o1 := HO.out.off1
      have o2 := HO.out.off2
      have HR1 : Hid (r = recs[k]) := hr
      clear hr
      go_wp2
      refine wp_region_loose (fun a b => a = b) (by kernel_rfl) (by kernel_rfl) (by kernel_rfl) (by kernel_rfl) rfl (fun _ => rfl) (fun _ _ _ h k => h.trans k) ?_
      apply Lo.runx 1 rfl rfl [] (by kernel_rfl) (fun _ => rfl)
      apply Exists.intro; apply And.intro
      · intro u w1 hR hF
        clear hF
        subst hR
        refine ⟨rfl, fun a ha K hK => ?_⟩
        have e4 := ha 4
        conv at e4 => rhs; whnf
        clear ha
        go_simp
        refine hK _ ?_; rfl
      apply Lo.runx 2 rfl rfl [0] (by kernel_rfl) (fun _ => rfl)
      apply Exists.intro; apply And.intro
      · intro u w1 hR hF
        obtain ⟨h0, -⟩ := hF
        subst hR
        refine ⟨rfl, fun a ha K hK => ?_⟩
        have e41 := (ha 41).trans h0
        clear ha h0
        go_simp
        refine hK _ ?_; rfl
      apply Lo.runx 3 rfl rfl [] (by kernel_rfl) (fun _ => rfl)
      apply Exists.intro; apply And.intro
      · intro u w1 hR hF
        clear hF
        subst hR
        refine ⟨rfl, fun a ha K hK => ?_⟩
        have e1 := ha 1
        conv at e1 => rhs; whnf
        clear ha
        go_simp
        refine hK _ ?_; rfl
      apply Lo.runx 4 rfl rfl [2] (by kernel_rfl) (fun _ => rfl)
      apply Exists.intro; apply And.intro
      · intro u w1 hR hF
        obtain ⟨h2, -⟩ := hF
        subst hR
        refine ⟨rfl, fun a ha K hK => ?_⟩
        have e43 := (ha 43).trans h2
        clear ha h2
        go_simp
        refine hK _ ?_; rfl
      refine Lo.runv 5 rfl rfl [1, 3] (.bool (decide (r.off < base))) (by kernel_rfl) (fun u w1 hR hF => ?_) (fun _ => rfl) ?_
      · obtain ⟨h1, h3, -⟩ := hF
        subst hR
        refine ⟨rfl, fun a ha K hK => ?_⟩
        have e42 := (ha 42).trans h1
        have e44 := (ha 44).trans h3
        clear ha h1 h3
        go_simp
        refine hK _ ?_
        rfl
      apply Lo.runx 6 rfl rfl [4] (by kernel_rfl) (fun _ => rfl)
      apply Exists.intro; apply And.intro
      · intro u w1 hR hF
        obtain ⟨h4, -⟩ := hF
        subst hR
        refine ⟨rfl, fun a ha K hK => ?_⟩
        have e45 := (ha 45).trans h4
        clear ha h4
        go_simp
        refine hK _ ?_; rfl
      apply Lo.cond 7 rfl rfl [5] (by kernel_rfl) (fun _ => rfl) ((decide (r.off < base)) == false)
      apply Exists.intro
      refine And.intro ?_ (And.intro ?_ ?_)
      · intro u w1 hR hF hc
        exact guard_f0 (want := false) hF.1 hc
      · intro u w1 hR hF hc
        obtain ⟨h5, -⟩ := hF
        subst hR
        refine ⟨guard_t0 (want := false) h5 hc, fun a ha K hK => ?_⟩
        have hc1 := hc
        have e4 := ha 4
        conv at e4 => rhs; whnf
        clear ha h5
        clear hc hc1
        go_simp
        refine hK _ ?_; rfl
      apply Lo.cond 8 rfl rfl [5, 6] (by kernel_rfl) (fun _ => rfl) ((decide (r.off < base)) == false)
      apply Exists.intro
      refine And.intro ?_ (And.intro ?_ ?_)
      · intro u w1 hR hF hc
        exact guard_f0 (want := false) hF.1 hc
      · intro u w1 hR hF hc
        obtain ⟨h5, h6, -⟩ := hF
        subst hR
        refine ⟨guard_t0 (want := false) h5 hc, fun a ha K hK => ?_⟩
        have hc1 := hc
        have e47 : a.tmps.getD 47 undef = bif ((decide (r.off < base)) == false) then _ else undef := (ha 47).trans h6
        rw [hc1, cond_true] at e47
        clear ha h5 h6
        clear hc hc1
        go_simp
        refine hK _ ?_; rfl
      apply Lo.cond 9 rfl rfl [5] (by kernel_rfl) (fun _ => rfl) ((decide (r.off < base)) == false)
      apply Exists.intro
      refine And.intro ?_ (And.intro ?_ ?_)
      · intro u w1 hR hF hc
        exact guard_f0 (want := false) hF.1 hc
      · intro u w1 hR hF hc
        obtain ⟨h5, -⟩ := hF
        subst hR
        refine ⟨guard_t0 (want := false) h5 hc, fun a ha K hK => ?_⟩
        have hc1 := hc
        have e1 := ha 1
        conv at e1 => rhs; whnf
        clear ha h5
        clear hc hc1
        go_simp
        refine hK _ ?_; rfl
      apply Lo.cond 10 rfl rfl [5, 8] (by kernel_rfl) (fun _ => rfl) ((decide (r.off < base)) == false)
      apply Exists.intro
      refine And.intro ?_ (And.intro ?_ ?_)
      · intro u w1 hR hF hc
        exact guard_f0 (want := false) hF.1 hc
      · intro u w1 hR hF hc
        obtain ⟨h5, h8, -⟩ := hF
        subst hR
        refine ⟨guard_t0 (want := false) h5 hc, fun a ha K hK => ?_⟩
        have hc1 := hc
        have e49 : a.tmps.getD 49 undef = bif ((decide (r.off < base)) == false) then _ else undef := (ha 49).trans h8
        rw [hc1, cond_true] at e49
        clear ha h5 h8
        clear hc hc1
        go_simp
        refine hK _ ?_; rfl
      apply Lo.cond 11 rfl rfl [5, 7, 9] (by kernel_rfl) (fun _ => rfl) ((decide (r.off < base)) == false)
      refine Exists.intro (.bool (decide (fin ≤ r.off))) ?_
      refine And.intro ?_ (And.intro ?_ ?_)
      · intro u w1 hR hF hc
        exact guard_f0 (want := false) hF.1 hc
      · intro u w1 hR hF hc
        obtain ⟨h5, h7, h9, -⟩ := hF
        subst hR
        refine ⟨guard_t0 (want := false) h5 hc, fun a ha K hK => ?_⟩
        have hc1 := hc
        have e48 : a.tmps.getD 48 undef = bif ((decide (r.off < base)) == false) then _ else undef := (ha 48).trans h7
        rw [hc1, cond_true] at e48
        have e50 : a.tmps.getD 50 undef = bif ((decide (r.off < base)) == false) then _ else undef := (ha 50).trans h9
        rw [hc1, cond_true] at e50
        clear ha h5 h7 h9
        clear hc hc1
        go_simp
        refine hK _ ?_
        rfl
      refine Lo.runv 12 rfl rfl [5, 10] (.bool ((decide (r.off < base)) || (decide (fin ≤ r.off)))) (by kernel_rfl) (fun u w1 hR hF => ?_) (fun _ => rfl) ?_
      · obtain ⟨h5, h10, -⟩ := hF
        subst hR
        refine ⟨rfl, fun a ha K hK => ?_⟩
        have e46 := (ha 46).trans h5
        have e51 : a.tmps.getD 51 undef = bif ((decide (r.off < base)) == false) then .bool (decide (fin ≤ r.off)) else undef := (ha 51).trans h10
        clear ha h5 h10
        rcases Bool.eq_false_or_eq_true (decide (r.off < base)) with hT | hT
        all_goals
          simp only [hT, Bool.and_true, Bool.true_and, Bool.and_false, Bool.not_true, Bool.not_false, Bool.true_beq, Bool.false_beq, beq_self_eq_true, cond_true, cond_false] at e46 e51
          have HTp := hide hT; clear hT
          go_simp
          refine hK _ ?_
          simp only [HTp.out, Bool.true_or, Bool.false_or, Bool.true_and, Bool.false_and]
      apply Lo.runx 13 rfl rfl [11] (by kernel_rfl) (fun _ => rfl)
      apply Exists.intro; apply And.intro
      · intro u w1 hR hF
        obtain ⟨h11, -⟩ := hF
        subst hR
        refine ⟨rfl, fun a ha K hK => ?_⟩
        have e52 := (ha 52).trans h11
        clear ha h11
        go_simp
        refine hK _ ?_; rfl
      apply Lo.cond 14 rfl rfl [12] (by kernel_rfl) (fun _ => rfl) (((decide (r.off < base)) || (decide (fin ≤ r.off))) == false)
      apply Exists.intro
      refine And.intro ?_ (And.intro ?_ ?_)
      · intro u w1 hR hF hc
        exact guard_f0 (want := false) hF.1 hc
      · intro u w1 hR hF hc
        obtain ⟨h12, -⟩ := hF
        subst hR
        refine ⟨guard_t0 (want := false) h12 hc, fun a ha K hK => ?_⟩
        have hc1 := hc
        have e3 := ha 3
        conv at e3 => rhs; whnf
        clear ha h12
        clear hc hc1
        go_simp
        refine hK _ ?_; rfl
      apply Lo.cond 15 rfl rfl [12, 13] (by kernel_rfl) (fun _ => rfl) (((decide (r.off < base)) || (decide (fin ≤ r.off))) == false)
      refine Exists.intro (.bool (decide (0 < k))) ?_
      refine And.intro ?_ (And.intro ?_ ?_)
      · intro u w1 hR hF hc
        exact guard_f0 (want := false) hF.1 hc
      · intro u w1 hR hF hc
        obtain ⟨h12, h13, -⟩ := hF
        subst hR
        refine ⟨guard_t0 (want := false) h12 hc, fun a ha K hK => ?_⟩
        have hc1 := hc
        have e54 : a.tmps.getD 54 undef = bif (((decide (r.off < base)) || (decide (fin ≤ r.off))) == false) then _ else undef := (ha 54).trans h13
        rw [hc1, cond_true] at e54
        clear ha h12 h13
        clear hc hc1
        go_simp
        refine hK _ ?_
        rfl
      apply Lo.cond 16 rfl rfl [12, 14] (by kernel_rfl) (fun _ => rfl) (((decide (r.off < base)) || (decide (fin ≤ r.off))) == false)
      apply Exists.intro
      refine And.intro ?_ (And.intro ?_ ?_)
      · intro u w1 hR hF hc
        exact guard_f0 (want := false) hF.1 hc
      · intro u w1 hR hF hc
        obtain ⟨h12, h14, -⟩ := hF
        subst hR
        refine ⟨guard_t0 (want := false) h12 hc, fun a ha K hK => ?_⟩
        have hc1 := hc
        have e55 : a.tmps.getD 55 undef = bif (((decide (r.off < base)) || (decide (fin ≤ r.off))) == false) then _ else undef := (ha 55).trans h14
        rw [hc1, cond_true] at e55
        clear ha h12 h14
        clear hc hc1
        go_simp
        refine hK _ ?_; rfl
      apply Lo.cond 17 rfl rfl [15] (by kernel_rfl) (fun _ => rfl) ((((decide (r.off < base)) || (decide (fin ≤ r.off))) == false) && ((decide (0 < k)) == true))
      apply Exists.intro
      refine And.intro ?_ (And.intro ?_ ?_)
      · intro u w1 hR hF hc
        exact guard_f (want := true) hF.1 hc
      · intro u w1 hR hF hc
        obtain ⟨h15, -⟩ := hF
        subst hR
        refine ⟨guard_t (want := true) h15 hc, fun a ha K hK => ?_⟩
        have hc2 := hc
        have hc1 := (Bool.and_eq_true_iff.mp hc2).1
        have e4 := ha 4
        conv at e4 => rhs; whnf
        clear ha h15
        clear hc hc1 hc2
        go_simp
        refine hK _ ?_; rfl
      apply Lo.cond 18 rfl rfl [15, 16] (by kernel_rfl) (fun _ => rfl) ((((decide (r.off < base)) || (decide (fin ≤ r.off))) == false) && ((decide (0 < k)) == true))
      apply Exists.intro
      refine And.intro ?_ (And.intro ?_ ?_)
      · intro u w1 hR hF hc
        exact guard_f (want := true) hF.1 hc
      · intro u w1 hR hF hc
        obtain ⟨h15, h16, -⟩ := hF
        subst hR
        refine ⟨guard_t (want := true) h15 hc, fun a ha K hK => ?_⟩
        have hc2 := hc
        have hc1 := (Bool.and_eq_true_iff.mp hc2).1
        have e57 : a.tmps.getD 57 undef = bif ((((decide (r.off < base)) || (decide (fin ≤ r.off))) == false) && ((decide (0 < k)) == true)) then _ else undef := (ha 57).trans h16
        rw [hc2, cond_true] at e57
        clear ha h15 h16
        clear hc hc1 hc2
        go_simp
        refine hK _ ?_; rfl
      apply Lo.cond 19 rfl rfl [15] (by kernel_rfl) (fun _ => rfl) ((((decide (r.off < base)) || (decide (fin ≤ r.off))) == false) && ((decide (0 < k)) == true))
      apply Exists.intro
      refine And.intro ?_ (And.intro ?_ ?_)
      · intro u w1 hR hF hc
        exact guard_f (want := true) hF.1 hc
      · intro u w1 hR hF hc
        obtain ⟨h15, -⟩ := hF
        subst hR
        refine ⟨guard_t (want := true) h15 hc, fun a ha K hK => ?_⟩
        have hc2 := hc
        have hc1 := (Bool.and_eq_true_iff.mp hc2).1
        have e1 := ha 1
        conv at e1 => rhs; whnf
        clear ha h15
        clear hc hc1 hc2
        go_simp
        refine hK _ ?_; rfl
      apply Lo.cond 20 rfl rfl [15, 18] (by kernel_rfl) (fun _ => rfl) ((((decide (r.off < base)) || (decide (fin ≤ r.off))) == false) && ((decide (0 < k)) == true))
      apply Exists.intro
      refine And.intro ?_ (And.intro ?_ ?_)
      · intro u w1 hR hF hc
        exact guard_f (want := true) hF.1 hc
      · intro u w1 hR hF hc
        obtain ⟨h15, h18, -⟩ := hF
        subst hR
        refine ⟨guard_t (want := true) h15 hc, fun a ha K hK => ?_⟩
        have hc2 := hc
        have hc1 := (Bool.and_eq_true_iff.mp hc2).1
        have e59 : a.tmps.getD 59 undef = bif ((((decide (r.off < base)) || (decide (fin ≤ r.off))) == false) && ((decide (0 < k)) == true)) then _ else undef := (ha 59).trans h18
        rw [hc2, cond_true] at e59
        clear ha h15 h18
        clear hc hc1 hc2
        go_simp
        refine hK _ ?_; rfl
      apply Lo.cond 21 rfl rfl [15] (by kernel_rfl) (fun _ => rfl) ((((decide (r.off < base)) || (decide (fin ≤ r.off))) == false) && ((decide (0 < k)) == true))
      apply Exists.intro
      refine And.intro ?_ (And.intro ?_ ?_)
      · intro u w1 hR hF hc
        exact guard_f (want := true) hF.1 hc
      · intro u w1 hR hF hc
        obtain ⟨h15, -⟩ := hF
        subst hR
        refine ⟨guard_t (want := true) h15 hc, fun a ha K hK => ?_⟩
        have hc2 := hc
        have hc1 := (Bool.and_eq_true_iff.mp hc2).1
        have e3 := ha 3
        conv at e3 => rhs; whnf
        clear ha h15
        clear hc hc1 hc2
        go_simp
        refine hK _ ?_; rfl
      apply Lo.cond 22 rfl rfl [15, 20] (by kernel_rfl) (fun _ => rfl) ((((decide (r.off < base)) || (decide (fin ≤ r.off))) == false) && ((decide (0 < k)) == true))
      refine Exists.intro (.int .i64 ((k - 1 : Nat) : Int)) ?_
      refine And.intro ?_ (And.intro ?_ ?_)
      · intro u w1 hR hF hc
        exact guard_f (want := true) hF.1 hc
      · intro u w1 hR hF hc
        obtain ⟨h15, h20, -⟩ := hF
        subst hR
        refine ⟨guard_t (want := true) h15 hc, fun a ha K hK => ?_⟩
        have hc2 := hc
        have hc1 := (Bool.and_eq_true_iff.mp hc2).1
        have e61 : a.tmps.getD 61 undef = bif ((((decide (r.off < base)) || (decide (fin ≤ r.off))) == false) && ((decide (0 < k)) == true)) then _ else undef := (ha 61).trans h20
        rw [hc2, cond_true] at e61
        clear ha h15 h20
        have hk0 : 0 < k := by simp only [Bool.and_eq_true, beq_iff_eq, decide_eq_true_eq] at hc; omega
        clear hc hc1 hc2
        go_simp
        refine hK _ ?_
        rw [IntWalk.i64_left, IntWalk.wrap64_in _ (by omega)]
        congr 1; omega
      apply Lo.cond 23 rfl rfl [15, 19, 21] (by kernel_rfl) (fun _ => rfl) ((((decide (r.off < base)) || (decide (fin ≤ r.off))) == false) && ((decide (0 < k)) == true))
      refine Exists.intro (.pointer (some (p.add ((k - 1) * 6)))) ?_
      refine And.intro ?_ (And.intro ?_ ?_)
      · intro u w1 hR hF hc
        exact guard_f (want := true) hF.1 hc
      · intro u w1 hR hF hc
        obtain ⟨h15, h19, h21, -⟩ := hF
        subst hR
        refine ⟨guard_t (want := true) h15 hc, fun a ha K hK => ?_⟩
        have hc2 := hc
        have hc1 := (Bool.and_eq_true_iff.mp hc2).1
        have e60 : a.tmps.getD 60 undef = bif ((((decide (r.off < base)) || (decide (fin ≤ r.off))) == false) && ((decide (0 < k)) == true)) then _ else undef := (ha 60).trans h19
        rw [hc2, cond_true] at e60
        have e62 : a.tmps.getD 62 undef = bif ((((decide (r.off < base)) || (decide (fin ≤ r.off))) == false) && ((decide (0 < k)) == true)) then _ else undef := (ha 62).trans h21
        rw [hc2, cond_true] at e62
        clear ha h15 h19 h21
        have hk0 : 0 < k := by simp only [Bool.and_eq_true, beq_iff_eq, decide_eq_true_eq] at hc; omega
        have hk1 : k - 1 < recs.length := by omega
        clear hc hc1 hc2
        go_simp
        refine hK _ ?_
        rfl
      apply Lo.cond 24 rfl rfl [15, 22] (by kernel_rfl) (fun _ => rfl) ((((decide (r.off < base)) || (decide (fin ≤ r.off))) == false) && ((decide (0 < k)) == true))
      apply Exists.intro
      refine And.intro ?_ (And.intro ?_ ?_)
      · intro u w1 hR hF hc
        exact guard_f (want := true) hF.1 hc
      · intro u w1 hR hF hc
        obtain ⟨h15, h22, -⟩ := hF
        subst hR
        refine ⟨guard_t (want := true) h15 hc, fun a ha K hK => ?_⟩
        have hc2 := hc
        have hc1 := (Bool.and_eq_true_iff.mp hc2).1
        have e63 : a.tmps.getD 63 undef = bif ((((decide (r.off < base)) || (decide (fin ≤ r.off))) == false) && ((decide (0 < k)) == true)) then _ else undef := (ha 63).trans h22
        rw [hc2, cond_true] at e63
        clear ha h15 h22
        clear hc hc1 hc2
        go_simp
        refine hK _ ?_; rfl
      apply Lo.cond 25 rfl rfl [15, 23] (by kernel_rfl) (fun _ => rfl) ((((decide (r.off < base)) || (decide (fin ≤ r.off))) == false) && ((decide (0 < k)) == true))
      apply Exists.intro
      refine And.intro ?_ (And.intro ?_ ?_)
      · intro u w1 hR hF hc
        exact guard_f (want := true) hF.1 hc
      · intro u w1 hR hF hc
        obtain ⟨h15, h23, -⟩ := hF
        subst hR
        refine ⟨guard_t (want := true) h15 hc, fun a ha K hK => ?_⟩
        have hc2 := hc
        have hc1 := (Bool.and_eq_true_iff.mp hc2).1
        have e64 : a.tmps.getD 64 undef = bif ((((decide (r.off < base)) || (decide (fin ≤ r.off))) == false) && ((decide (0 < k)) == true)) then _ else undef := (ha 64).trans h23
        rw [hc2, cond_true] at e64
        clear ha h15 h23
        have hk0 : 0 < k := by simp only [Bool.and_eq_true, beq_iff_eq, decide_eq_true_eq] at hc; omega
        have hpc := HPC.out hk0 _ ((Turn.refl [] wr).alloc (.cells #[.int .i64 r.off, .int .i64 r.time, .bool r.keyed, .string ⟨r.key.toArray⟩, .bool r.gone, .string ⟨r.value.toArray⟩] 98))
        clear hc hc1 hc2
        go_simp
        refine hK _ ?_; rfl
      apply Lo.cond 26 rfl rfl [15, 17, 24] (by kernel_rfl) (fun _ => rfl) ((((decide (r.off < base)) || (decide (fin ≤ r.off))) == false) && ((decide (0 < k)) == true))
      refine Exists.intro (.bool (decide (r.off ≤ lo - 1))) ?_
      refine And.intro ?_ (And.intro ?_ ?_)
      · intro u w1 hR hF hc
        exact guard_f (want := true) hF.1 hc
      · intro u w1 hR hF hc
        obtain ⟨h15, h17, h24, -⟩ := hF
        subst hR
        refine ⟨guard_t (want := true) h15 hc, fun a ha K hK => ?_⟩
        have hc2 := hc
        have hc1 := (Bool.and_eq_true_iff.mp hc2).1
        have e58 : a.tmps.getD 58 undef = bif ((((decide (r.off < base)) || (decide (fin ≤ r.off))) == false) && ((decide (0 < k)) == true)) then _ else undef := (ha 58).trans h17
        rw [hc2, cond_true] at e58
        have e65 : a.tmps.getD 65 undef = bif ((((decide (r.off < base)) || (decide (fin ≤ r.off))) == false) && ((decide (0 < k)) == true)) then _ else undef := (ha 65).trans h24
        rw [hc2, cond_true] at e65
        clear ha h15 h17 h24
        clear hc hc1 hc2
        go_simp
        refine hK _ ?_
        rfl
      apply Lo.cond 27 rfl rfl [12, 15, 25] (by kernel_rfl) (fun _ => rfl) (((decide (r.off < base)) || (decide (fin ≤ r.off))) == false)
      refine Exists.intro (.bool ((decide (0 < k)) && (decide (r.off ≤ lo - 1)))) ?_
      refine And.intro ?_ (And.intro ?_ ?_)
      · intro u w1 hR hF hc
        exact guard_f0 (want := false) hF.1 hc
      · intro u w1 hR hF hc
        obtain ⟨h12, h15, h25, -⟩ := hF
        subst hR
        refine ⟨guard_t0 (want := false) h12 hc, fun a ha K hK => ?_⟩
        have hc1 := hc
        have e56 : a.tmps.getD 56 undef = bif (((decide (r.off < base)) || (decide (fin ≤ r.off))) == false) then _ else undef := (ha 56).trans h15
        rw [hc1, cond_true] at e56
        have e66 : a.tmps.getD 66 undef = bif ((((decide (r.off < base)) || (decide (fin ≤ r.off))) == false) && ((decide (0 < k)) == true)) then .bool (decide (r.off ≤ lo - 1)) else undef := (ha 66).trans h25
        clear ha h12 h15 h25
        rcases Bool.eq_false_or_eq_true (decide (0 < k)) with hT | hT
        all_goals
          simp only [hT, hc1, Bool.and_true, Bool.true_and, Bool.and_false, Bool.not_true, Bool.not_false, Bool.true_beq, Bool.false_beq, beq_self_eq_true, cond_true, cond_false] at e56 e66
          clear hc hc1
          have HTp := hide hT; clear hT
          go_simp
          refine hK _ ?_
          simp only [HTp.out, Bool.true_or, Bool.false_or, Bool.true_and, Bool.false_and]
      refine Lo.runv 28 rfl rfl [12, 26] (.bool (((decide (r.off < base)) || (decide (fin ≤ r.off))) || ((decide (0 < k)) && (decide (r.off ≤ lo - 1))))) (by kernel_rfl) (fun u w1 hR hF => ?_) (fun _ => rfl) ?_
      · obtain ⟨h12, h26, -⟩ := hF
        subst hR
        refine ⟨rfl, fun a ha K hK => ?_⟩
        have e53 := (ha 53).trans h12
        have e67 : a.tmps.getD 67 undef = bif (((decide (r.off < base)) || (decide (fin ≤ r.off))) == false) then .bool ((decide (0 < k)) && (decide (r.off ≤ lo - 1))) else undef := (ha 67).trans h26
        clear ha h12 h26
        rcases Bool.eq_false_or_eq_true ((decide (r.off < base)) || (decide (fin ≤ r.off))) with hT | hT
        all_goals
          simp only [hT, Bool.and_true, Bool.true_and, Bool.and_false, Bool.not_true, Bool.not_false, Bool.true_beq, Bool.false_beq, beq_self_eq_true, cond_true, cond_false] at e53 e67
          have HTp := hide hT; clear hT
          go_simp
          refine hK _ ?_
          simp only [HTp.out, Bool.true_or, Bool.false_or, Bool.true_and, Bool.false_and]
      apply Lo.runx 29 rfl rfl [27] (by kernel_rfl) (fun _ => rfl)
      apply Exists.intro; apply And.intro
      · intro u w1 hR hF
        obtain ⟨h27, -⟩ := hF
        subst hR
        refine ⟨rfl, fun a ha K hK => ?_⟩
        have e68 := (ha 68).trans h27
        clear ha h27
        go_simp
        refine hK _ ?_; rfl
      apply Lo.cond 30 rfl rfl [28] (by kernel_rfl) (fun _ => rfl) ((((decide (r.off < base)) || (decide (fin ≤ r.off))) || ((decide (0 < k)) && (decide (r.off ≤ lo - 1)))) == false)
      apply Exists.intro
      refine And.intro ?_ (And.intro ?_ ?_)
      · intro u w1 hR hF hc
        exact guard_f0 (want := false) hF.1 hc
      · intro u w1 hR hF hc
        obtain ⟨h28, -⟩ := hF
        subst hR
        refine ⟨guard_t0 (want := false) h28 hc, fun a ha K hK => ?_⟩
        have hc1 := hc
        have e4 := ha 4
        conv at e4 => rhs; whnf
        clear ha h28
        clear hc hc1
        go_simp
        refine hK _ ?_; rfl
      apply Lo.cond 31 rfl rfl [28, 29] (by kernel_rfl) (fun _ => rfl) ((((decide (r.off < base)) || (decide (fin ≤ r.off))) || ((decide (0 < k)) && (decide (r.off ≤ lo - 1)))) == false)
      refine Exists.intro (.bool (r.keyed)) ?_
      refine And.intro ?_ (And.intro ?_ ?_)
      · intro u w1 hR hF hc
        exact guard_f0 (want := false) hF.1 hc
      · intro u w1 hR hF hc
        obtain ⟨h28, h29, -⟩ := hF
        subst hR
        refine ⟨guard_t0 (want := false) h28 hc, fun a ha K hK => ?_⟩
        have hc1 := hc
        have e70 : a.tmps.getD 70 undef = bif ((((decide (r.off < base)) || (decide (fin ≤ r.off))) || ((decide (0 < k)) && (decide (r.off ≤ lo - 1)))) == false) then _ else undef := (ha 70).trans h29
        rw [hc1, cond_true] at e70
        clear ha h28 h29
        clear hc hc1
        go_simp
        refine hK _ ?_
        rfl
      apply Lo.cond 32 rfl rfl [28, 30] (by kernel_rfl) (fun _ => rfl) ((((decide (r.off < base)) || (decide (fin ≤ r.off))) || ((decide (0 < k)) && (decide (r.off ≤ lo - 1)))) == false)
      apply Exists.intro
      refine And.intro ?_ (And.intro ?_ ?_)
      · intro u w1 hR hF hc
        exact guard_f0 (want := false) hF.1 hc
      · intro u w1 hR hF hc
        obtain ⟨h28, h30, -⟩ := hF
        subst hR
        refine ⟨guard_t0 (want := false) h28 hc, fun a ha K hK => ?_⟩
        have hc1 := hc
        have e71 : a.tmps.getD 71 undef = bif ((((decide (r.off < base)) || (decide (fin ≤ r.off))) || ((decide (0 < k)) && (decide (r.off ≤ lo - 1)))) == false) then _ else undef := (ha 71).trans h30
        rw [hc1, cond_true] at e71
        clear ha h28 h30
        clear hc hc1
        go_simp
        refine hK _ ?_; rfl
      apply Lo.cond 33 rfl rfl [28, 31] (by kernel_rfl) (fun _ => rfl) ((((decide (r.off < base)) || (decide (fin ≤ r.off))) || ((decide (0 < k)) && (decide (r.off ≤ lo - 1)))) == false)
      apply Exists.intro
      refine And.intro ?_ (And.intro ?_ ?_)
      · intro u w1 hR hF hc
        exact guard_f0 (want := false) hF.1 hc
      · intro u w1 hR hF hc
        obtain ⟨h28, h31, -⟩ := hF
        subst hR
        refine ⟨guard_t0 (want := false) h28 hc, fun a ha K hK => ?_⟩
        have hc1 := hc
        have e72 : a.tmps.getD 72 undef = bif ((((decide (r.off < base)) || (decide (fin ≤ r.off))) || ((decide (0 < k)) && (decide (r.off ≤ lo - 1)))) == false) then _ else undef := (ha 72).trans h31
        rw [hc1, cond_true] at e72
        clear ha h28 h31
        clear hc hc1
        go_simp
        refine hK _ ?_; rfl
      apply Lo.cond 34 rfl rfl [32] (by kernel_rfl) (fun _ => rfl) (((((decide (r.off < base)) || (decide (fin ≤ r.off))) || ((decide (0 < k)) && (decide (r.off ≤ lo - 1)))) == false) && ((!(r.keyed)) == true))
      apply Exists.intro
      refine And.intro ?_ (And.intro ?_ ?_)
      · intro u w1 hR hF hc
        exact guard_f (want := true) hF.1 hc
      · intro u w1 hR hF hc
        obtain ⟨h32, -⟩ := hF
        subst hR
        refine ⟨guard_t (want := true) h32 hc, fun a ha K hK => ?_⟩
        have hc2 := hc
        have hc1 := (Bool.and_eq_true_iff.mp hc2).1
        have e4 := ha 4
        conv at e4 => rhs; whnf
        clear ha h32
        clear hc hc1 hc2
        go_simp
        refine hK _ ?_; rfl
      apply Lo.cond 35 rfl rfl [32, 33] (by kernel_rfl) (fun _ => rfl) (((((decide (r.off < base)) || (decide (fin ≤ r.off))) || ((decide (0 < k)) && (decide (r.off ≤ lo - 1)))) == false) && ((!(r.keyed)) == true))
      apply Exists.intro
      refine And.intro ?_ (And.intro ?_ ?_)
      · intro u w1 hR hF hc
        exact guard_f (want := true) hF.1 hc
      · intro u w1 hR hF hc
        obtain ⟨h32, h33, -⟩ := hF
        subst hR
        refine ⟨guard_t (want := true) h32 hc, fun a ha K hK => ?_⟩
        have hc2 := hc
        have hc1 := (Bool.and_eq_true_iff.mp hc2).1
        have e74 : a.tmps.getD 74 undef = bif (((((decide (r.off < base)) || (decide (fin ≤ r.off))) || ((decide (0 < k)) && (decide (r.off ≤ lo - 1)))) == false) && ((!(r.keyed)) == true)) then _ else undef := (ha 74).trans h33
        rw [hc2, cond_true] at e74
        clear ha h32 h33
        clear hc hc1 hc2
        go_simp
        refine hK _ ?_; rfl
      apply Lo.cond 36 rfl rfl [32, 34] (by kernel_rfl) (fun _ => rfl) (((((decide (r.off < base)) || (decide (fin ≤ r.off))) || ((decide (0 < k)) && (decide (r.off ≤ lo - 1)))) == false) && ((!(r.keyed)) == true))
      refine Exists.intro (.bool (!r.key.isEmpty)) ?_
      refine And.intro ?_ (And.intro ?_ ?_)
      · intro u w1 hR hF hc
        exact guard_f (want := true) hF.1 hc
      · intro u w1 hR hF hc
        obtain ⟨h32, h34, -⟩ := hF
        subst hR
        refine ⟨guard_t (want := true) h32 hc, fun a ha K hK => ?_⟩
        have hc2 := hc
        have hc1 := (Bool.and_eq_true_iff.mp hc2).1
        have e75 : a.tmps.getD 75 undef = bif (((((decide (r.off < base)) || (decide (fin ≤ r.off))) || ((decide (0 < k)) && (decide (r.off ≤ lo - 1)))) == false) && ((!(r.keyed)) == true)) then _ else undef := (ha 75).trans h34
        rw [hc2, cond_true] at e75
        clear ha h32 h34
        clear hc hc1 hc2
        go_simp
        refine hK _ ?_
        rfl
      apply Lo.cond 37 rfl rfl [28, 32, 35] (by kernel_rfl) (fun _ => rfl) ((((decide (r.off < base)) || (decide (fin ≤ r.off))) || ((decide (0 < k)) && (decide (r.off ≤ lo - 1)))) == false)
      refine Exists.intro (.bool ((!(r.keyed)) && (!r.key.isEmpty))) ?_
      refine And.intro ?_ (And.intro ?_ ?_)
      · intro u w1 hR hF hc
        exact guard_f0 (want := false) hF.1 hc
      · intro u w1 hR hF hc
        obtain ⟨h28, h32, h35, -⟩ := hF
        subst hR
        refine ⟨guard_t0 (want := false) h28 hc, fun a ha K hK => ?_⟩
        have hc1 := hc
        have e73 : a.tmps.getD 73 undef = bif ((((decide (r.off < base)) || (decide (fin ≤ r.off))) || ((decide (0 < k)) && (decide (r.off ≤ lo - 1)))) == false) then _ else undef := (ha 73).trans h32
        rw [hc1, cond_true] at e73
        have e76 : a.tmps.getD 76 undef = bif (((((decide (r.off < base)) || (decide (fin ≤ r.off))) || ((decide (0 < k)) && (decide (r.off ≤ lo - 1)))) == false) && ((!(r.keyed)) == true)) then .bool (!r.key.isEmpty) else undef := (ha 76).trans h35
        clear ha h28 h32 h35
        rcases Bool.eq_false_or_eq_true (!(r.keyed)) with hT | hT
        all_goals
          simp only [hT, hc1, Bool.and_true, Bool.true_and, Bool.and_false, Bool.not_true, Bool.not_false, Bool.true_beq, Bool.false_beq, beq_self_eq_true, cond_true, cond_false] at e73 e76
          clear hc hc1
          have HTp := hide hT; clear hT
          go_simp
          refine hK _ ?_
          simp only [HTp.out, Bool.true_or, Bool.false_or, Bool.true_and, Bool.false_and]
      refine Lo.runv 38 rfl rfl [28, 36] (.bool ((((decide (r.off < base)) || (decide (fin ≤ r.off))) || ((decide (0 < k)) && (decide (r.off ≤ lo - 1)))) || ((!(r.keyed)) && (!r.key.isEmpty)))) (by kernel_rfl) (fun u w1 hR hF => ?_) (fun _ => rfl) ?_
      · obtain ⟨h28, h36, -⟩ := hF
        subst hR
        refine ⟨rfl, fun a ha K hK => ?_⟩
        have e69 := (ha 69).trans h28
        have e77 : a.tmps.getD 77 undef = bif ((((decide (r.off < base)) || (decide (fin ≤ r.off))) || ((decide (0 < k)) && (decide (r.off ≤ lo - 1)))) == false) then .bool ((!(r.keyed)) && (!r.key.isEmpty)) else undef := (ha 77).trans h36
        clear ha h28 h36
        rcases Bool.eq_false_or_eq_true (((decide (r.off < base)) || (decide (fin ≤ r.off))) || ((decide (0 < k)) && (decide (r.off ≤ lo - 1)))) with hT | hT
        all_goals
          simp only [hT, Bool.and_true, Bool.true_and, Bool.and_false, Bool.not_true, Bool.not_false, Bool.true_beq, Bool.false_beq, beq_self_eq_true, cond_true, cond_false] at e69 e77
          have HTp := hide hT; clear hT
          go_simp
          refine hK _ ?_
          simp only [HTp.out, Bool.true_or, Bool.false_or, Bool.true_and, Bool.false_and]
      apply Lo.runx 39 rfl rfl [37] (by kernel_rfl) (fun _ => rfl)
      apply Exists.intro; apply And.intro
      · intro u w1 hR hF
        obtain ⟨h37, -⟩ := hF
        subst hR
        refine ⟨rfl, fun a ha K hK => ?_⟩
        have e78 := (ha 78).trans h37
        clear ha h37
        go_simp
        refine hK _ ?_; rfl
      apply Lo.cond 40 rfl rfl [38] (by kernel_rfl) (fun _ => rfl) (((((decide (r.off < base)) || (decide (fin ≤ r.off))) || ((decide (0 < k)) && (decide (r.off ≤ lo - 1)))) || ((!(r.keyed)) && (!r.key.isEmpty))) == false)
      apply Exists.intro
      refine And.intro ?_ (And.intro ?_ ?_)
      · intro u w1 hR hF hc
        exact guard_f0 (want := false) hF.1 hc
      · intro u w1 hR hF hc
        obtain ⟨h38, -⟩ := hF
        subst hR
        refine ⟨guard_t0 (want := false) h38 hc, fun a ha K hK => ?_⟩
        have hc1 := hc
        have e4 := ha 4
        conv at e4 => rhs; whnf
        clear ha h38
        clear hc hc1
        go_simp
        refine hK _ ?_; rfl
      apply Lo.cond 41 rfl rfl [38, 39] (by kernel_rfl) (fun _ => rfl) (((((decide (r.off < base)) || (decide (fin ≤ r.off))) || ((decide (0 < k)) && (decide (r.off ≤ lo - 1)))) || ((!(r.keyed)) && (!r.key.isEmpty))) == false)
      refine Exists.intro (.bool (r.gone)) ?_
      refine And.intro ?_ (And.intro ?_ ?_)
      · intro u w1 hR hF hc
        exact guard_f0 (want := false) hF.1 hc
      · intro u w1 hR hF hc
        obtain ⟨h38, h39, -⟩ := hF
        subst hR
        refine ⟨guard_t0 (want := false) h38 hc, fun a ha K hK => ?_⟩
        have hc1 := hc
        have e80 : a.tmps.getD 80 undef = bif (((((decide (r.off < base)) || (decide (fin ≤ r.off))) || ((decide (0 < k)) && (decide (r.off ≤ lo - 1)))) || ((!(r.keyed)) && (!r.key.isEmpty))) == false) then _ else undef := (ha 80).trans h39
        rw [hc1, cond_true] at e80
        clear ha h38 h39
        clear hc hc1
        go_simp
        refine hK _ ?_
        rfl
      apply Lo.cond 42 rfl rfl [38, 40] (by kernel_rfl) (fun _ => rfl) (((((decide (r.off < base)) || (decide (fin ≤ r.off))) || ((decide (0 < k)) && (decide (r.off ≤ lo - 1)))) || ((!(r.keyed)) && (!r.key.isEmpty))) == false)
      apply Exists.intro
      refine And.intro ?_ (And.intro ?_ ?_)
      · intro u w1 hR hF hc
        exact guard_f0 (want := false) hF.1 hc
      · intro u w1 hR hF hc
        obtain ⟨h38, h40, -⟩ := hF
        subst hR
        refine ⟨guard_t0 (want := false) h38 hc, fun a ha K hK => ?_⟩
        have hc1 := hc
        have e81 : a.tmps.getD 81 undef = bif (((((decide (r.off < base)) || (decide (fin ≤ r.off))) || ((decide (0 < k)) && (decide (r.off ≤ lo - 1)))) || ((!(r.keyed)) && (!r.key.isEmpty))) == false) then _ else undef := (ha 81).trans h40
        rw [hc1, cond_true] at e81
        clear ha h38 h40
        clear hc hc1
        go_simp
        refine hK _ ?_; rfl
      apply Lo.cond 43 rfl rfl [41] (by kernel_rfl) (fun _ => rfl) ((((((decide (r.off < base)) || (decide (fin ≤ r.off))) || ((decide (0 < k)) && (decide (r.off ≤ lo - 1)))) || ((!(r.keyed)) && (!r.key.isEmpty))) == false) && ((r.gone) == true))
      apply Exists.intro
      refine And.intro ?_ (And.intro ?_ ?_)
      · intro u w1 hR hF hc
        exact guard_f (want := true) hF.1 hc
      · intro u w1 hR hF hc
        obtain ⟨h41, -⟩ := hF
        subst hR
        refine ⟨guard_t (want := true) h41 hc, fun a ha K hK => ?_⟩
        have hc2 := hc
        have hc1 := (Bool.and_eq_true_iff.mp hc2).1
        have e4 := ha 4
        conv at e4 => rhs; whnf
        clear ha h41
        clear hc hc1 hc2
        go_simp
        refine hK _ ?_; rfl
      apply Lo.cond 44 rfl rfl [41, 42] (by kernel_rfl) (fun _ => rfl) ((((((decide (r.off < base)) || (decide (fin ≤ r.off))) || ((decide (0 < k)) && (decide (r.off ≤ lo - 1)))) || ((!(r.keyed)) && (!r.key.isEmpty))) == false) && ((r.gone) == true))
      apply Exists.intro
      refine And.intro ?_ (And.intro ?_ ?_)
      · intro u w1 hR hF hc
        exact guard_f (want := true) hF.1 hc
      · intro u w1 hR hF hc
        obtain ⟨h41, h42, -⟩ := hF
        subst hR
        refine ⟨guard_t (want := true) h41 hc, fun a ha K hK => ?_⟩
        have hc2 := hc
        have hc1 := (Bool.and_eq_true_iff.mp hc2).1
        have e83 : a.tmps.getD 83 undef = bif ((((((decide (r.off < base)) || (decide (fin ≤ r.off))) || ((decide (0 < k)) && (decide (r.off ≤ lo - 1)))) || ((!(r.keyed)) && (!r.key.isEmpty))) == false) && ((r.gone) == true)) then _ else undef := (ha 83).trans h42
        rw [hc2, cond_true] at e83
        clear ha h41 h42
        clear hc hc1 hc2
        go_simp
        refine hK _ ?_; rfl
      apply Lo.cond 45 rfl rfl [41, 43] (by kernel_rfl) (fun _ => rfl) ((((((decide (r.off < base)) || (decide (fin ≤ r.off))) || ((decide (0 < k)) && (decide (r.off ≤ lo - 1)))) || ((!(r.keyed)) && (!r.key.isEmpty))) == false) && ((r.gone) == true))
      refine Exists.intro (.bool (!r.value.isEmpty)) ?_
      refine And.intro ?_ (And.intro ?_ ?_)
      · intro u w1 hR hF hc
        exact guard_f (want := true) hF.1 hc
      · intro u w1 hR hF hc
        obtain ⟨h41, h43, -⟩ := hF
        subst hR
        refine ⟨guard_t (want := true) h41 hc, fun a ha K hK => ?_⟩
        have hc2 := hc
        have hc1 := (Bool.and_eq_true_iff.mp hc2).1
        have e84 : a.tmps.getD 84 undef = bif ((((((decide (r.off < base)) || (decide (fin ≤ r.off))) || ((decide (0 < k)) && (decide (r.off ≤ lo - 1)))) || ((!(r.keyed)) && (!r.key.isEmpty))) == false) && ((r.gone) == true)) then _ else undef := (ha 84).trans h43
        rw [hc2, cond_true] at e84
        clear ha h41 h43
        clear hc hc1 hc2
        go_simp
        refine hK _ ?_
        rfl
      apply Lo.cond 46 rfl rfl [38, 41, 44] (by kernel_rfl) (fun _ => rfl) (((((decide (r.off < base)) || (decide (fin ≤ r.off))) || ((decide (0 < k)) && (decide (r.off ≤ lo - 1)))) || ((!(r.keyed)) && (!r.key.isEmpty))) == false)
      refine Exists.intro (.bool ((r.gone) && (!r.value.isEmpty))) ?_
      refine And.intro ?_ (And.intro ?_ ?_)
      · intro u w1 hR hF hc
        exact guard_f0 (want := false) hF.1 hc
      · intro u w1 hR hF hc
        obtain ⟨h38, h41, h44, -⟩ := hF
        subst hR
        refine ⟨guard_t0 (want := false) h38 hc, fun a ha K hK => ?_⟩
        have hc1 := hc
        have e82 : a.tmps.getD 82 undef = bif (((((decide (r.off < base)) || (decide (fin ≤ r.off))) || ((decide (0 < k)) && (decide (r.off ≤ lo - 1)))) || ((!(r.keyed)) && (!r.key.isEmpty))) == false) then _ else undef := (ha 82).trans h41
        rw [hc1, cond_true] at e82
        have e85 : a.tmps.getD 85 undef = bif ((((((decide (r.off < base)) || (decide (fin ≤ r.off))) || ((decide (0 < k)) && (decide (r.off ≤ lo - 1)))) || ((!(r.keyed)) && (!r.key.isEmpty))) == false) && ((r.gone) == true)) then .bool (!r.value.isEmpty) else undef := (ha 85).trans h44
        clear ha h38 h41 h44
        rcases Bool.eq_false_or_eq_true (r.gone) with hT | hT
        all_goals
          simp only [hT, hc1, Bool.and_true, Bool.true_and, Bool.and_false, Bool.not_true, Bool.not_false, Bool.true_beq, Bool.false_beq, beq_self_eq_true, cond_true, cond_false] at e82 e85
          clear hc hc1
          have HTp := hide hT; clear hT
          go_simp
          refine hK _ ?_
          simp only [HTp.out, Bool.true_or, Bool.false_or, Bool.true_and, Bool.false_and]
      refine Lo.runv 47 rfl rfl [38, 45] (.bool (((((decide (r.off < base)) || (decide (fin ≤ r.off))) || ((decide (0 < k)) && (decide (r.off ≤ lo - 1)))) || ((!(r.keyed)) && (!r.key.isEmpty))) || ((r.gone) && (!r.value.isEmpty)))) (by kernel_rfl) (fun u w1 hR hF => ?_) (fun _ => rfl) ?_
      · obtain ⟨h38, h45, -⟩ := hF
        subst hR
        refine ⟨rfl, fun a ha K hK => ?_⟩
        have e79 := (ha 79).trans h38
        have e86 : a.tmps.getD 86 undef = bif (((((decide (r.off < base)) || (decide (fin ≤ r.off))) || ((decide (0 < k)) && (decide (r.off ≤ lo - 1)))) || ((!(r.keyed)) && (!r.key.isEmpty))) == false) then .bool ((r.gone) && (!r.value.isEmpty)) else undef := (ha 86).trans h45
        clear ha h38 h45
        rcases Bool.eq_false_or_eq_true ((((decide (r.off < base)) || (decide (fin ≤ r.off))) || ((decide (0 < k)) && (decide (r.off ≤ lo - 1)))) || ((!(r.keyed)) && (!r.key.isEmpty))) with hT | hT
        all_goals
          simp only [hT, Bool.and_true, Bool.true_and, Bool.and_false, Bool.not_true, Bool.not_false, Bool.true_beq, Bool.false_beq, beq_self_eq_true, cond_true, cond_false] at e79 e86
          have HTp := hide hT; clear hT
          go_simp
          refine hK _ ?_
          simp only [HTp.out, Bool.true_or, Bool.false_or, Bool.true_and, Bool.false_and]
      refine Lo.done [46] (fun u w1 hRd hSd hF => ?_)
      clear hSd
      obtain ⟨f46, -⟩ := hF
      subst hRd
      have d46 : u 46 = .bool (badB r base fin lo k) := f46
      clear f46
      simp only [putFrom, Act.put, List.setIfInBounds_toArray, List.set_cons_succ, List.set_cons_zero, Nat.zero_add, Nat.reduceAdd, d46]
      clear d46
      obtain ⟨bt, hbt⟩ : ∃ bt, badB r base fin lo k = bt := ⟨_, rfl⟩
      rw [hbt]
      have HBT := hide hbt
      have HT3 : Hid (Turn [] (w.alloc (.cells #[.int .i64 base, .int .i64 fin, .slice (some p) recs.length c] 53)) (wr.alloc (.cells #[.int .i64 r.off, .int .i64 r.time, .bool r.keyed, .string ⟨r.key.toArray⟩, .bool r.gone, .string ⟨r.value.toArray⟩] 98)).drew) := (HT.out.alloc _).drew
      clear hbt c0 c1 c2 g0 g1 g2 g3 g4 g5
      cases bt with
      | true =>
        have HE1 := hide (recErr_bad HLK.out HBT.out)
        go_wp2
        go_ret
        refine ⟨ret_int ?_, ((Turn.refl [] w).alloc _).same HT3.out⟩
        rw [HZ.out, HE.out, HS.out, HE1.out]
        rfl
      | false =>
        have HE1 := hide (recErr_good HLK.out HBT.out)
        have hlo2 := good_lo HLK.out HBT.out
        by_cases h6 : 60 < r.key.length
        · go_wp2
          go_ret
          refine ⟨ret_int ?_, ((Turn.refl [] w).alloc _).same HT3.out⟩
          have HE2 : Bt.recErr r lo fin = 4 := by rw [HE1.out, if_pos (.inl h6)]
          rw [HZ.out, HE.out, HS.out, HE2]
          rfl
        by_cases h7 : 500 < r.value.length
        · go_wp2
          go_ret
          refine ⟨ret_int ?_, ((Turn.refl [] w).alloc _).same HT3.out⟩
          have HE2 : Bt.recErr r lo fin = 4 := by rw [HE1.out, if_pos (.inr h7)]
          rw [HZ.out, HE.out, HS.out, HE2]
          rfl
        by_cases h8 : r.time < 0
        · go_wp2
          go_ret
          refine ⟨ret_int ?_, ((Turn.refl [] w).alloc _).same HT3.out⟩
          have HE2 : Bt.recErr r lo fin = 2 := by rw [HE1.out, if_neg (by omega), if_pos (.inl h8)]
          rw [HZ.out, HE.out, HS.out, HE2]
          rfl
        by_cases h9 : 1099511627776 < r.time
        · go_wp2
          go_ret
          refine ⟨ret_int ?_, ((Turn.refl [] w).alloc _).same HT3.out⟩
          have HE2 : Bt.recErr r lo fin = 2 := by rw [HE1.out, if_neg (by omega), if_pos (.inr h9)]
          rw [HZ.out, HE.out, HS.out, HE2]
          rfl
        have HE2 : Hid (Bt.recErr r lo fin = 0) := by
          show _ = _
          rw [HE1.out, if_neg (by omega), if_neg (by omega)]
        go_wp2
        refine ⟨⟨k + 1, r.off + 1, by omega, by go_num, .inr ⟨by omega, by rcases HLK.out with h | h <;> omega⟩, fun h h' => ?_, ?_, by omega, HT3.out⟩, ?_⟩
        · rw [HR1.out]; rfl
        · rw [HE.out, HS.out, if_pos HE2.out]
        · simp only [intOf]; omega
    · have HL : Hid (recs.drop k = []) := by show _ = _; rw [List.drop_eq_nil_iff]; omega
      go_wp2
      go_ret
      refine ⟨?_, ((Turn.refl [] w).alloc _).same HT.out⟩
      rw [HZ.out, HE.out, HL.out]
      rfl
end Go.Proofs.YtjjfjbclmdnodaaDoor
