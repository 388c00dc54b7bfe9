/- For every number and every row of bytes, the law RecordNumbers answers true: the number at the beginning of the bytes is the document's; a number from 0 to MaxTime is written as the document writes it. No condition. -/
import Derived.Test.YtjjfjbclmdnodaaRows
import Derived.WalkKit
import Derived.ProofKit
import Derived.OpenShut
import Derived.ShutString
import Derived.ChangeOld
import Derived.Below
import Derived.Test.YtjjfjbclmdnodaaGetR
import Derived.Test.YtjjfjbclmdnodaaPutN
import Derived.Lib.Strings
namespace Go.Proofs.Ytjjfjbclmdnodaa.recordNumbers
open Go.ChangeShapes Go.WideShapes Go.ChangeAt Go.RowKit
open Go.ChangeMaps (open_string shut_string)
set_option linter.unusedVariables false
set_option linter.unusedSimpArgs false
set_option maxHeartbeats 1000000

theorem own : ownKnob Try.prog.godebug = none := by kernel_rfl
theorem laidOut : laidOutB Try.prog = true := by kernel_rfl

def IsRow (k : IntKind) (w : World) (a : Option Addr) (len cap : Nat) (zs : List Int) : Prop :=
  (a = none ∧ len = 0 ∧ cap = 0 ∧ zs = []) ∨
  ∃ x, a = some x ∧ len ≤ cap ∧ cap ≤ maxLen ∧ zs.length = cap ∧ (∀ i, i < zs.length → w.cell? (x.add i) = some (.int k (zs.getD i 0))) ∧ ∀ n ∈ zs, (Lit.int k n).wf = true

theorem walk (a0 : Int) (a1 : Option Addr) (len1 cap1 : Nat) (z1 : List Int) (w : World) (w0 : (Lit.int .i64 a0).wf = true) (w1 : IsRow .u8 w a1 len1 cap1 z1) :
    Calls Try.prog 6 #[.int .i64 a0, .slice a1 len1 cap1] w fun e w' => e = .returned (.bool true) ∧ Below w.heap.size w w' := by
  obtain ⟨bs, hl, hx⟩ := argBytes w1
  subst hl
  have hlen : bs.length ≤ 9223372036854775807 := by
    obtain ⟨a, c, e, h1, h2, -⟩ := hx
    simp only [maxLen] at h2
    omega
  have HX : Hid (BytesAt w (.slice a1 bs.length cap1) bs) := hx
  clear hx w1 w0
  go_enter Try.func6, Try.ntmps6
  go_wp2_with fail
  refine (get_any _ _ bs HX.out hlen).mono ?_
  rintro e w' ⟨rfl, rfl⟩
  go_wp2_with fail
  refine (refGet_any _ _ bs HX.out hlen).mono ?_
  rintro e w1 ⟨rfl, ht⟩
  have HT : Hid (Turn [] w w1) := ht
  clear ht
  go_wp2
  by_cases h0 : a0 < 0
  · have hd : decide (a0 < 0) = true := by simpa using h0
    refine wp_region_loose (Turn []) (by kernel_rfl) (by kernel_rfl) (by kernel_rfl) rfl (Turn.refl _) (fun _ _ _ h k => h.same k) ?_
    apply Lo.runx 1 rfl [] (by kernel_rfl) (Turn.refl _)
    apply Exists.intro; apply And.intro
    · intro u w1 hR hF
      clear hF
      refine ⟨rfl, fun a ha K hK => ?_⟩
      have e0 := ha 0
      conv at e0 => rhs; whnf
      clear ha
      go_simp
      refine hK _ ?_; rfl
    apply Lo.runx 2 rfl [0] (by kernel_rfl) (Turn.refl _)
    apply Exists.intro; apply And.intro
    · intro u w1 hR hF
      obtain ⟨h0, -⟩ := hF
      refine ⟨rfl, fun a ha K hK => ?_⟩
      have e27 := (ha 27).trans h0
      clear ha h0
      go_simp
      refine hK _ ?_; rfl
    apply Lo.runx 3 rfl [1] (by kernel_rfl) (Turn.refl _)
    apply Exists.intro; apply And.intro
    · intro u w1 hR hF
      obtain ⟨h1, -⟩ := hF
      refine ⟨rfl, fun a ha K hK => ?_⟩
      have e28 := (ha 28).trans h1
      clear ha h1
      go_simp
      refine hK _ ?_; rfl
    refine Lo.pass 4 rfl [2] (by kernel_rfl) (fun u w1 hR hF => ?_) ?_
    · exact ⟨true, hF.1, rfl⟩
    refine Lo.pass 5 rfl [2] (by kernel_rfl) (fun u w1 hR hF => ?_) ?_
    · exact ⟨true, hF.1, rfl⟩
    apply Lo.runx 6 rfl [2, 4] (by kernel_rfl) (Turn.refl _)
    apply Exists.intro; apply And.intro
    · intro u w1 hR hF
      obtain ⟨h2, h4, -⟩ := hF
      refine ⟨rfl, fun a ha K hK => ?_⟩
      have e29 := (ha 29).trans h2
      have e31 := (ha 31).trans h4
      clear ha h2 h4
      go_simp
      refine hK _ ?_; rfl
    apply Lo.runx 7 rfl [5] (by kernel_rfl) (Turn.refl _)
    apply Exists.intro; apply And.intro
    · intro u w1 hR hF
      obtain ⟨h5, -⟩ := hF
      refine ⟨rfl, fun a ha K hK => ?_⟩
      have e32 := (ha 32).trans h5
      clear ha h5
      go_simp
      refine hK _ ?_; rfl
    refine Lo.pass 8 rfl [6] (by kernel_rfl) (fun u w1 hR hF => ?_) ?_
    · exact ⟨true, hF.1, rfl⟩
    refine Lo.pass 9 rfl [6] (by kernel_rfl) (fun u w1 hR hF => ?_) ?_
    · exact ⟨true, hF.1, rfl⟩
    refine Lo.pass 10 rfl [6] (by kernel_rfl) (fun u w1 hR hF => ?_) ?_
    · exact ⟨true, hF.1, rfl⟩
    refine Lo.pass 11 rfl [6] (by kernel_rfl) (fun u w1 hR hF => ?_) ?_
    · exact ⟨true, hF.1, rfl⟩
    refine Lo.pass 12 rfl [6] (by kernel_rfl) (fun u w1 hR hF => ?_) ?_
    · exact ⟨true, hF.1, rfl⟩
    refine Lo.pass 13 rfl [6] (by kernel_rfl) (fun u w1 hR hF => ?_) ?_
    · exact ⟨true, hF.1, rfl⟩
    refine Lo.pass 14 rfl [6] (by kernel_rfl) (fun u w1 hR hF => ?_) ?_
    · exact ⟨true, hF.1, rfl⟩
    refine Lo.pass 15 rfl [6] (by kernel_rfl) (fun u w1 hR hF => ?_) ?_
    · exact ⟨true, hF.1, rfl⟩
    refine Lo.pass 16 rfl [6] (by kernel_rfl) (fun u w1 hR hF => ?_) ?_
    · exact ⟨true, hF.1, rfl⟩
    apply Lo.runx 17 rfl [6, 15] (by kernel_rfl) (Turn.refl _)
    apply Exists.intro; apply And.intro
    · intro u w1 hR hF
      obtain ⟨h6, h15, -⟩ := hF
      refine ⟨rfl, fun a ha K hK => ?_⟩
      have e33 := (ha 33).trans h6
      have e42 := (ha 42).trans h15
      clear ha h6 h15
      go_simp
      refine hK _ ?_; rfl
    apply Lo.runx 18 rfl [16] (by kernel_rfl) (Turn.refl _)
    apply Exists.intro; apply And.intro
    · intro u w1 hR hF
      obtain ⟨h16, -⟩ := hF
      refine ⟨rfl, fun a ha K hK => ?_⟩
      have e43 := (ha 43).trans h16
      clear ha h16
      go_simp
      refine hK _ ?_; rfl
    refine Lo.done [17] (fun u w1 hRd hF => ?_)
    obtain ⟨d17, -⟩ := hF
    have d17 : u 17 = _ := d17
    simp only [putFrom, Act.put, List.setIfInBounds_toArray, List.set_cons_succ, List.set_cons_zero, Nat.zero_add, Nat.reduceAdd, d17]
    have HT2 := hide (HT.out.drew.same hRd)
    clear hRd d17
    go_wp2
    go_ret
    exact ⟨rfl, HT2.out.nil⟩
  · have hd : decide (a0 < 0) = false := by simpa using h0
    by_cases h1 : 1099511627776 < a0
    · have hd1 : decide (1099511627776 < a0) = true := by simpa using h1
      refine wp_region_loose (Turn []) (by kernel_rfl) (by kernel_rfl) (by kernel_rfl) rfl (Turn.refl _) (fun _ _ _ h k => h.same k) ?_
      apply Lo.runx 1 rfl [] (by kernel_rfl) (Turn.refl _)
      apply Exists.intro; apply And.intro
      · intro u w1 hR hF
        clear hF
        refine ⟨rfl, fun a ha K hK => ?_⟩
        have e0 := ha 0
        conv at e0 => rhs; whnf
        clear ha
        go_simp
        refine hK _ ?_; rfl
      apply Lo.runx 2 rfl [0] (by kernel_rfl) (Turn.refl _)
      apply Exists.intro; apply And.intro
      · intro u w1 hR hF
        obtain ⟨h0, -⟩ := hF
        refine ⟨rfl, fun a ha K hK => ?_⟩
        have e27 := (ha 27).trans h0
        clear ha h0
        go_simp
        refine hK _ ?_; rfl
      apply Lo.runx 3 rfl [1] (by kernel_rfl) (Turn.refl _)
      apply Exists.intro; apply And.intro
      · intro u w1 hR hF
        obtain ⟨h1, -⟩ := hF
        refine ⟨rfl, fun a ha K hK => ?_⟩
        have e28 := (ha 28).trans h1
        clear ha h1
        go_simp
        refine hK _ ?_; rfl
      apply Lo.runx 4 rfl [2] (by kernel_rfl) (Turn.refl _)
      apply Exists.intro; apply And.intro
      · intro u w1 hR hF
        obtain ⟨h2, -⟩ := hF
        refine ⟨⟨false, h2, rfl⟩, fun a ha K hK => ?_⟩
        have e0 := ha 0
        conv at e0 => rhs; whnf
        clear ha h2
        go_simp
        refine hK _ ?_; rfl
      apply Lo.runx 5 rfl [2, 3] (by kernel_rfl) (Turn.refl _)
      apply Exists.intro; apply And.intro
      · intro u w1 hR hF
        obtain ⟨h2, h3, -⟩ := hF
        refine ⟨⟨false, h2, rfl⟩, fun a ha K hK => ?_⟩
        have e30 := (ha 30).trans h3
        clear ha h2 h3
        go_simp
        refine hK _ ?_; rfl
      apply Lo.runx 6 rfl [2, 4] (by kernel_rfl) (Turn.refl _)
      apply Exists.intro; apply And.intro
      · intro u w1 hR hF
        obtain ⟨h2, h4, -⟩ := hF
        refine ⟨rfl, fun a ha K hK => ?_⟩
        have e29 := (ha 29).trans h2
        have e31 := (ha 31).trans h4
        clear ha h2 h4
        go_simp
        refine hK _ ?_; rfl
      apply Lo.runx 7 rfl [5] (by kernel_rfl) (Turn.refl _)
      apply Exists.intro; apply And.intro
      · intro u w1 hR hF
        obtain ⟨h5, -⟩ := hF
        refine ⟨rfl, fun a ha K hK => ?_⟩
        have e32 := (ha 32).trans h5
        clear ha h5
        go_simp
        refine hK _ ?_; rfl
      refine Lo.pass 8 rfl [6] (by kernel_rfl) (fun u w1 hR hF => ?_) ?_
      · exact ⟨true, hF.1, rfl⟩
      refine Lo.pass 9 rfl [6] (by kernel_rfl) (fun u w1 hR hF => ?_) ?_
      · exact ⟨true, hF.1, rfl⟩
      refine Lo.pass 10 rfl [6] (by kernel_rfl) (fun u w1 hR hF => ?_) ?_
      · exact ⟨true, hF.1, rfl⟩
      refine Lo.pass 11 rfl [6] (by kernel_rfl) (fun u w1 hR hF => ?_) ?_
      · exact ⟨true, hF.1, rfl⟩
      refine Lo.pass 12 rfl [6] (by kernel_rfl) (fun u w1 hR hF => ?_) ?_
      · exact ⟨true, hF.1, rfl⟩
      refine Lo.pass 13 rfl [6] (by kernel_rfl) (fun u w1 hR hF => ?_) ?_
      · exact ⟨true, hF.1, rfl⟩
      refine Lo.pass 14 rfl [6] (by kernel_rfl) (fun u w1 hR hF => ?_) ?_
      · exact ⟨true, hF.1, rfl⟩
      refine Lo.pass 15 rfl [6] (by kernel_rfl) (fun u w1 hR hF => ?_) ?_
      · exact ⟨true, hF.1, rfl⟩
      refine Lo.pass 16 rfl [6] (by kernel_rfl) (fun u w1 hR hF => ?_) ?_
      · exact ⟨true, hF.1, rfl⟩
      apply Lo.runx 17 rfl [6, 15] (by kernel_rfl) (Turn.refl _)
      apply Exists.intro; apply And.intro
      · intro u w1 hR hF
        obtain ⟨h6, h15, -⟩ := hF
        refine ⟨rfl, fun a ha K hK => ?_⟩
        have e33 := (ha 33).trans h6
        have e42 := (ha 42).trans h15
        clear ha h6 h15
        go_simp
        refine hK _ ?_; rfl
      apply Lo.runx 18 rfl [16] (by kernel_rfl) (Turn.refl _)
      apply Exists.intro; apply And.intro
      · intro u w1 hR hF
        obtain ⟨h16, -⟩ := hF
        refine ⟨rfl, fun a ha K hK => ?_⟩
        have e43 := (ha 43).trans h16
        clear ha h16
        go_simp
        refine hK _ ?_; rfl
      refine Lo.done [17] (fun u w1 hRd hF => ?_)
      obtain ⟨d17, -⟩ := hF
      have d17 : u 17 = _ := d17
      simp only [putFrom, Act.put, List.setIfInBounds_toArray, List.set_cons_succ, List.set_cons_zero, Nat.zero_add, Nat.reduceAdd, d17]
      have HT2 := hide (HT.out.drew.same hRd)
      clear hRd d17
      go_wp2
      go_ret
      exact ⟨rfl, HT2.out.nil⟩
    · have hd1 : decide (1099511627776 < a0) = false := by simpa using h1
      obtain ⟨n, rfl⟩ : ∃ n : Nat, a0 = n := ⟨a0.toNat, by omega⟩
      have hput := fun w => refPut_any (n + 1) n (by omega) (by omega) w
      have HPut := hide hput
      have hpl := Nu.put_len6 (show n ≤ 1099511627776 by omega)
      clear hput
      refine wp_region_loose (Turn []) (by kernel_rfl) (by kernel_rfl) (by kernel_rfl) rfl (Turn.refl _) (fun _ _ _ h k => h.same k) ?_
      apply Lo.runx 1 rfl [] (by kernel_rfl) (Turn.refl _)
      apply Exists.intro; apply And.intro
      · intro u w1 hR hF
        clear hF
        refine ⟨rfl, fun a ha K hK => ?_⟩
        have e0 := ha 0
        conv at e0 => rhs; whnf
        clear ha
        go_simp
        refine hK _ ?_; rfl
      apply Lo.runx 2 rfl [0] (by kernel_rfl) (Turn.refl _)
      apply Exists.intro; apply And.intro
      · intro u w1 hR hF
        obtain ⟨h0, -⟩ := hF
        refine ⟨rfl, fun a ha K hK => ?_⟩
        have e27 := (ha 27).trans h0
        clear ha h0
        go_simp
        refine hK _ ?_; rfl
      apply Lo.runx 3 rfl [1] (by kernel_rfl) (Turn.refl _)
      apply Exists.intro; apply And.intro
      · intro u w1 hR hF
        obtain ⟨h1, -⟩ := hF
        refine ⟨rfl, fun a ha K hK => ?_⟩
        have e28 := (ha 28).trans h1
        clear ha h1
        go_simp
        refine hK _ ?_; rfl
      apply Lo.runx 4 rfl [2] (by kernel_rfl) (Turn.refl _)
      apply Exists.intro; apply And.intro
      · intro u w1 hR hF
        obtain ⟨h2, -⟩ := hF
        refine ⟨⟨false, h2, rfl⟩, fun a ha K hK => ?_⟩
        have e0 := ha 0
        conv at e0 => rhs; whnf
        clear ha h2
        go_simp
        refine hK _ ?_; rfl
      apply Lo.runx 5 rfl [2, 3] (by kernel_rfl) (Turn.refl _)
      apply Exists.intro; apply And.intro
      · intro u w1 hR hF
        obtain ⟨h2, h3, -⟩ := hF
        refine ⟨⟨false, h2, rfl⟩, fun a ha K hK => ?_⟩
        have e30 := (ha 30).trans h3
        clear ha h2 h3
        go_simp
        refine hK _ ?_; rfl
      apply Lo.runx 6 rfl [2, 4] (by kernel_rfl) (Turn.refl _)
      apply Exists.intro; apply And.intro
      · intro u w1 hR hF
        obtain ⟨h2, h4, -⟩ := hF
        refine ⟨rfl, fun a ha K hK => ?_⟩
        have e29 := (ha 29).trans h2
        have e31 := (ha 31).trans h4
        clear ha h2 h4
        go_simp
        refine hK _ ?_; rfl
      apply Lo.runx 7 rfl [5] (by kernel_rfl) (Turn.refl _)
      apply Exists.intro; apply And.intro
      · intro u w1 hR hF
        obtain ⟨h5, -⟩ := hF
        refine ⟨rfl, fun a ha K hK => ?_⟩
        have e32 := (ha 32).trans h5
        clear ha h5
        go_simp
        refine hK _ ?_; rfl
      refine Lo.run 8 rfl [6] (fun x w' => ∃ p, x = .slice (some p) 1 1 ∧ SliceAt w' x ([9].map encB)) (by kernel_rfl) (fun x w w' h hR => ?_) (fun u w1 hR hF => ?_) ?_
      · obtain ⟨p, h1, h2⟩ := h; exact ⟨p, h1, h2.kept hR (by simp)⟩
      · obtain ⟨h6, -⟩ := hF
        refine ⟨⟨false, h6, rfl⟩, fun a ha K hK => ?_⟩
        clear ha h6
        go_simp
        exact hK _ _ ⟨_, rfl, fresh_row _ [9] w1.heap.size _ (heap_new _ _) rfl 1⟩ ((Turn.refl _ _).alloc _)
      apply Lo.runx 9 rfl [6] (by kernel_rfl) (Turn.refl _)
      apply Exists.intro; apply And.intro
      · intro u w1 hR hF
        obtain ⟨h6, -⟩ := hF
        refine ⟨⟨false, h6, rfl⟩, fun a ha K hK => ?_⟩
        have e0 := ha 0
        conv at e0 => rhs; whnf
        clear ha h6
        go_simp
        refine hK _ ?_; rfl
      refine Lo.run 10 rfl [6, 7, 8] (fun x w' => BytesAt w' x (9 :: Nu.put n)) (by kernel_rfl) (fun x w w' h hR => ?_) (fun u w1 hR hF => ?_) ?_
      · exact h.still hR
      · obtain ⟨h6, h7, h8, -⟩ := hF
        refine ⟨⟨false, h6, rfl⟩, fun a ha K hK => ?_⟩
        have e34 : a.tmps.getD 34 undef = u 7 := ha 34
        have e35 := (ha 35).trans h8
        have h7 := (show (fun x w' => ∃ p, x = .slice (some p) 1 1 ∧ SliceAt w' x ([9].map encB)) (u 7) w1 from h7)
        dsimp only at h7
        clear ha h6 h8
        go_simp
        obtain ⟨p, e, hsl⟩ := h7
        rw [e]
        refine (put_new _ p [9] (by rw [e] at hsl; exact hsl) n (by omega) (by simp)).mono ?_
        rintro e w2 ⟨v2, rfl, hr2, ht2⟩
        exact hK _ _ hr2.bytes ht2
      apply Lo.runx 11 rfl [6, 9] (by kernel_rfl) (Turn.refl _)
      apply Exists.intro; apply And.intro
      · intro u w1 hR hF
        obtain ⟨h6, h9, -⟩ := hF
        refine ⟨⟨false, h6, rfl⟩, fun a ha K hK => ?_⟩
        have e36 : a.tmps.getD 36 undef = u 9 := ha 36
        have h9 := (show (fun x w' => BytesAt w' x (9 :: Nu.put n)) (u 9) w1 from h9)
        dsimp only at h9
        clear ha h6
        have hcv := h9.conv
        go_simp
        refine hK _ ?_; rfl
      apply Lo.runx 12 rfl [6] (by kernel_rfl) (Turn.refl _)
      apply Exists.intro; apply And.intro
      · intro u w1 hR hF
        obtain ⟨h6, -⟩ := hF
        refine ⟨⟨false, h6, rfl⟩, fun a ha K hK => ?_⟩
        have e0 := ha 0
        conv at e0 => rhs; whnf
        clear ha h6
        go_simp
        refine hK _ ?_; rfl
      refine Lo.run 13 rfl [6, 11] (fun x w' => BytesAt w' x (Nu.put n)) (by kernel_rfl) (fun x w w' h hR => ?_) (fun u w1 hR hF => ?_) ?_
      · exact h.still hR
      · obtain ⟨h6, h11, -⟩ := hF
        refine ⟨⟨false, h6, rfl⟩, fun a ha K hK => ?_⟩
        have e38 := (ha 38).trans h11
        clear ha h6 h11
        go_simp
        refine (HPut.out _).mono ?_
        rintro e w2 ⟨v2, rfl, hr2, ht2⟩
        exact hK _ _ hr2.bytes ht2
      apply Lo.runx 14 rfl [6, 12] (by kernel_rfl) (Turn.refl _)
      apply Exists.intro; apply And.intro
      · intro u w1 hR hF
        obtain ⟨h6, h12, -⟩ := hF
        refine ⟨⟨false, h6, rfl⟩, fun a ha K hK => ?_⟩
        have e39 : a.tmps.getD 39 undef = u 12 := ha 39
        have h12 := (show (fun x w' => BytesAt w' x (Nu.put n)) (u 12) w1 from h12)
        dsimp only at h12
        clear ha h6
        have hcv := h12.conv
        go_simp
        refine hK _ ?_; rfl
      apply Lo.runx 15 rfl [6, 13] (by kernel_rfl) (Turn.refl _)
      apply Exists.intro; apply And.intro
      · intro u w1 hR hF
        obtain ⟨h6, h13, -⟩ := hF
        refine ⟨⟨false, h6, rfl⟩, fun a ha K hK => ?_⟩
        have e40 := (ha 40).trans h13
        clear ha h6 h13
        go_simp
        rw [if_neg (by omega)]
        go_simp
        refine hK _ ?_; rfl
      refine Lo.runv 16 rfl [6, 10, 14] (.bool true) (by kernel_rfl) (fun u w1 hR hF => ?_) (Turn.refl _) ?_
      · obtain ⟨h6, h10, h14, -⟩ := hF
        refine ⟨⟨false, h6, rfl⟩, fun a ha K hK => ?_⟩
        have e37 := (ha 37).trans h10
        have e41 := (ha 41).trans h14
        clear ha h6 h10 h14
        go_simp
        refine hK _ ?_
        rw [Lib.toList_data]; simp
      apply Lo.runx 17 rfl [6, 15] (by kernel_rfl) (Turn.refl _)
      apply Exists.intro; apply And.intro
      · intro u w1 hR hF
        obtain ⟨h6, h15, -⟩ := hF
        refine ⟨rfl, fun a ha K hK => ?_⟩
        have e33 := (ha 33).trans h6
        have e42 := (ha 42).trans h15
        clear ha h6 h15
        go_simp
        refine hK _ ?_; rfl
      apply Lo.runx 18 rfl [16] (by kernel_rfl) (Turn.refl _)
      apply Exists.intro; apply And.intro
      · intro u w1 hR hF
        obtain ⟨h16, -⟩ := hF
        refine ⟨rfl, fun a ha K hK => ?_⟩
        have e43 := (ha 43).trans h16
        clear ha h16
        go_simp
        refine hK _ ?_; rfl
      refine Lo.done [17] (fun u w1 hRd hF => ?_)
      obtain ⟨d17, -⟩ := hF
      have d17 : u 17 = _ := d17
      simp only [putFrom, Act.put, List.setIfInBounds_toArray, List.set_cons_succ, List.set_cons_zero, Nat.zero_add, Nat.reduceAdd, d17]
      have HT2 := hide (HT.out.drew.same hRd)
      clear hRd d17
      go_wp2
      go_ret
      exact ⟨rfl, HT2.out.nil⟩

set_option maxRecDepth 100000 in
theorem lifted (os : Os) (started : os.Started) (H : Type) (enc : TypeId × Value → H) :
    ReturnsInHanded {} Try.checked os 6 .any (Rows.recordNumbersSpec.pre6 enc Try.prog Try.f6 Rows.recordNumbersRow.domain false) (Rows.recordNumbersSpec.post enc Try.prog Try.f6 false true false false) := by
  refine returnsInHanded_of_change (C := Try.checked) own started (by kernel_rfl) Try.func6
    (ChangeSpec.witness6 (enc := enc) (C := Try.checked) false ⟨#[], #[.int .i64 0, .slice none 0 0], []⟩ 8 (by kernel_rfl) (by kernel_rfl) (by kernel_rfl) (by kernel_rfl)) ?_
  intro W base args ds gs before hval0 hW hcnd _
  have hval : ∀ (j : Nat) t v, Try.f6.params[j]? = some t → args[j]? = some v → Value.okWide Try.prog W .any base t v := hval0
  have hW' := hW
  obtain ⟨p, q, hA0, hV, rfl, hfz, hnd⟩ := hW
  have hA : DataW.TrodAll enc Try.prog W 0 (fun _ => true) true Try.f6.params.toList args.toList ds p := hA0
  rw [Try.params6] at hA hval
  obtain ⟨v0, vs0, d0, ds0, p0, q0, hargs, rfl, rfl, h0, r0⟩ := trodAll_cons hA
  obtain ⟨v1, vs1, d1, ds1, p1, q1, rfl, rfl, rfl, h1, r1⟩ := trodAll_cons r0
  obtain ⟨rfl, rfl, rfl⟩ := trodAll_nil r1
  obtain rfl : args = #[v0, v1] := by cases args; simp_all
  obtain ⟨rfl, rfl⟩ := trodVars_none hV
  obtain ⟨a0, rfl, rfl, rfl, w0⟩ := open_int Try.underlying3 (hval 0 3 v0 rfl rfl) h0
  obtain ⟨a1, len1, cap1, rfl⟩ := okWide_slice Try.underlying23 (hval 1 23 v1 rfl rfl)
  have k1 := h1
  have lt1 : ∀ x ∈ p1, x.block < W.heap.size := by obtain ⟨m, hm⟩ := k1; exact DataW.trod_lt m _ _ _ hm
  obtain ⟨z1, w1⟩ : ∃ zs, IsRow .u8 W a1 len1 cap1 zs := by
    obtain ⟨fuel, hf⟩ := h1
    rcases open_ints Try.underlying23 Try.underlying5 (by kernel_rfl) hf with ⟨hcs, _⟩ | ⟨x, l, c, zs, hcs, _, hl, hm, hz, _, hcell, hwz⟩
    · simp [Value.cells] at hcs
      obtain ⟨rfl, rfl, rfl⟩ := hcs
      exact ⟨[], .inl ⟨rfl, rfl, rfl, rfl⟩⟩
    · simp [Value.cells] at hcs
      obtain ⟨rfl, rfl, rfl⟩ := hcs
      exact ⟨zs, .inr ⟨_, rfl, hl, hm, by simpa using hz, hcell, hwz⟩⟩
  clear hA0 hval0
  refine (walk a0 a1 len1 cap1 z1 W w0 w1).mono fun e W' ⟨he, bel⟩ => ?_
  subst he
  exact ⟨_, rfl, _, _, _, [], _, [], hW', trodAll_mk1 (shut_bool Try.underlying4 _), (trodAll_cons_mk (shut_int Try.underlying3 w0) (trodAll_cons_mk (Below.trod laidOut (by kernel_rfl) (of_decide_eq_true (by kernel_rfl)) k1 bel lt1) trodAll_mk0)), rfl, bel.frame _, fun h => by cases h⟩

theorem over : Rows.recordNumbersRow.holds Try.pinned (OpenSpec.ofChange Rows.recordNumbersSpec) :=
  OpenClaim.holds_of_wide 6 Try.f6 rfl rfl rfl rfl rfl rfl rfl ⟨rfl, rfl, rfl, rfl, rfl⟩ rfl rfl rfl rfl rfl (by kernel_rfl) Try.func6 (by kernel_rfl)
    (of_decide_eq_true (by kernel_rfl)) (by unfold Func.isWrapper; first | (rw [if_pos (by decide +kernel)]; kernel_rfl) | (rw [if_neg (by decide +kernel)]; exact ⟨rfl, rfl⟩))
    (fun os started H enc _ => lifted os started H enc)

theorem proved : Rows.RecordNumbersSaid := over
end Go.Proofs.Ytjjfjbclmdnodaa.recordNumbers
namespace Go.Proofs.Ytjjfjbclmdnodaa
theorem recordNumbers_holds : Rows.RecordNumbersSaid := recordNumbers.proved
end Go.Proofs.Ytjjfjbclmdnodaa
