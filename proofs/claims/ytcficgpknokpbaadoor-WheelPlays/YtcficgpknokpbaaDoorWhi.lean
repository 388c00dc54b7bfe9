/- The wheel: reach. -/
import Derived.Test.YtcficgpknokpbaaDoorWhh
namespace Go.Proofs.YtcficgpknokpbaaDoor.Wh
open Go.RowKit Go.Maps
set_option maxRecDepth 100000
set_option linter.unusedSimpArgs false
set_option linter.unusedVariables false
attribute [local go_sem] Oper.semAt_some

/-- The lists of the slots while what was taken out is put anew. -/
def slP (now to m : Nat) (R : List Tm) (sl : Nat → List Tm) : Nat → List Tm := fun j => (if dn now to 7 (placeN 7 now) j then [] else sl j) ++ (R.take m).filter (fun x => slotJ to x.1.toNat == j)
theorem slP_step (now to m : Nat) (R : List Tm) (sl : Nat → List Tm) (h : m < R.length) (j0 : Nat) (hj : j0 = slotJ to (R[m]).1.toNat) : setF (slP now to m R sl) j0 (slP now to m R sl j0 ++ [R[m]]) = slP now to (m + 1) R sl := by
  funext j
  unfold setF slP
  rw [List.take_succ_eq_append_getElem h, List.filter_append]
  by_cases e : j = j0
  · subst e
    rw [if_pos rfl]
    have : (slotJ to (R[m]).1.toNat == j) = true := by simp [hj]
    simp [this]
  · rw [if_neg e]
    have : (slotJ to (R[m]).1.toNat == j) = false := by rw [← hj]; simpa using fun e' => e e'.symm
    simp [this]
theorem place_le_last {now to : Nat} (k : Nat) (hn : now ≤ to) : placeN k now ≤ lastN now to k := by
  unfold lastN
  by_cases e : turnN k to = turnN k now
  · rw [if_pos e]
    have h1 : now / 64 ^ k ≤ to / 64 ^ k := Nat.div_le_div_right hn
    unfold turnN at e
    rw [Nat.pow_succ, ← Nat.div_div_eq_div_mul, ← Nat.div_div_eq_div_mul] at e
    unfold placeN
    have e1 := Nat.div_add_mod (to / 64 ^ k) 64
    have e2 := Nat.div_add_mod (now / 64 ^ k) 64
    omega
  · rw [if_neg e]
    have := placeN_lt k now
    omega
/-- Where reach stands while it puts. -/
structure PtSt (w wr : World) (base b now to : Nat) (mref : Option Nat) (all : List Tm) (sv : Nat → Value) (sl : Nat → List Tm) (rv : Value) (R : List Tm) (m : Nat) (sv2 : Nat → Value) : Prop where
  at_ : WAt wr base b to mref all sv2 (slP now to m R sl)
  row : TR wr base rv R
  apart : ∀ j, j < 448 → ∀ q ∈ (sv2 j).ownBlock, q ∉ rv.ownBlock
  foot : ∀ j, j < 448 → ∀ q ∈ (sv2 j).ownBlock, q ∈ wfoot b mref sv ∨ w.heap.size ≤ q
  rown : ∀ q ∈ rv.ownBlock, w.heap.size ≤ q ∧ q < wr.heap.size
  turn : Turn (wfoot b mref sv) w wr
theorem PtSt.still {w wr wq : World} {base b now to : Nat} {mref : Option Nat} {all : List Tm} {sv : Nat → Value} {sl : Nat → List Tm} {rv : Value} {R : List Tm} {m : Nat} {sv2 : Nat → Value} (h : PtSt w wr base b now to mref all sv sl rv R m sv2) (ht : Turn [] wr wq) : PtSt w wq base b now to mref all sv sl rv R m sv2 :=
  ⟨h.at_.still ht, h.row.still ht, h.apart, h.foot, fun q hq => ⟨(h.rown q hq).1, Nat.lt_of_lt_of_le (h.rown q hq).2 ht.size⟩, h.turn.same (ht.mono (by simp))⟩
theorem PtSt.step {w wr wq : World} {base b now to : Nat} {mref : Option Nat} {all : List Tm} {sv : Nat → Value} {sl : Nat → List Tm} {rv : Value} {R : List Tm} {m : Nat} {sv2 : Nat → Value} (h : PtSt w wr base b now to mref all sv sl rv R m sv2) (hw : WAt w base b now mref all sv sl) (hm : m < R.length) {j : Nat} (hj : j < 448) (he : j = slotJ to (R[m]).1.toNat) {v' : Value} (ha : WAt wq base b to mref all (setF sv2 j v') (setF (slP now to m R sl) j (slP now to m R sl j ++ [R[m]]))) (ht : Turn (b :: (sv2 j).ownBlock.toList) wr wq) (ho : ∀ k ∈ v'.ownBlock, k ∈ (sv2 j).ownBlock ∨ wr.heap.size ≤ k) :
    PtSt w wq base b now to mref all sv sl rv R (m + 1) (setF sv2 j v') := by
  rw [slP_step now to m R sl hm j he] at ha
  refine ⟨ha, h.row.kept ht (fun q hq hmm => ?_), fun i hi q hq => ?_, fun i hi q hq => ?_, fun q hq => ⟨(h.rown q hq).1, Nat.lt_of_lt_of_le (h.rown q hq).2 ht.size⟩, h.turn.trans ht (fun q hq => ?_)⟩
  · rcases List.mem_cons.1 hmm with rfl | hmm
    · have := (h.rown q hq).1
      have := hw.blt
      omega
    · exact h.apart j hj q (by simpa using hmm) hq
  · by_cases e : i = j
    · subst e
      rw [setF_same] at hq
      rcases ho q hq with h1 | h1
      · exact h.apart i hi q h1
      · intro h2
        have := (h.rown q h2).2
        omega
    · rw [setF_other _ _ e] at hq
      exact h.apart i hi q hq
  · by_cases e : i = j
    · subst e
      rw [setF_same] at hq
      rcases ho q hq with h1 | h1
      · exact h.foot i hi q h1
      · have := h.turn.size
        exact .inr (by omega)
    · rw [setF_other _ _ e] at hq
      exact h.foot i hi q hq
  · rcases List.mem_cons.1 hq with rfl | hq
    · exact .inl (mem_wfoot.2 (.inl rfl))
    · exact h.foot j hj q (by simpa using hq)

set_option maxHeartbeats 4000000 in
theorem reach_any (w : World) (base b now to : Nat) (mref : Option Nat) (all : List Tm) (sv : Nat → Value) (sl : Nat → List Tm) (h : WAt w base b now mref all sv sl) (hI : WInv now all sl) (hn : now ≤ to) (hto : to ≤ 1099511627776) :
    Calls Tryd.prog 16 #[.pointer (some ⟨b, 0, none⟩), .int .i64 to] w fun e w' => e = .returned (.tuple #[]) ∧ ∃ sv' sl', WAt w' base b to mref all sv' sl' ∧ WInv to all sl' ∧ Turn (wfoot b mref sv) w w' ∧ ∀ q ∈ wfoot b mref sv', q ∈ wfoot b mref sv ∨ w.heap.size ≤ q := by
  have H := hide h
  have HI := hide hI
  have hn0 : now ≤ 1099511627776 := by omega
  clear h hI
  go_enter Tryd.func16, Tryd.ntmps16
  go_wp2
  go_loopw [4, 10] (fun rv kv wr => ∃ (k : Nat) (R : List Tm) (ra : Option Addr) (rc : Nat), k ≤ 7 ∧ kv = .int .i64 (k : Int) ∧ rv = .slice ra R.length rc ∧ RcSt w wr base b now to mref all sv sl k (placeN k now) (.slice ra R.length rc) R) (fun _ kv _ => 7 - (intOf kv).toNat)
  case atStart =>
    have e1 : svD (dn now to 0 (placeN 0 now)) sv = sv := by funext j; unfold svD; rw [dn_0]; rfl
    have e2 : slD (dn now to 0 (placeN 0 now)) sl = sl := by funext j; unfold slD; rw [dn_0]; rfl
    refine ⟨0, [], none, 0, by omega, rfl, rfl, ⟨.inl ⟨rfl, rfl⟩, by simp [Value.ownBlock], ?_, ?_, Turn.refl _ _⟩⟩
    · have : all.filter (fun x => dn now to 0 (placeN 0 now) (slotJ now x.1.toNat)) = [] := by
        rw [List.filter_eq_nil_iff]
        intro x hx
        rw [dn_0]
        simp
      rw [this]
      exact Sq.refl _
    · rw [e1, e2]; exact H.out
  case round =>
    obtain ⟨k, R, ra, rc, hk7, rfl, rfl, hst⟩ := hrel
    have HST := hide hst
    clear hst
    by_cases hk : k < 7
    · have hk1 : (k : Int) < 7 := by omega
      have hce : ∀ Z, Turn [] wr Z → Z.cell? ⟨b, 0, none⟩ = some (.int .i64 now) ∧ b < Z.heap.size := fun Z hZ => by
        have hh := (HST.out.at_.still hZ).cells.head
        exact ⟨hh.1, hh.2.2.2⟩
      have HC := hide hce
      clear hce
      obtain ⟨X, hX⟩ : ∃ X, X = turnN k to := ⟨_, rfl⟩
      obtain ⟨Y, hY⟩ : ∃ Y, Y = turnN k now := ⟨_, rfl⟩
      obtain ⟨ln, hln⟩ : ∃ ln, ln = lastN now to k := ⟨_, rfl⟩
      obtain ⟨p0, hp0⟩ : ∃ p0, p0 = placeN k now := ⟨_, rfl⟩
      have hl64 : ln < 64 := by rw [hln]; exact lastN_lt _ _ _
      have hp64 : p0 < 64 := by rw [hp0]; exact placeN_lt _ _
      have HX := hide hX
      have HY := hide hY
      have HLN := hide hln
      have HP0 := hide hp0
      clear hX hY hln hp0
      obtain ⟨wo, rfl⟩ : ∃ wo, wo = wr := ⟨_, rfl⟩
      go_wp2
      refine wp_region_loose (Turn []) (by kernel_rfl) (by kernel_rfl) (by kernel_rfl) (by kernel_rfl) rfl (Turn.refl _) (fun _ _ _ h k => h.same k) ?_
      apply Lo.runx 1 rfl rfl [] (by kernel_rfl) (Turn.refl _)
      apply Exists.intro; apply And.intro
      · intro u w1 hR hF
        clear hF
        refine ⟨rfl, fun a ha K hK => ?_⟩
        have e5 := ha 5
        conv at e5 => rhs; whnf
        clear ha
        go_simp
        refine hK _ ?_; rfl
      apply Lo.runx 2 rfl rfl [] (by kernel_rfl) (Turn.refl _)
      apply Exists.intro; apply And.intro
      · intro u w1 hR hF
        clear hF
        refine ⟨rfl, fun a ha K hK => ?_⟩
        have e1 := ha 1
        conv at e1 => rhs; whnf
        clear ha
        go_simp
        refine hK _ ?_; rfl
      refine Lo.run 3 rfl rfl [0, 1] (fun v w' => v = .int .i64 (X : Int)) (by kernel_rfl) (fun x w w' h hR => ?_) (fun _ _ h => h) (fun u w1 hR hF => ?_) ?_
      · exact h
      · obtain ⟨h0, h1, -⟩ := hF
        refine ⟨rfl, fun a ha K hK => ?_⟩
        have e13 := (ha 13).trans h0
        have e14 := (ha 14).trans h1
        clear ha h0 h1
        go_simp
        refine (turn_any k to (by omega) hto w1).mono ?_
        rintro e w5 ⟨rfl, rfl⟩
        rw [← HX.out]
        exact hK _ _ rfl (Turn.refl _ _)
      apply Lo.runx 4 rfl rfl [] (by kernel_rfl) (Turn.refl _)
      apply Exists.intro; apply And.intro
      · intro u w1 hR hF
        clear hF
        refine ⟨rfl, fun a ha K hK => ?_⟩
        have e5 := ha 5
        conv at e5 => rhs; whnf
        clear ha
        go_simp
        refine hK _ ?_; rfl
      apply Lo.runx 5 rfl rfl [] (by kernel_rfl) (Turn.refl _)
      apply Exists.intro; apply And.intro
      · intro u w1 hR hF
        clear hF
        refine ⟨rfl, fun a ha K hK => ?_⟩
        have e0 := ha 0
        conv at e0 => rhs; whnf
        clear ha
        go_simp
        refine hK _ ?_; rfl
      apply Lo.runx 6 rfl rfl [4] (by kernel_rfl) (Turn.refl _)
      apply Exists.intro; apply And.intro
      · intro u w1 hR hF
        obtain ⟨h4, -⟩ := hF
        refine ⟨rfl, fun a ha K hK => ?_⟩
        have e17 := (ha 17).trans h4
        clear ha h4
        obtain ⟨c0, z0⟩ := HC.out w1 (((Turn.refl [] _).drew).same hR)
        go_simp
        refine hK _ ?_; rfl
      apply Lo.runx 7 rfl rfl [5] (by kernel_rfl) (Turn.refl _)
      apply Exists.intro; apply And.intro
      · intro u w1 hR hF
        obtain ⟨h5, -⟩ := hF
        refine ⟨rfl, fun a ha K hK => ?_⟩
        have e18 := (ha 18).trans h5
        clear ha h5
        go_simp
        refine hK _ ?_; rfl
      refine Lo.runv 8 rfl rfl [6] (.int .i64 (now : Int)) (by kernel_rfl) (fun u w1 hR hF => ?_) (Turn.refl _) ?_
      · obtain ⟨h6, -⟩ := hF
        refine ⟨rfl, fun a ha K hK => ?_⟩
        have e19 := (ha 19).trans h6
        clear ha h6
        obtain ⟨c0, z0⟩ := HC.out w1 (((Turn.refl [] _).drew).same hR)
        go_simp
        refine hK _ ?_
        rfl
      refine Lo.run 9 rfl rfl [3, 7] (fun v w' => v = .int .i64 (Y : Int)) (by kernel_rfl) (fun x w w' h hR => ?_) (fun _ _ h => h) (fun u w1 hR hF => ?_) ?_
      · exact h
      · obtain ⟨h3, h7, -⟩ := hF
        refine ⟨rfl, fun a ha K hK => ?_⟩
        have e16 := (ha 16).trans h3
        have e20 := (ha 20).trans h7
        clear ha h3 h7
        go_simp
        refine (turn_any k now (by omega) hn0 w1).mono ?_
        rintro e w5 ⟨rfl, rfl⟩
        rw [← HY.out]
        exact hK _ _ rfl (Turn.refl _ _)
      refine Lo.runv 10 rfl rfl [2, 8] (.bool (decide (X = Y))) (by kernel_rfl) (fun u w1 hR hF => ?_) (Turn.refl _) ?_
      · obtain ⟨h2, h8, -⟩ := hF
        refine ⟨rfl, fun a ha K hK => ?_⟩
        have e15 : a.tmps.getD 15 undef = u 2 := ha 15
        have e21 : a.tmps.getD 21 undef = u 8 := ha 21
        have h2 := (show (fun v w' => v = .int .i64 (X : Int)) (u 2) w1 from h2)
        dsimp only at h2
        have h8 := (show (fun v w' => v = .int .i64 (Y : Int)) (u 8) w1 from h8)
        dsimp only at h8
        clear ha
        go_simp
        refine hK _ ?_
        by_cases e : X = Y
        · simp [e]
        · have : ¬ (X : Int) = Y := by omega
          simp [e, this]
      refine Lo.done [9] (fun u w1 hRd hSd hF => ?_)
      clear hSd
      obtain ⟨f9, -⟩ := hF
      have d9 : u 9 = _ := f9
      clear f9
      simp only [putFrom, Act.put, List.setIfInBounds_toArray, List.set_cons_succ, List.set_cons_zero, Nat.zero_add, Nat.reduceAdd, d9]
      have hT1 : Turn [] wo w1 := ((Turn.refl [] wo).drew).same hRd
      have HS1 := hide (HST.out.still hT1)
      obtain ⟨wa, rfl⟩ : ∃ wa, wa = w1 := ⟨_, rfl⟩
      have hcc : wa.cell? ⟨b, 0, none⟩ = some (.int .i64 now) ∧ b < wa.heap.size := HC.out wa hT1
      obtain ⟨c0, z0⟩ := hcc
      clear d9 hRd hT1
      by_cases hXY : X = Y
      · have hd : decide (X = Y) = true := by simp [hXY]
        rw [hd]
        clear hd
        have hle : ln = placeN k to := by
          rw [HLN.out]; unfold lastN
          rw [if_pos (by rw [← HX.out, ← HY.out]; exact hXY)]
        have HLE := hide hle
        clear hle
        go_wp2_with fail
        refine (place_any k to (by omega) hto wa).mono ?_
        rintro e w5 ⟨rfl, rfl⟩
        rw [← HLE.out]
        go_wp2_with fail
        refine (place_any k now (by omega) hn0 _).mono ?_
        rintro e w5 ⟨rfl, rfl⟩
        rw [← HP0.out]
        go_wp2
        go_loopw [4, 7] (fun rv iv wr => ∃ (i : Nat) (R : List Tm) (ra : Option Addr) (rc : Nat), p0 ≤ i ∧ i ≤ ln + 1 ∧ iv = .int .i64 (i : Int) ∧ rv = .slice ra R.length rc ∧ RcSt w wr base b now to mref all sv sl k i (.slice ra R.length rc) R) (fun _ iv _ => ln + 1 - (intOf iv).toNat)
        case atStart =>
          have hpl : p0 ≤ ln + 1 := by
            have h1 := place_le_last k hn
            rw [← HP0.out, ← HLN.out] at h1
            omega
          exact ⟨p0, R, ra, rc, Nat.le_refl _, hpl, rfl, rfl, by rw [HP0.out]; exact HS1.out⟩
        case round =>
          obtain ⟨i, R2, ra2, rc2, hpi, hil, rfl, rfl, hst⟩ := hrel
          have HS2 := hide hst
          clear hst
          by_cases hi : i ≤ ln
          · have hi1 : (i : Int) ≤ ln := by omega
            obtain ⟨va, vn, vc, rv', w7, hc, zb, hr7, zb7, hc7, hf7, ra', R', hrv, hnx⟩ := HS2.out.next HI.out H.out hk (by omega) (by rw [← HP0.out]; exact hpi)
            have HR7 := hide hr7
            have HNX := hide hnx
            clear hr7 hnx
            have hi64 : (i : Int) < 64 := by omega
            obtain ⟨cc, hcc⟩ : ∃ cc, cc = capOf rv' := ⟨_, rfl⟩
            rw [← hcc] at hrv
            clear hcc
            subst hrv
            go_wp2_with (at_builtin; go_must (refine wpList_appT rfl rfl rfl rfl HR7.out ?_))
            exact ⟨⟨i + 1, R', ra', cc, by omega, by omega, by go_num, rfl, HNX.out⟩, by simp only [intOf]; omega⟩
          · obtain rfl : i = ln + 1 := by omega
            have hi1 : ¬ (((ln + 1 : Nat) : Int) ≤ ln) := by omega
            have hnx : RcSt w wr base b now to mref all sv sl (k + 1) (placeN (k + 1) now) (.slice ra2 R2.length rc2) R2 := by
              have := HS2.out
              have e := dn_end_f now to k
              rw [← HLN.out] at e
              refine ⟨this.row, this.own, ?_, ?_, this.turn⟩
              · have h1 := this.sq
                rw [e] at h1
                exact h1
              · have h1 := this.at_
                rw [e] at h1
                exact h1
            have HNX := hide hnx
            clear hnx
            go_wp2
            exact ⟨⟨k + 1, R2, ra2, rc2, by omega, by go_num, rfl, HNX.out⟩, by simp only [intOf]; omega⟩
      · have hd : decide (X = Y) = false := by simp [hXY]
        rw [hd]
        clear hd
        have hle : ln = 63 := by
          rw [HLN.out]; unfold lastN
          rw [if_neg (by rw [← HX.out, ← HY.out]; exact hXY)]
        obtain rfl := hle
        go_wp2_with fail
        refine (place_any k now (by omega) hn0 _).mono ?_
        rintro e w5 ⟨rfl, rfl⟩
        rw [← HP0.out]
        go_wp2
        go_loopw [4, 7] (fun rv iv wr => ∃ (i : Nat) (R : List Tm) (ra : Option Addr) (rc : Nat), p0 ≤ i ∧ i ≤ 63 + 1 ∧ iv = .int .i64 (i : Int) ∧ rv = .slice ra R.length rc ∧ RcSt w wr base b now to mref all sv sl k i (.slice ra R.length rc) R) (fun _ iv _ => 63 + 1 - (intOf iv).toNat)
        case atStart =>
          have hpl : p0 ≤ 63 + 1 := by
            have h1 := place_le_last k hn
            rw [← HP0.out, ← HLN.out] at h1
            omega
          exact ⟨p0, R, ra, rc, Nat.le_refl _, hpl, rfl, rfl, by rw [HP0.out]; exact HS1.out⟩
        case round =>
          obtain ⟨i, R2, ra2, rc2, hpi, hil, rfl, rfl, hst⟩ := hrel
          have HS2 := hide hst
          clear hst
          by_cases hi : i ≤ 63
          · have hi1 : (i : Int) ≤ 63 := by omega
            obtain ⟨va, vn, vc, rv', w7, hc, zb, hr7, zb7, hc7, hf7, ra', R', hrv, hnx⟩ := HS2.out.next HI.out H.out hk (by omega) (by rw [← HP0.out]; exact hpi)
            have HR7 := hide hr7
            have HNX := hide hnx
            clear hr7 hnx
            have hi64 : (i : Int) < 64 := by omega
            obtain ⟨cc, hcc⟩ : ∃ cc, cc = capOf rv' := ⟨_, rfl⟩
            rw [← hcc] at hrv
            clear hcc
            subst hrv
            go_wp2_with (at_builtin; go_must (refine wpList_appT rfl rfl rfl rfl HR7.out ?_))
            exact ⟨⟨i + 1, R', ra', cc, by omega, by omega, by go_num, rfl, HNX.out⟩, by simp only [intOf]; omega⟩
          · obtain rfl : i = 63 + 1 := by omega
            have hi1 : ¬ (((63 + 1 : Nat) : Int) ≤ 63) := by omega
            have hnx : RcSt w wr base b now to mref all sv sl (k + 1) (placeN (k + 1) now) (.slice ra2 R2.length rc2) R2 := by
              have := HS2.out
              have e := dn_end_f now to k
              rw [← HLN.out] at e
              refine ⟨this.row, this.own, ?_, ?_, this.turn⟩
              · have h1 := this.sq
                rw [e] at h1
                exact h1
              · have h1 := this.at_
                rw [e] at h1
                exact h1
            have HNX := hide hnx
            clear hnx
            go_wp2
            exact ⟨⟨k + 1, R2, ra2, rc2, by omega, by go_num, rfl, HNX.out⟩, by simp only [intOf]; omega⟩
    · obtain rfl : k = 7 := by omega
      have hat := HST.out.at_
      have hcn := hat.cells.head
      obtain ⟨c0, c1, ff, z0⟩ := hcn
      have f0 := ff 0
      have hpt : PtSt w (wr.setCell ⟨b, 0, none⟩ (.int .i64 to)) base b now to mref all sv sl (.slice ra R.length rc) R 0 (svD (dn now to 7 (placeN 7 now)) sv) := by
        have hset : Turn [b] wr (wr.setCell ⟨b, 0, none⟩ (.int .i64 to)) := (Turn.refl [b] wr).setCell (.inl (by simp)) _
        have hkept : ∀ q, w.heap.size ≤ q → q ∉ [b] := fun q hq hm => by obtain rfl := List.mem_singleton.1 hm; have := H.out.blt; omega
        have e1 : slP now to 0 R sl = slD (dn now to 7 (placeN 7 now)) sl := by funext j; unfold slP slD; simp
        refine ⟨⟨hat.cells.setNow to, hat.lo, hat.map.kept hset (fun q hq hm => ?_), hat.mlo, fun j hj => ?_, hat.apart⟩, HST.out.row.kept hset (fun q hq => hkept q (HST.out.own q hq)), fun j hj q hq hq2 => ?_, fun j hj q hq => ?_, fun q hq => ⟨HST.out.own q hq, by rw [World.size_setCell]; exact (HST.out.row.lt q hq).2⟩, ?_⟩
        · obtain rfl := List.mem_singleton.1 hm
          exact hat.map_b hq
        · rw [e1]
          exact (hat.rows j hj).kept hset (fun q hq hm => by obtain rfl := List.mem_singleton.1 hm; exact hat.row_b hj hq)
        · have h1 := HST.out.own q hq2
          unfold svD at hq
          split at hq
          · simp [nilS, Value.ownBlock] at hq
          · have := ((H.out.rows j hj).lt q hq).2
            omega
        · unfold svD at hq
          split at hq
          · simp [nilS, Value.ownBlock] at hq
          · exact .inl (mem_wfoot.2 (.inr (.inr ⟨j, hj, hq⟩)))
        · exact (HST.out.turn.same hset).mono (fun q hq => by obtain rfl := List.mem_singleton.1 hq; exact .inl (mem_wfoot.2 (.inl rfl)))
      have HPT := hide hpt
      have HSQ := hide HST.out.sq
      have HRL := hide (HST.out.len HI.out.len)
      clear hpt hat ff
      go_wp2
      clear c0 c1 f0 z0
      go_loopw [61] (fun mv wr => ∃ (m : Nat) (sv2 : Nat → Value), m ≤ R.length ∧ mv = .int .i64 (m : Int) ∧ PtSt w wr base b now to mref all sv sl (.slice ra R.length rc) R m sv2) (fun mv _ => R.length - (intOf mv).toNat)
      case atStart => exact ⟨0, _, Nat.zero_le _, rfl, HPT.out⟩
      case round =>
        obtain ⟨m, sv2, hm, rfl, hps⟩ := hrel
        have HPS := hide hps
        clear hps
        by_cases hlt : m < R.length
        · have hlt1 : (m : Int) < R.length := by omega
          obtain ⟨x, hx⟩ : ∃ x, x = R[m] := ⟨_, rfl⟩
          have hxa : x ∈ all := by
            have := HSQ.out.perm.mem_iff.1 (show x ∈ R by rw [hx]; exact List.getElem_mem _)
            exact (List.mem_filter.1 this).1
          obtain ⟨x1, x2, xw⟩ := HI.out.ok x hxa
          obtain ⟨t, ht⟩ : ∃ t : Nat, x = ((t : Int), x.2) := ⟨x.1.toNat, by rw [Int.toNat_of_nonneg x1]⟩
          obtain ⟨id, hid⟩ : ∃ id, id = x.2 := ⟨_, rfl⟩
          rw [← hid] at ht
          have htm : t ≤ 1099511627776 := by rw [ht] at x2; simp only at x2; omega
          obtain ⟨g, cap, e, -, -⟩ := HPS.out.row.at tmC_len hlt
          simp only [Value.slice.injEq] at e
          obtain ⟨rfl, -, rfl⟩ := e
          obtain ⟨q0, q1, -, -, zg⟩ := TR.two HPS.out.row hlt hx.symm
          obtain ⟨j, hj⟩ : ∃ j, j = slotJ to t := ⟨_, rfl⟩
          have hj448 : j < 448 := by rw [hj]; exact slotJ_lt hto htm
          have hal : Turn [] wr (wr.alloc (.cells #[.int .i64 (t : Int), .int .i64 id] 52)) := (Turn.refl [] wr).alloc _
          have hsll : (slP now to m R sl j).length ≤ 1000000 := by
            unfold slP
            rw [List.length_append]
            have h1 := List.length_filter_le (fun x => slotJ to x.1.toNat == j) (R.take m)
            rw [List.length_take] at h1
            have h2 := HRL.out
            have h3 := HI.out.slen hj448
            split
            · simp; omega
            · omega
          have hput := put_any _ base b to mref all sv2 (slP now to m R sl) (HPS.out.still hal).at_ hto t htm id j hj hsll
          have HPUT := hide hput
          have HXE := hide hx
          have HXT := hide ht
          have HJ := hide hj
          have HAL := hide (HPS.out.still hal)
          rw [ht] at q0 q1
          simp only at q0 q1
          clear hput hx ht hid hj hal hsll hxa x1 x2 xw
          unfold tmV at HPUT
          go_wp2_with fail
          refine HPUT.out.mono ?_
          rintro e w2 ⟨rfl, v', hat2, ht2, ho2⟩
          have hstep := HAL.out.step H.out hlt (j := j) hj448 (by rw [← HXE.out, HXT.out, HJ.out]; rfl) (v' := v') (by rw [← HXE.out, HXT.out]; exact hat2) ht2 ho2
          have HSTEP := hide hstep
          clear hat2 ht2 ho2 hstep HPUT HAL q0 q1 zg
          have hrl := HRL.out
          go_wp2
          go_roundw
          case rel =>
            repeat apply Exists.intro
            exact ⟨⟨m + 1, _, by omega, by go_num, HSTEP.out⟩, rfl⟩
          case measure => simp [intOf]; omega
        · obtain rfl : m = R.length := by omega
          go_wp2
          go_end0
          refine ⟨rfl, sv2, slP now to R.length R sl, HPS.out.at_, ?_, HPS.out.turn, fun q hq => ?_⟩
          · have := reach_inv HI.out hn hto HSQ.out
            unfold slP
            rw [List.take_length]
            exact this
          · rcases mem_wfoot.1 hq with rfl | hq | ⟨j, hj, hq⟩
            · exact .inl (mem_wfoot.2 (.inl rfl))
            · exact .inl (mem_wfoot.2 (.inr (.inl hq)))
            · exact HPS.out.foot j hj q hq
end Go.Proofs.YtcficgpknokpbaaDoor.Wh
