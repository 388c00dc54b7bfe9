/- slices.SortStableFunc of timers. -/
import Derived.Test.YtcficgpknokpbaaDoorSth
namespace Go.Proofs.YtcficgpknokpbaaDoor.Wh
open Go.RowKit Go.Maps
set_option maxRecDepth 100000
set_option linter.unusedSimpArgs false
set_option linter.unusedVariables false
attribute [local go_sem] Oper.semAt_some

theorem Srt.bs {n : Nat} {l : List Tm} (h : Srt l) : BS n l := fun i j hij hj _ => by
  by_cases e : i = j
  · subst e; exact Int.le_refl _
  · exact List.pairwise_iff_getElem.1 h i j (by omega) hj (by omega)
set_option maxHeartbeats 2000000 in
/-- The first part: blocks of 20. -/
theorem stable_any (w : World) (base g c : Nat) (l : List Tm) (h : TR w base (.slice (some ⟨g, 0, none⟩) l.length c) l) (hl : l.length ≤ 200000) :
    Calls Tryd.prog 25 #[.slice (some ⟨g, 0, none⟩) l.length c, .int .i64 l.length, fnT] w fun e w' => e = .returned (.tuple #[]) ∧ (∃ M, Stb l M ∧ TR w' base (.slice (some ⟨g, 0, none⟩) l.length c) M) ∧ Turn [g] w w' := by
  have H := hide h
  obtain ⟨n, hn⟩ : ∃ n, n = l.length := ⟨_, rfl⟩
  rw [← hn] at hl H ⊢
  have HN := hide hn
  clear h hn
  unfold fnT
  go_enter Tryd.func25, Tryd.ntmps25
  go_wp2
  go_loopw [7, 8] (fun av bv wr => ∃ (t : Nat) (D : List Tm), 20 * t ≤ n ∧ av = .int .i64 ((20 * t : Nat) : Int) ∧ bv = .int .i64 ((20 * t + 20 : Nat) : Int) ∧ D.length = 20 * t ∧ BS 20 D ∧ Sq (l.take (20 * t)) D ∧ TR wr base (.slice (some ⟨g, 0, none⟩) n c) (D ++ l.drop (20 * t)) ∧ Turn [g] w wr) (fun av _ _ => n - (intOf av).toNat)
  case atStart => exact ⟨0, [], by omega, rfl, rfl, rfl, BS.nil _, Sq.refl _, by simpa using H.out, Turn.refl _ _⟩
  case round =>
    obtain ⟨t, D, ht, rfl, rfl, hD, hbs, hsq, hrow, htw⟩ := hrel
    have HTW := hide htw
    have HBS := hide hbs
    have HSQ := hide hsq
    have HROW := hide hrow
    have HD := hide hD
    clear htw hbs hsq hrow hD
    obtain ⟨a, ha⟩ : ∃ a, a = 20 * t := ⟨_, rfl⟩
    rw [← ha] at ht HD HSQ HROW ⊢
    have HA := hide ha
    clear ha
    by_cases hlt : a + 20 ≤ n
    · have hlt1 : (a : Int) + 20 ≤ n := by omega
      go_wp2_with fail
      refine (insert_any wr base g n c D ((l.drop a).take 20) (l.drop (a + 20)) ?_ ?_ _ _ ?_ ?_).mono ?_
      · have := HROW.out
        rw [← List.take_append_drop 20 (l.drop a), List.drop_drop, ← List.append_assoc] at this
        exact this
      · rw [HD.out, List.length_take, List.length_drop, List.length_drop, ← HN.out]; omega
      · rw [HD.out]
      · rw [HD.out, List.length_take, List.length_drop, ← HN.out]; omega
      rintro e w1 ⟨rfl, ⟨M, hM, hr⟩, ht1⟩
      have hMl : M.length = 20 := by rw [hM.length, List.length_take, List.length_drop, ← HN.out]; omega
      have p1 : (D ++ M).length = 20 * (t + 1) := by rw [List.length_append, HD.out, hMl, HA.out]; omega
      have p2 : BS 20 (D ++ M) := BS.append (t := t) (by omega) HBS.out (by rw [HD.out]; exact HA.out) hM.srt (by omega)
      have p3 : Sq (l.take (20 * (t + 1))) (D ++ M) := by
        have h1 := HSQ.out.app hM.sq
        rw [show 20 * (t + 1) = a + 20 by rw [HA.out]; omega, List.take_add]
        exact h1
      have p4 : TR w1 base (.slice (some ⟨g, 0, none⟩) n c) (D ++ M ++ l.drop (20 * (t + 1))) := by
        rw [show 20 * (t + 1) = a + 20 by rw [HA.out]; omega]
        exact hr
      have P1 := hide p1
      have P2 := hide p2
      have P3 := hide p3
      have P4 := hide p4
      have HT1 := hide (HTW.out.same ht1)
      have ea : 20 * (t + 1) = a + 20 := by rw [HA.out]; omega
      have ea1 : 20 * t + 20 ≤ a + 20 := by rw [HA.out]; omega
      have ea2 : a + 20 ≤ 20 * t + 20 := by rw [HA.out]; omega
      clear p1 p2 p3 p4 hM hr ht1 hMl ea
      go_wp2
      go_roundw
      case rel =>
        exact ⟨t + 1, D ++ M, by omega, by simp only [Value.int.injEq, true_and]; omega, by simp only [Value.int.injEq, true_and]; omega, P1.out, P2.out, P3.out, P4.out, HT1.out⟩
      case measure => simp [intOf]; omega
    · have hlt1 : ¬ (a : Int) + 20 ≤ n := by omega
      go_wp2_with fail
      refine (insert_any wr base g n c D (l.drop a) [] (by rw [List.append_nil]; exact HROW.out) ?_ _ _ ?_ ?_).mono ?_
      · rw [HD.out, List.length_drop, ← HN.out]; simp; omega
      · rw [HD.out]
      · rw [HD.out, List.length_drop, ← HN.out]; omega
      rintro e w1 ⟨rfl, ⟨M, hM, hr⟩, ht1⟩
      rw [List.append_nil] at hr
      have hMl : M.length = n - a := by rw [hM.length, List.length_drop, ← HN.out]
      have p2 : BS 20 (D ++ M) := BS.append (t := t) (by omega) HBS.out (by rw [HD.out]; exact HA.out) hM.srt (by omega)
      have p3 : Sq l (D ++ M) := by
        have h1 := HSQ.out.app hM.sq
        rw [List.take_append_drop] at h1
        exact h1
      obtain ⟨K, hK⟩ : ∃ K, K = D ++ M := ⟨_, rfl⟩
      rw [← hK] at hr p2 p3
      have HR := hide hr
      have P2 := hide p2
      have P3 := hide p3
      have HT1 := hide (HTW.out.same ht1)
      clear hM hr ht1 hMl p2 p3 hK HD HA HBS HSQ HROW HTW hlt hlt1 ht
      go_wp2
      obtain ⟨wo, rfl⟩ : ∃ wo, wo = w1 := ⟨_, rfl⟩
      go_loopw [6] (fun sv wr => ∃ (s : Nat) (L : List Tm), 20 ≤ s ∧ s ≤ 20 + 2 * n ∧ sv = .int .i64 (s : Int) ∧ BS s L ∧ Sq l L ∧ TR wr base (.slice (some ⟨g, 0, none⟩) n c) L ∧ Turn [g] w wr) (fun sv _ => 20 + 4 * n - (intOf sv).toNat)
      case atStart => exact ⟨20, K, Nat.le_refl _, by omega, rfl, P2.out, P3.out, HR.out, HT1.out⟩
      case round =>
        obtain ⟨s, L, hs20, hs2, rfl, hbs, hsq, hrow, htw⟩ := hrel
        have HTW := hide htw
        have HBS := hide hbs
        have HSQ := hide hsq
        have HROW := hide hrow
        have hLl := hrow.len
        have HLL := hide hLl
        clear htw hbs hsq hrow hLl
        by_cases hlt : s < n
        · have hlt1 : (s : Int) < n := by omega
          obtain ⟨s2, hs2e⟩ : ∃ s2, s2 = 2 * s := ⟨_, rfl⟩
          have e1 : IntKind.i64.wrap (2 * (s : Int)) = (s2 : Int) := by rw [IntWalk.i64_in _ (by omega)]; omega
          have e1' : (2 * (s : Int)) = (s2 : Int) := by omega
          have HS2 := hide hs2e
          have s2a : s2 ≤ 2 * s := by omega
          have s2b : 2 * s ≤ s2 := by omega
          clear hs2e
          obtain ⟨wq, rfl⟩ : ∃ wq, wq = wr := ⟨_, rfl⟩
          go_wp2
          go_loopw [7, 8] (fun av bv wr => ∃ (t : Nat) (D : List Tm), s2 * t ≤ n ∧ av = .int .i64 ((s2 * t : Nat) : Int) ∧ bv = .int .i64 ((s2 * t + s2 : Nat) : Int) ∧ D.length = s2 * t ∧ BS s2 D ∧ Sq (L.take (s2 * t)) D ∧ TR wr base (.slice (some ⟨g, 0, none⟩) n c) (D ++ L.drop (s2 * t)) ∧ Turn [g] wq wr) (fun av _ _ => n - (intOf av).toNat)
          case atStart => exact ⟨0, [], by omega, by simp, by simp, by simp, BS.nil _, by simpa using Sq.refl [], by simpa using HROW.out, Turn.refl _ _⟩
          case round =>
            obtain ⟨t, D, ht, rfl, rfl, hD, hbs, hsq, hrow, htw⟩ := hrel
            have HTW2 := hide htw
            have HBD := hide hbs
            have HSD := hide hsq
            have HRD := hide hrow
            have HD := hide hD
            clear htw hbs hsq hrow hD
            obtain ⟨a, ha⟩ : ∃ a, a = s2 * t := ⟨_, rfl⟩
            rw [← ha] at ht HD HSD HRD ⊢
            have has : a = s * (2 * t) := by rw [ha, HS2.out, Nat.mul_assoc, Nat.mul_comm 2 (s * t), Nat.mul_assoc, Nat.mul_comm t 2]
            have has2 : a + s = s * (2 * t + 1) := by rw [Nat.mul_add, ← has, Nat.mul_one]
            have hnx : s2 * (t + 1) = a + s2 := by rw [Nat.mul_add, ← ha, Nat.mul_one]
            have hA : Srt ((L.drop a).take s) := by rw [has]; exact HBS.out.block (by omega) (Nat.le_refl _)
            have hB : ∀ k, k ≤ s → Srt ((L.drop (a + s)).take k) := fun k hk => by rw [has2]; exact HBS.out.block (by omega) hk
            have HA := hide ha
            have HSA := hide hA
            have HSB := hide hB
            have HNX := hide hnx
            clear ha has has2 hA hB hnx
            by_cases hle : a + s2 ≤ n
            · have hle1 : (a : Int) + s2 ≤ n := by omega
              go_wp2_with fail
              refine (show Calls _ _ _ _ _ from merge_any (s + s) wr base g n c D ((L.drop a).take s) ((L.drop (a + s)).take s) (L.drop (a + s2)) ?_ ?_ HSA.out (HSB.out s (Nat.le_refl _)) ?_ ?_ ?_ _ _ _ ?_ ?_ ?_).mono ?_
              · have := HRD.out
                have e : L.drop a = (L.drop a).take s ++ ((L.drop (a + s)).take s ++ L.drop (a + s2)) := by
                  rw [show L.drop (a + s2) = (L.drop (a + s)).drop s by rw [List.drop_drop, show a + s2 = a + s + s by omega], List.take_append_drop, ← List.drop_drop, List.take_append_drop]
                rw [e] at this
                simpa using this
              · rw [HD.out, List.length_take, List.length_take, List.length_drop, List.length_drop, List.length_drop, ← HLL.out]; omega
              · rw [List.length_take, List.length_drop, ← HLL.out]; omega
              · rw [List.length_take, List.length_drop, ← HLL.out]; omega
              · rw [List.length_take, List.length_take]; omega
              · rw [HD.out]
              · rw [HD.out, List.length_take, List.length_drop, ← HLL.out]; omega
              · rw [HD.out, List.length_take, List.length_take, List.length_drop, List.length_drop, ← HLL.out]; omega
              rintro e w1 ⟨rfl, ⟨M, hM, hr⟩, ht1⟩
              have hMl : M.length = s2 := by rw [hM.length]; simp only [List.length_append, List.length_take, List.length_drop]; rw [← HLL.out]; omega
              have p1 : (D ++ M).length = s2 * (t + 1) := by rw [List.length_append, HD.out, hMl, HNX.out]
              have p2 : BS s2 (D ++ M) := BS.append (t := t) (by omega) HBD.out (by rw [HD.out]; exact HA.out) hM.srt (by omega)
              have p3 : Sq (L.take (s2 * (t + 1))) (D ++ M) := by
                have h1 := HSD.out.app hM.sq
                have e : L.take (s2 * (t + 1)) = L.take a ++ ((L.drop a).take s ++ (L.drop (a + s)).take s) := by
                  rw [HNX.out, List.take_add, show s2 = s + s by omega, List.take_add, List.drop_drop]
                rw [e]
                exact h1
              have p4 : TR w1 base (.slice (some ⟨g, 0, none⟩) n c) (D ++ M ++ L.drop (s2 * (t + 1))) := by
                rw [HNX.out]
                exact hr
              have P1 := hide p1
              have P2 := hide p2
              have P3 := hide p3
              have P4 := hide p4
              have HT1 := hide (HTW2.out.same ht1)
              obtain ⟨a2, ha2⟩ : ∃ a2, a2 = s2 * (t + 1) := ⟨_, rfl⟩
              have ea1 : a2 ≤ a + s2 := by have := HNX.out; omega
              have ea2 : a + s2 ≤ a2 := by have := HNX.out; omega
              have HA2 := hide ha2
              clear p1 p2 p3 p4 hM hr ht1 hMl ha2
              have e3 : (a : Int) + s2 = (a2 : Int) := by omega
              go_wp2
              go_roundw
              case rel =>
                exact ⟨t + 1, D ++ M, by rw [← HA2.out]; omega, by rw [← HA2.out], by rw [← HA2.out]; simp only [Value.int.injEq, true_and]; omega, P1.out, P2.out, P3.out, P4.out, HT1.out⟩
              case measure => simp [intOf]; omega
            · have hle1 : ¬ (a : Int) + s2 ≤ n := by omega
              obtain ⟨wz, hwz⟩ : ∃ wz, wz = wr := ⟨_, rfl⟩
              by_cases hm : a + s < n
              · have hm1 : (a : Int) + s < n := by omega
                go_wp2_with fail
                refine (show Calls _ _ _ _ _ from merge_any (s + s) wr base g n c D ((L.drop a).take s) (L.drop (a + s)) [] ?_ ?_ HSA.out ?_ ?_ ?_ ?_ _ _ _ ?_ ?_ ?_).mono ?_
                · have := HRD.out
                  rw [show L.drop a = (L.drop a).take s ++ L.drop (a + s) by rw [← List.drop_drop, List.take_append_drop]] at this
                  simpa using this
                · rw [HD.out, List.length_take, List.length_drop, List.length_drop, ← HLL.out]; simp; omega
                · have := HSB.out (n - (a + s)) (by omega)
                  rwa [List.take_of_length_le (by rw [List.length_drop, ← HLL.out]; exact Nat.le_refl _)] at this
                · rw [List.length_take, List.length_drop, ← HLL.out]; omega
                · rw [List.length_drop, ← HLL.out]; omega
                · rw [List.length_take]; simp only [List.length_drop]; rw [← HLL.out]; omega
                · rw [HD.out]
                · rw [HD.out, List.length_take, List.length_drop, ← HLL.out]; omega
                · rw [HD.out, List.length_take]; simp only [List.length_drop]; rw [← HLL.out]; omega
                rintro e w1 ⟨rfl, ⟨M, hM, hr⟩, ht1⟩
                have hMl : M.length = n - a := by rw [hM.length]; simp only [List.length_append, List.length_take, List.length_drop]; rw [← HLL.out]; omega
                have p2 : BS s2 (D ++ M) := BS.append (t := t) (by omega) HBD.out (by rw [HD.out]; exact HA.out) hM.srt (by omega)
                have p3 : Sq l (D ++ M) := by
                  have h1 := HSD.out.app hM.sq
                  rw [← List.drop_drop, List.take_append_drop, List.take_append_drop] at h1
                  exact HSQ.out.trans h1
                rw [List.append_nil] at hr
                have P2 := hide p2
                have P3 := hide p3
                have P4 := hide hr
                have HT1 := hide (HTW.out.same (HTW2.out.same ht1))
                clear p2 p3 hr hM hMl ht1
                go_wp2
                exact ⟨⟨s2, D ++ M, by omega, by omega, by simp only [Value.int.injEq, true_and]; omega, P2.out, P3.out, P4.out, HT1.out⟩, by simp only [intOf]; omega⟩
              · have hm1 : ¬ (a : Int) + s < n := by omega
                have hS : Srt (L.drop a) := by
                  have := HSA.out
                  rwa [List.take_of_length_le (by rw [List.length_drop, ← HLL.out]; omega)] at this
                have p2 : BS s2 (D ++ L.drop a) := BS.append (t := t) (by omega) HBD.out (by rw [HD.out]; exact HA.out) hS (by rw [List.length_drop, ← HLL.out]; omega)
                have p3 : Sq l (D ++ L.drop a) := by
                  have h1 := HSD.out.app (Sq.refl (L.drop a))
                  rw [List.take_append_drop] at h1
                  exact HSQ.out.trans h1
                have P2 := hide p2
                have P3 := hide p3
                have HT1 := hide (HTW.out.same HTW2.out)
                clear p2 p3 hS
                go_wp2
                exact ⟨⟨s2, D ++ L.drop a, by omega, by omega, by simp only [Value.int.injEq, true_and]; omega, P2.out, P3.out, HRD.out, HT1.out⟩, by simp only [intOf]; omega⟩
        · have hst : Stb l L := ⟨BS.all HBS.out (by rw [← HLL.out]; omega), HSQ.out⟩
          have HST := hide hst
          clear hst
          have hlt1 : ¬ (s : Int) < n := by omega
          go_wp2
          go_end0
          exact ⟨rfl, ⟨L, HST.out, HROW.out⟩, HTW.out⟩
theorem insert_none (p : Option Addr) (cap : Nat) (w : World) : Calls Tryd.prog 28 #[.slice p 0 cap, .int .i64 0, .int .i64 0, fnT] w fun e w' => e = .returned (.tuple #[]) ∧ Turn [] w w' := by
  unfold fnT
  go_enter Tryd.func28, Tryd.ntmps28
  go_wp2
  refine wp_loop_rounds 1 ?_
  rw [rounds_succ]
  go_wp2
  go_end0
  exact ⟨rfl, Turn.refl _ _⟩
theorem stable_none (p : Option Addr) (cap : Nat) (w : World) : Calls Tryd.prog 25 #[.slice p 0 cap, .int .i64 0, fnT] w fun e w' => e = .returned (.tuple #[]) ∧ Turn [] w w' := by
  have hi := insert_none p cap
  unfold fnT at *
  have HI := hide hi
  clear hi
  go_enter Tryd.func25, Tryd.ntmps25
  go_wp2
  refine wp_loop_rounds 1 ?_
  rw [rounds_succ]
  go_wp2_with fail
  refine (HI.out _).mono ?_
  rintro e w1 ⟨rfl, ht⟩
  go_wp2
  refine wp_loop_rounds 1 ?_
  rw [rounds_succ]
  go_wp2
  go_end0
  exact ⟨rfl, ht⟩
/-- slices.SortStableFunc: in order, like ones as they stood. -/
theorem sort_any (w : World) (base c : Nat) (a : Option Addr) (l : List Tm) (h : TR w base (.slice a l.length c) l) (hl : l.length ≤ 200000) :
    Calls Tryd.prog 18 #[.slice a l.length c, fnT] w fun e w' => e = .returned (.tuple #[]) ∧ (∃ M, Stb l M ∧ TR w' base (.slice a l.length c) M) ∧ Turn (Value.slice a l.length c).ownBlock.toList w w' := by
  obtain ⟨a', c', e, hlc, hcm⟩ := h.form
  have H := hide h
  unfold fnT
  have hcall : Calls Tryd.prog 25 #[.slice a l.length c, .int .i64 l.length, fnT] w fun e w' => e = .returned (.tuple #[]) ∧ (∃ M, Stb l M ∧ TR w' base (.slice a l.length c) M) ∧ Turn (Value.slice a l.length c).ownBlock.toList w w' := by
    rcases h with ⟨e0, rfl⟩ | ⟨g, cap, cur, e0, -⟩
    · simp only [Value.slice.injEq] at e0
      obtain ⟨rfl, -, rfl⟩ := e0
      refine (stable_none none 0 w).mono ?_
      rintro e2 w1 ⟨rfl, ht⟩
      exact ⟨rfl, ⟨[], ⟨by simp [Srt], Sq.refl []⟩, H.out.still ht⟩, ht.mono (by simp)⟩
    · simp only [Value.slice.injEq, true_and] at e0
      obtain ⟨rfl, rfl⟩ := e0
      refine (stable_any w base g c l H.out hl).mono ?_
      rintro e2 w1 ⟨rfl, hM, ht⟩
      exact ⟨rfl, hM, ht.mono (by simp [Value.ownBlock])⟩
  have HC := hide hcall
  unfold fnT at HC
  clear hcall h
  go_enter Tryd.func18, Tryd.ntmps18
  go_wp2_with fail
  refine HC.out.mono ?_
  rintro e2 w1 ⟨rfl, hM, ht⟩
  go_wp2
  go_end0
  exact ⟨rfl, hM, ht⟩
end Go.Proofs.YtcficgpknokpbaaDoor.Wh
